/-
  For every text s and all bytes a, b: MixOrder answers true (behind the first 40 bytes of s, two last bytes have one hash just if they are one).
  Conditions: none.
-/
import Derived.Test.YtegglcgopddfcaaCut
import Derived.WalkKit
import Derived.ProofKit
import Derived.OpenShut
import Derived.ShutString
namespace Go.Proofs.Ytegglcgopddfcaa.mixOrder
open Go.ChangeShapes Go.WideShapes Go.ChangeAt Go.RowKit
open Go.ChangeMaps (open_string shut_string)
set_option linter.unusedVariables false

theorem own : ownKnob Try.prog.godebug = none := by kernel_rfl

/-- What each operation of the region leaves. -/
def V (s : ByteArray) (a b : Int) : Nat → World → Value → Prop
  | 0 => Is (.string s)
  | 1 => Is (.int .u8 a)
  | 2 => Box1 (.int .u8 a)
  | 3 => Is (.string (one a))
  | 4 => Is (.string (more s a))
  | 5 => Box1 (.string (more s a))
  | 6 => Is (.int .u64 (partsZ [more s a]))
  | 7 => Is (.string s)
  | 8 => Is (.int .u8 b)
  | 9 => Box1 (.int .u8 b)
  | 10 => Is (.string (one b))
  | 11 => Is (.string (more s b))
  | 12 => Box1 (.string (more s b))
  | 13 => Is (.int .u64 (partsZ [more s b]))
  | 14 => Is (.int .u64 (partsZ [more s a]))
  | 15 => Is (.int .u64 (partsZ [more s b]))
  | _ => fun _ _ => True
theorem V_mono (s : ByteArray) (a b : Int) (i : Nat) (w w' : World) (v : Value) (h : Adds w w') (hv : V s a b i w v) : V s a b i w' v := by
  unfold V at *
  split at hv <;> first | exact Is.mono h hv | exact Box1.mono h hv | trivial

set_option maxHeartbeats 400000 in
theorem walk_cases (s0 : ByteArray) (a b : Int) (hs0 : s0.size ≤ maxLen) (s : ByteArray) (hcut : cutZ s0 40 = s) (hs : s.size ≤ 40) (hT : ((partsZ [more s a] == partsZ [more s b]) == (a == b)) = true) (w : World) :
    Calls Try.prog 6 #[.string s0, .int .u8 a, .int .u8 b] w fun e w' => e = .returned (.bool true) ∧ Grown w w' := by
  have hcc : ∀ w, Calls Try.prog 15 #[.string s0, .int .i64 40] w fun e w' => e = .returned (.string s) ∧ w = w' := fun w => by rw [← hcut]; exact cut_any s0 40 hs0 (by decide) w
  have hsa : (more s a).size ≤ maxLen := by rw [more_size]; unfold maxLen; omega
  have hsb : (more s b).size ≤ maxLen := by rw [more_size]; unfold maxLen; omega
  have hs1 : s.size ≤ 100 := by omega
  clear hcut hs0 hs
  have hsaH := Lib.hid hsa
  have hsbH := Lib.hid hsb
  clear hsa hsb
  go_enter Try.func6, Try.ntmps6
  go_wp2_with (first
      | (go_at_call 7; ((with_reducible refine (begun_any _).mono ?_); rintro e w1 ⟨rfl, hw1⟩))
      | (go_at_call 15; ((with_reducible refine (hcc _).mono ?_); rintro e w' ⟨rfl, rfl⟩)))
  refine wp_region_inv (R := Adds) (V := V s a b) (w0 := w1) (by kernel_rfl) (fun _ _ _ => Adds.trans) (V_mono s a b) (by kernel_rfl) (Adds.refl w1).drew (each_of ?_) ?_
  · refine ⟨?_, ?_, ?_, ?_, ?_, ?_, ?_, ?_, ?_, ?_, ?_, ?_, ?_, ?_, ?_, ?_, trivial⟩ <;> intro a1 w2 L
    · exact loc_move rfl (L.old 0 (by kernel_rfl))
    · exact loc_move rfl (L.old 1 (by kernel_rfl))
    · exact loc_byte rfl (L.val 1 16 (by kernel_rfl) (by kernel_rfl))
    · exact loc_conv rfl (L.val 2 17 (by kernel_rfl) (by kernel_rfl))
    · exact loc_add rfl (L.val 0 15 (by kernel_rfl) (by kernel_rfl)) (L.val 3 18 (by kernel_rfl) (by kernel_rfl)) hs1
    · exact loc_str rfl (L.val 4 19 (by kernel_rfl) (by kernel_rfl))
    · exact loc_of rfl hsaH.out (L.val 5 20 (by kernel_rfl) (by kernel_rfl))
    · exact loc_move rfl (L.old 0 (by kernel_rfl))
    · exact loc_move rfl (L.old 2 (by kernel_rfl))
    · exact loc_byte rfl (L.val 8 23 (by kernel_rfl) (by kernel_rfl))
    · exact loc_conv rfl (L.val 9 24 (by kernel_rfl) (by kernel_rfl))
    · exact loc_add rfl (L.val 7 22 (by kernel_rfl) (by kernel_rfl)) (L.val 10 25 (by kernel_rfl) (by kernel_rfl)) hs1
    · exact loc_str rfl (L.val 11 26 (by kernel_rfl) (by kernel_rfl))
    · exact loc_of rfl hsbH.out (L.val 12 27 (by kernel_rfl) (by kernel_rfl))
    · exact loc_assign rfl (L.val 6 21 (by kernel_rfl) (by kernel_rfl))
    · exact loc_assign rfl (L.val 13 28 (by kernel_rfl) (by kernel_rfl))
  · intro vs w3 hw3 hlen hv
    match vs, hlen with
    | [v0, v1, v2, v3, v4, v5, v6, v7, v8, v9, v10, v11, v12, v13, v14, v15], _ =>
      have e14 : v14 = .int .u64 (partsZ [more s a]) := hv 14 8 (by kernel_rfl)
      have e15 : v15 = .int .u64 (partsZ [more s b]) := hv 15 9 (by kernel_rfl)
      clear hv
      subst e14 e15
      simp only [putAll, List.map, Act.put, List.setIfInBounds_toArray, List.set_cons_succ, List.set_cons_zero, Exit.then]
      go_wp2
      go_ret
      exact ⟨rfl, (hw1.trans hw3).1⟩


/-! The walk. -/
theorem walk (a0 : ByteArray) (a1 : Int) (a2 : Int) (w0 : a0.size ≤ maxLen) (w1 : (Lit.int .u8 a1).wf = true) (w2 : (Lit.int .u8 a2).wf = true) (w : World) :
    Calls Try.prog 6 #[.string a0, .int .u8 a1, .int .u8 a2] w fun e w' => e = .returned (.bool true) ∧ Grown w w' := by
  have b0 : 0 ≤ a1 ∧ a1 ≤ 255 := bounds_u8 w1
  have b1 : 0 ≤ a2 ∧ a2 ≤ 255 := bounds_u8 w2
  have hc := cutZ_size a0 40
  exact walk_cases a0 a1 a2 w0 _ rfl hc (more_test _ a1 a2 (by unfold maxLen; omega) b0 b1) w

/-! From the walk to the row. -/
set_option maxRecDepth 100000 in
theorem lifted (os : Os) (started : os.Started) (H : Type) (enc : TypeId × Value → H) :
    ReturnsInHanded {} Try.checked os 6 .any (Rows.mixOrderSpec.pre6 enc Try.prog Try.f6 Rows.mixOrderRow.domain false) (Rows.mixOrderSpec.post enc Try.prog Try.f6 false true false false) := by
  refine returnsInHanded_of_change (C := Try.checked) own started (by kernel_rfl) Try.func6
    (ChangeSpec.witness6 (enc := enc) (C := Try.checked) false ⟨#[], #[.string ByteArray.empty, .int .u8 0, .int .u8 0], []⟩ 8 (by kernel_rfl) (by kernel_rfl) (by kernel_rfl) (by kernel_rfl)) ?_
  intro W base args ds gs before hval0 hW hcnd _
  have hval : ∀ (j : Nat) t v, Try.f6.params[j]? = some t → args[j]? = some v → Value.okWide Try.prog W .any base t v := hval0
  have hW' := hW
  obtain ⟨p, q, hA0, hV, rfl, hfz, hnd⟩ := hW
  have hA : DataW.TrodAll enc Try.prog W 0 (fun _ => true) true Try.f6.params.toList args.toList ds p := hA0
  rw [Try.params6] at hA hval
  obtain ⟨v0, vs0, d0, ds0, p0, q0, hargs, rfl, rfl, h0, r0⟩ := trodAll_cons hA
  obtain ⟨v1, vs1, d1, ds1, p1, q1, rfl, rfl, rfl, h1, r1⟩ := trodAll_cons r0
  obtain ⟨v2, vs2, d2, ds2, p2, q2, rfl, rfl, rfl, h2, r2⟩ := trodAll_cons r1
  obtain ⟨rfl, rfl, rfl⟩ := trodAll_nil r2
  obtain rfl : args = #[v0, v1, v2] := by cases args; simp_all
  obtain ⟨rfl, rfl⟩ := trodVars_none hV
  obtain ⟨a0, rfl, rfl, rfl, w0⟩ := open_string Try.underlying9 (hval 0 9 v0 rfl rfl) h0
  obtain ⟨a1, rfl, rfl, rfl, w1⟩ := open_int Try.underlying5 (hval 1 5 v1 rfl rfl) h1
  obtain ⟨a2, rfl, rfl, rfl, w2⟩ := open_int Try.underlying5 (hval 2 5 v2 rfl rfl) h2
  clear hA0 hval0
  simp only [List.append_nil] at hW'
  refine (walk a0 a1 a2 w0 w1 w2 W).mono fun e W' ⟨he, hg⟩ => ?_
  subst he
  exact ⟨_, rfl, post_of_same (pa := []) (pv := []) hW' (fun _ _ _ => (trodAll_cons_mk (shut_bool Try.underlying4 _) trodAll_mk0)) (fun sp _ => (trodAll_cons_mk (shut_string Try.underlying9 w0) (trodAll_cons_mk (shut_int Try.underlying5 w1) (trodAll_cons_mk (shut_int Try.underlying5 w2) trodAll_mk0)))) (fun _ _ => rfl) rfl
    (hg.frame _) hg.2.1 (ok_one (by kernel_rfl) rfl (okWide_bool_mk Try.underlying4 _))⟩

theorem over : Rows.mixOrderRow.holds Try.pinned (OpenSpec.ofChange Rows.mixOrderSpec) :=
  OpenClaim.holds_of_wide 6 Try.f6 rfl rfl rfl rfl rfl rfl rfl ⟨rfl, rfl, rfl, rfl, rfl⟩ rfl rfl rfl rfl rfl (by kernel_rfl) Try.func6 (by kernel_rfl)
    (of_decide_eq_true (by kernel_rfl)) (by unfold Func.isWrapper; first | (rw [if_pos (by decide +kernel)]; kernel_rfl) | (rw [if_neg (by decide +kernel)]; exact ⟨rfl, rfl⟩))
    (fun os started H enc _ => lifted os started H enc)

/-- The statement. -/
theorem proved : Rows.MixOrderSaid :=
  over
#print axioms proved
end Go.Proofs.Ytegglcgopddfcaa.mixOrder
