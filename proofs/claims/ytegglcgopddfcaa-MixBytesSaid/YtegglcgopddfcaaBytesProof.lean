/-
  For all bytes a, b: MixBytes answers true (Of of a text of one byte is the document's, and two such texts have one hash just if they are one).
  Conditions: none.
-/
import Derived.Test.YtegglcgopddfcaaLoc
import Derived.Test.YtegglcgopddfcaaLast
import Derived.WalkKit
import Derived.ProofKit
import Derived.OpenShut
import Derived.ShutString
namespace Go.Proofs.Ytegglcgopddfcaa.mixBytes
open Go.ChangeShapes Go.WideShapes Go.ChangeAt Go.RowKit
open Go.ChangeMaps (open_string shut_string)
set_option linter.unusedVariables false

theorem own : ownKnob Try.prog.godebug = none := by kernel_rfl

/-- What each operation of the region leaves. -/
def V (a b : Int) : Nat → World → Value → Prop
  | 0 => Is (.int .u8 a)
  | 1 => Box1 (.int .u8 a)
  | 2 => Is (.string (one a))
  | 3 => Box1 (.string (one a))
  | 4 => Is (.int .u64 (partsZ [one a]))
  | 5 => Is (.int .u8 b)
  | 6 => Box1 (.int .u8 b)
  | 7 => Is (.string (one b))
  | 8 => Box1 (.string (one b))
  | 9 => Is (.int .u64 (partsZ [one b]))
  | 10 => Is (.int .u64 (partsZ [one a]))
  | 11 => Is (.int .u64 (partsZ [one b]))
  | _ => fun _ _ => True
theorem V_mono (a b : Int) (i : Nat) (w w' : World) (v : Value) (h : Adds w w') (hv : V a b i w v) : V a b i w' v := by
  unfold V at *
  split at hv <;> first | exact Is.mono h hv | exact Box1.mono h hv | trivial

set_option maxHeartbeats 400000 in
theorem walk_cases (a b : Int) (hsa : (one a).size ≤ maxLen) (hsb : (one b).size ≤ maxLen) (hT : ((partsZ [one a] == partsZ [one b]) == (a == b)) = true) (w : World) :
    Calls Try.prog 5 #[.int .u8 a, .int .u8 b] w fun e w' => e = .returned (.bool true) ∧ Grown w w' := by
  have hk : ∀ w : World, (convert 32 9 (.slice (some { block := w.heap.size, off := 0 }) 1 1)).run Try.prog (w.alloc (.cells #[.int .u8 a] 5)) = .ok (.string (one a)) (w.alloc (.cells #[.int .u8 a] 5)) := fun w => conv_new w a
  go_enter Try.func5, Try.ntmps5
  go_wp2_with (first
      | (go_at_call 7; ((with_reducible refine (begun_any _).mono ?_); rintro e w1 ⟨rfl, hw1⟩)))
  refine wp_region_inv (R := Adds) (V := V a b) (w0 := w1) (by kernel_rfl) (fun _ _ _ => Adds.trans) (V_mono a b) (by kernel_rfl) (Adds.refl w1).drew (each_of ?_) ?_
  · refine ⟨?_, ?_, ?_, ?_, ?_, ?_, ?_, ?_, ?_, ?_, ?_, ?_, trivial⟩ <;> intro a1 w2 L
    · exact loc_move rfl (L.old 0 (by kernel_rfl))
    · exact loc_byte rfl (L.val 0 11 (by kernel_rfl) (by kernel_rfl))
    · exact loc_conv rfl (L.val 1 12 (by kernel_rfl) (by kernel_rfl))
    · exact loc_str rfl (L.val 2 13 (by kernel_rfl) (by kernel_rfl))
    · exact loc_of rfl hsa (L.val 3 14 (by kernel_rfl) (by kernel_rfl))
    · exact loc_move rfl (L.old 1 (by kernel_rfl))
    · exact loc_byte rfl (L.val 5 16 (by kernel_rfl) (by kernel_rfl))
    · exact loc_conv rfl (L.val 6 17 (by kernel_rfl) (by kernel_rfl))
    · exact loc_str rfl (L.val 7 18 (by kernel_rfl) (by kernel_rfl))
    · exact loc_of rfl hsb (L.val 8 19 (by kernel_rfl) (by kernel_rfl))
    · exact loc_assign rfl (L.val 4 15 (by kernel_rfl) (by kernel_rfl))
    · exact loc_assign rfl (L.val 9 20 (by kernel_rfl) (by kernel_rfl))
  · intro vs w3 hw3 hlen hv
    match vs, hlen with
    | [v0, v1, v2, v3, v4, v5, v6, v7, v8, v9, v10, v11], _ =>
      have e10 : v10 = .int .u64 (partsZ [one a]) := hv 10 6 (by kernel_rfl)
      have e11 : v11 = .int .u64 (partsZ [one b]) := hv 11 7 (by kernel_rfl)
      clear hv
      subst e10 e11
      simp only [putAll, List.map, Act.put, List.setIfInBounds_toArray, List.set_cons_succ, List.set_cons_zero, Exit.then]
      go_wp2_with (go_at_call 10; ((with_reducible refine (rof_one (one a) _ _ _ hsa (cell_new _ _ _ _ ?_)).mono ?_); (focus simp); rintro e w' ⟨rfl, rfl⟩))
      go_ret
      exact ⟨rfl, (((hw1.trans hw3).alloc _ _).alloc _ _).1⟩


/-! The walk. -/
theorem walk (a0 : Int) (a1 : Int) (w0 : (Lit.int .u8 a0).wf = true) (w1 : (Lit.int .u8 a1).wf = true) (w : World) :
    Calls Try.prog 5 #[.int .u8 a0, .int .u8 a1] w fun e w' => e = .returned (.bool true) ∧ Grown w w' := by
  have b0 : 0 ≤ a0 ∧ a0 ≤ 255 := bounds_u8 w0
  have b1 : 0 ≤ a1 ∧ a1 ≤ 255 := bounds_u8 w1
  have s0 : (one a0).size ≤ maxLen := by rw [one_more, more_size]; decide
  have s1 : (one a1).size ≤ maxLen := by rw [one_more, more_size]; decide
  exact walk_cases a0 a1 s0 s1 (by rw [one_more, one_more]; exact more_test _ a0 a1 (by decide) b0 b1) w

/-! From the walk to the row. -/
set_option maxRecDepth 100000 in
theorem lifted (os : Os) (started : os.Started) (H : Type) (enc : TypeId × Value → H) :
    ReturnsInHanded {} Try.checked os 5 .any (Rows.mixBytesSpec.pre6 enc Try.prog Try.f5 Rows.mixBytesRow.domain false) (Rows.mixBytesSpec.post enc Try.prog Try.f5 false true false false) := by
  refine returnsInHanded_of_change (C := Try.checked) own started (by kernel_rfl) Try.func5
    (ChangeSpec.witness6 (enc := enc) (C := Try.checked) false ⟨#[], #[.int .u8 0, .int .u8 0], []⟩ 8 (by kernel_rfl) (by kernel_rfl) (by kernel_rfl) (by kernel_rfl)) ?_
  intro W base args ds gs before hval0 hW hcnd _
  have hval : ∀ (j : Nat) t v, Try.f5.params[j]? = some t → args[j]? = some v → Value.okWide Try.prog W .any base t v := hval0
  have hW' := hW
  obtain ⟨p, q, hA0, hV, rfl, hfz, hnd⟩ := hW
  have hA : DataW.TrodAll enc Try.prog W 0 (fun _ => true) true Try.f5.params.toList args.toList ds p := hA0
  rw [Try.params5] at hA hval
  obtain ⟨v0, vs0, d0, ds0, p0, q0, hargs, rfl, rfl, h0, r0⟩ := trodAll_cons hA
  obtain ⟨v1, vs1, d1, ds1, p1, q1, rfl, rfl, rfl, h1, r1⟩ := trodAll_cons r0
  obtain ⟨rfl, rfl, rfl⟩ := trodAll_nil r1
  obtain rfl : args = #[v0, v1] := by cases args; simp_all
  obtain ⟨rfl, rfl⟩ := trodVars_none hV
  obtain ⟨a0, rfl, rfl, rfl, w0⟩ := open_int Try.underlying5 (hval 0 5 v0 rfl rfl) h0
  obtain ⟨a1, rfl, rfl, rfl, w1⟩ := open_int Try.underlying5 (hval 1 5 v1 rfl rfl) h1
  clear hA0 hval0
  simp only [List.append_nil] at hW'
  refine (walk a0 a1 w0 w1 W).mono fun e W' ⟨he, hg⟩ => ?_
  subst he
  exact ⟨_, rfl, post_of_same (pa := []) (pv := []) hW' (fun _ _ _ => (trodAll_cons_mk (shut_bool Try.underlying4 _) trodAll_mk0)) (fun sp _ => (trodAll_cons_mk (shut_int Try.underlying5 w0) (trodAll_cons_mk (shut_int Try.underlying5 w1) trodAll_mk0))) (fun _ _ => rfl) rfl
    (hg.frame _) hg.2.1 (ok_one (by kernel_rfl) rfl (okWide_bool_mk Try.underlying4 _))⟩

theorem over : Rows.mixBytesRow.holds Try.pinned (OpenSpec.ofChange Rows.mixBytesSpec) :=
  OpenClaim.holds_of_wide 5 Try.f5 rfl rfl rfl rfl rfl rfl rfl ⟨rfl, rfl, rfl, rfl, rfl⟩ rfl rfl rfl rfl rfl (by kernel_rfl) Try.func5 (by kernel_rfl)
    (of_decide_eq_true (by kernel_rfl)) (by unfold Func.isWrapper; first | (rw [if_pos (by decide +kernel)]; kernel_rfl) | (rw [if_neg (by decide +kernel)]; exact ⟨rfl, rfl⟩))
    (fun os started H enc _ => lifted os started H enc)

/-- The statement. -/
theorem proved : Rows.MixBytesSaid :=
  over
#print axioms proved
end Go.Proofs.Ytegglcgopddfcaa.mixBytes
