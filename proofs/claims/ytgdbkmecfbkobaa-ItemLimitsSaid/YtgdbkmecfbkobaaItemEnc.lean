/-
  THE PROGRAM's ENTRIES: encode, Encode.
-/
import Derived.Test.YtgdbkmecfbkobaaItemLive
import Derived.Test.YtgdbkmecfbkobaaNumPut
import Derived.Test.YtgdbkmecfbkobaaInvG
namespace Go.Proofs.Ytgdbkmecfbkobaa
open Go Go.RowKit Go.Joins

/-! ### The operations of the region -/
section
variable {w : World} {o : Oper} {a : Act} {Q : Exit → Act → World → Prop} {x y : Operand}
theorem kp_fI (i : Nat) (hi : i < 4) {b : Nat} (ho : o.op = .fieldAddr 23 x i) (hx : a.eval x = .pointer (some ⟨b, 0, none⟩)) : o.wp Try.prog a w (fun a' w' => ∃ v, a' = a.put o.dst v ∧ Kp w w' ∧ IsV (.pointer (some ⟨b, i, none⟩)) w' v) Q := by
  refine kp_yield (v := .pointer (some ⟨b, i, none⟩)) ?_ (Keeps.refl _ _) rfl
  generalize a.eval = ρ at hx
  unfold execOp
  rw [ho]
  match i, hi with
  | 0, _ => go_simp
  | 1, _ => go_simp
  | 2, _ => go_simp
  | 3, _ => go_simp
theorem kp_lS {p : Addr} {s : ByteArray} (hc : w.cell? p = some (.string s)) (ho : o.op = .load 9 x) (hx : a.eval x = .pointer (some p)) : o.wp Try.prog a w (fun a' w' => ∃ v, a' = a.put o.dst v ∧ Kp w w' ∧ IsV (.string s) w' v) Q := by
  refine kp_yield (v := .string s) ?_ (Keeps.refl _ _) rfl
  generalize a.eval = ρ at hx
  unfold execOp
  go_simp
theorem kp_lN {p : Addr} {n : Int} (hc : w.cell? p = some (.int .i64 n)) (ho : o.op = .load 2 x) (hx : a.eval x = .pointer (some p)) : o.wp Try.prog a w (fun a' w' => ∃ v, a' = a.put o.dst v ∧ Kp w w' ∧ IsV (.int .i64 n) w' v) Q := by
  refine kp_yield (v := .int .i64 n) ?_ (Keeps.refl _ _) rfl
  generalize a.eval = ρ at hx
  unfold execOp
  go_simp
theorem kp_asO {V : World → Value → Prop} (ho : o.op = .assign x) (hx : V w (a.eval x)) : o.wp Try.prog a w (fun a' w' => ∃ v', a' = a.put o.dst v' ∧ Kp w w' ∧ V w' v') Q := by
  refine kp_yield (v := a.eval x) ?_ (Keeps.refl _ _) hx
  unfold execOp; rw [ho]; rfl
/-- Two values in a slice of the call's own. -/
def PairV (v1 v2 : Value) : World → Value → Prop := fun w v => ∃ B, v = .slice (some ⟨B, 0, none⟩) 2 2 ∧ Row w (some ⟨B, 0, none⟩) (fun _ => True) [v1, v2]
theorem PairV.keep {v1 v2 v : Value} {w w' : World} (h : Kp w w') (hv : PairV v1 v2 w v) : PairV v1 v2 w' v := by
  obtain ⟨B, e, hr⟩ := hv
  exact ⟨B, e, hr.keep h⟩
theorem kp_twoS {s t : ByteArray} (ho : o.op = .buildSlice 61 2 #[(0, x), (1, y)]) (hx : a.eval x = .string s) (hy : a.eval y = .string t) : o.wp Try.prog a w (fun a' w' => ∃ v, a' = a.put o.dst v ∧ Kp w w' ∧ PairV (.string s) (.string t) w' v) Q := by
  refine kp_yield (v := .slice (some ⟨w.heap.size, 0, none⟩) 2 2) (w' := w.alloc (.cells #[.string s, .string t] 9)) ?_ ((Keeps.refl _ w).alloc _) ⟨_, rfl, Row.fresh w #[.string s, .string t] 9 (0, 0) _ rfl trivial _ rfl⟩
  generalize a.eval = ρ at hx hy
  unfold execOp
  go_simp
theorem kp_twoI {s t : Int} (ho : o.op = .buildSlice 58 2 #[(0, x), (1, y)]) (hx : a.eval x = .int .i64 s) (hy : a.eval y = .int .i64 t) : o.wp Try.prog a w (fun a' w' => ∃ v, a' = a.put o.dst v ∧ Kp w w' ∧ PairV (.int .i64 s) (.int .i64 t) w' v) Q := by
  refine kp_yield (v := .slice (some ⟨w.heap.size, 0, none⟩) 2 2) (w' := w.alloc (.cells #[.int .i64 s, .int .i64 t] 2)) ?_ ((Keeps.refl _ w).alloc _) ⟨_, rfl, Row.fresh w #[.int .i64 s, .int .i64 t] 2 (0, 0) _ rfl trivial _ rfl⟩
  generalize a.eval = ρ at hx hy
  unfold execOp
  go_simp
end
/-- The bytes that a call has made. -/
def MadeB (l : List UInt8) : World → Value → Prop := fun w v => ∃ A c, v = .slice A l.length c ∧ Row w A (fun _ => True) (bcells l)
theorem MadeB.keep {l : List UInt8} {v : Value} {w w' : World} (h : Kp w w') (hv : MadeB l w v) : MadeB l w' v := by
  obtain ⟨A, c, e, hr⟩ := hv
  exact ⟨A, c, e, hr.keep h⟩
def GN : Nat → Option Bool := fun _ => none
theorem GN_is {V : Nat → World → Value → Prop} (g : Nat) (c : Bool) (h : GN g = some c) (w : World) (x : Value) (_ : V g w x) : x = .bool c := by cases h
def VI (base : Nat) (b : Nat) (x : It) (l1 l2 : List UInt8) : Nat → World → Value → Prop
  | 0 => IsV (.pointer (some ⟨b, 0, none⟩))
  | 1 => IsV (.string x.key)
  | 2 => IsV (.pointer (some ⟨b, 1, none⟩))
  | 3 => IsV (.string x.val)
  | 4 => PairV (.string x.key) (.string x.val)
  | 5 => MadeB l1
  | 6 => IsV (.pointer (some ⟨b, 2, none⟩))
  | 7 => IsV (.int .i64 x.till)
  | 8 => IsV (.int .i64 x.flag)
  | 9 => PairV (.int .i64 x.till) (.int .i64 x.flag)
  | 10 => fun w v => OwnB w base v l2
  | 11 => fun w v => OwnB w base v l2
  | _ => fun _ _ => True
theorem VI_keep {base b : Nat} {x : It} {l1 l2 : List UInt8} (i : Nat) (w w' : World) (v : Value) (h : Kp w w') (hv : VI base b x l1 l2 i w v) : VI base b x l1 l2 i w' v := by
  match i, hv with
  | 0, hv => exact hv
  | 1, hv => exact hv
  | 2, hv => exact hv
  | 3, hv => exact hv
  | 4, hv => exact PairV.keep h hv
  | 5, hv => exact MadeB.keep h hv
  | 6, hv => exact hv
  | 7, hv => exact hv
  | 8, hv => exact hv
  | 9, hv => exact PairV.keep h hv
  | 10, hv => exact h.own hv fun _ _ => trivial
  | 11, hv => exact h.own hv fun _ _ => trivial
  | n + 12, _ => trivial

set_option maxRecDepth 100000 in
set_option maxHeartbeats 1000000 in
theorem iencode1 (w : World) (x : It) (hx : x.may = true) :
    Calls Try.prog 24 #[.agg #[.string x.key, .string x.val, .int .i64 x.till, .bool x.gone]] w fun e w' => ∃ v, e = .returned v ∧ OwnB w' w.heap.size v x.bytes ∧ Keeps (fun _ => True) w w' := by
  have hm := It.may_is hx
  have hfl := x.flag_bd
  have hgo : (x.gone = false ∧ x.flag = 0) ∨ (x.gone = true ∧ x.flag = 1) := by unfold It.flag; cases x.gone <;> simp
  have hk0 : Kp w (w.alloc (.cells #[.string x.key, .string x.val, .int .i64 x.till, .bool x.gone] 23)) := (Keeps.refl _ w).alloc _
  have b0 := heap_alloc_new w (.cells #[.string x.key, .string x.val, .int .i64 x.till, .bool x.gone] 23)
  have hlt : w.heap.size < (w.alloc (.cells #[.string x.key, .string x.val, .int .i64 x.till, .bool x.gone] 23)).heap.size := by simp
  have HPT := Lib.hid (show ∀ (w3 : World) (B : Nat), Kp w w3 → Row w3 (some ⟨B, 0, none⟩) (fun _ => True) [.string x.key, .string x.val] → Calls Try.prog 30 #[.slice none 0 0, .slice (some ⟨B, 0, none⟩) 2 2] w3 fun e w' => ∃ v, e = .returned v ∧ Kp w3 w' ∧ MadeB (putT x.key.data.toList ++ putT x.val.data.toList) w' v from fun w3 B _ hr => by
    refine (show Calls _ _ _ _ _ from put_text none (some ⟨B, 0, none⟩) 0 2 (fun _ => True) (fun _ => True) [] [x.key, x.val] w3 (Row.nil _ _ _) hr (by unfold total; simp; omega) (by simp) (by simp)).mono ?_
    rintro e w' ⟨v, rfl, ho, hk⟩
    have e : ([] : List UInt8) ++ putsT (strs [x.key, x.val]) = putT x.key.data.toList ++ putT x.val.data.toList := by simp [putsT, strs]
    rw [e] at ho
    obtain ⟨A, c, rfl, -, hr⟩ := own_slice ho
    exact ⟨_, rfl, hk, A, c, rfl, hr.mono fun _ _ _ => trivial⟩)
  have hl1 : (putT x.key.data.toList ++ putT x.val.data.toList).length ≤ 1000 := by
    have := It.bytes_len hx
    unfold It.bytes at this
    simp only [List.length_append] at this ⊢
    omega
  have HPN := Lib.hid (show ∀ (w3 : World) (A : Option Addr) (c B : Nat), Kp w w3 → Row w3 A (fun _ => True) (bcells (putT x.key.data.toList ++ putT x.val.data.toList)) → Row w3 (some ⟨B, 0, none⟩) (fun _ => True) [.int .i64 x.till, .int .i64 x.flag] →
      Calls Try.prog 29 #[.slice A (putT x.key.data.toList ++ putT x.val.data.toList).length c, .slice (some ⟨B, 0, none⟩) 2 2] w3 fun e w' => ∃ v, e = .returned v ∧ Kp w3 w' ∧ OwnB w' w.heap.size v x.bytes from fun w3 A c B hk hr hr2 => by
    refine (show Calls _ _ _ _ _ from put_any A (some ⟨B, 0, none⟩) c 2 (fun _ => True) (fun _ => True) (putT x.key.data.toList ++ putT x.val.data.toList) [x.till, x.flag] w3 hr hr2 (fun n hn => by
      simp only [List.mem_cons, List.not_mem_nil, or_false] at hn
      rcases hn with rfl | rfl <;> omega) (by omega) (by simp)).mono ?_
    rintro e w' ⟨v, rfl, ho, hk'⟩
    have e : putT x.key.data.toList ++ putT x.val.data.toList ++ putsZ [x.till, x.flag] = x.bytes := by simp [putsZ, It.bytes]
    rw [e] at ho
    exact ⟨v, rfl, hk', ownsRow_le ho hk.size⟩)
  generalize hL1 : putT x.key.data.toList ++ putT x.val.data.toList = l1 at HPT HPN hl1
  generalize hL2 : x.bytes = l2 at HPN ⊢
  clear hL1 hL2
  obtain ⟨w0, hw0⟩ : ∃ w0, w.alloc (.cells #[.string x.key, .string x.val, .int .i64 x.till, .bool x.gone] 23) = w0 := ⟨_, rfl⟩
  rw [hw0] at hk0 b0 hlt
  have HW0 := Lib.hid hw0
  have HK0 := Lib.hid hk0
  have HB0 := Lib.hid b0
  have HFL := Lib.hid hfl
  have c3 := (cell_of_block b0 3).trans rfl
  have HM := Lib.hid hm
  clear hm hw0 hk0 hfl b0
  rcases hgo with ⟨hg, hf⟩ | ⟨hg, hf⟩
  all_goals
    rw [hg] at c3
    have HG := Lib.hid hg
    have HF := Lib.hid hf
    clear hg hf
    go_enter Try.func24, Try.ntmps24
    go_wp2_with (rw [HW0.out])
    try rw [HW0.out]
    refine wp_region_guard (R := Kp) (V := VI w.heap.size w.heap.size x l1 l2) (w0 := w0) GN (by kernel_rfl) (fun w => Keeps.refl _ w) (fun _ _ _ h k => h.trans k) (fun i w w' v h hv => VI_keep i w w' v h hv) (by kernel_rfl) GN_is (fun i o ho hw => (all_wanted (by kernel_rfl) ho hw).elim) ((Keeps.refl _ w0).drew) (each_of ?_) ?_
    · refine ⟨?_, ?_, ?_, ?_, ?_, ?_, ?_, ?_, ?_, ?_, ?_, ?_, trivial⟩ <;> intro hw a1 w3 L
      · exact kp_fI 0 (by decide) rfl (L.old 1 (by kernel_rfl))
      · have hb := (L.rel.block w.heap.size trivial hlt).trans HB0.out
        exact kp_lS ((cell_of_block hb 0).trans rfl) rfl (L.val 0 6 (by kernel_rfl) (by kernel_rfl))
      · exact kp_fI 1 (by decide) rfl (L.old 1 (by kernel_rfl))
      · have hb := (L.rel.block w.heap.size trivial hlt).trans HB0.out
        exact kp_lS ((cell_of_block hb 1).trans rfl) rfl (L.val 2 8 (by kernel_rfl) (by kernel_rfl))
      · exact kp_twoS rfl (L.val 1 7 (by kernel_rfl) (by kernel_rfl)) (L.val 3 9 (by kernel_rfl) (by kernel_rfl))
      · obtain ⟨B, e0, hr⟩ := (show PairV (.string x.key) (.string x.val) w3 (a1.eval (.tmp 10)) from L.val 4 10 (by kernel_rfl) (by kernel_rfl))
        have hf : a1.eval (.func 30) = .func (.func 30) #[] #[] := rfl
        have hn : a1.eval (.const (.slice none 0 0)) = .slice none 0 0 := rfl
        refine kp_enter (f := 30) (args := #[.slice none 0 0, .slice (some ⟨B, 0, none⟩) 2 2]) ?_ (HPT.out w3 B (HK0.out.trans L.rel) hr) ?_
        · clear L
          generalize a1.eval = ρ at e0 hf hn ⊢
          unfold execOp
          go_simp
        · rintro e w' ⟨v, rfl, hk, hv⟩
          exact ⟨v, rfl, hk, hv⟩
      · exact kp_fI 2 (by decide) rfl (L.old 1 (by kernel_rfl))
      · have hb := (L.rel.block w.heap.size trivial hlt).trans HB0.out
        exact kp_lN ((cell_of_block hb 2).trans rfl) rfl (L.val 6 12 (by kernel_rfl) (by kernel_rfl))
      · exact kp_move (v := .int .i64 x.flag) rfl (by rw [HF.out]; exact L.old 3 (by kernel_rfl))
      · exact kp_twoI rfl (L.val 7 13 (by kernel_rfl) (by kernel_rfl)) (L.val 8 14 (by kernel_rfl) (by kernel_rfl))
      · obtain ⟨A, c, e0, hr⟩ := (show MadeB l1 w3 (a1.eval (.tmp 11)) from L.val 5 11 (by kernel_rfl) (by kernel_rfl))
        obtain ⟨B, e1, hr2⟩ := (show PairV (.int .i64 x.till) (.int .i64 x.flag) w3 (a1.eval (.tmp 15)) from L.val 9 15 (by kernel_rfl) (by kernel_rfl))
        have hf : a1.eval (.func 29) = .func (.func 29) #[] #[] := rfl
        refine kp_enter (f := 29) (args := #[.slice A l1.length c, .slice (some ⟨B, 0, none⟩) 2 2]) ?_ (HPN.out w3 A c B (HK0.out.trans L.rel) hr hr2) ?_
        · clear L
          generalize a1.eval = ρ at e0 e1 hf ⊢
          unfold execOp
          go_simp
        · rintro e w' ⟨v, rfl, hk, hv⟩
          exact ⟨v, rfl, hk, hv⟩
      · have h10 : OwnB w3 w.heap.size (a1.eval (.tmp 16)) l2 := L.val 10 16 (by kernel_rfl) (by kernel_rfl)
        exact kp_asO rfl h10
    · intro vs w4 hk4 hlen4 hv
      match vs, hlen4 with
      | [v0, v1, v2, v3, v4, v5, v6, v7, v8, v9, v10, v11], _ =>
        have hv4 : OwnB w4 w.heap.size v11 l2 := hv 11 2 (by kernel_rfl)
        have HV := Lib.hid hv4
        have HK4 := Lib.hid (HK0.out.trans hk4)
        clear hv hv4 hk4
        simp only [putAll, List.map, Act.put, List.setIfInBounds_toArray, List.set_cons_succ, List.set_cons_zero, Exit.then]
        go_wp2_with fail
        go_ret
        exact ⟨_, rfl, HV.out, HK4.out⟩

end Go.Proofs.Ytgdbkmecfbkobaa
