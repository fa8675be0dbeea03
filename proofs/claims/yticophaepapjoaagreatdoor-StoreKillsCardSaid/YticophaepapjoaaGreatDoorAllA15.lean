/-
  SuperLocs, ItemLive, ItemEnc, RefNum, Unfr, JnLay: texts of mine, joined.
-/
import Derived.Test.YticophaepapjoaaGreatDoorAllA13
import Derived.Test.YticophaepapjoaaGreatDoorAllA06
import Derived.IntWalk
import Derived.Test.YticophaepapjoaaGreatDoorAllA12
import Derived.Test.YticophaepapjoaaGreatDoorAllA08
import Derived.Test.YticophaepapjoaaGreatDoorAllA07
import Derived.WalkSpells
import Derived.Test.YticophaepapjoaaGreatDoorWords
import Derived.Shelf.SlicesG.Delete
import Derived.Shelf.SlicesG.SearchI
import Derived.Ground.SlgnProg
import Derived.Test.YticophaepapjoaaGreatDoorProg
namespace Go.Proofs.YticophaepapjoaaGreatDoor
open Go Go.RowKit
section
variable {o : Oper} {a : Act} {w : World} {Q : Exit → Act → World → Prop} {x y : Operand}
theorem kp_add {m n : Nat} (h : m + n ≤ 1000000) (ho : o.op = .binOp .add 3 x y 3) (hx : a.eval x = .int .i64 (m : Int)) (hy : a.eval y = .int .i64 (n : Int)) : o.wp Tryz.prog a w (fun a' w' => ∃ v, a' = a.put o.dst v ∧ Kp w w' ∧ IsV (.int .i64 ((m + n : Nat) : Int)) w' v) Q := by
 have h1 : ((m + n : Nat) : Int) = (m : Int) + (n : Int) := by omega
 rw [h1]
 refine kp_yield (v := .int .i64 ((m : Int) + (n : Int))) (w' := w) ?_ (Keeps.refl _ _) rfl
 have h2 : (m : Int) + (n : Int) ≤ 1000000 := by omega
 have h3 : (0 : Int) ≤ (m : Int) := by omega
 have h4 : (0 : Int) ≤ (n : Int) := by omega
 clear h1
 generalize (m : Int) = M at *
 generalize (n : Int) = N at *
 generalize a.eval = ρ at hx hy ⊢
 unfold execOp
 rw [ho]
 go_simp
 exact IntWalk.i64_in _ (by omega)
theorem one_enter {P : Program} {X : World → Value → Prop} {f : FuncId} {args : Array Value} {C : Ending → World → Prop} (e : (execOp a.eval o).run P w = .ok (.enter f args) w) (hc : Calls P f args w C)
  (hC : ∀ e w', C e w' → ∃ v, e = .returned v ∧ X w' v) : o.wp P a w (fun a' w' => ∃ v, a' = a.put o.dst v ∧ X w' v) Q := by
 unfold Oper.wp
 rw [e]
 refine hc.mono fun e w' h => ?_
 obtain ⟨v, rfl, hv⟩ := hC e w' h
 exact ⟨v, rfl, hv⟩
end
end Go.Proofs.YticophaepapjoaaGreatDoor
namespace Go.Proofs.YticophaepapjoaaGreatDoor
open Go Go.RowKit Go.Joins
set_option maxHeartbeats 1000000 in
theorem imay (w : World) (x : It) (hx : x.fits) :
  Calls Tryz.prog 42 #[.agg #[.string x.key, .string x.val, .int .i64 x.till, .bool x.gone]] w fun e w' => e = .returned (.bool x.may) ∧ Keeps (fun _ => True) w w' := by
 obtain ⟨hk, hv, ht1, ht2⟩ := hx
 have cases_ : (decide ((x.key.size : Int) < 1) = true ∧ x.may = false) ∨
   (decide ((x.key.size : Int) < 1) = false ∧ decide ((40 : Int) < (x.key.size : Int)) = true ∧ x.may = false) ∨
   (decide ((x.key.size : Int) < 1) = false ∧ decide ((40 : Int) < (x.key.size : Int)) = false ∧ x.gone = true ∧ (x.val.toList == []) = false ∧ x.may = false) ∨
   (decide ((x.key.size : Int) < 1) = false ∧ decide ((40 : Int) < (x.key.size : Int)) = false ∧ x.gone = true ∧ (x.val.toList == []) = true ∧ (x.till == 0) = false ∧ x.may = false) ∨
   (decide ((x.key.size : Int) < 1) = false ∧ decide ((40 : Int) < (x.key.size : Int)) = false ∧ x.gone = true ∧ (x.val.toList == []) = true ∧ (x.till == 0) = true ∧ x.may = true) ∨
   (decide ((x.key.size : Int) < 1) = false ∧ decide ((40 : Int) < (x.key.size : Int)) = false ∧ x.gone = false ∧ decide ((x.val.size : Int) ≤ 200) = false ∧ x.may = false) ∨
   (decide ((x.key.size : Int) < 1) = false ∧ decide ((40 : Int) < (x.key.size : Int)) = false ∧ x.gone = false ∧ decide ((x.val.size : Int) ≤ 200) = true ∧ decide ((0 : Int) ≤ x.till) = false ∧ x.may = false) ∨
   (decide ((x.key.size : Int) < 1) = false ∧ decide ((40 : Int) < (x.key.size : Int)) = false ∧ x.gone = false ∧ decide ((x.val.size : Int) ≤ 200) = true ∧ decide ((0 : Int) ≤ x.till) = true ∧ decide (x.till ≤ 1099511627776) = false ∧ x.may = false) ∨
   (decide ((x.key.size : Int) < 1) = false ∧ decide ((40 : Int) < (x.key.size : Int)) = false ∧ x.gone = false ∧ decide ((x.val.size : Int) ≤ 200) = true ∧ decide ((0 : Int) ≤ x.till) = true ∧ decide (x.till ≤ 1099511627776) = true ∧ x.may = true) := by
  have e1 : decide ((x.val.size : Int) ≤ 200) = decide (x.val.size ≤ 200) := decide_eq_decide.2 (by omega)
  have e2 : (x.val.toList == []) = decide (x.val.size = 0) := by
   have h := str_same x.val ⟨#[]⟩
   rw [show ByteArray.toList ⟨#[]⟩ = [] from by rw [Lib.toList_data]] at h
   exact h.trans (decide_eq_decide.2 size_zero)
  have e3 : (x.till == 0) = decide (x.till = 0) := rfl
  have e4 : decide ((x.key.size : Int) < 1) = !decide (1 ≤ x.key.size) := by
   by_cases h : 1 ≤ x.key.size
   ·simp [h]; omega
   ·simp [h]; omega
  have e5 : decide ((40 : Int) < (x.key.size : Int)) = !decide (x.key.size ≤ 40) := by
   by_cases h : x.key.size ≤ 40
   ·simp [h]; omega
   ·simp [h]; omega
  have h6 : decide (x.val.size = 0) = true → decide (x.val.size ≤ 200) = true := by simp only [decide_eq_true_eq]; omega
  have h7 : decide (x.till = 0) = true → decide ((0 : Int) ≤ x.till) = true ∧ decide (x.till ≤ 1099511627776) = true := by simp only [decide_eq_true_eq]; omega
  rw [e1, e2, e3, e4, e5]
  unfold It.may
  generalize decide (1 ≤ x.key.size) = b0 at *
  generalize decide (x.key.size ≤ 40) = b1 at *
  generalize decide (x.val.size ≤ 200) = b2 at *
  generalize decide ((0 : Int) ≤ x.till) = b3 at *
  generalize decide (x.till ≤ 1099511627776) = b4 at *
  generalize decide (x.val.size = 0) = b5 at *
  generalize decide (x.till = 0) = b6 at *
  generalize x.gone = b7
  clear e1 e2 e3 e4 e5 hk hv ht1 ht2
  revert b0 b1 b2 b3 b4 b5 b6 b7
  decide
 obtain ⟨key, val, till, gone⟩ := x
 simp only at *
 have HM := Lib.hid (show (⟨key, val, till, gone⟩ : It).may = (⟨key, val, till, gone⟩ : It).may from rfl)
 generalize (⟨key, val, till, gone⟩ : It).may = m at *
 clear HM
 rcases cases_ with ⟨t1, rfl⟩ | ⟨t1, t2, rfl⟩ | ⟨t1, t2, rfl, t3, rfl⟩ | ⟨t1, t2, rfl, t3, t4, rfl⟩ | ⟨t1, t2, rfl, t3, t4, rfl⟩ | ⟨t1, t2, rfl, t3, rfl⟩ | ⟨t1, t2, rfl, t3, t4, rfl⟩ | ⟨t1, t2, rfl, t3, t4, t5, rfl⟩ | ⟨t1, t2, rfl, t3, t4, t5, rfl⟩
 all_goals
  go_enter Tryz.func42, Tryz.ntmps42
  go_wp2_with fail
  go_ret
  exact ⟨by first | rfl | (rw [← t5]; rfl) | (rw [← t4]; rfl), (Keeps.refl _ _).alloc _⟩
set_option maxHeartbeats 1000000 in
theorem ilive (w : World) (x : It) (hx : x.fits) (now : Int) (_hn1 : -9223372036854775808 ≤ now) (_hn2 : now < 9223372036854775808) :
  Calls Tryz.prog 58 #[.agg #[.string x.key, .string x.val, .int .i64 x.till, .bool x.gone], .int .i64 now] w fun e w' => e = .returned (.bool (x.live now)) ∧ Keeps (fun _ => True) w w' := by
 have RM := fun w => imay w x hx
 obtain ⟨hk, hv, ht1, ht2⟩ := hx
 have hc : (x.may = false ∧ x.live now = false) ∨ (x.may = true ∧ x.gone = true ∧ x.live now = false) ∨ (x.may = true ∧ x.gone = false ∧ (x.till == 0) = true ∧ x.live now = true) ∨
   (x.may = true ∧ x.gone = false ∧ (x.till == 0) = false ∧ decide (now < x.till) = true ∧ x.live now = true) ∨ (x.may = true ∧ x.gone = false ∧ (x.till == 0) = false ∧ decide (now < x.till) = false ∧ x.live now = false) := by
  have e3 : (x.till == 0) = decide (x.till = 0) := rfl
  rw [e3]
  unfold It.live
  generalize x.may = b1
  generalize x.gone = b2
  generalize decide (x.till = 0) = b3
  generalize decide (now < x.till) = b4
  revert b1 b2 b3 b4
  decide
 obtain ⟨key, val, till, gone⟩ := x
 simp only at *
 generalize (⟨key, val, till, gone⟩ : It).live now = m at *
 generalize (⟨key, val, till, gone⟩ : It).may = q at *
 rcases hc with ⟨rfl, rfl⟩ | ⟨rfl, rfl, rfl⟩ | ⟨rfl, rfl, t1, rfl⟩ | ⟨rfl, rfl, t1, t2, rfl⟩ | ⟨rfl, rfl, t1, t2, rfl⟩
 all_goals
  go_enter Tryz.func58, Tryz.ntmps58
  go_wp2_with fail
  refine (RM _).mono ?_
  rintro e w1 ⟨rfl, hk1⟩
  have hc2 := hk1.cell (p := ⟨w.heap.size, 2, none⟩) (v := .int .i64 till) ((cell_of_block (heap_alloc_new w _) 2).trans rfl) trivial
  have hc3 := hk1.cell (p := ⟨w.heap.size, 3, none⟩) (v := .bool _) ((cell_of_block (heap_alloc_new w _) 3).trans rfl) trivial
  have HK := Lib.hid (((Keeps.refl (fun _ => True) w).alloc _).trans hk1)
  clear hk1
  go_wp2_with fail
  go_ret
  exact ⟨by first | rfl | (rw [← t2]; rfl), HK.out⟩
section
variable {w : World} {o : Oper} {a : Act} {Q : Exit → Act → World → Prop} {x y : Operand}
theorem kp_fI (i : Nat) (hi : i < 4) {b : Nat} (ho : o.op = .fieldAddr 40 x i) (hx : a.eval x = .pointer (some ⟨b, 0, none⟩)) : o.wp Tryz.prog a w (fun a' w' => ∃ v, a' = a.put o.dst v ∧ Kp w w' ∧ IsV (.pointer (some ⟨b, i, none⟩)) w' v) Q := by
 refine kp_yield (v := .pointer (some ⟨b, i, none⟩)) ?_ (Keeps.refl _ _) rfl
 generalize a.eval = ρ at hx
 unfold execOp
 rw [ho]
 match i, hi with
 | 0, _ => go_simp
 | 1, _ => go_simp
 | 2, _ => go_simp
 | 3, _ => go_simp
theorem kp_lS {p : Addr} {s : ByteArray} (hc : w.cell? p = some (.string s)) (ho : o.op = .load 9 x) (hx : a.eval x = .pointer (some p)) : o.wp Tryz.prog a w (fun a' w' => ∃ v, a' = a.put o.dst v ∧ Kp w w' ∧ IsV (.string s) w' v) Q := by
 refine kp_yield (v := .string s) ?_ (Keeps.refl _ _) rfl
 generalize a.eval = ρ at hx
 unfold execOp
 go_simp
theorem kp_lN {p : Addr} {n : Int} (hc : w.cell? p = some (.int .i64 n)) (ho : o.op = .load 2 x) (hx : a.eval x = .pointer (some p)) : o.wp Tryz.prog a w (fun a' w' => ∃ v, a' = a.put o.dst v ∧ Kp w w' ∧ IsV (.int .i64 n) w' v) Q := by
 refine kp_yield (v := .int .i64 n) ?_ (Keeps.refl _ _) rfl
 generalize a.eval = ρ at hx
 unfold execOp
 go_simp
theorem kp_asO {V : World → Value → Prop} (ho : o.op = .assign x) (hx : V w (a.eval x)) : o.wp Tryz.prog a w (fun a' w' => ∃ v', a' = a.put o.dst v' ∧ Kp w w' ∧ V w' v') Q := by
 refine kp_yield (v := a.eval x) ?_ (Keeps.refl _ _) hx
 unfold execOp; rw [ho]; rfl
def PairV (v1 v2 : Value) : World → Value → Prop := fun w v => ∃ B, v = .slice (some ⟨B, 0, none⟩) 2 2 ∧ Row w (some ⟨B, 0, none⟩) (fun _ => True) [v1, v2]
theorem PairV.keep {v1 v2 v : Value} {w w' : World} (h : Kp w w') (hv : PairV v1 v2 w v) : PairV v1 v2 w' v := by
 obtain ⟨B, e, hr⟩ := hv
 exact ⟨B, e, hr.keep h⟩
theorem kp_twoS {s t : ByteArray} (ho : o.op = .buildSlice 30 2 #[(0, x), (1, y)]) (hx : a.eval x = .string s) (hy : a.eval y = .string t) : o.wp Tryz.prog a w (fun a' w' => ∃ v, a' = a.put o.dst v ∧ Kp w w' ∧ PairV (.string s) (.string t) w' v) Q := by
 refine kp_yield (v := .slice (some ⟨w.heap.size, 0, none⟩) 2 2) (w' := w.alloc (.cells #[.string s, .string t] 9)) ?_ ((Keeps.refl _ w).alloc _) ⟨_, rfl, Row.fresh w #[.string s, .string t] 9 (0, 0) _ rfl trivial _ rfl⟩
 generalize a.eval = ρ at hx hy
 unfold execOp
 go_simp
theorem kp_twoI {s t : Int} (ho : o.op = .buildSlice 106 2 #[(0, x), (1, y)]) (hx : a.eval x = .int .i64 s) (hy : a.eval y = .int .i64 t) : o.wp Tryz.prog a w (fun a' w' => ∃ v, a' = a.put o.dst v ∧ Kp w w' ∧ PairV (.int .i64 s) (.int .i64 t) w' v) Q := by
 refine kp_yield (v := .slice (some ⟨w.heap.size, 0, none⟩) 2 2) (w' := w.alloc (.cells #[.int .i64 s, .int .i64 t] 2)) ?_ ((Keeps.refl _ w).alloc _) ⟨_, rfl, Row.fresh w #[.int .i64 s, .int .i64 t] 2 (0, 0) _ rfl trivial _ rfl⟩
 generalize a.eval = ρ at hx hy
 unfold execOp
 go_simp
end
def MadeB (l : List UInt8) : World → Value → Prop := fun w v => ∃ A c, v = .slice A l.length c ∧ Row w A (fun _ => True) (bcells l)
theorem MadeB.keep {l : List UInt8} {v : Value} {w w' : World} (h : Kp w w') (hv : MadeB l w v) : MadeB l w' v := by
 obtain ⟨A, c, e, hr⟩ := hv
 exact ⟨A, c, e, hr.keep h⟩
def GN : Nat → Option Bool := fun _ => none
theorem GN_is {V : Nat → World → Value → Prop} (g : Nat) (c : Bool) (h : GN g = some c) (w : World) (x : Value) (_ : V g w x) : x = .bool c := by cases h
def VI (base : Nat) (b : Nat) (x : It) (l1 l2 : List UInt8) : Nat → World → Value → Prop
 | 0 => IsV (.pointer (some ⟨b, 0, none⟩))
 | 1 => IsV (.string x.key)
 | 2 => IsV (.pointer (some ⟨b, 1, none⟩))
 | 3 => IsV (.string x.val)
 | 4 => PairV (.string x.key) (.string x.val)
 | 5 => MadeB l1
 | 6 => IsV (.pointer (some ⟨b, 2, none⟩))
 | 7 => IsV (.int .i64 x.till)
 | 8 => IsV (.int .i64 x.flag)
 | 9 => PairV (.int .i64 x.till) (.int .i64 x.flag)
 | 10 => fun w v => OwnB w base v l2
 | 11 => fun w v => OwnB w base v l2
 | _ => fun _ _ => True
theorem VI_keep {base b : Nat} {x : It} {l1 l2 : List UInt8} (i : Nat) (w w' : World) (v : Value) (h : Kp w w') (hv : VI base b x l1 l2 i w v) : VI base b x l1 l2 i w' v := by
 match i, hv with
 | 0, hv => exact hv
 | 1, hv => exact hv
 | 2, hv => exact hv
 | 3, hv => exact hv
 | 4, hv => exact PairV.keep h hv
 | 5, hv => exact MadeB.keep h hv
 | 6, hv => exact hv
 | 7, hv => exact hv
 | 8, hv => exact hv
 | 9, hv => exact PairV.keep h hv
 | 10, hv => exact h.own hv fun _ _ => trivial
 | 11, hv => exact h.own hv fun _ _ => trivial
 | n + 12, _ => trivial
set_option maxRecDepth 100000 in
set_option maxHeartbeats 1000000 in
theorem iencode1 (w : World) (x : It) (hx : x.may = true) :
  Calls Tryz.prog 74 #[.agg #[.string x.key, .string x.val, .int .i64 x.till, .bool x.gone]] w fun e w' => ∃ v, e = .returned v ∧ OwnB w' w.heap.size v x.bytes ∧ Keeps (fun _ => True) w w' := by
 have hm := It.may_is hx
 have hfl := x.flag_bd
 have hgo : (x.gone = false ∧ x.flag = 0) ∨ (x.gone = true ∧ x.flag = 1) := by unfold It.flag; cases x.gone <;> simp
 have hk0 : Kp w (w.alloc (.cells #[.string x.key, .string x.val, .int .i64 x.till, .bool x.gone] 40)) := (Keeps.refl _ w).alloc _
 have b0 := heap_alloc_new w (.cells #[.string x.key, .string x.val, .int .i64 x.till, .bool x.gone] 40)
 have hlt : w.heap.size < (w.alloc (.cells #[.string x.key, .string x.val, .int .i64 x.till, .bool x.gone] 40)).heap.size := by simp
 have HPT := Lib.hid (show ∀ (w3 : World) (B : Nat), Kp w w3 → Row w3 (some ⟨B, 0, none⟩) (fun _ => True) [.string x.key, .string x.val] → Calls Tryz.prog 104 #[.slice none 0 0, .slice (some ⟨B, 0, none⟩) 2 2] w3 fun e w' => ∃ v, e = .returned v ∧ Kp w3 w' ∧ MadeB (putT x.key.data.toList ++ putT x.val.data.toList) w' v from fun w3 B _ hr => by
  refine (show Calls _ _ _ _ _ from put_text none (some ⟨B, 0, none⟩) 0 2 (fun _ => True) (fun _ => True) [] [x.key, x.val] w3 (Row.nil _ _ _) hr (by unfold total; simp; omega) (by simp) (by simp)).mono ?_
  rintro e w' ⟨v, rfl, ho, hk⟩
  have e : ([] : List UInt8) ++ putsT (strs [x.key, x.val]) = putT x.key.data.toList ++ putT x.val.data.toList := by simp [putsT, strs]
  rw [e] at ho
  obtain ⟨A, c, rfl, -, hr⟩ := own_slice ho
  exact ⟨_, rfl, hk, A, c, rfl, hr.mono fun _ _ _ => trivial⟩)
 have hl1 : (putT x.key.data.toList ++ putT x.val.data.toList).length ≤ 1000 := by
  have := It.bytes_len hx
  unfold It.bytes at this
  simp only [List.length_append] at this ⊢
  omega
 have HPN := Lib.hid (show ∀ (w3 : World) (A : Option Addr) (c B : Nat), Kp w w3 → Row w3 A (fun _ => True) (bcells (putT x.key.data.toList ++ putT x.val.data.toList)) → Row w3 (some ⟨B, 0, none⟩) (fun _ => True) [.int .i64 x.till, .int .i64 x.flag] →
   Calls Tryz.prog 79 #[.slice A (putT x.key.data.toList ++ putT x.val.data.toList).length c, .slice (some ⟨B, 0, none⟩) 2 2] w3 fun e w' => ∃ v, e = .returned v ∧ Kp w3 w' ∧ OwnB w' w.heap.size v x.bytes from fun w3 A c B hk hr hr2 => by
  refine (show Calls _ _ _ _ _ from put_any A (some ⟨B, 0, none⟩) c 2 (fun _ => True) (fun _ => True) (putT x.key.data.toList ++ putT x.val.data.toList) [x.till, x.flag] w3 hr hr2 (fun n hn => by
   simp only [List.mem_cons, List.not_mem_nil, or_false] at hn
   rcases hn with rfl | rfl <;> omega) (by omega) (by simp)).mono ?_
  rintro e w' ⟨v, rfl, ho, hk'⟩
  have e : putT x.key.data.toList ++ putT x.val.data.toList ++ putsZ [x.till, x.flag] = x.bytes := by simp [putsZ, It.bytes]
  rw [e] at ho
  exact ⟨v, rfl, hk', ownsRow_le ho hk.size⟩)
 generalize hL1 : putT x.key.data.toList ++ putT x.val.data.toList = l1 at HPT HPN hl1
 generalize hL2 : x.bytes = l2 at HPN ⊢
 clear hL1 hL2
 obtain ⟨w0, hw0⟩ : ∃ w0, w.alloc (.cells #[.string x.key, .string x.val, .int .i64 x.till, .bool x.gone] 40) = w0 := ⟨_, rfl⟩
 rw [hw0] at hk0 b0 hlt
 have HW0 := Lib.hid hw0
 have HK0 := Lib.hid hk0
 have HB0 := Lib.hid b0
 have HFL := Lib.hid hfl
 have c3 := (cell_of_block b0 3).trans rfl
 have HM := Lib.hid hm
 clear hm hw0 hk0 hfl b0
 rcases hgo with ⟨hg, hf⟩ | ⟨hg, hf⟩
 all_goals
  rw [hg] at c3
  have HG := Lib.hid hg
  have HF := Lib.hid hf
  clear hg hf
  go_enter Tryz.func74, Tryz.ntmps74
  go_wp2_with (rw [HW0.out])
  try rw [HW0.out]
  refine wp_region_guard (R := Kp) (V := VI w.heap.size w.heap.size x l1 l2) (w0 := w0) GN (by kernel_rfl) (fun w => Keeps.refl _ w) (fun _ _ _ h k => h.trans k) (fun i w w' v h hv => VI_keep i w w' v h hv) (by kernel_rfl) GN_is (fun i o ho hw => (all_wanted (by kernel_rfl) ho hw).elim) ((Keeps.refl _ w0).drew) (each_of ?_) ?_
  ·refine ⟨?_, ?_, ?_, ?_, ?_, ?_, ?_, ?_, ?_, ?_, ?_, ?_, trivial⟩ <;> intro hw a1 w3 L
   ·exact kp_fI 0 (by decide) rfl (L.old 1 (by kernel_rfl))
   ·have hb := (L.rel.block w.heap.size trivial hlt).trans HB0.out
    exact kp_lS ((cell_of_block hb 0).trans rfl) rfl (L.val 0 6 (by kernel_rfl) (by kernel_rfl))
   ·exact kp_fI 1 (by decide) rfl (L.old 1 (by kernel_rfl))
   ·have hb := (L.rel.block w.heap.size trivial hlt).trans HB0.out
    exact kp_lS ((cell_of_block hb 1).trans rfl) rfl (L.val 2 8 (by kernel_rfl) (by kernel_rfl))
   ·exact kp_twoS rfl (L.val 1 7 (by kernel_rfl) (by kernel_rfl)) (L.val 3 9 (by kernel_rfl) (by kernel_rfl))
   ·obtain ⟨B, e0, hr⟩ := (show PairV (.string x.key) (.string x.val) w3 (a1.eval (.tmp 10)) from L.val 4 10 (by kernel_rfl) (by kernel_rfl))
    have hf : a1.eval (.func 104) = .func (.func 104) #[] #[] := rfl
    have hn : a1.eval (.const (.slice none 0 0)) = .slice none 0 0 := rfl
    refine kp_enter (f := 104) (args := #[.slice none 0 0, .slice (some ⟨B, 0, none⟩) 2 2]) ?_ (HPT.out w3 B (HK0.out.trans L.rel) hr) ?_
    ·clear L
     generalize a1.eval = ρ at e0 hf hn ⊢
     unfold execOp
     go_simp
    ·rintro e w' ⟨v, rfl, hk, hv⟩
     exact ⟨v, rfl, hk, hv⟩
   ·exact kp_fI 2 (by decide) rfl (L.old 1 (by kernel_rfl))
   ·have hb := (L.rel.block w.heap.size trivial hlt).trans HB0.out
    exact kp_lN ((cell_of_block hb 2).trans rfl) rfl (L.val 6 12 (by kernel_rfl) (by kernel_rfl))
   ·exact kp_move (v := .int .i64 x.flag) rfl (by rw [HF.out]; exact L.old 3 (by kernel_rfl))
   ·exact kp_twoI rfl (L.val 7 13 (by kernel_rfl) (by kernel_rfl)) (L.val 8 14 (by kernel_rfl) (by kernel_rfl))
   ·obtain ⟨A, c, e0, hr⟩ := (show MadeB l1 w3 (a1.eval (.tmp 11)) from L.val 5 11 (by kernel_rfl) (by kernel_rfl))
    obtain ⟨B, e1, hr2⟩ := (show PairV (.int .i64 x.till) (.int .i64 x.flag) w3 (a1.eval (.tmp 15)) from L.val 9 15 (by kernel_rfl) (by kernel_rfl))
    have hf : a1.eval (.func 79) = .func (.func 79) #[] #[] := rfl
    refine kp_enter (f := 79) (args := #[.slice A l1.length c, .slice (some ⟨B, 0, none⟩) 2 2]) ?_ (HPN.out w3 A c B (HK0.out.trans L.rel) hr hr2) ?_
    ·clear L
     generalize a1.eval = ρ at e0 e1 hf ⊢
     unfold execOp
     go_simp
    ·rintro e w' ⟨v, rfl, hk, hv⟩
     exact ⟨v, rfl, hk, hv⟩
   ·have h10 : OwnB w3 w.heap.size (a1.eval (.tmp 16)) l2 := L.val 10 16 (by kernel_rfl) (by kernel_rfl)
    exact kp_asO rfl h10
  ·intro vs w4 hk4 hlen4 hv
   match vs, hlen4 with
   | [v0, v1, v2, v3, v4, v5, v6, v7, v8, v9, v10, v11], _ =>
    have hv4 : OwnB w4 w.heap.size v11 l2 := hv 11 2 (by kernel_rfl)
    have HV := Lib.hid hv4
    have HK4 := Lib.hid (HK0.out.trans hk4)
    clear hv hv4 hk4
    simp only [putAll, List.map, Act.put, List.setIfInBounds_toArray, List.set_cons_succ, List.set_cons_zero, Exit.then]
    go_wp2_with fail
    go_ret
    exact ⟨_, rfl, HV.out, HK4.out⟩
end Go.Proofs.YticophaepapjoaaGreatDoor
namespace Go.Proofs.YticophaepapjoaaGreatDoor
open Go Go.RowKit
def Unfr (w : World) (A : Option Addr) (n : Nat) : Prop := ∀ b o, 0 < n → A = some ⟨b, o, none⟩ → ∀ i, w.frozen? ⟨b, i, none⟩ = false
theorem Unfr.own {w : World} {base n size c : Nat} {e : TypeId} {A : Option Addr} {xs : List Value} (h : w.ownsRow base e size (.slice A n c) n xs) : Unfr w A n := fun b o _ ha i => by
 rcases h.2 with ⟨h', _⟩ | ⟨g', cap', cur, h', _, hg, _⟩
 ·injection h' with h'; rw [ha] at h'; cases h'
 ·injection h' with h'
  rw [ha] at h'
  injection h' with h'
  injection h' with h'
  subst h'
  simp [World.frozen?, hg]
end Go.Proofs.YticophaepapjoaaGreatDoor
namespace Go.Proofs
open Go.Shelf
def Tryz.deleteJ_ren : Go.Shelf.Ren := ⟨fun | 45 => 89 | n => n, fun | 22 => 106 | 23 => 2 | 3 => 3 | 4 => 4 | 0 => 0 | n => n, fun | n => n⟩
theorem Tryz.deleteJ : Go.Proofs.SlLaysN.n45 Tryz.prog Tryz.deleteJ_ren := {
 mixed := by kernel_rfl
 f45 := ⟨Tryz.f89.name, by decide, Tryz.func89.trans (congrArg some (by kernel_rfl))⟩
 t0 := Tryz.underlying0
 a0 := Tryz.isAgg0
 z0 := Tryz.sizeOf0
 v0 := Tryz.zeroValue0
 t3 := Tryz.underlying3
 a3 := Tryz.isAgg3
 z3 := Tryz.sizeOf3
 v3 := Tryz.zeroValue3
 t4 := Tryz.underlying4
 a4 := Tryz.isAgg4
 z4 := Tryz.sizeOf4
 v4 := Tryz.zeroValue4
 t22 := Tryz.underlying106
 a22 := Tryz.isAgg106
 z22 := Tryz.sizeOf106
 v22 := Tryz.zeroValue106
 t23 := Tryz.underlying2
 a23 := Tryz.isAgg2
 z23 := Tryz.sizeOf2
 v23 := Tryz.zeroValue2
 i23 := by kernel_rfl }
def Tryz.searchJ_ren : Go.Shelf.Ren := ⟨fun | 49 => 88 | 59 => 121 | 60 => 122 | 68 => 153 | n => n, fun | 22 => 106 | 23 => 2 | 3 => 3 | 4 => 4 | 51 => 195 | 0 => 0 | n => n, fun | n => n⟩
theorem Tryz.searchJ : Go.Proofs.SlLaysN.n49 Tryz.prog Tryz.searchJ_ren := {
 mixed := by kernel_rfl
 f49 := ⟨Tryz.f88.name, by decide, Tryz.func88.trans (congrArg some (by kernel_rfl))⟩
 f59 := ⟨Tryz.f121.name, by decide, Tryz.func121.trans (congrArg some (by kernel_rfl))⟩
 f60 := ⟨Tryz.f122.name, by decide, Tryz.func122.trans (congrArg some (by kernel_rfl))⟩
 f68 := ⟨Tryz.f153.name, by decide, Tryz.func153.trans (congrArg some (by kernel_rfl))⟩
 t0 := Tryz.underlying0
 a0 := Tryz.isAgg0
 z0 := Tryz.sizeOf0
 v0 := Tryz.zeroValue0
 t3 := Tryz.underlying3
 a3 := Tryz.isAgg3
 z3 := Tryz.sizeOf3
 v3 := Tryz.zeroValue3
 t4 := Tryz.underlying4
 a4 := Tryz.isAgg4
 z4 := Tryz.sizeOf4
 v4 := Tryz.zeroValue4
 t22 := Tryz.underlying106
 a22 := Tryz.isAgg106
 z22 := Tryz.sizeOf106
 v22 := Tryz.zeroValue106
 t23 := Tryz.underlying2
 a23 := Tryz.isAgg2
 z23 := Tryz.sizeOf2
 v23 := Tryz.zeroValue2
 t51 := Tryz.underlying195
 a51 := Tryz.isAgg195
 z51 := Tryz.sizeOf195
 v51 := Tryz.zeroValue195 }
end Go.Proofs
