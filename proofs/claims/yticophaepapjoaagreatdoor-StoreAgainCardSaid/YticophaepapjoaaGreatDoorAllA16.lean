/-
  FlashHist, ItemLive, ItemEnc, Math, Mix, SlgChunk, InvOneIn: texts of mine, joined.
-/
import Derived.Test.YticophaepapjoaaGreatDoorAllA05
import Derived.Test.YticophaepapjoaaGreatDoorAllA11
import Derived.Test.YticophaepapjoaaGreatDoorAllA06
import Derived.Test.YticophaepapjoaaGreatDoorAllA08
import Derived.Test.YticophaepapjoaaGreatDoorAllA09
import Derived.Test.YticophaepapjoaaGreatDoorRows
import Derived.WalkKit
import Derived.Laws.Bits64
import Derived.RangeFuncBox
import Derived.RangeFuncLeaves
import Derived.RangeFuncNested
import Derived.RangeFuncBound
import Derived.RangeFuncCalls
import Derived.Shelf.Abstract
import Derived.Shelf.RegionOpen
import Derived.OwnWalkIn
import Derived.TacticsInMore
import Derived.LoopNIn
import Derived.LoopIn
import Derived.Lib.MinMax
import Derived.Lib.SmallJoins
import Derived.Lib.Hide
import Derived.Test.YticophaepapjoaaGreatDoorAllA10
import Derived.Test.YticophaepapjoaaGreatDoorAllA13
import Derived.OrdersIn
import Derived.TacticsIn
namespace Go.Proofs.YticophaepapjoaaGreatDoor
open Go
structure FEnt where
 x : It
 opens : Nat
def FEnt.cost (e : FEnt) : Nat := e.x.key.size + e.x.val.size + 80 + 400 * e.opens
def fcosts (l : List FEnt) : Nat := (l.map FEnt.cost).sum
def fopened : List FEnt → List FEnt
 | [] => []
 | [e] => [⟨e.x, e.opens + 1⟩]
 | e :: l => e :: fopened l
structure FSt where
 place : Nat
 segs : Nat
 ents : List FEnt
 gone : Nat
 age : Nat
def FSt.has (st : FSt) (i : Nat) : Prop := st.place ≤ i ∧ i < st.place + 8 * st.segs
def isKF (k : ByteArray) (e : FEnt) : Bool := e.x.key.data.toList == k.data.toList
def fLast (l : List FEnt) (n : Nat) (k : ByteArray) : Option It := ((l.drop n).reverse.find? (isKF k)).map (·.x)
def FSt.at_ (st : FSt) (k : ByteArray) : Option It := (fLast st.ents st.gone k).bind fun x => if x.gone then none else some x
structure FSt.Ok (st : FSt) : Prop where
 segs : 3 ≤ st.segs ∧ st.segs ≤ 200
 one : ∀ e ∈ st.ents, e.x.may = true
 gone : st.gone ≤ st.ents.length
 kept : ∀ i, i ≤ st.ents.length → fcosts (st.ents.drop i) ≤ 200 * (st.segs - 2) → st.gone ≤ i
def grave (k : ByteArray) : FEnt := ⟨⟨k, ⟨#[]⟩, 0, true⟩, 0⟩
def fput (x : It) : FEnt := ⟨x, 0⟩
def keyOk (k : ByteArray) : Prop := 1 ≤ k.size ∧ k.size ≤ 40
theorem isKF_iff {k : ByteArray} {e : FEnt} : isKF k e = true ↔ e.x.key = k := by
 unfold isKF
 rw [beq_iff_eq]
 exact ⟨fun h => data_inj h, fun h => by rw [h]⟩
theorem FSt.Ok.whole {st : FSt} (h : st.Ok) (hc : fcosts st.ents ≤ 200 * (st.segs - 2)) : st.gone = 0 := by
 have := h.kept 0 (Nat.zero_le _) (by simpa using hc)
 omega
theorem fLast_app (l r : List FEnt) (k : ByteArray) : fLast (l ++ r) 0 k = (fLast r 0 k).or (fLast l 0 k) := by
 unfold fLast
 rw [List.drop_zero, List.drop_zero, List.drop_zero, List.reverse_append, List.find?_append]
 cases r.reverse.find? (isKF k) <;> rfl
theorem fLast_snoc (l : List FEnt) (e : FEnt) (k : ByteArray) : fLast (l ++ [e]) 0 k = if e.x.key = k then some e.x else fLast l 0 k := by
 rw [fLast_app]
 by_cases h : e.x.key = k
 ·rw [if_pos h]
  simp [fLast, isKF_iff.2 h]
 ·have : isKF k e = false := by
   cases hk : isKF k e with
   | false => rfl
   | true => exact absurd (isKF_iff.1 hk) h
  rw [if_neg h]
  simp [fLast, List.find?, this]
end Go.Proofs.YticophaepapjoaaGreatDoor
namespace Go.Proofs.YticophaepapjoaaGreatDoor
open Go Go.RowKit Go.Joins
set_option maxHeartbeats 1000000 in
theorem imay (w : World) (x : It) (hx : x.fits) :
  Calls Tryz.prog 42 #[.agg #[.string x.key, .string x.val, .int .i64 x.till, .bool x.gone]] w fun e w' => e = .returned (.bool x.may) ∧ Keeps (fun _ => True) w w' := by
 obtain ⟨hk, hv, ht1, ht2⟩ := hx
 have cases_ : (decide ((x.key.size : Int) < 1) = true ∧ x.may = false) ∨
   (decide ((x.key.size : Int) < 1) = false ∧ decide ((40 : Int) < (x.key.size : Int)) = true ∧ x.may = false) ∨
   (decide ((x.key.size : Int) < 1) = false ∧ decide ((40 : Int) < (x.key.size : Int)) = false ∧ x.gone = true ∧ (x.val.toList == []) = false ∧ x.may = false) ∨
   (decide ((x.key.size : Int) < 1) = false ∧ decide ((40 : Int) < (x.key.size : Int)) = false ∧ x.gone = true ∧ (x.val.toList == []) = true ∧ (x.till == 0) = false ∧ x.may = false) ∨
   (decide ((x.key.size : Int) < 1) = false ∧ decide ((40 : Int) < (x.key.size : Int)) = false ∧ x.gone = true ∧ (x.val.toList == []) = true ∧ (x.till == 0) = true ∧ x.may = true) ∨
   (decide ((x.key.size : Int) < 1) = false ∧ decide ((40 : Int) < (x.key.size : Int)) = false ∧ x.gone = false ∧ decide ((x.val.size : Int) ≤ 200) = false ∧ x.may = false) ∨
   (decide ((x.key.size : Int) < 1) = false ∧ decide ((40 : Int) < (x.key.size : Int)) = false ∧ x.gone = false ∧ decide ((x.val.size : Int) ≤ 200) = true ∧ decide ((0 : Int) ≤ x.till) = false ∧ x.may = false) ∨
   (decide ((x.key.size : Int) < 1) = false ∧ decide ((40 : Int) < (x.key.size : Int)) = false ∧ x.gone = false ∧ decide ((x.val.size : Int) ≤ 200) = true ∧ decide ((0 : Int) ≤ x.till) = true ∧ decide (x.till ≤ 1099511627776) = false ∧ x.may = false) ∨
   (decide ((x.key.size : Int) < 1) = false ∧ decide ((40 : Int) < (x.key.size : Int)) = false ∧ x.gone = false ∧ decide ((x.val.size : Int) ≤ 200) = true ∧ decide ((0 : Int) ≤ x.till) = true ∧ decide (x.till ≤ 1099511627776) = true ∧ x.may = true) := by
  have e1 : decide ((x.val.size : Int) ≤ 200) = decide (x.val.size ≤ 200) := decide_eq_decide.2 (by omega)
  have e2 : (x.val.toList == []) = decide (x.val.size = 0) := by
   have h := str_same x.val ⟨#[]⟩
   rw [show ByteArray.toList ⟨#[]⟩ = [] from by rw [Lib.toList_data]] at h
   exact h.trans (decide_eq_decide.2 size_zero)
  have e3 : (x.till == 0) = decide (x.till = 0) := rfl
  have e4 : decide ((x.key.size : Int) < 1) = !decide (1 ≤ x.key.size) := by
   by_cases h : 1 ≤ x.key.size
   ·simp [h]; omega
   ·simp [h]; omega
  have e5 : decide ((40 : Int) < (x.key.size : Int)) = !decide (x.key.size ≤ 40) := by
   by_cases h : x.key.size ≤ 40
   ·simp [h]; omega
   ·simp [h]; omega
  have h6 : decide (x.val.size = 0) = true → decide (x.val.size ≤ 200) = true := by simp only [decide_eq_true_eq]; omega
  have h7 : decide (x.till = 0) = true → decide ((0 : Int) ≤ x.till) = true ∧ decide (x.till ≤ 1099511627776) = true := by simp only [decide_eq_true_eq]; omega
  rw [e1, e2, e3, e4, e5]
  unfold It.may
  generalize decide (1 ≤ x.key.size) = b0 at *
  generalize decide (x.key.size ≤ 40) = b1 at *
  generalize decide (x.val.size ≤ 200) = b2 at *
  generalize decide ((0 : Int) ≤ x.till) = b3 at *
  generalize decide (x.till ≤ 1099511627776) = b4 at *
  generalize decide (x.val.size = 0) = b5 at *
  generalize decide (x.till = 0) = b6 at *
  generalize x.gone = b7
  clear e1 e2 e3 e4 e5 hk hv ht1 ht2
  revert b0 b1 b2 b3 b4 b5 b6 b7
  decide
 obtain ⟨key, val, till, gone⟩ := x
 simp only at *
 have HM := Lib.hid (show (⟨key, val, till, gone⟩ : It).may = (⟨key, val, till, gone⟩ : It).may from rfl)
 generalize (⟨key, val, till, gone⟩ : It).may = m at *
 clear HM
 rcases cases_ with ⟨t1, rfl⟩ | ⟨t1, t2, rfl⟩ | ⟨t1, t2, rfl, t3, rfl⟩ | ⟨t1, t2, rfl, t3, t4, rfl⟩ | ⟨t1, t2, rfl, t3, t4, rfl⟩ | ⟨t1, t2, rfl, t3, rfl⟩ | ⟨t1, t2, rfl, t3, t4, rfl⟩ | ⟨t1, t2, rfl, t3, t4, t5, rfl⟩ | ⟨t1, t2, rfl, t3, t4, t5, rfl⟩
 all_goals
  go_enter Tryz.func42, Tryz.ntmps42
  go_wp2_with fail
  go_ret
  exact ⟨by first | rfl | (rw [← t5]; rfl) | (rw [← t4]; rfl), (Keeps.refl _ _).alloc _⟩
set_option maxHeartbeats 1000000 in
theorem ilive (w : World) (x : It) (hx : x.fits) (now : Int) (_hn1 : -9223372036854775808 ≤ now) (_hn2 : now < 9223372036854775808) :
  Calls Tryz.prog 58 #[.agg #[.string x.key, .string x.val, .int .i64 x.till, .bool x.gone], .int .i64 now] w fun e w' => e = .returned (.bool (x.live now)) ∧ Keeps (fun _ => True) w w' := by
 have RM := fun w => imay w x hx
 obtain ⟨hk, hv, ht1, ht2⟩ := hx
 have hc : (x.may = false ∧ x.live now = false) ∨ (x.may = true ∧ x.gone = true ∧ x.live now = false) ∨ (x.may = true ∧ x.gone = false ∧ (x.till == 0) = true ∧ x.live now = true) ∨
   (x.may = true ∧ x.gone = false ∧ (x.till == 0) = false ∧ decide (now < x.till) = true ∧ x.live now = true) ∨ (x.may = true ∧ x.gone = false ∧ (x.till == 0) = false ∧ decide (now < x.till) = false ∧ x.live now = false) := by
  have e3 : (x.till == 0) = decide (x.till = 0) := rfl
  rw [e3]
  unfold It.live
  generalize x.may = b1
  generalize x.gone = b2
  generalize decide (x.till = 0) = b3
  generalize decide (now < x.till) = b4
  revert b1 b2 b3 b4
  decide
 obtain ⟨key, val, till, gone⟩ := x
 simp only at *
 generalize (⟨key, val, till, gone⟩ : It).live now = m at *
 generalize (⟨key, val, till, gone⟩ : It).may = q at *
 rcases hc with ⟨rfl, rfl⟩ | ⟨rfl, rfl, rfl⟩ | ⟨rfl, rfl, t1, rfl⟩ | ⟨rfl, rfl, t1, t2, rfl⟩ | ⟨rfl, rfl, t1, t2, rfl⟩
 all_goals
  go_enter Tryz.func58, Tryz.ntmps58
  go_wp2_with fail
  refine (RM _).mono ?_
  rintro e w1 ⟨rfl, hk1⟩
  have hc2 := hk1.cell (p := ⟨w.heap.size, 2, none⟩) (v := .int .i64 till) ((cell_of_block (heap_alloc_new w _) 2).trans rfl) trivial
  have hc3 := hk1.cell (p := ⟨w.heap.size, 3, none⟩) (v := .bool _) ((cell_of_block (heap_alloc_new w _) 3).trans rfl) trivial
  have HK := Lib.hid (((Keeps.refl (fun _ => True) w).alloc _).trans hk1)
  clear hk1
  go_wp2_with fail
  go_ret
  exact ⟨by first | rfl | (rw [← t2]; rfl), HK.out⟩
section
variable {w : World} {o : Oper} {a : Act} {Q : Exit → Act → World → Prop} {x y : Operand}
theorem kp_fI (i : Nat) (hi : i < 4) {b : Nat} (ho : o.op = .fieldAddr 40 x i) (hx : a.eval x = .pointer (some ⟨b, 0, none⟩)) : o.wp Tryz.prog a w (fun a' w' => ∃ v, a' = a.put o.dst v ∧ Kp w w' ∧ IsV (.pointer (some ⟨b, i, none⟩)) w' v) Q := by
 refine kp_yield (v := .pointer (some ⟨b, i, none⟩)) ?_ (Keeps.refl _ _) rfl
 generalize a.eval = ρ at hx
 unfold execOp
 rw [ho]
 match i, hi with
 | 0, _ => go_simp
 | 1, _ => go_simp
 | 2, _ => go_simp
 | 3, _ => go_simp
theorem kp_lS {p : Addr} {s : ByteArray} (hc : w.cell? p = some (.string s)) (ho : o.op = .load 9 x) (hx : a.eval x = .pointer (some p)) : o.wp Tryz.prog a w (fun a' w' => ∃ v, a' = a.put o.dst v ∧ Kp w w' ∧ IsV (.string s) w' v) Q := by
 refine kp_yield (v := .string s) ?_ (Keeps.refl _ _) rfl
 generalize a.eval = ρ at hx
 unfold execOp
 go_simp
theorem kp_lN {p : Addr} {n : Int} (hc : w.cell? p = some (.int .i64 n)) (ho : o.op = .load 2 x) (hx : a.eval x = .pointer (some p)) : o.wp Tryz.prog a w (fun a' w' => ∃ v, a' = a.put o.dst v ∧ Kp w w' ∧ IsV (.int .i64 n) w' v) Q := by
 refine kp_yield (v := .int .i64 n) ?_ (Keeps.refl _ _) rfl
 generalize a.eval = ρ at hx
 unfold execOp
 go_simp
theorem kp_asO {V : World → Value → Prop} (ho : o.op = .assign x) (hx : V w (a.eval x)) : o.wp Tryz.prog a w (fun a' w' => ∃ v', a' = a.put o.dst v' ∧ Kp w w' ∧ V w' v') Q := by
 refine kp_yield (v := a.eval x) ?_ (Keeps.refl _ _) hx
 unfold execOp; rw [ho]; rfl
def PairV (v1 v2 : Value) : World → Value → Prop := fun w v => ∃ B, v = .slice (some ⟨B, 0, none⟩) 2 2 ∧ Row w (some ⟨B, 0, none⟩) (fun _ => True) [v1, v2]
theorem PairV.keep {v1 v2 v : Value} {w w' : World} (h : Kp w w') (hv : PairV v1 v2 w v) : PairV v1 v2 w' v := by
 obtain ⟨B, e, hr⟩ := hv
 exact ⟨B, e, hr.keep h⟩
theorem kp_twoS {s t : ByteArray} (ho : o.op = .buildSlice 30 2 #[(0, x), (1, y)]) (hx : a.eval x = .string s) (hy : a.eval y = .string t) : o.wp Tryz.prog a w (fun a' w' => ∃ v, a' = a.put o.dst v ∧ Kp w w' ∧ PairV (.string s) (.string t) w' v) Q := by
 refine kp_yield (v := .slice (some ⟨w.heap.size, 0, none⟩) 2 2) (w' := w.alloc (.cells #[.string s, .string t] 9)) ?_ ((Keeps.refl _ w).alloc _) ⟨_, rfl, Row.fresh w #[.string s, .string t] 9 (0, 0) _ rfl trivial _ rfl⟩
 generalize a.eval = ρ at hx hy
 unfold execOp
 go_simp
theorem kp_twoI {s t : Int} (ho : o.op = .buildSlice 106 2 #[(0, x), (1, y)]) (hx : a.eval x = .int .i64 s) (hy : a.eval y = .int .i64 t) : o.wp Tryz.prog a w (fun a' w' => ∃ v, a' = a.put o.dst v ∧ Kp w w' ∧ PairV (.int .i64 s) (.int .i64 t) w' v) Q := by
 refine kp_yield (v := .slice (some ⟨w.heap.size, 0, none⟩) 2 2) (w' := w.alloc (.cells #[.int .i64 s, .int .i64 t] 2)) ?_ ((Keeps.refl _ w).alloc _) ⟨_, rfl, Row.fresh w #[.int .i64 s, .int .i64 t] 2 (0, 0) _ rfl trivial _ rfl⟩
 generalize a.eval = ρ at hx hy
 unfold execOp
 go_simp
end
def MadeB (l : List UInt8) : World → Value → Prop := fun w v => ∃ A c, v = .slice A l.length c ∧ Row w A (fun _ => True) (bcells l)
theorem MadeB.keep {l : List UInt8} {v : Value} {w w' : World} (h : Kp w w') (hv : MadeB l w v) : MadeB l w' v := by
 obtain ⟨A, c, e, hr⟩ := hv
 exact ⟨A, c, e, hr.keep h⟩
def GN : Nat → Option Bool := fun _ => none
theorem GN_is {V : Nat → World → Value → Prop} (g : Nat) (c : Bool) (h : GN g = some c) (w : World) (x : Value) (_ : V g w x) : x = .bool c := by cases h
def VI (base : Nat) (b : Nat) (x : It) (l1 l2 : List UInt8) : Nat → World → Value → Prop
 | 0 => IsV (.pointer (some ⟨b, 0, none⟩))
 | 1 => IsV (.string x.key)
 | 2 => IsV (.pointer (some ⟨b, 1, none⟩))
 | 3 => IsV (.string x.val)
 | 4 => PairV (.string x.key) (.string x.val)
 | 5 => MadeB l1
 | 6 => IsV (.pointer (some ⟨b, 2, none⟩))
 | 7 => IsV (.int .i64 x.till)
 | 8 => IsV (.int .i64 x.flag)
 | 9 => PairV (.int .i64 x.till) (.int .i64 x.flag)
 | 10 => fun w v => OwnB w base v l2
 | 11 => fun w v => OwnB w base v l2
 | _ => fun _ _ => True
theorem VI_keep {base b : Nat} {x : It} {l1 l2 : List UInt8} (i : Nat) (w w' : World) (v : Value) (h : Kp w w') (hv : VI base b x l1 l2 i w v) : VI base b x l1 l2 i w' v := by
 match i, hv with
 | 0, hv => exact hv
 | 1, hv => exact hv
 | 2, hv => exact hv
 | 3, hv => exact hv
 | 4, hv => exact PairV.keep h hv
 | 5, hv => exact MadeB.keep h hv
 | 6, hv => exact hv
 | 7, hv => exact hv
 | 8, hv => exact hv
 | 9, hv => exact PairV.keep h hv
 | 10, hv => exact h.own hv fun _ _ => trivial
 | 11, hv => exact h.own hv fun _ _ => trivial
 | n + 12, _ => trivial
set_option maxRecDepth 100000 in
set_option maxHeartbeats 1000000 in
theorem iencode1 (w : World) (x : It) (hx : x.may = true) :
  Calls Tryz.prog 74 #[.agg #[.string x.key, .string x.val, .int .i64 x.till, .bool x.gone]] w fun e w' => ∃ v, e = .returned v ∧ OwnB w' w.heap.size v x.bytes ∧ Keeps (fun _ => True) w w' := by
 have hm := It.may_is hx
 have hfl := x.flag_bd
 have hgo : (x.gone = false ∧ x.flag = 0) ∨ (x.gone = true ∧ x.flag = 1) := by unfold It.flag; cases x.gone <;> simp
 have hk0 : Kp w (w.alloc (.cells #[.string x.key, .string x.val, .int .i64 x.till, .bool x.gone] 40)) := (Keeps.refl _ w).alloc _
 have b0 := heap_alloc_new w (.cells #[.string x.key, .string x.val, .int .i64 x.till, .bool x.gone] 40)
 have hlt : w.heap.size < (w.alloc (.cells #[.string x.key, .string x.val, .int .i64 x.till, .bool x.gone] 40)).heap.size := by simp
 have HPT := Lib.hid (show ∀ (w3 : World) (B : Nat), Kp w w3 → Row w3 (some ⟨B, 0, none⟩) (fun _ => True) [.string x.key, .string x.val] → Calls Tryz.prog 104 #[.slice none 0 0, .slice (some ⟨B, 0, none⟩) 2 2] w3 fun e w' => ∃ v, e = .returned v ∧ Kp w3 w' ∧ MadeB (putT x.key.data.toList ++ putT x.val.data.toList) w' v from fun w3 B _ hr => by
  refine (show Calls _ _ _ _ _ from put_text none (some ⟨B, 0, none⟩) 0 2 (fun _ => True) (fun _ => True) [] [x.key, x.val] w3 (Row.nil _ _ _) hr (by unfold total; simp; omega) (by simp) (by simp)).mono ?_
  rintro e w' ⟨v, rfl, ho, hk⟩
  have e : ([] : List UInt8) ++ putsT (strs [x.key, x.val]) = putT x.key.data.toList ++ putT x.val.data.toList := by simp [putsT, strs]
  rw [e] at ho
  obtain ⟨A, c, rfl, -, hr⟩ := own_slice ho
  exact ⟨_, rfl, hk, A, c, rfl, hr.mono fun _ _ _ => trivial⟩)
 have hl1 : (putT x.key.data.toList ++ putT x.val.data.toList).length ≤ 1000 := by
  have := It.bytes_len hx
  unfold It.bytes at this
  simp only [List.length_append] at this ⊢
  omega
 have HPN := Lib.hid (show ∀ (w3 : World) (A : Option Addr) (c B : Nat), Kp w w3 → Row w3 A (fun _ => True) (bcells (putT x.key.data.toList ++ putT x.val.data.toList)) → Row w3 (some ⟨B, 0, none⟩) (fun _ => True) [.int .i64 x.till, .int .i64 x.flag] →
   Calls Tryz.prog 79 #[.slice A (putT x.key.data.toList ++ putT x.val.data.toList).length c, .slice (some ⟨B, 0, none⟩) 2 2] w3 fun e w' => ∃ v, e = .returned v ∧ Kp w3 w' ∧ OwnB w' w.heap.size v x.bytes from fun w3 A c B hk hr hr2 => by
  refine (show Calls _ _ _ _ _ from put_any A (some ⟨B, 0, none⟩) c 2 (fun _ => True) (fun _ => True) (putT x.key.data.toList ++ putT x.val.data.toList) [x.till, x.flag] w3 hr hr2 (fun n hn => by
   simp only [List.mem_cons, List.not_mem_nil, or_false] at hn
   rcases hn with rfl | rfl <;> omega) (by omega) (by simp)).mono ?_
  rintro e w' ⟨v, rfl, ho, hk'⟩
  have e : putT x.key.data.toList ++ putT x.val.data.toList ++ putsZ [x.till, x.flag] = x.bytes := by simp [putsZ, It.bytes]
  rw [e] at ho
  exact ⟨v, rfl, hk', ownsRow_le ho hk.size⟩)
 generalize hL1 : putT x.key.data.toList ++ putT x.val.data.toList = l1 at HPT HPN hl1
 generalize hL2 : x.bytes = l2 at HPN ⊢
 clear hL1 hL2
 obtain ⟨w0, hw0⟩ : ∃ w0, w.alloc (.cells #[.string x.key, .string x.val, .int .i64 x.till, .bool x.gone] 40) = w0 := ⟨_, rfl⟩
 rw [hw0] at hk0 b0 hlt
 have HW0 := Lib.hid hw0
 have HK0 := Lib.hid hk0
 have HB0 := Lib.hid b0
 have HFL := Lib.hid hfl
 have c3 := (cell_of_block b0 3).trans rfl
 have HM := Lib.hid hm
 clear hm hw0 hk0 hfl b0
 rcases hgo with ⟨hg, hf⟩ | ⟨hg, hf⟩
 all_goals
  rw [hg] at c3
  have HG := Lib.hid hg
  have HF := Lib.hid hf
  clear hg hf
  go_enter Tryz.func74, Tryz.ntmps74
  go_wp2_with (rw [HW0.out])
  try rw [HW0.out]
  refine wp_region_guard (R := Kp) (V := VI w.heap.size w.heap.size x l1 l2) (w0 := w0) GN (by kernel_rfl) (fun w => Keeps.refl _ w) (fun _ _ _ h k => h.trans k) (fun i w w' v h hv => VI_keep i w w' v h hv) (by kernel_rfl) GN_is (fun i o ho hw => (all_wanted (by kernel_rfl) ho hw).elim) ((Keeps.refl _ w0).drew) (each_of ?_) ?_
  ·refine ⟨?_, ?_, ?_, ?_, ?_, ?_, ?_, ?_, ?_, ?_, ?_, ?_, trivial⟩ <;> intro hw a1 w3 L
   ·exact kp_fI 0 (by decide) rfl (L.old 1 (by kernel_rfl))
   ·have hb := (L.rel.block w.heap.size trivial hlt).trans HB0.out
    exact kp_lS ((cell_of_block hb 0).trans rfl) rfl (L.val 0 6 (by kernel_rfl) (by kernel_rfl))
   ·exact kp_fI 1 (by decide) rfl (L.old 1 (by kernel_rfl))
   ·have hb := (L.rel.block w.heap.size trivial hlt).trans HB0.out
    exact kp_lS ((cell_of_block hb 1).trans rfl) rfl (L.val 2 8 (by kernel_rfl) (by kernel_rfl))
   ·exact kp_twoS rfl (L.val 1 7 (by kernel_rfl) (by kernel_rfl)) (L.val 3 9 (by kernel_rfl) (by kernel_rfl))
   ·obtain ⟨B, e0, hr⟩ := (show PairV (.string x.key) (.string x.val) w3 (a1.eval (.tmp 10)) from L.val 4 10 (by kernel_rfl) (by kernel_rfl))
    have hf : a1.eval (.func 104) = .func (.func 104) #[] #[] := rfl
    have hn : a1.eval (.const (.slice none 0 0)) = .slice none 0 0 := rfl
    refine kp_enter (f := 104) (args := #[.slice none 0 0, .slice (some ⟨B, 0, none⟩) 2 2]) ?_ (HPT.out w3 B (HK0.out.trans L.rel) hr) ?_
    ·clear L
     generalize a1.eval = ρ at e0 hf hn ⊢
     unfold execOp
     go_simp
    ·rintro e w' ⟨v, rfl, hk, hv⟩
     exact ⟨v, rfl, hk, hv⟩
   ·exact kp_fI 2 (by decide) rfl (L.old 1 (by kernel_rfl))
   ·have hb := (L.rel.block w.heap.size trivial hlt).trans HB0.out
    exact kp_lN ((cell_of_block hb 2).trans rfl) rfl (L.val 6 12 (by kernel_rfl) (by kernel_rfl))
   ·exact kp_move (v := .int .i64 x.flag) rfl (by rw [HF.out]; exact L.old 3 (by kernel_rfl))
   ·exact kp_twoI rfl (L.val 7 13 (by kernel_rfl) (by kernel_rfl)) (L.val 8 14 (by kernel_rfl) (by kernel_rfl))
   ·obtain ⟨A, c, e0, hr⟩ := (show MadeB l1 w3 (a1.eval (.tmp 11)) from L.val 5 11 (by kernel_rfl) (by kernel_rfl))
    obtain ⟨B, e1, hr2⟩ := (show PairV (.int .i64 x.till) (.int .i64 x.flag) w3 (a1.eval (.tmp 15)) from L.val 9 15 (by kernel_rfl) (by kernel_rfl))
    have hf : a1.eval (.func 79) = .func (.func 79) #[] #[] := rfl
    refine kp_enter (f := 79) (args := #[.slice A l1.length c, .slice (some ⟨B, 0, none⟩) 2 2]) ?_ (HPN.out w3 A c B (HK0.out.trans L.rel) hr hr2) ?_
    ·clear L
     generalize a1.eval = ρ at e0 e1 hf ⊢
     unfold execOp
     go_simp
    ·rintro e w' ⟨v, rfl, hk, hv⟩
     exact ⟨v, rfl, hk, hv⟩
   ·have h10 : OwnB w3 w.heap.size (a1.eval (.tmp 16)) l2 := L.val 10 16 (by kernel_rfl) (by kernel_rfl)
    exact kp_asO rfl h10
  ·intro vs w4 hk4 hlen4 hv
   match vs, hlen4 with
   | [v0, v1, v2, v3, v4, v5, v6, v7, v8, v9, v10, v11], _ =>
    have hv4 : OwnB w4 w.heap.size v11 l2 := hv 11 2 (by kernel_rfl)
    have HV := Lib.hid hv4
    have HK4 := Lib.hid (HK0.out.trans hk4)
    clear hv hv4 hk4
    simp only [putAll, List.map, Act.put, List.setIfInBounds_toArray, List.set_cons_succ, List.set_cons_zero, Exit.then]
    go_wp2_with fail
    go_ret
    exact ⟨_, rfl, HV.out, HK4.out⟩
end Go.Proofs.YticophaepapjoaaGreatDoor
namespace Go.Proofs.YticophaepapjoaaGreatDoor
def foN (k x : Nat) : Nat := x ^^^ x / 2 ^ k
def stN (x : Nat) : Nat :=
 foN 31 (foN 27 (foN 30 x * 13787848793156543929 % 18446744073709551616) * 10723151780598845931 % 18446744073709551616)
theorem foN_lt (k x : Nat) (h : x < 18446744073709551616) : foN k x < 18446744073709551616 :=
 Nat.xor_lt_two_pow (n := 64) h (Nat.lt_of_le_of_lt (Nat.div_le_self _ _) h)
theorem stN_lt (x : Nat) : stN x < 18446744073709551616 := foN_lt 31 _ (Nat.mod_lt _ (by decide))
end Go.Proofs.YticophaepapjoaaGreatDoor
namespace Go.Proofs.YticophaepapjoaaGreatDoor
open Go.RowKit
theorem fo_shift (k n : Nat) (h : n < 18446744073709551616) : bits .xor .u64 (n : Int) ((n : Int) / ((2 ^ k : Nat) : Int)) = ((foN k n : Nat) : Int) :=
 xorShift_u64 n (2 ^ k) h
theorem fo_step (k n C : Nat) (h : n < 18446744073709551616) :
  IntKind.u64.wrap (bits .xor .u64 (n : Int) ((n : Int) / ((2 ^ k : Nat) : Int)) * (C : Int)) = ((foN k n * C % 18446744073709551616 : Nat) : Int) :=
 mixStep_u64 n (2 ^ k) C h
theorem st_shift (x : Nat) (h : x < 18446744073709551616) (A B : Int)
  (hA : A = IntKind.u64.wrap (bits .xor .u64 (x : Int) ((x : Int) / 1073741824) * 13787848793156543929))
  (hB : B = IntKind.u64.wrap (bits .xor .u64 A (A / 134217728) * 10723151780598845931)) :
  bits .xor .u64 B (B / 2147483648) = ((stN x : Nat) : Int) := by
 have e1 : A = ((foN 30 x * 13787848793156543929 % 18446744073709551616 : Nat) : Int) := hA.trans (fo_step 30 x 13787848793156543929 h)
 have e2 : B = ((foN 27 (foN 30 x * 13787848793156543929 % 18446744073709551616) * 10723151780598845931 % 18446744073709551616 : Nat) : Int) := by
  rw [hB, e1]; exact fo_step 27 _ 10723151780598845931 (Nat.mod_lt _ (by decide))
 rw [e2]
 exact fo_shift 31 _ (Nat.mod_lt _ (by decide))
theorem ret_u64 {a b : Int} (h : a = b) : Ending.returned (.int .u64 a) = .returned (.int .u64 b) := by rw [h]
theorem stir_nat (x : Nat) (hx : x < 18446744073709551616) (w : World) :
  Calls Tryz.prog 130 #[.int .u64 (x : Int)] w fun e w' => e = .returned (.int .u64 ((stN x : Nat) : Int)) ∧ w = w' := by
 go_enter Tryz.func130, Tryz.ntmps130
 go_wp2
 go_ret
 exact ⟨ret_u64 (st_shift x hx _ _ rfl rfl), rfl⟩
def stZ (x : Int) : Int := ((stN x.toNat : Nat) : Int)
theorem stZ_nonneg (x : Int) : 0 ≤ stZ x := Int.natCast_nonneg _
theorem stZ_lt (x : Int) : stZ x < 18446744073709551616 := by have := stN_lt x.toNat; unfold stZ; omega
theorem stir_any (x : Int) (hx : 0 ≤ x) (lx : x < 18446744073709551616) (w : World) :
  Calls Tryz.prog 130 #[.int .u64 x] w fun e w' => e = .returned (.int .u64 (stZ x)) ∧ w = w' := by
 have h := stir_nat x.toNat (by omega) w
 rw [Int.toNat_of_nonneg hx] at h
 exact h
theorem xor_nonneg (a b : Int) : 0 ≤ bits .xor .u64 a b := by
 show 0 ≤ IntKind.u64.wrap _
 rw [IntKind.wrap_u64]; omega
theorem xor_lt (a b : Int) : bits .xor .u64 a b < 18446744073709551616 := by
 show IntKind.u64.wrap _ < _
 rw [IntKind.wrap_u64]; omega
end Go.Proofs.YticophaepapjoaaGreatDoor
namespace Go.Proofs.YticophaepapjoaaGreatDoor
open Go Go.RowKit Go.Joins Go.Shelf
attribute [local go_sem] Oper.semAt_some
def chunks (len : Nat) : Nat := (len + 52) / 53
def chLen (len k : Nat) : Nat := min 53 (len - 53 * k)
def encCh (g o len k : Nat) : Array Value := #[.slice (some ⟨g, o + 53 * k, none⟩) (chLen len k) (chLen len k)]
def KpB (Bs Bn : Nat) (W W' : World) : Prop := Keeps (fun b => b = Bs ∨ b = Bn) W W'
set_option maxRecDepth 100000 in
set_option maxHeartbeats 1000000 in
theorem chunk1_in (F : Fence) (n : Nat) (hfn : F.fn 172) (hro : F.round = none) (hn : 1 ≤ n) (l Bs Bn g o len cap : Nat) (hlc : len ≤ cap) (hlm : len ≤ 1000000000000) (J Jx : List Nat → World → Prop) (hJd : ∀ s W, J s W → J s W.drew)
  (hY : ∀ pre x W, J pre W → pre.length < chunks len → YieldAt F (n - 1) Tryz.prog l (encCh g o len x) W fun e W' =>
   (e = .returned (.bool true) ∧ J (pre ++ [x]) W' ∧ KpB Bs Bn W W') ∨ (e = .returned (.bool false) ∧ Jx (pre ++ [x]) W'))
  (W : World) (hBs : W.cell? ⟨Bs, 0, none⟩ = some (.slice (some ⟨g, o, none⟩) len cap)) (hBn : W.cell? ⟨Bn, 0, none⟩ = some (.int .i64 53)) (h0 : J [] W) :
  CallsIn F n Tryz.prog 172 #[.func (.yield l) #[] #[], .pointer (some ⟨Bs, 0, none⟩), .pointer (some ⟨Bn, 0, none⟩)] W fun e W' => (∃ v, e = .returned v) ∧
   ((∃ ys, ys = List.range (chunks len) ∧ J ys W') ∨ (∃ pre, (∃ k, k ≤ chunks len ∧ pre = List.range k) ∧ Jx pre W')) := by
 refine callsIn_of_wp Tryz.func172 rfl hfn ?_ hro
 simp only [Tryz.ntmps172, List.size_toArray, List.length_cons, List.length_nil, Nat.reduceAdd, Nat.reduceSub, Array.replicate_succ, Array.replicate_zero, List.push_toArray, List.append_toArray, List.nil_append, List.cons_append]
 have HY := Lib.hid hY
 have HBs := Lib.hid hBs
 have HBn := Lib.hid hBn
 clear hY hBs hBn
 gi_wp2
 gi_loopw [4] (fun vi wr => ∃ k i : Nat, RowKit.Hid (i = 53 * k) ∧ k ≤ chunks len ∧ vi = .int .i64 i ∧ J (List.range k) wr ∧ KpB Bs Bn W wr)
  (fun vi _ => len + 53 - (intOf vi).toNat)
 case atStart => exact ⟨0, 0, Lib.hid rfl, Nat.zero_le _, rfl, h0, Keeps.refl _ _⟩
 case round =>
  obtain ⟨k, i, hi, hk, rfl, hJs, hkp⟩ := hrel
  have cs := hkp.cell HBs.out (.inl rfl)
  have cn := hkp.cell HBn.out (.inr rfl)
  by_cases hlt : k < chunks len
  ·have hil : i < len := by have := hi.out; unfold chunks at hlt; omega
   obtain ⟨e, he⟩ : ∃ e, chLen len k = e := ⟨_, rfl⟩
   obtain ⟨fn, tmps, assign, body, hy, hR⟩ := HY.out _ k wr.drew (hJd _ _ hJs) (by rw [List.length_range]; exact hlt)
   have hee : e = min 53 (len - i) := by rw [← he, hi.out]; rfl
   have hHI := Lib.hid hi.out
   have hy' : (Instr.yield l #[.slice (some ⟨g, o + i, none⟩) e e]).run Tryz.prog wr.drew = .ok (.round l fn tmps assign body) wr.drew := by
    have h := hy
    unfold encCh at h
    rw [he, ← hi.out] at h
    exact h
   have hmin : min (53 : Int) ((len - i : Nat) : Int) = (e : Int) := by omega
   have hne : ¬ cap = i := by omega
   have h1 : i ≤ len := by omega
   have h2 : i ≤ cap := by omega
   have h3 : i + e ≤ cap := by omega
   have h4 : i ≤ i + e := by omega
   have HEE := Lib.hid hee
   have HK := Lib.hid hkp
   clear hy he hee hi hkp
   gi_wp2
   gi_region
   all_goals gi_wp2
   all_goals refine hR.mono ?_
   all_goals rintro e' W3 (⟨rfl, hJ3, hk3⟩ | ⟨rfl, hJx3⟩)
   all_goals first
    | (have cs := hk3.cell cs (.inl rfl)
       have cn := hk3.cell cn (.inr rfl)
       gi_wp2
       go_roundw
       case rel => exact ⟨k + 1, i + 53, Lib.hid (by have := hHI.out; omega), by omega, by go_num, by rw [List.range_succ]; exact hJ3, HK.out.drew.trans hk3⟩
       case measure => simp [intOf]; omega)
    | (gi_wp2
       refine bodyPost_ret (results_none rfl _ _ _) rfl ?_
       exact ⟨⟨_, rfl⟩, .inr ⟨_, ⟨k + 1, by omega, (List.range_succ).symm⟩, hJx3⟩⟩)
  ·obtain rfl : k = chunks len := by omega
   have hil : ¬ (i : Int) < (len : Int) := by have := hi.out; unfold chunks at this; omega
   gi_wp2
   go_end0
   exact ⟨⟨_, rfl⟩, .inl hJs⟩
end Go.Proofs.YticophaepapjoaaGreatDoor
namespace Go.Proofs.YticophaepapjoaaGreatDoor
open Go Go.RowKit
section
variable {P : Program} {ops : Array Oper} {Q : Exit → Act → World → Prop} {V : Nat → World → Value → Prop} {a0 : Act} {w0 : World} {G : Nat → Option Bool} {St : Bool → World → Prop} {Rk : World → World → Prop} {k : Nat}
theorem rowsIn_wide' {n : Nat} {row : String} {args : Array Value} {w : World} {R : Value → World → Prop} (h : Rows P row args w R) : RowsIn Fence.wide n P row args w R := fun c cs _ =>
 let ⟨v, w', r, s⟩ := h c cs
 ⟨v, w', r, stepsIn_wide.2 s⟩
theorem wpIn_round_of_wp {n l : Nat} {o : Oper} {a : Act} {w : World} {K : Act → World → Prop} (hd : ∀ c, o.op ≠ .defer c) (hh : o.wp P a w K Q) : o.wpIn (Fence.wide.inRound l) n P a w K Q := by
 refine ⟨fun _ _ => trivial, ?_⟩
 show o.uponIn (Fence.wide.inRound l) n P a K Q ((o.semAt (some l) a.eval).run P w)
 rw [Oper.semAt_some l a.eval o hd]
 unfold Oper.wp at hh
 have hdep : ((Fence.wide.inRound l).depth.isSome = true → 1 ≤ n) := fun h => by cases h
 generalize (execOp a.eval o).run P w = r at hh ⊢
 cases r with
 | ok x w' =>
  cases x with
  | value v => exact hh
  | skip => exact hh
  | «defer» d => exact hh
  | enter f args => exact ⟨hdep, CallsIn.inRound l (callsIn_wide.2 hh)⟩
  | row row args => exact ⟨hdep, rowsIn_wide' hh⟩
  | _ => exact hh.elim
 | halt x w' => cases x <;> exact hh
theorem wpIn_region_one {n lp id : Nat} {w : World} (k : Nat) (St : Bool → World → Prop) (Rk : World → World → Prop) (G : Nat → Option Bool) (hm : P.follows .mixedOrders = true) (hnd : ∀ o ∈ ops, ∀ c, o.op ≠ .defer c)
  (hV : ∀ i w w' v, Kp w w' → V i w v → V i w' v) (hS : ∀ b w w', Kp w w' → St b w → St b w') (hVk : ∀ i, i ≠ k → ∀ w w' v, Rk w w' → V i w v → V i w' v)
  (hfit : fitsG G ops a0.tmps.size = true) (hk : k < ops.size) (hG : ∀ g c, G g = some c → ∀ w v, V g w v → v = .bool c) (hU : ∀ (i : Nat) (o : Oper), ops[i]? = some o → wantsG G o = false → i ≠ k ∧ V i = IsV undef) (hw : St false w.drew)
  (loc : ∀ (i : Nat) (o : Oper), ops[i]? = some o → wantsG G o = true → ∀ a w, Leans (fun _ _ => True) V ops a0 w0 i a w →
   if i = k then (St false w → o.wp P a w (fun a' w' => ∃ v, a' = a.put o.dst v ∧ Rk w w' ∧ St true w' ∧ V i w' v) Q)
   else (∀ b, St b w → (∀ js, chained ops k i js = true → b = true) → o.wp P a w (fun a' w' => ∃ v, a' = a.put o.dst v ∧ Kp w w' ∧ V i w' v) Q))
  (done : ∀ vs w, St true w → vs.length = ops.size → (∀ i d, dstOf ops i = some d → V i w (vs.getD i undef)) → Q .normal (putAll a0 (ops.toList.map (·.dst)) vs) w) :
  (Code.region id ops true).wpIn (Fence.wide.inRound lp) n P Q a0 w := by
 have look : ∀ (i : Nat) (o : Oper), ops[i]? = some o → (∀ g b, o.guard = some (g, b) → waits ops i g = true ∧ (dstOf ops g).isSome = true ∧ ((G g).isSome = true ∨ ∃ o', ops[g]? = some o' ∧ wantsG G o' = false)) ∧ (∀ e ∈ o.after, Region.binds .any e = true → e.on < i) ∧ (∀ d, o.dst = some d → d < a0.tmps.size) ∧ (∀ j, i ≠ j → ∀ d, o.dst = some d → dstOf ops j ≠ some d) := by
  intro i o ho
  have hi : i < ops.size := (Array.getElem?_eq_some_iff.1 ho).1
  have h := List.all_eq_true.1 hfit i (List.mem_range.2 hi)
  simp only [ho, Option.all_some, Bool.and_eq_true] at h
  obtain ⟨⟨⟨h1, h2⟩, h3⟩, h4⟩ := h
  refine ⟨fun g b hgb => ?_, fun e he hb => ?_, fun d hd => ?_, fun j hj d hd hx => ?_⟩
  ·rw [hgb] at h1
   simp only [Bool.and_eq_true, Bool.or_eq_true] at h1
   refine ⟨h1.1.1, h1.1.2, h1.2.imp (fun hx => hx) fun hx => ?_⟩
   cases ho' : ops[g]? with
   | none => rw [ho'] at hx; cases hx
   | some o' =>
    rw [ho'] at hx
    exact ⟨o', rfl, by simpa using hx⟩
  ·have := Array.all_eq_true_iff_forall_mem.1 h2 e he
   simpa [hb] using this
  ·rw [hd] at h3; simpa using h3
  ·have hjs : j < ops.size := by
    rcases Nat.lt_or_ge j ops.size with h' | h'
    ·exact h'
    ·simp [dstOf, Array.getElem?_eq_none h'] at hx
   have := List.all_eq_true.1 h4 j (List.mem_range.2 hjs)
   rw [hd, hx] at this
   simp [hj] at this
 have some_of : ∀ i d, dstOf ops i = some d → ∃ o, ops[i]? = some o ∧ o.dst = some d := fun i d h => by
  unfold dstOf at h
  cases ho : ops[i]? with
  | none => simp [ho] at h
  | some o => exact ⟨o, rfl, by simpa [ho] using h⟩
 have hd : ∀ i j d, dstOf ops i = some d → dstOf ops j = some d → i = j := by
  intro i j d hi hj
  obtain ⟨o, ho, hd⟩ := some_of i d hi
  exact Classical.byContradiction fun hne => (look i o ho).2.2.2 j hne d hd hj
 have hb : ∀ i d, dstOf ops i = some d → d < a0.tmps.size := by
  intro i d hi
  obtain ⟨o, ho, hd⟩ := some_of i d hi
  exact (look i o ho).2.2.1 d hd
 have hac : ∀ i j, waits ops i j = true → j < i := by
  intro i j h
  obtain ⟨o, ho, e, he, hb, rfl⟩ := (waits_iff i j).1 h
  exact (look i o ho).2.1 e he hb
 have fin : ∀ (l : Array Bool) (a : Act) (w' : World), (∀ i, i < ops.size → l.getD i false = true) → StandsAt (fun _ _ => True) V ops a0 w0 l a w' → St (l.getD k false) w' → Q .normal a w' := by
  intro l a w' hall h hs
  rw [hall k hk] at hs
  have hlen : ((ops.toList.map (·.dst)).map (slotOf a)).length = ops.size := by simp
  have hq := done ((ops.toList.map (·.dst)).map (slotOf a)) w' hs hlen (fun i d hid => by
   obtain ⟨o, ho, hd⟩ := some_of i d hid
   have hi : i < ops.size := (Array.getElem?_eq_some_iff.1 ho).1
   have hv := h.val i d (hall i hi) hid
   have e : ((ops.toList.map (·.dst)).map (slotOf a)).getD i undef = a.tmps.getD d undef := by
    rw [List.getD_eq_getElem?_getD, List.getElem?_map, List.getElem?_map, Array.getElem?_toList, ho]
    simp [hd, slotOf]
   rw [e]; exact hv)
  rw [← putAll_of a _ a0 h.defers h.tmps ?_ ?_] at hq
  ·exact hq
  ·intro d hd
   obtain ⟨o, ho, hod⟩ := List.mem_map.1 hd
   obtain ⟨i, hi, rfl⟩ := List.getElem_of_mem ho
   exact (look i ops[i] (by simp at hi; simp [hi])).2.2.1 d (by simpa using hod)
  ·intro t ht
   refine h.old t fun i _ hid => ht ?_
   obtain ⟨o, ho, hd⟩ := some_of i t hid
   refine List.mem_map.2 ⟨o, ?_, hd⟩
   rw [← Array.mem_def]
   exact Array.mem_of_getElem? ho
 have go : ∀ (fuel : Nat) (l : Array Bool) (a : Act) (w : World), (leftOver ops.size l).length ≤ fuel → StandsAt (fun _ _ => True) V ops a0 w0 l a w → St (l.getD k false) w → wpAnyIn (Fence.wide.inRound lp) n P .any ops Q fuel l a w := by
  intro fuel
  induction fuel with
  | zero =>
   intro l a w hf h hs
   have hn : leftOver ops.size l = [] := List.eq_nil_of_length_eq_zero (by omega)
   have hnot : ∀ i, i < ops.size → l.getD i false = true := fun i hi => by
    have hm : i ∉ leftOver ops.size l := by rw [hn]; simp
    have hl' : i < l.size := by rw [h.size]; exact hi
    unfold leftOver at hm
    simp only [List.mem_filter, List.mem_range, hi, true_and, Array.getD, hl'] at hm ⊢
    simpa using hm
   refine ⟨?_, fin l a w hnot h hs⟩
   refine List.eq_nil_iff_forall_not_mem.2 fun i hi => ?_
   have hm := (mem_ready.1 hi).1
   have hx := getD_false_of hm
   rw [hnot i (by rw [← h.size]; exact hx.2)] at hx
   exact absurd hx.1 (by simp)
  | succ fuel ih =>
   intro l a w hf h hs
   refine ⟨fun hr => fin l a w (all_listed hac h.size hr) h hs, fun i hi => ?_⟩
   obtain ⟨hl, o, ho, hall⟩ := mem_ready.1 hi
   have hwt : ∀ j, waits ops i j = true → l.getD j false = true := fun j hj => by
    obtain ⟨o', ho', e, he, hb', rfl⟩ := (waits_iff i j).1 hj
    rw [ho] at ho'; cases ho'
    exact hall e he hb'
   have hdst : o.dst = dstOf ops i := by simp [dstOf, ho]
   have hleft : (leftOver ops.size (l.setIfInBounds i true)).length ≤ fuel := by
    have := leftOver_set ops.size l i (by rw [← h.size]; exact (getD_false_of hl).2) hl
    omega
   have hwant := wanted_is (h.leans hl hwt) (fun j d hj => by rw [h.tmps]; exact hb j d hj) (look i o ho).1 hG (fun i o ho hw => (hU i o ho hw).2)
   have hset : ∀ (hne : i ≠ k), (l.setIfInBounds i true).getD k false = l.getD k false := fun hne => getD_set_ne false hne
   have hloc := loc i o ho
   unfold wpOpIn
   cases hwo : wantsG G o
   ·rw [hwo] at hwant
    obtain ⟨hne, hu⟩ := hU i o ho hwo
    simp only [ho, hwant, Bool.false_eq_true, if_false]
    rw [hdst]
    exact ⟨fun _ _ => trivial, ih _ _ _ hleft (h.step' trivial (fun _ => trivial) hd hb hl (fun _ _ _ hh => hh) hwt (by rw [hu]; rfl)) (by rw [hset hne]; exact hs)⟩
   ·rw [hwo] at hwant
    simp only [ho, hwant, if_true]
    have hlc := hloc hwo a w (h.leans hl hwt)
    by_cases hik : i = k
    ·subst hik
     rw [if_pos rfl] at hlc
     have hlf := (getD_false_of hl).1
     rw [hlf] at hs
     refine wpIn_round_of_wp (hnd o (Array.mem_of_getElem? ho)) (Oper.wp_mono (fun a' w' hk' => ?_) (hlc hs))
     obtain ⟨v, rfl, hr, hst, hv⟩ := hk'
     rw [hdst]
     refine ih _ _ _ hleft (h.step' trivial (fun _ => trivial) hd hb hl (fun j u hj hu => ?_) hwt hv) (by
      have : (l.setIfInBounds i true).getD i false = true := by simp [(getD_false_of hl).2]
      rw [this]; exact hst)
     exact hVk j (fun e => by subst e; rw [hj] at hlf; cases hlf) w w' u hr hu
    ·rw [if_neg hik] at hlc
     refine wpIn_round_of_wp (hnd o (Array.mem_of_getElem? ho)) (Oper.wp_mono (fun a' w' hk' => ?_) (hlc _ hs (fun js hbh => chained_listed h js i hwt hbh)))
     obtain ⟨v, rfl, hr, hv⟩ := hk'
     rw [hdst]
     exact ih _ _ _ hleft (h.step' trivial (fun _ => trivial) hd hb hl (fun j u _ hu => hV j w w' u hr hu) hwt hv) (by rw [hset hik]; exact hS _ _ _ hr hs)
 refine wpIn_region_any hm ?_
 refine go ops.size _ a0 _ ?_ ?_ ?_
 ·refine Nat.le_trans (List.length_filter_le _ _) ?_
  simp
 ·refine ⟨by simp, trivial, rfl, rfl, fun _ _ => rfl, ?_, ?_⟩
  ·intro i d h; exact absurd h (by simp [Array.getD])
  ·intro i j h; exact absurd h (by simp [Array.getD])
 ·have : (Array.replicate ops.size false).getD k false = false := by simp [Array.getD]
  rw [this]; exact hw
end
end Go.Proofs.YticophaepapjoaaGreatDoor
