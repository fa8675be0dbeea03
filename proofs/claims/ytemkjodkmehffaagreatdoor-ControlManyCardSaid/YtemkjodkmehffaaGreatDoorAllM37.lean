/-
  MsOks: texts of mine, joined.
-/
import Derived.Test.YtemkjodkmehffaaGreatDoorAllM06
import Derived.Test.YtemkjodkmehffaaGreatDoorAllM17
import Derived.Test.YtemkjodkmehffaaGreatDoorAllM21
namespace Go.Proofs.YtemkjodkmehffaaGreatDoor
open Go Go.RowKit Go.Joins
def withinB (lo hi : Int) (l : List Int) : Bool := l.all fun z => decide (lo ≤ z) && decide (z ≤ hi)
theorem withinB_next {lo hi : Int} {l : List Int} {k : Nat} (h : k < l.length) (hk : withinB lo hi (l.take k) = true) (h1 : lo ≤ l[k]) (h2 : l[k] ≤ hi) : withinB lo hi (l.take (k + 1)) = true := by
 unfold withinB at hk ⊢
 rw [List.take_succ_eq_append_getElem h, List.all_append, hk]
 simp [h1, h2]
theorem withinB_no {lo hi : Int} {l : List Int} {k : Nat} (h : k < l.length) (hz : l[k] < lo ∨ hi < l[k]) : withinB lo hi l = false := by
 cases hb : withinB lo hi l with
 | false => rfl
 | true =>
  have := List.all_eq_true.1 hb l[k] (List.getElem_mem h)
  simp only [Bool.and_eq_true, decide_eq_true_eq] at this
  omega
set_option maxRecDepth 100000 in
set_option maxHeartbeats 1000000 in
theorem within_int (lo hi : Int) (A : Option Addr) (c : Nat) (l : List Int) (w : World) (hr : Row w A (fun _ => True) (l.map (Value.int .i64))) (hl : l.length ≤ c) (hc : c ≤ maxLen) :
  Calls Tryz.prog 59 #[.int .i64 lo, .int .i64 hi, .slice A l.length c] w fun e w' => e = .returned (.bool (withinB lo hi l)) ∧ w = w' := by
 have HR := Lib.hid hr
 unfold maxLen at hc
 have HT := Lib.hid (show withinB lo hi (l.take l.length) = withinB lo hi l from by rw [List.take_length])
 clear hr
 go_enter Tryz.func59, Tryz.ntmps59
 go_wp2_with fail
 go_loop [11] (fun i => ∃ k : Nat, k ≤ l.length ∧ i = .int .i64 (k : Int) ∧ Hid (withinB lo hi (l.take k) = true)) (fun i => l.length - (intOf i).toNat)
 case atStart => exact ⟨0, Nat.zero_le _, rfl, Lib.hid (by simp [withinB])⟩
 case round =>
  obtain ⟨k, hk, rfl, HJ⟩ := hrel
  by_cases hlt : k < l.length
  ·have hlt' : (k : Int) < (l.length : Int) := by omega
   obtain ⟨b, o, rfl, -, c0⟩ := HR.out.at_ (k := k) (by simpa using hlt)
   rw [List.getElem_map] at c0
   have HN := Lib.hid (fun h1 h2 => withinB_next (lo := lo) (hi := hi) hlt HJ.out h1 h2)
   have HX := Lib.hid (fun h => withinB_no (lo := lo) (hi := hi) hlt h)
   generalize l[k] = x at c0 HN HX
   have hcs : decide (x < lo) = true ∨ (decide (x < lo) = false ∧ decide (hi < x) = true) ∨ (decide (x < lo) = false ∧ decide (hi < x) = false) := by
    cases decide (x < lo) <;> cases decide (hi < x) <;> simp
   rcases hcs with t | ⟨t, t1⟩ | ⟨t, t1⟩
   ·have HF := Lib.hid (HX.out (.inl (of_decide_eq_true t)))
    go_wp2_with fail
    go_ret
    exact ⟨by rw [HF.out]; rfl, rfl⟩
   ·have HF := Lib.hid (HX.out (.inr (of_decide_eq_true t1)))
    go_wp2_with fail
    go_ret
    exact ⟨by rw [HF.out]; rfl, rfl⟩
   ·have HF := Lib.hid (HN.out (by have := of_decide_eq_false t; omega) (by have := of_decide_eq_false t1; omega))
    clear HN HX HJ
    go_wp2_with fail
    go_round
    case rel => exact ⟨k + 1, hlt, by go_num, HF⟩
    case measure => simp [intOf]; omega
  ·obtain rfl : k = l.length := by omega
   have hlt' : ¬ ((l.length : Int) < (l.length : Int)) := by omega
   clear hlt
   go_wp2_with fail
   go_ret
   exact ⟨by rw [← HT.out, HJ.out]; rfl, rfl⟩
set_option maxRecDepth 100000 in
set_option maxHeartbeats 1000000 in
theorem within_int64 (lo hi : Int) (A : Option Addr) (c : Nat) (l : List Int) (w : World) (hr : Row w A (fun _ => True) (l.map (Value.int .i64))) (hl : l.length ≤ c) (hc : c ≤ maxLen) :
  Calls Tryz.prog 60 #[.int .i64 lo, .int .i64 hi, .slice A l.length c] w fun e w' => e = .returned (.bool (withinB lo hi l)) ∧ w = w' := by
 have HR := Lib.hid hr
 unfold maxLen at hc
 have HT := Lib.hid (show withinB lo hi (l.take l.length) = withinB lo hi l from by rw [List.take_length])
 clear hr
 go_enter Tryz.func60, Tryz.ntmps60
 go_wp2_with fail
 go_loop [11] (fun i => ∃ k : Nat, k ≤ l.length ∧ i = .int .i64 (k : Int) ∧ Hid (withinB lo hi (l.take k) = true)) (fun i => l.length - (intOf i).toNat)
 case atStart => exact ⟨0, Nat.zero_le _, rfl, Lib.hid (by simp [withinB])⟩
 case round =>
  obtain ⟨k, hk, rfl, HJ⟩ := hrel
  by_cases hlt : k < l.length
  ·have hlt' : (k : Int) < (l.length : Int) := by omega
   obtain ⟨b, o, rfl, -, c0⟩ := HR.out.at_ (k := k) (by simpa using hlt)
   rw [List.getElem_map] at c0
   have HN := Lib.hid (fun h1 h2 => withinB_next (lo := lo) (hi := hi) hlt HJ.out h1 h2)
   have HX := Lib.hid (fun h => withinB_no (lo := lo) (hi := hi) hlt h)
   generalize l[k] = x at c0 HN HX
   have hcs : decide (x < lo) = true ∨ (decide (x < lo) = false ∧ decide (hi < x) = true) ∨ (decide (x < lo) = false ∧ decide (hi < x) = false) := by
    cases decide (x < lo) <;> cases decide (hi < x) <;> simp
   rcases hcs with t | ⟨t, t1⟩ | ⟨t, t1⟩
   ·have HF := Lib.hid (HX.out (.inl (of_decide_eq_true t)))
    go_wp2_with fail
    go_ret
    exact ⟨by rw [HF.out]; rfl, rfl⟩
   ·have HF := Lib.hid (HX.out (.inr (of_decide_eq_true t1)))
    go_wp2_with fail
    go_ret
    exact ⟨by rw [HF.out]; rfl, rfl⟩
   ·have HF := Lib.hid (HN.out (by have := of_decide_eq_false t; omega) (by have := of_decide_eq_false t1; omega))
    clear HN HX HJ
    go_wp2_with fail
    go_round
    case rel => exact ⟨k + 1, hlt, by go_num, HF⟩
    case measure => simp [intOf]; omega
  ·obtain rfl : k = l.length := by omega
   have hlt' : ¬ ((l.length : Int) < (l.length : Int)) := by omega
   clear hlt
   go_wp2_with fail
   go_ret
   exact ⟨by rw [← HT.out, HJ.out]; rfl, rfl⟩
set_option maxRecDepth 100000 in
set_option maxHeartbeats 1000000 in
theorem within_errno (lo hi : Int) (A : Option Addr) (c : Nat) (l : List Int) (w : World) (hr : Row w A (fun _ => True) (l.map (Value.int .i64))) (hl : l.length ≤ c) (hc : c ≤ maxLen) :
  Calls Tryz.prog 61 #[.int .i64 lo, .int .i64 hi, .slice A l.length c] w fun e w' => e = .returned (.bool (withinB lo hi l)) ∧ w = w' := by
 have HR := Lib.hid hr
 unfold maxLen at hc
 have HT := Lib.hid (show withinB lo hi (l.take l.length) = withinB lo hi l from by rw [List.take_length])
 clear hr
 go_enter Tryz.func61, Tryz.ntmps61
 go_wp2_with fail
 go_loop [11] (fun i => ∃ k : Nat, k ≤ l.length ∧ i = .int .i64 (k : Int) ∧ Hid (withinB lo hi (l.take k) = true)) (fun i => l.length - (intOf i).toNat)
 case atStart => exact ⟨0, Nat.zero_le _, rfl, Lib.hid (by simp [withinB])⟩
 case round =>
  obtain ⟨k, hk, rfl, HJ⟩ := hrel
  by_cases hlt : k < l.length
  ·have hlt' : (k : Int) < (l.length : Int) := by omega
   obtain ⟨b, o, rfl, -, c0⟩ := HR.out.at_ (k := k) (by simpa using hlt)
   rw [List.getElem_map] at c0
   have HN := Lib.hid (fun h1 h2 => withinB_next (lo := lo) (hi := hi) hlt HJ.out h1 h2)
   have HX := Lib.hid (fun h => withinB_no (lo := lo) (hi := hi) hlt h)
   generalize l[k] = x at c0 HN HX
   have hcs : decide (x < lo) = true ∨ (decide (x < lo) = false ∧ decide (hi < x) = true) ∨ (decide (x < lo) = false ∧ decide (hi < x) = false) := by
    cases decide (x < lo) <;> cases decide (hi < x) <;> simp
   rcases hcs with t | ⟨t, t1⟩ | ⟨t, t1⟩
   ·have HF := Lib.hid (HX.out (.inl (of_decide_eq_true t)))
    go_wp2_with fail
    go_ret
    exact ⟨by rw [HF.out]; rfl, rfl⟩
   ·have HF := Lib.hid (HX.out (.inr (of_decide_eq_true t1)))
    go_wp2_with fail
    go_ret
    exact ⟨by rw [HF.out]; rfl, rfl⟩
   ·have HF := Lib.hid (HN.out (by have := of_decide_eq_false t; omega) (by have := of_decide_eq_false t1; omega))
    clear HN HX HJ
    go_wp2_with fail
    go_round
    case rel => exact ⟨k + 1, hlt, by go_num, HF⟩
    case measure => simp [intOf]; omega
  ·obtain rfl : k = l.length := by omega
   have hlt' : ¬ ((l.length : Int) < (l.length : Int)) := by omega
   clear hlt
   go_wp2_with fail
   go_ret
   exact ⟨by rw [← HT.out, HJ.out]; rfl, rfl⟩
structure Ms.Wide (m : Ms) : Prop where
 item : m.item.fits
 il : m.items.length ≤ 1000000
 its : ∀ x ∈ m.items, x.fits
 ml : m.marks.length ≤ 1000000
 mks : ∀ x ∈ m.marks, x.key.size ≤ 1000000
theorem all_next {l : List It} {k : Nat} (h : k < l.length) (hk : (l.take k).all It.may = true) (h1 : l[k].may = true) : (l.take (k + 1)).all It.may = true := by
 rw [List.take_succ_eq_append_getElem h, List.all_append, hk]; simp [h1]
theorem all_no {l : List It} {k : Nat} (h : k < l.length) (h1 : l[k].may = false) : l.all It.may = false := by
 cases hb : l.all It.may with
 | false => rfl
 | true => rw [List.all_eq_true.1 hb _ (List.getElem_mem h)] at h1; cases h1
set_option maxRecDepth 100000 in
set_option maxHeartbeats 1000000 in
theorem may_items (w : World) (A : Option Addr) (c : Nat) (l : List It) (hA : ItsAt w A (fun _ => True) l) (_hl : l.length ≤ c) (_hc : c ≤ maxLen) (hn : l.length ≤ 1000000) (hf : ∀ x ∈ l, x.fits) :
  Calls Tryz.prog 63 #[.slice A l.length c] w fun e w' => e = .returned (.bool (decide (l.length ≤ 4) && l.all It.may)) ∧ Kp w w' := by
 have HA := Lib.hid hA
 have HF := Lib.hid hf
 unfold maxLen at _hc
 have HT := Lib.hid (show (l.take l.length).all It.may = l.all It.may from by rw [List.take_length])
 clear hA hf
 rcases Bool.eq_false_or_eq_true (decide ((4 : Int) < (l.length : Int))) with t0 | t0
 ·have HD := Lib.hid (show decide (l.length ≤ 4) = false from by have := of_decide_eq_true t0; simp; omega)
  have t0p := of_decide_eq_true t0
  go_enter Tryz.func63, Tryz.ntmps63
  go_wp2_with fail
  go_ret
  exact ⟨by rw [HD.out]; rfl, Keeps.refl _ _⟩
 ·have HD := Lib.hid (show decide (l.length ≤ 4) = true from by have := of_decide_eq_false t0; simp; omega)
  have t0p := of_decide_eq_false t0
  go_enter Tryz.func63, Tryz.ntmps63
  go_wp2_with fail
  go_loopw [10] (fun i wr => ∃ k : Nat, k ≤ l.length ∧ i = .int .i64 (k : Int) ∧ Hid ((l.take k).all It.may = true) ∧ Hid (Kp w wr)) (fun i _ => l.length - (intOf i).toNat)
  case atStart => exact ⟨0, Nat.zero_le _, rfl, Lib.hid (by simp), Lib.hid (Keeps.refl _ _)⟩
  case round =>
   obtain ⟨k, hk, rfl, HJ, HW⟩ := hrel
   by_cases hlt : k < l.length
   ·have hlt' : (k : Int) < (l.length : Int) := by omega
    obtain ⟨b, o, rfl, -, c0, c1, c2, c3⟩ := (HA.out.keep HW.out) k hlt
    have hx := HF.out _ (List.getElem_mem hlt)
    have HN := Lib.hid (fun h => all_next hlt HJ.out h)
    have HX := Lib.hid (fun h => all_no hlt h)
    generalize l[k] = x at c0 c1 c2 c3 hx HN HX
    have RM := fun w => imay w x hx
    obtain ⟨key, val, till, gone⟩ := x
    simp only at c0 c1 c2 c3 RM
    generalize (⟨key, val, till, gone⟩ : It).may = m at *
    clear hx
    cases m with
    | false =>
     have HF2 := Lib.hid (HX.out rfl)
     go_wp2_with fail
     refine (RM _).mono ?_
     rintro e w1 ⟨rfl, hk1⟩
     have HK := Lib.hid ((HW.out.alloc _).trans hk1)
     clear hk1
     go_wp2_with fail
     go_ret
     exact ⟨by rw [HF2.out, HD.out]; rfl, HK.out⟩
    | true =>
     have HF2 := Lib.hid (HN.out rfl)
     go_wp2_with fail
     refine (RM _).mono ?_
     rintro e w1 ⟨rfl, hk1⟩
     have HK := Lib.hid ((HW.out.alloc _).trans hk1)
     clear hk1 HN HX HJ
     go_wp2_with fail
     go_roundw
     case rel => exact ⟨k + 1, hlt, by go_num, HF2, HK⟩
     case measure => simp [intOf]; omega
   ·obtain rfl : k = l.length := by omega
    have hlt' : ¬ ((l.length : Int) < (l.length : Int)) := by omega
    clear hlt
    go_wp2_with fail
    go_ret
    exact ⟨by rw [HD.out, ← HT.out, HJ.out]; rfl, HW.out⟩
def lastM (l : List Mk) (k : Nat) : Int := if k = 0 then 0 else (l.getD (k - 1) default).seq
theorem lastM_succ {l : List Mk} {k : Nat} (h : k < l.length) : l[k].seq = lastM l (k + 1) := by
 unfold lastM
 rw [if_neg (Nat.succ_ne_zero k), Nat.add_sub_cancel, List.getD_eq_getElem?_getD, List.getElem?_eq_getElem h]
 rfl
theorem markB_is {l : List Mk} {k : Nat} (h : k < l.length) (hp : ∀ j, j < k → markB l j = true) : markB l k = (decide (lastM l k < l[k].seq) && (decide (l[k].seq ≤ 1099511627776) && (decide (1 ≤ l[k].key.size) && decide (l[k].key.size ≤ 40)))) := by
 unfold markB lastM
 rw [List.getD_eq_getElem?_getD, List.getElem?_eq_getElem h]
 simp only [Option.getD_some]
 by_cases h0 : k = 0
 ·subst h0
  simp only [decide_true, Bool.true_or, Bool.and_true, if_true]
  congr 1
 ·rw [if_neg h0]
  have hq := hp (k - 1) (by omega)
  unfold markB at hq
  simp only [Bool.and_eq_true, decide_eq_true_eq] at hq
  have hq1 := hq.1
  generalize (l.getD (k - 1) default).seq = y at hq1 ⊢
  have e0 : decide (k = 0) = false := by simpa using h0
  rw [e0]
  by_cases hy : y < l[k].seq
  ·have e1 : decide (y < l[k].seq) = true := by simpa using hy
   have e2 : decide (1 ≤ l[k].seq) = true := by simp; omega
   rw [e1, e2]; simp
  ·have e1 : decide (y < l[k].seq) = false := by simpa using hy
   rw [e1]; simp
theorem marksB_no {l : List Mk} {k : Nat} (h : k < l.length) (hz : markB l k = false) : marksB l = false := by
 cases hb : marksB l with
 | false => rfl
 | true => rw [List.all_eq_true.1 hb k (List.mem_range.2 h)] at hz; cases hz
theorem marksB_yes {l : List Mk} (h : ∀ j, j < l.length → markB l j = true) : marksB l = true := List.all_eq_true.2 fun k hk => h k (List.mem_range.1 hk)
set_option maxRecDepth 100000 in
set_option maxHeartbeats 1000000 in
theorem may_marks (w : World) (A : Option Addr) (c : Nat) (l : List Mk) (hA : MksAt w A (fun _ => True) l) (_hl : l.length ≤ c) (_hc : c ≤ maxLen) (hn : l.length ≤ 1000000) (hf : ∀ x ∈ l, x.key.size ≤ 1000000) :
  Calls Tryz.prog 64 #[.slice A l.length c] w fun e w' => e = .returned (.bool (decide (l.length ≤ 4) && marksB l)) ∧ Kp w w' := by
 have HA := Lib.hid hA
 have HF := Lib.hid hf
 unfold maxLen at _hc
 clear hA hf
 rcases Bool.eq_false_or_eq_true (decide ((4 : Int) < (l.length : Int))) with t0 | t0
 ·have HD := Lib.hid (show decide (l.length ≤ 4) = false from by have := of_decide_eq_true t0; simp; omega)
  have t0p := of_decide_eq_true t0
  go_enter Tryz.func64, Tryz.ntmps64
  go_wp2_with fail
  go_ret
  exact ⟨by rw [HD.out]; rfl, Keeps.refl _ _⟩
 ·have HD := Lib.hid (show decide (l.length ≤ 4) = true from by have := of_decide_eq_false t0; simp; omega)
  have t0p := of_decide_eq_false t0
  go_enter Tryz.func64, Tryz.ntmps64
  go_wp2_with fail
  go_loopw [3, 11] (fun v i wr => ∃ (k : Nat) (z : Int), k ≤ l.length ∧ i = .int .i64 (k : Int) ∧ v = .int .i64 z ∧ Hid (z = lastM l k) ∧ Hid (∀ j, j < k → markB l j = true) ∧ Hid (Kp w wr)) (fun _ i _ => l.length - (intOf i).toNat)
  case atStart => exact ⟨0, 0, Nat.zero_le _, rfl, rfl, Lib.hid rfl, Lib.hid (fun j hj => absurd hj (Nat.not_lt_zero _)), Lib.hid (Keeps.refl _ _)⟩
  case round =>
   obtain ⟨k, z, hk, rfl, rfl, HZ, HJ, HW⟩ := hrel
   by_cases hlt : k < l.length
   ·have hlt' : (k : Int) < (l.length : Int) := by omega
    obtain ⟨b, o, rfl, -, c0, c1⟩ := (HA.out.keep HW.out) k hlt
    have hx := HF.out _ (List.getElem_mem hlt)
    have HB := Lib.hid (markB_is hlt HJ.out)
    have HN := Lib.hid (fun h => marksB_no hlt h)
    have HS := Lib.hid (lastM_succ hlt)
    rw [← HZ.out] at HB
    generalize l[k] = x at c0 c1 hx HB HS
    obtain ⟨seq, key⟩ := x
    simp only at c0 c1 hx HB HS
    have hcs : (decide (seq ≤ z) = true ∧ markB l k = false) ∨ (decide (seq ≤ z) = false ∧ decide ((1099511627776 : Int) < seq) = true ∧ markB l k = false) ∨
      (decide (seq ≤ z) = false ∧ decide ((1099511627776 : Int) < seq) = false ∧ decide ((key.size : Int) < 1) = true ∧ markB l k = false) ∨
      (decide (seq ≤ z) = false ∧ decide ((1099511627776 : Int) < seq) = false ∧ decide ((key.size : Int) < 1) = false ∧ decide ((40 : Int) < (key.size : Int)) = true ∧ markB l k = false) ∨
      (decide (seq ≤ z) = false ∧ decide ((1099511627776 : Int) < seq) = false ∧ decide ((key.size : Int) < 1) = false ∧ decide ((40 : Int) < (key.size : Int)) = false ∧ markB l k = true) := by
     rw [HB.out]
     have e1 : decide (z < seq) = !decide (seq ≤ z) := by rw [← decide_not]; exact decide_eq_decide.2 (by omega)
     have e2 : decide (seq ≤ 1099511627776) = !decide ((1099511627776 : Int) < seq) := by rw [← decide_not]; exact decide_eq_decide.2 (by omega)
     have e3 : decide (1 ≤ key.size) = !decide ((key.size : Int) < 1) := by rw [← decide_not]; exact decide_eq_decide.2 (by omega)
     have e4 : decide (key.size ≤ 40) = !decide ((40 : Int) < (key.size : Int)) := by rw [← decide_not]; exact decide_eq_decide.2 (by omega)
     rw [e1, e2, e3, e4]
     generalize decide (seq ≤ z) = q1
     generalize decide ((1099511627776 : Int) < seq) = q2
     generalize decide ((key.size : Int) < 1) = q3
     generalize decide ((40 : Int) < (key.size : Int)) = q4
     revert q1 q2 q3 q4
     decide
    clear HB
    rcases hcs with ⟨t1, hm⟩ | ⟨t1, t2, hm⟩ | ⟨t1, t2, t3, hm⟩ | ⟨t1, t2, t3, t4, hm⟩ | ⟨t1, t2, t3, t4, hm⟩
    ·have HF2 := Lib.hid (HN.out hm)
     clear hm
     go_wp2_with fail
     go_ret
     exact ⟨by rw [HF2.out, HD.out]; rfl, HW.out.alloc _⟩
    ·have HF2 := Lib.hid (HN.out hm)
     clear hm
     go_wp2_with fail
     go_ret
     exact ⟨by rw [HF2.out, HD.out]; rfl, HW.out.alloc _⟩
    ·have HF2 := Lib.hid (HN.out hm)
     clear hm
     go_wp2_with fail
     go_ret
     exact ⟨by rw [HF2.out, HD.out]; rfl, HW.out.alloc _⟩
    ·have HF2 := Lib.hid (HN.out hm)
     clear hm
     go_wp2_with fail
     go_ret
     exact ⟨by rw [HF2.out, HD.out]; rfl, HW.out.alloc _⟩
    ·have HJ2 := Lib.hid (show ∀ j, j < k + 1 → markB l j = true from fun j hj => by
      rcases Nat.lt_or_ge j k with h | h
      ·exact HJ.out j h
      ·obtain rfl : j = k := by omega
       exact hm)
     have HK := Lib.hid (HW.out.alloc (.cells #[.int .i64 seq, .string key] 150))
     clear hm HJ HN HZ
     go_wp2_with fail
     go_roundw
     case rel => exact ⟨k + 1, seq, hlt, by go_num, rfl, HS, HJ2, HK⟩
     case measure => simp [intOf]; omega
   ·obtain rfl : k = l.length := by omega
    have hlt' : ¬ ((l.length : Int) < (l.length : Int)) := by omega
    have HN := Lib.hid (marksB_yes HJ.out)
    clear hlt HJ HZ
    go_wp2_with fail
    go_ret
    exact ⟨by rw [HD.out, HN.out]; rfl, HW.out⟩
set_option maxRecDepth 100000 in
set_option maxHeartbeats 1000000 in
theorem may_nodes (w : World) (A : Option Addr) (c : Nat) (l : List Int) (hr : Row w A (fun _ => True) (l.map (Value.int .i64))) (hl : l.length ≤ c) (hc : c ≤ maxLen) :
  Calls Tryz.prog 65 #[.slice A l.length c] w fun e w' => e = .returned (.bool (decide (l.length = 0) || nodesB l)) ∧ Kp w w' := by
 have HC := Lib.hid (may_any w A c l hr hl hc)
 clear hr
 unfold maxLen at hc
 by_cases h0 : l.length = 0
 ·have t0 : ((l.length : Int) == 0) = true := by rw [beq_iff_eq]; omega
  have HD := Lib.hid (show decide (l.length = 0) = true from by simpa using h0)
  go_enter Tryz.func65, Tryz.ntmps65
  go_wp2_with fail
  go_ret
  exact ⟨by rw [HD.out]; rfl, Keeps.refl _ _⟩
 ·have t0 : ((l.length : Int) == 0) = false := beq_eq_false_iff_ne.2 (by omega)
  have HD := Lib.hid (show decide (l.length = 0) = false from by simpa using h0)
  go_enter Tryz.func65, Tryz.ntmps65
  go_wp2_with fail
  refine HC.out.mono ?_
  rintro e w1 ⟨rfl, hk1⟩
  have HK := Lib.hid hk1
  clear hk1
  go_wp2_with fail
  go_ret
  exact ⟨by rw [HD.out]; rfl, HK.out⟩
end Go.Proofs.YtemkjodkmehffaaGreatDoor
