/- Texts of one proof, behind one another: each says above its part what it proves and on which conditions. -/
import Derived.Test.YtfhhobinpmbgmaaDoorMsIf
import Derived.Test.YtfhhobinpmbgmaaDoorAllItA
import Derived.Test.YtfhhobinpmbgmaaDoorPtOk
import Derived.Test.YtfhhobinpmbgmaaDoorMsHead
import Derived.Test.YtfhhobinpmbgmaaDoorAllInvs
import Derived.Test.YtfhhobinpmbgmaaDoorItemEq
import Derived.Test.YtfhhobinpmbgmaaDoorItemRef
import Derived.BigQuiet
import Derived.Deep.CutRange
/-
  THE PROGRAM's MESSAGES (layer 19): within, mayItems, mayMarks, mayNodes.
-/
section
namespace Go.Proofs.YtfhhobinpmbgmaaDoor
open Go Go.RowKit Go.Joins

def withinB (lo hi : Int) (l : List Int) : Bool := l.all fun z => decide (lo ≤ z) && decide (z ≤ hi)
theorem withinB_next {lo hi : Int} {l : List Int} {k : Nat} (h : k < l.length) (hk : withinB lo hi (l.take k) = true) (h1 : lo ≤ l[k]) (h2 : l[k] ≤ hi) : withinB lo hi (l.take (k + 1)) = true := by
  unfold withinB at hk ⊢
  rw [List.take_succ_eq_append_getElem h, List.all_append, hk]
  simp [h1, h2]
theorem withinB_no {lo hi : Int} {l : List Int} {k : Nat} (h : k < l.length) (hz : l[k] < lo ∨ hi < l[k]) : withinB lo hi l = false := by
  cases hb : withinB lo hi l with
  | false => rfl
  | true =>
    have := List.all_eq_true.1 hb l[k] (List.getElem_mem h)
    simp only [Bool.and_eq_true, decide_eq_true_eq] at this
    omega
set_option maxRecDepth 100000 in
set_option maxHeartbeats 1000000 in
theorem within_int (lo hi : Int) (A : Option Addr) (c : Nat) (l : List Int) (w : World) (hr : Row w A (fun _ => True) (l.map (Value.int .i64))) (hl : l.length ≤ c) (hc : c ≤ maxLen) :
    Calls Tryd.prog 21 #[.int .i64 lo, .int .i64 hi, .slice A l.length c] w fun e w' => e = .returned (.bool (withinB lo hi l)) ∧ w = w' := by
  have HR := Lib.hid hr
  unfold maxLen at hc
  have HT := Lib.hid (show withinB lo hi (l.take l.length) = withinB lo hi l from by rw [List.take_length])
  clear hr
  go_enter Tryd.func21, Tryd.ntmps21
  go_wp2_with fail
  go_loop [11] (fun i => ∃ k : Nat, k ≤ l.length ∧ i = .int .i64 (k : Int) ∧ Hid (withinB lo hi (l.take k) = true)) (fun i => l.length - (intOf i).toNat)
  case atStart => exact ⟨0, Nat.zero_le _, rfl, Lib.hid (by simp [withinB])⟩
  case round =>
    obtain ⟨k, hk, rfl, HJ⟩ := hrel
    by_cases hlt : k < l.length
    · have hlt' : (k : Int) < (l.length : Int) := by omega
      obtain ⟨b, o, rfl, -, c0⟩ := HR.out.at_ (k := k) (by simpa using hlt)
      rw [List.getElem_map] at c0
      have HN := Lib.hid (fun h1 h2 => withinB_next (lo := lo) (hi := hi) hlt HJ.out h1 h2)
      have HX := Lib.hid (fun h => withinB_no (lo := lo) (hi := hi) hlt h)
      generalize l[k] = x at c0 HN HX
      have hcs : decide (x < lo) = true ∨ (decide (x < lo) = false ∧ decide (hi < x) = true) ∨ (decide (x < lo) = false ∧ decide (hi < x) = false) := by
        cases decide (x < lo) <;> cases decide (hi < x) <;> simp
      rcases hcs with t | ⟨t, t1⟩ | ⟨t, t1⟩
      · have HF := Lib.hid (HX.out (.inl (of_decide_eq_true t)))
        go_wp2_with fail
        go_ret
        exact ⟨by rw [HF.out]; rfl, rfl⟩
      · have HF := Lib.hid (HX.out (.inr (of_decide_eq_true t1)))
        go_wp2_with fail
        go_ret
        exact ⟨by rw [HF.out]; rfl, rfl⟩
      · have HF := Lib.hid (HN.out (by have := of_decide_eq_false t; omega) (by have := of_decide_eq_false t1; omega))
        clear HN HX HJ
        go_wp2_with fail
        go_round
        case rel => exact ⟨k + 1, hlt, by go_num, HF⟩
        case measure => simp [intOf]; omega
    · obtain rfl : k = l.length := by omega
      have hlt' : ¬ ((l.length : Int) < (l.length : Int)) := by omega
      clear hlt
      go_wp2_with fail
      go_ret
      exact ⟨by rw [← HT.out, HJ.out]; rfl, rfl⟩
set_option maxRecDepth 100000 in
set_option maxHeartbeats 1000000 in
theorem within_int64 (lo hi : Int) (A : Option Addr) (c : Nat) (l : List Int) (w : World) (hr : Row w A (fun _ => True) (l.map (Value.int .i64))) (hl : l.length ≤ c) (hc : c ≤ maxLen) :
    Calls Tryd.prog 22 #[.int .i64 lo, .int .i64 hi, .slice A l.length c] w fun e w' => e = .returned (.bool (withinB lo hi l)) ∧ w = w' := by
  have HR := Lib.hid hr
  unfold maxLen at hc
  have HT := Lib.hid (show withinB lo hi (l.take l.length) = withinB lo hi l from by rw [List.take_length])
  clear hr
  go_enter Tryd.func22, Tryd.ntmps22
  go_wp2_with fail
  go_loop [11] (fun i => ∃ k : Nat, k ≤ l.length ∧ i = .int .i64 (k : Int) ∧ Hid (withinB lo hi (l.take k) = true)) (fun i => l.length - (intOf i).toNat)
  case atStart => exact ⟨0, Nat.zero_le _, rfl, Lib.hid (by simp [withinB])⟩
  case round =>
    obtain ⟨k, hk, rfl, HJ⟩ := hrel
    by_cases hlt : k < l.length
    · have hlt' : (k : Int) < (l.length : Int) := by omega
      obtain ⟨b, o, rfl, -, c0⟩ := HR.out.at_ (k := k) (by simpa using hlt)
      rw [List.getElem_map] at c0
      have HN := Lib.hid (fun h1 h2 => withinB_next (lo := lo) (hi := hi) hlt HJ.out h1 h2)
      have HX := Lib.hid (fun h => withinB_no (lo := lo) (hi := hi) hlt h)
      generalize l[k] = x at c0 HN HX
      have hcs : decide (x < lo) = true ∨ (decide (x < lo) = false ∧ decide (hi < x) = true) ∨ (decide (x < lo) = false ∧ decide (hi < x) = false) := by
        cases decide (x < lo) <;> cases decide (hi < x) <;> simp
      rcases hcs with t | ⟨t, t1⟩ | ⟨t, t1⟩
      · have HF := Lib.hid (HX.out (.inl (of_decide_eq_true t)))
        go_wp2_with fail
        go_ret
        exact ⟨by rw [HF.out]; rfl, rfl⟩
      · have HF := Lib.hid (HX.out (.inr (of_decide_eq_true t1)))
        go_wp2_with fail
        go_ret
        exact ⟨by rw [HF.out]; rfl, rfl⟩
      · have HF := Lib.hid (HN.out (by have := of_decide_eq_false t; omega) (by have := of_decide_eq_false t1; omega))
        clear HN HX HJ
        go_wp2_with fail
        go_round
        case rel => exact ⟨k + 1, hlt, by go_num, HF⟩
        case measure => simp [intOf]; omega
    · obtain rfl : k = l.length := by omega
      have hlt' : ¬ ((l.length : Int) < (l.length : Int)) := by omega
      clear hlt
      go_wp2_with fail
      go_ret
      exact ⟨by rw [← HT.out, HJ.out]; rfl, rfl⟩
set_option maxRecDepth 100000 in
set_option maxHeartbeats 1000000 in
theorem within_errno (lo hi : Int) (A : Option Addr) (c : Nat) (l : List Int) (w : World) (hr : Row w A (fun _ => True) (l.map (Value.int .i64))) (hl : l.length ≤ c) (hc : c ≤ maxLen) :
    Calls Tryd.prog 23 #[.int .i64 lo, .int .i64 hi, .slice A l.length c] w fun e w' => e = .returned (.bool (withinB lo hi l)) ∧ w = w' := by
  have HR := Lib.hid hr
  unfold maxLen at hc
  have HT := Lib.hid (show withinB lo hi (l.take l.length) = withinB lo hi l from by rw [List.take_length])
  clear hr
  go_enter Tryd.func23, Tryd.ntmps23
  go_wp2_with fail
  go_loop [11] (fun i => ∃ k : Nat, k ≤ l.length ∧ i = .int .i64 (k : Int) ∧ Hid (withinB lo hi (l.take k) = true)) (fun i => l.length - (intOf i).toNat)
  case atStart => exact ⟨0, Nat.zero_le _, rfl, Lib.hid (by simp [withinB])⟩
  case round =>
    obtain ⟨k, hk, rfl, HJ⟩ := hrel
    by_cases hlt : k < l.length
    · have hlt' : (k : Int) < (l.length : Int) := by omega
      obtain ⟨b, o, rfl, -, c0⟩ := HR.out.at_ (k := k) (by simpa using hlt)
      rw [List.getElem_map] at c0
      have HN := Lib.hid (fun h1 h2 => withinB_next (lo := lo) (hi := hi) hlt HJ.out h1 h2)
      have HX := Lib.hid (fun h => withinB_no (lo := lo) (hi := hi) hlt h)
      generalize l[k] = x at c0 HN HX
      have hcs : decide (x < lo) = true ∨ (decide (x < lo) = false ∧ decide (hi < x) = true) ∨ (decide (x < lo) = false ∧ decide (hi < x) = false) := by
        cases decide (x < lo) <;> cases decide (hi < x) <;> simp
      rcases hcs with t | ⟨t, t1⟩ | ⟨t, t1⟩
      · have HF := Lib.hid (HX.out (.inl (of_decide_eq_true t)))
        go_wp2_with fail
        go_ret
        exact ⟨by rw [HF.out]; rfl, rfl⟩
      · have HF := Lib.hid (HX.out (.inr (of_decide_eq_true t1)))
        go_wp2_with fail
        go_ret
        exact ⟨by rw [HF.out]; rfl, rfl⟩
      · have HF := Lib.hid (HN.out (by have := of_decide_eq_false t; omega) (by have := of_decide_eq_false t1; omega))
        clear HN HX HJ
        go_wp2_with fail
        go_round
        case rel => exact ⟨k + 1, hlt, by go_num, HF⟩
        case measure => simp [intOf]; omega
    · obtain rfl : k = l.length := by omega
      have hlt' : ¬ ((l.length : Int) < (l.length : Int)) := by omega
      clear hlt
      go_wp2_with fail
      go_ret
      exact ⟨by rw [← HT.out, HJ.out]; rfl, rfl⟩

/-- What of a message is not too great for May. -/
structure Ms.Wide (m : Ms) : Prop where
  item : m.item.fits
  il : m.items.length ≤ 1000000
  its : ∀ x ∈ m.items, x.fits
  ml : m.marks.length ≤ 1000000
  mks : ∀ x ∈ m.marks, x.key.size ≤ 1000000
theorem Ms.Fits.wide {m : Ms} (h : m.Fits) : m.Wide := ⟨h.item, by have := h.il; omega, h.its, by have := h.ml; omega, fun x hx => by have := (h.mks x hx).1; omega⟩
theorem all_next {l : List It} {k : Nat} (h : k < l.length) (hk : (l.take k).all It.may = true) (h1 : l[k].may = true) : (l.take (k + 1)).all It.may = true := by
  rw [List.take_succ_eq_append_getElem h, List.all_append, hk]; simp [h1]
theorem all_no {l : List It} {k : Nat} (h : k < l.length) (h1 : l[k].may = false) : l.all It.may = false := by
  cases hb : l.all It.may with
  | false => rfl
  | true => rw [List.all_eq_true.1 hb _ (List.getElem_mem h)] at h1; cases h1
set_option maxRecDepth 100000 in
set_option maxHeartbeats 1000000 in
theorem may_items (w : World) (A : Option Addr) (c : Nat) (l : List It) (hA : ItsAt w A (fun _ => True) l) (_hl : l.length ≤ c) (_hc : c ≤ maxLen) (hn : l.length ≤ 1000000) (hf : ∀ x ∈ l, x.fits) :
    Calls Tryd.prog 25 #[.slice A l.length c] w fun e w' => e = .returned (.bool (decide (l.length ≤ 4) && l.all It.may)) ∧ Kp w w' := by
  have HA := Lib.hid hA
  have HF := Lib.hid hf
  unfold maxLen at _hc
  have HT := Lib.hid (show (l.take l.length).all It.may = l.all It.may from by rw [List.take_length])
  clear hA hf
  rcases Bool.eq_false_or_eq_true (decide ((4 : Int) < (l.length : Int))) with t0 | t0
  · have HD := Lib.hid (show decide (l.length ≤ 4) = false from by have := of_decide_eq_true t0; simp; omega)
    have t0p := of_decide_eq_true t0
    go_enter Tryd.func25, Tryd.ntmps25
    go_wp2_with fail
    go_ret
    exact ⟨by rw [HD.out]; rfl, Keeps.refl _ _⟩
  · have HD := Lib.hid (show decide (l.length ≤ 4) = true from by have := of_decide_eq_false t0; simp; omega)
    have t0p := of_decide_eq_false t0
    go_enter Tryd.func25, Tryd.ntmps25
    go_wp2_with fail
    go_loopw [10] (fun i wr => ∃ k : Nat, k ≤ l.length ∧ i = .int .i64 (k : Int) ∧ Hid ((l.take k).all It.may = true) ∧ Hid (Kp w wr)) (fun i _ => l.length - (intOf i).toNat)
    case atStart => exact ⟨0, Nat.zero_le _, rfl, Lib.hid (by simp), Lib.hid (Keeps.refl _ _)⟩
    case round =>
      obtain ⟨k, hk, rfl, HJ, HW⟩ := hrel
      by_cases hlt : k < l.length
      · have hlt' : (k : Int) < (l.length : Int) := by omega
        obtain ⟨b, o, rfl, -, c0, c1, c2, c3⟩ := (HA.out.keep HW.out) k hlt
        have hx := HF.out _ (List.getElem_mem hlt)
        have HN := Lib.hid (fun h => all_next hlt HJ.out h)
        have HX := Lib.hid (fun h => all_no hlt h)
        generalize l[k] = x at c0 c1 c2 c3 hx HN HX
        have RM := fun w => imay w x hx
        obtain ⟨key, val, till, gone⟩ := x
        simp only at c0 c1 c2 c3 RM
        generalize (⟨key, val, till, gone⟩ : It).may = m at *
        clear hx
        cases m with
        | false =>
          have HF2 := Lib.hid (HX.out rfl)
          go_wp2_with fail
          refine (RM _).mono ?_
          rintro e w1 ⟨rfl, hk1⟩
          have HK := Lib.hid ((HW.out.alloc _).trans hk1)
          clear hk1
          go_wp2_with fail
          go_ret
          exact ⟨by rw [HF2.out, HD.out]; rfl, HK.out⟩
        | true =>
          have HF2 := Lib.hid (HN.out rfl)
          go_wp2_with fail
          refine (RM _).mono ?_
          rintro e w1 ⟨rfl, hk1⟩
          have HK := Lib.hid ((HW.out.alloc _).trans hk1)
          clear hk1 HN HX HJ
          go_wp2_with fail
          go_roundw
          case rel => exact ⟨k + 1, hlt, by go_num, HF2, HK⟩
          case measure => simp [intOf]; omega
      · obtain rfl : k = l.length := by omega
        have hlt' : ¬ ((l.length : Int) < (l.length : Int)) := by omega
        clear hlt
        go_wp2_with fail
        go_ret
        exact ⟨by rw [HD.out, ← HT.out, HJ.out]; rfl, HW.out⟩

/-- The number of the mark before. -/
def lastM (l : List Mk) (k : Nat) : Int := if k = 0 then 0 else (l.getD (k - 1) default).seq
theorem lastM_succ {l : List Mk} {k : Nat} (h : k < l.length) : l[k].seq = lastM l (k + 1) := by
  unfold lastM
  rw [if_neg (Nat.succ_ne_zero k), Nat.add_sub_cancel, List.getD_eq_getElem?_getD, List.getElem?_eq_getElem h]
  rfl
theorem markB_is {l : List Mk} {k : Nat} (h : k < l.length) (hp : ∀ j, j < k → markB l j = true) : markB l k = (decide (lastM l k < l[k].seq) && (decide (l[k].seq ≤ 1099511627776) && (decide (1 ≤ l[k].key.size) && decide (l[k].key.size ≤ 40)))) := by
  unfold markB lastM
  rw [List.getD_eq_getElem?_getD, List.getElem?_eq_getElem h]
  simp only [Option.getD_some]
  by_cases h0 : k = 0
  · subst h0
    simp only [decide_true, Bool.true_or, Bool.and_true, if_true]
    congr 1
  · rw [if_neg h0]
    have hq := hp (k - 1) (by omega)
    unfold markB at hq
    simp only [Bool.and_eq_true, decide_eq_true_eq] at hq
    have hq1 := hq.1
    generalize (l.getD (k - 1) default).seq = y at hq1 ⊢
    have e0 : decide (k = 0) = false := by simpa using h0
    rw [e0]
    by_cases hy : y < l[k].seq
    · have e1 : decide (y < l[k].seq) = true := by simpa using hy
      have e2 : decide (1 ≤ l[k].seq) = true := by simp; omega
      rw [e1, e2]; simp
    · have e1 : decide (y < l[k].seq) = false := by simpa using hy
      rw [e1]; simp
theorem marksB_no {l : List Mk} {k : Nat} (h : k < l.length) (hz : markB l k = false) : marksB l = false := by
  cases hb : marksB l with
  | false => rfl
  | true => rw [List.all_eq_true.1 hb k (List.mem_range.2 h)] at hz; cases hz
theorem marksB_yes {l : List Mk} (h : ∀ j, j < l.length → markB l j = true) : marksB l = true := List.all_eq_true.2 fun k hk => h k (List.mem_range.1 hk)
set_option maxRecDepth 100000 in
set_option maxHeartbeats 1000000 in
theorem may_marks (w : World) (A : Option Addr) (c : Nat) (l : List Mk) (hA : MksAt w A (fun _ => True) l) (_hl : l.length ≤ c) (_hc : c ≤ maxLen) (hn : l.length ≤ 1000000) (hf : ∀ x ∈ l, x.key.size ≤ 1000000) :
    Calls Tryd.prog 26 #[.slice A l.length c] w fun e w' => e = .returned (.bool (decide (l.length ≤ 4) && marksB l)) ∧ Kp w w' := by
  have HA := Lib.hid hA
  have HF := Lib.hid hf
  unfold maxLen at _hc
  clear hA hf
  rcases Bool.eq_false_or_eq_true (decide ((4 : Int) < (l.length : Int))) with t0 | t0
  · have HD := Lib.hid (show decide (l.length ≤ 4) = false from by have := of_decide_eq_true t0; simp; omega)
    have t0p := of_decide_eq_true t0
    go_enter Tryd.func26, Tryd.ntmps26
    go_wp2_with fail
    go_ret
    exact ⟨by rw [HD.out]; rfl, Keeps.refl _ _⟩
  · have HD := Lib.hid (show decide (l.length ≤ 4) = true from by have := of_decide_eq_false t0; simp; omega)
    have t0p := of_decide_eq_false t0
    go_enter Tryd.func26, Tryd.ntmps26
    go_wp2_with fail
    go_loopw [3, 11] (fun v i wr => ∃ (k : Nat) (z : Int), k ≤ l.length ∧ i = .int .i64 (k : Int) ∧ v = .int .i64 z ∧ Hid (z = lastM l k) ∧ Hid (∀ j, j < k → markB l j = true) ∧ Hid (Kp w wr)) (fun _ i _ => l.length - (intOf i).toNat)
    case atStart => exact ⟨0, 0, Nat.zero_le _, rfl, rfl, Lib.hid rfl, Lib.hid (fun j hj => absurd hj (Nat.not_lt_zero _)), Lib.hid (Keeps.refl _ _)⟩
    case round =>
      obtain ⟨k, z, hk, rfl, rfl, HZ, HJ, HW⟩ := hrel
      by_cases hlt : k < l.length
      · have hlt' : (k : Int) < (l.length : Int) := by omega
        obtain ⟨b, o, rfl, -, c0, c1⟩ := (HA.out.keep HW.out) k hlt
        have hx := HF.out _ (List.getElem_mem hlt)
        have HB := Lib.hid (markB_is hlt HJ.out)
        have HN := Lib.hid (fun h => marksB_no hlt h)
        have HS := Lib.hid (lastM_succ hlt)
        rw [← HZ.out] at HB
        generalize l[k] = x at c0 c1 hx HB HS
        obtain ⟨seq, key⟩ := x
        simp only at c0 c1 hx HB HS
        have hcs : (decide (seq ≤ z) = true ∧ markB l k = false) ∨ (decide (seq ≤ z) = false ∧ decide ((1099511627776 : Int) < seq) = true ∧ markB l k = false) ∨
            (decide (seq ≤ z) = false ∧ decide ((1099511627776 : Int) < seq) = false ∧ decide ((key.size : Int) < 1) = true ∧ markB l k = false) ∨
            (decide (seq ≤ z) = false ∧ decide ((1099511627776 : Int) < seq) = false ∧ decide ((key.size : Int) < 1) = false ∧ decide ((40 : Int) < (key.size : Int)) = true ∧ markB l k = false) ∨
            (decide (seq ≤ z) = false ∧ decide ((1099511627776 : Int) < seq) = false ∧ decide ((key.size : Int) < 1) = false ∧ decide ((40 : Int) < (key.size : Int)) = false ∧ markB l k = true) := by
          rw [HB.out]
          have e1 : decide (z < seq) = !decide (seq ≤ z) := by rw [← decide_not]; exact decide_eq_decide.2 (by omega)
          have e2 : decide (seq ≤ 1099511627776) = !decide ((1099511627776 : Int) < seq) := by rw [← decide_not]; exact decide_eq_decide.2 (by omega)
          have e3 : decide (1 ≤ key.size) = !decide ((key.size : Int) < 1) := by rw [← decide_not]; exact decide_eq_decide.2 (by omega)
          have e4 : decide (key.size ≤ 40) = !decide ((40 : Int) < (key.size : Int)) := by rw [← decide_not]; exact decide_eq_decide.2 (by omega)
          rw [e1, e2, e3, e4]
          generalize decide (seq ≤ z) = q1
          generalize decide ((1099511627776 : Int) < seq) = q2
          generalize decide ((key.size : Int) < 1) = q3
          generalize decide ((40 : Int) < (key.size : Int)) = q4
          revert q1 q2 q3 q4
          decide
        clear HB
        rcases hcs with ⟨t1, hm⟩ | ⟨t1, t2, hm⟩ | ⟨t1, t2, t3, hm⟩ | ⟨t1, t2, t3, t4, hm⟩ | ⟨t1, t2, t3, t4, hm⟩
        · have HF2 := Lib.hid (HN.out hm)
          clear hm
          go_wp2_with fail
          go_ret
          exact ⟨by rw [HF2.out, HD.out]; rfl, HW.out.alloc _⟩
        · have HF2 := Lib.hid (HN.out hm)
          clear hm
          go_wp2_with fail
          go_ret
          exact ⟨by rw [HF2.out, HD.out]; rfl, HW.out.alloc _⟩
        · have HF2 := Lib.hid (HN.out hm)
          clear hm
          go_wp2_with fail
          go_ret
          exact ⟨by rw [HF2.out, HD.out]; rfl, HW.out.alloc _⟩
        · have HF2 := Lib.hid (HN.out hm)
          clear hm
          go_wp2_with fail
          go_ret
          exact ⟨by rw [HF2.out, HD.out]; rfl, HW.out.alloc _⟩
        · have HJ2 := Lib.hid (show ∀ j, j < k + 1 → markB l j = true from fun j hj => by
            rcases Nat.lt_or_ge j k with h | h
            · exact HJ.out j h
            · obtain rfl : j = k := by omega
              exact hm)
          have HK := Lib.hid (HW.out.alloc (.cells #[.int .i64 seq, .string key] 42))
          clear hm HJ HN HZ
          go_wp2_with fail
          go_roundw
          case rel => exact ⟨k + 1, seq, hlt, by go_num, rfl, HS, HJ2, HK⟩
          case measure => simp [intOf]; omega
      · obtain rfl : k = l.length := by omega
        have hlt' : ¬ ((l.length : Int) < (l.length : Int)) := by omega
        have HN := Lib.hid (marksB_yes HJ.out)
        clear hlt HJ HZ
        go_wp2_with fail
        go_ret
        exact ⟨by rw [HD.out, HN.out]; rfl, HW.out⟩

set_option maxRecDepth 100000 in
set_option maxHeartbeats 1000000 in
theorem may_nodes (w : World) (A : Option Addr) (c : Nat) (l : List Int) (hr : Row w A (fun _ => True) (l.map (Value.int .i64))) (hl : l.length ≤ c) (hc : c ≤ maxLen) :
    Calls Tryd.prog 27 #[.slice A l.length c] w fun e w' => e = .returned (.bool (decide (l.length = 0) || nodesB l)) ∧ Kp w w' := by
  have HC := Lib.hid (may_any w A c l hr hl hc)
  clear hr
  unfold maxLen at hc
  by_cases h0 : l.length = 0
  · have t0 : ((l.length : Int) == 0) = true := by rw [beq_iff_eq]; omega
    have HD := Lib.hid (show decide (l.length = 0) = true from by simpa using h0)
    go_enter Tryd.func27, Tryd.ntmps27
    go_wp2_with fail
    go_ret
    exact ⟨by rw [HD.out]; rfl, Keeps.refl _ _⟩
  · have t0 : ((l.length : Int) == 0) = false := beq_eq_false_iff_ne.2 (by omega)
    have HD := Lib.hid (show decide (l.length = 0) = false from by simpa using h0)
    go_enter Tryd.func27, Tryd.ntmps27
    go_wp2_with fail
    refine HC.out.mono ?_
    rintro e w1 ⟨rfl, hk1⟩
    have HK := Lib.hid hk1
    clear hk1
    go_wp2_with fail
    go_ret
    exact ⟨by rw [HD.out]; rfl, HK.out⟩

end Go.Proofs.YtfhhobinpmbgmaaDoor
end

/-
  THE PROGRAM's MESSAGES (layer 19): May. WRITTEN by wip/gen19r.py from wip/tpl/XMsMayIs.gen.
-/
section
namespace Go.Proofs.YtfhhobinpmbgmaaDoor
open Go Go.RowKit Go.Joins

section
variable {o : Oper} {a : Act} {w : World} {Q : Exit → Act → World → Prop} {x y x1 x2 x3 x4 x5 : Operand}
theorem kq_row1I {s : Int} (ho : o.op = .buildSlice 27 1 #[(0, x)]) (hx : a.eval x = .int .i64 s) : o.wp Tryd.prog a w (fun a' w' => ∃ v, a' = a.put o.dst v ∧ Kp w w' ∧ (Kn.row [.int .i64 s]).V w' v) Q := by
  refine kp_yield (v := .slice (some ⟨w.heap.size, 0, none⟩) 1 1) (w' := w.alloc (.cells #[.int .i64 s] 3)) ?_ ((Keeps.refl _ w).alloc _) ⟨_, rfl, Row.fresh w #[.int .i64 s] 3 (0, 0) _ rfl trivial _ rfl⟩
  generalize a.eval = ρ at hx
  unfold execOp
  go_simp
theorem kq_row2I {s t : Int} (ho : o.op = .buildSlice 27 2 #[(0, x), (1, y)]) (hx : a.eval x = .int .i64 s) (hy : a.eval y = .int .i64 t) : o.wp Tryd.prog a w (fun a' w' => ∃ v, a' = a.put o.dst v ∧ Kp w w' ∧ (Kn.row [.int .i64 s, .int .i64 t]).V w' v) Q := by
  refine kp_yield (v := .slice (some ⟨w.heap.size, 0, none⟩) 2 2) (w' := w.alloc (.cells #[.int .i64 s, .int .i64 t] 3)) ?_ ((Keeps.refl _ w).alloc _) ⟨_, rfl, Row.fresh w #[.int .i64 s, .int .i64 t] 3 (0, 0) _ rfl trivial _ rfl⟩
  generalize a.eval = ρ at hx hy
  unfold execOp
  go_simp
theorem kq_row1E {s : Int} (ho : o.op = .buildSlice 67 1 #[(0, x)]) (hx : a.eval x = .int .i64 s) : o.wp Tryd.prog a w (fun a' w' => ∃ v, a' = a.put o.dst v ∧ Kp w w' ∧ (Kn.row [.int .i64 s]).V w' v) Q := by
  refine kp_yield (v := .slice (some ⟨w.heap.size, 0, none⟩) 1 1) (w' := w.alloc (.cells #[.int .i64 s] 22)) ?_ ((Keeps.refl _ w).alloc _) ⟨_, rfl, Row.fresh w #[.int .i64 s] 22 (0, 0) _ rfl trivial _ rfl⟩
  generalize a.eval = ρ at hx
  unfold execOp
  go_simp
theorem kq_row5L {s1 s2 s3 s4 s5 : Int} (ho : o.op = .buildSlice 66 5 #[(0, x1), (1, x2), (2, x3), (3, x4), (4, x5)]) (h1 : a.eval x1 = .int .i64 s1) (h2 : a.eval x2 = .int .i64 s2) (h3 : a.eval x3 = .int .i64 s3) (h4 : a.eval x4 = .int .i64 s4) (h5 : a.eval x5 = .int .i64 s5) :
    o.wp Tryd.prog a w (fun a' w' => ∃ v, a' = a.put o.dst v ∧ Kp w w' ∧ (Kn.row [.int .i64 s1, .int .i64 s2, .int .i64 s3, .int .i64 s4, .int .i64 s5]).V w' v) Q := by
  refine kp_yield (v := .slice (some ⟨w.heap.size, 0, none⟩) 5 5) (w' := w.alloc (.cells #[.int .i64 s1, .int .i64 s2, .int .i64 s3, .int .i64 s4, .int .i64 s5] 2)) ?_ ((Keeps.refl _ w).alloc _) ⟨_, rfl, Row.fresh w #[.int .i64 s1, .int .i64 s2, .int .i64 s3, .int .i64 s4, .int .i64 s5] 2 (0, 0) _ rfl trivial _ rfl⟩
  generalize a.eval = ρ at h1 h2 h3 h4 h5
  unfold execOp
  go_simp
theorem kq_call3 {f : FuncId} {lo hi : Int} {A : Option Addr} {n c : Nat} {t1 t2 t3 : TypeId} {r : Value} (hcf : (callFunc f #[.int .i64 lo, .int .i64 hi, .slice A n c]).run Tryd.prog w = .ok (.enter f #[.int .i64 lo, .int .i64 hi, .slice A n c]) w) (hc : Calls Tryd.prog f #[.int .i64 lo, .int .i64 hi, .slice A n c] w fun e w' => e = .returned r ∧ w = w')
    (ho : o.op = .call { callee := .value (.func f), args := #[.const (.int .i64 lo), .const (.int .i64 hi), x], argTypes := #[t1, t2, t3] }) (hx : a.eval x = .slice A n c) : o.wp Tryd.prog a w (fun a' w' => ∃ v, a' = a.put o.dst v ∧ Kp w w' ∧ IsV r w' v) Q := by
  refine kp_enter (f := f) (args := #[.int .i64 lo, .int .i64 hi, .slice A n c]) ?_ hc (fun e w' h => ⟨r, h.1, by rw [← h.2]; exact Keeps.refl _ _, rfl⟩)
  have hf : a.eval (.func f) = .func (.func f) #[] #[] := rfl
  have h1 : a.eval (.const (.int .i64 lo)) = .int .i64 lo := rfl
  have h2 : a.eval (.const (.int .i64 hi)) = .int .i64 hi := rfl
  generalize a.eval = ρ at hx hf h1 h2 ⊢
  unfold execOp
  rw [ho]
  go_simp
theorem kq_within_int (lo hi : Int) (l : List Int) (hm : l.length ≤ 100) {t1 t2 t3 : TypeId} (ho : o.op = .call { callee := .value (.func 21), args := #[.const (.int .i64 lo), .const (.int .i64 hi), x], argTypes := #[t1, t2, t3] }) (hx : (Kn.row (l.map (Value.int .i64))).V w (a.eval x)) :
    o.wp Tryd.prog a w (fun a' w' => ∃ v, a' = a.put o.dst v ∧ Kp w w' ∧ IsV (.bool (withinB lo hi l)) w' v) Q := by
  obtain ⟨B, e, hr⟩ := hx
  rw [List.length_map] at e
  exact kq_call3 (by go_simp) (within_int lo hi _ _ l w hr (Nat.le_refl _) (Nat.le_trans hm (by decide))) ho e
theorem kq_within_int64 (lo hi : Int) (l : List Int) (hm : l.length ≤ 100) {t1 t2 t3 : TypeId} (ho : o.op = .call { callee := .value (.func 22), args := #[.const (.int .i64 lo), .const (.int .i64 hi), x], argTypes := #[t1, t2, t3] }) (hx : (Kn.row (l.map (Value.int .i64))).V w (a.eval x)) :
    o.wp Tryd.prog a w (fun a' w' => ∃ v, a' = a.put o.dst v ∧ Kp w w' ∧ IsV (.bool (withinB lo hi l)) w' v) Q := by
  obtain ⟨B, e, hr⟩ := hx
  rw [List.length_map] at e
  exact kq_call3 (by go_simp) (within_int64 lo hi _ _ l w hr (Nat.le_refl _) (Nat.le_trans hm (by decide))) ho e
theorem kq_within_errno (lo hi : Int) (l : List Int) (hm : l.length ≤ 100) {t1 t2 t3 : TypeId} (ho : o.op = .call { callee := .value (.func 23), args := #[.const (.int .i64 lo), .const (.int .i64 hi), x], argTypes := #[t1, t2, t3] }) (hx : (Kn.row (l.map (Value.int .i64))).V w (a.eval x)) :
    o.wp Tryd.prog a w (fun a' w' => ∃ v, a' = a.put o.dst v ∧ Kp w w' ∧ IsV (.bool (withinB lo hi l)) w' v) Q := by
  obtain ⟨B, e, hr⟩ := hx
  rw [List.length_map] at e
  exact kq_call3 (by go_simp) (within_errno lo hi _ _ l w hr (Nat.le_refl _) (Nat.le_trans hm (by decide))) ho e
theorem kq_leK {n : Nat} (ho : o.op = .binOp .leq 3 x y 3) (hx : a.eval x = .int .i64 (n : Int)) (hy : a.eval y = .int .i64 40) : o.wp Tryd.prog a w (fun a' w' => ∃ v, a' = a.put o.dst v ∧ Kp w w' ∧ IsV (.bool (decide (n ≤ 40))) w' v) Q := by
  have e : decide ((n : Int) ≤ 40) = decide (n ≤ 40) := decide_eq_decide.2 (by omega)
  rw [← e]
  refine kp_yield (v := .bool (decide ((n : Int) ≤ 40))) (w' := w) ?_ (Keeps.refl _ _) rfl
  generalize a.eval = ρ at hx hy ⊢
  unfold execOp
  rw [ho]
  go_simp
theorem kq_eq19Y {u v : It} {e : Bool} (he : decide (u = v) = e) (ho : o.op = .binOp .eql 24 x y 24) (hx : a.eval x = .agg #[.string u.key, .string u.val, .int .i64 u.till, .bool u.gone]) (hy : a.eval y = .agg #[.string v.key, .string v.val, .int .i64 v.till, .bool v.gone]) :
    o.wp Tryd.prog a w (fun a' w' => ∃ v, a' = a.put o.dst v ∧ Kp w w' ∧ IsV (.bool e) w' v) Q := by
  refine kp_yield (v := .bool e) (w' := w) ?_ (Keeps.refl _ _) rfl
  generalize a.eval = ρ at hx hy ⊢
  unfold execOp
  rw [ho]
  go_simp
  subst he
  obtain ⟨k1, v1, t1, g1⟩ := u
  obtain ⟨k2, v2, t2, g2⟩ := v
  have hk : (k1.toList = k2.toList) = (k1 = k2) := propext (by have := str_same k1 k2; rw [Bool.eq_iff_iff] at this; simpa using this)
  have hv : (v1.toList = v2.toList) = (v1 = v2) := propext (by have := str_same v1 v2; rw [Bool.eq_iff_iff] at this; simpa using this)
  simp only [hk, hv, It.mk.injEq]
  by_cases h1 : k1 = k2 <;> by_cases h2 : v1 = v2 <;> by_cases h3 : t1 = t2 <;> by_cases h4 : g1 = g2 <;> simp [h1, h2, h3, h4]
end
theorem cg_imay (v : Value) (w : World) : (callFunc 24 #[v]).run Tryd.prog w = .ok (.enter 24 #[v]) w := by go_simp
theorem cg_items (v : Value) (w : World) : (callFunc 25 #[v]).run Tryd.prog w = .ok (.enter 25 #[v]) w := by go_simp
theorem cg_marks (v : Value) (w : World) : (callFunc 26 #[v]).run Tryd.prog w = .ok (.enter 26 #[v]) w := by go_simp
theorem cg_nodes (v : Value) (w : World) : (callFunc 27 #[v]).run Tryd.prog w = .ok (.enter 27 #[v]) w := by go_simp

def mayKV (m : Ms) (a : MsA) (g : Nat) (p4 p11 p18 p32 p38 p44 p50 p56 e0 p66 p67 p72 p77 p82 p87 : Bool) : List Kn :=
  [.is (.pointer (some ⟨g, 0, none⟩)), .is (.int .i64 m.kind), .row [.int .i64 m.kind], .is (.bool (withinB 1 14 [m.kind])), .is (.bool p4), cond p4 (.is (.pointer (some ⟨g, 1, none⟩))) (.is undef), cond p4 (.is (.int .i64 m.frm)) (.is undef), cond p4 (.is (.pointer (some ⟨g, 2, none⟩))) (.is undef), cond p4 (.is (.int .i64 m.to_)) (.is undef), cond p4 (.row [.int .i64 m.frm, .int .i64 m.to_]) (.is undef), cond p4 (.is (.bool (withinB 0 5 [m.frm, m.to_]))) (.is undef), .is (.bool p11), .is (.bool p11), cond p11 (.is (.pointer (some ⟨g, 1, none⟩))) (.is undef), cond p11 (.is (.int .i64 m.frm)) (.is undef), cond p11 (.is (.pointer (some ⟨g, 2, none⟩))) (.is undef), cond p11 (.is (.int .i64 m.to_)) (.is undef), cond p11 (.is (.bool (m.frm != m.to_))) (.is undef), .is (.bool p18), .is (.bool p18), cond p18 (.is (.pointer (some ⟨g, 3, none⟩))) (.is undef), cond p18 (.is (.int .i64 m.epoch)) (.is undef), cond p18 (.is (.pointer (some ⟨g, 4, none⟩))) (.is undef), cond p18 (.is (.int .i64 m.tick)) (.is undef), cond p18 (.is (.pointer (some ⟨g, 5, none⟩))) (.is undef), cond p18 (.is (.int .i64 m.seq)) (.is undef), cond p18 (.is (.pointer (some ⟨g, 7, none⟩))) (.is undef), cond p18 (.is (.int .i64 m.id)) (.is undef), cond p18 (.is (.pointer (some ⟨g, 19, none⟩))) (.is undef), cond p18 (.is (.int .i64 m.base)) (.is undef), cond p18 (.row [.int .i64 m.epoch, .int .i64 m.tick, .int .i64 m.seq, .int .i64 m.id, .int .i64 m.base]) (.is undef), cond p18 (.is (.bool (withinB 0 1099511627776 [m.epoch, m.tick, m.seq, m.id, m.base]))) (.is undef), .is (.bool p32), .is (.bool p32), cond p32 (.is (.pointer (some ⟨g, 6, none⟩))) (.is undef), cond p32 (.is (.int .i64 m.n)) (.is undef), cond p32 (.row [.int .i64 m.n]) (.is undef), cond p32 (.is (.bool (withinB 0 1073741824 [m.n]))) (.is undef), .is (.bool p38), .is (.bool p38), cond p38 (.is (.pointer (some ⟨g, 8, none⟩))) (.is undef), cond p38 (.is (.int .i64 m.op)) (.is undef), cond p38 (.row [.int .i64 m.op]) (.is undef), cond p38 (.is (.bool (withinB 0 2 [m.op]))) (.is undef), .is (.bool p44), .is (.bool p44), cond p44 (.is (.pointer (some ⟨g, 9, none⟩))) (.is undef), cond p44 (.is (.string m.key)) (.is undef), cond p44 (.is (.int .i64 ((m.key.size : Nat) : Int))) (.is undef), cond p44 (.is (.bool (decide (m.key.size ≤ 40)))) (.is undef), .is (.bool p50), .is (.bool p50), cond p50 (.is (.pointer (some ⟨g, 10, none⟩))) (.is undef), cond p50 (.is (.int .i64 m.err)) (.is undef), cond p50 (.row [.int .i64 m.err]) (.is undef), cond p50 (.is (.bool (withinB 0 10 [m.err]))) (.is undef), .is (.bool p56), .is (.bool p56), cond p56 (.is (.pointer (some ⟨g, 12, none⟩))) (.is undef), cond p56 (.is (.agg #[.string m.item.key, .string m.item.val, .int .i64 m.item.till, .bool m.item.gone])) (.is undef), cond p56 (.is (.agg #[.string ⟨#[]⟩, .string ⟨#[]⟩, .int .i64 0, .bool false])) (.is undef), cond p56 (.is (.bool e0)) (.is undef), cond p56 (.is (.bool e0)) (.is undef), cond p56 (cond e0 (.is undef) (.is (.pointer (some ⟨g, 12, none⟩)))) (.is undef), cond p56 (cond e0 (.is undef) (.is (.agg #[.string m.item.key, .string m.item.val, .int .i64 m.item.till, .bool m.item.gone]))) (.is undef), cond p56 (cond e0 (.is undef) (.is (.bool m.item.may))) (.is undef), cond p56 (.is (.bool p66)) (.is undef), .is (.bool p67), .is (.bool p67), cond p67 (.is (.pointer (some ⟨g, 16, none⟩))) (.is undef), cond p67 (.is (.slice a.ia m.items.length a.ic)) (.is undef), cond p67 (.is (.bool (decide (m.items.length ≤ 4) && m.items.all It.may))) (.is undef), .is (.bool p72), .is (.bool p72), cond p72 (.is (.pointer (some ⟨g, 17, none⟩))) (.is undef), cond p72 (.is (.slice a.ma m.marks.length a.mc)) (.is undef), cond p72 (.is (.bool (decide (m.marks.length ≤ 4) && marksB m.marks))) (.is undef), .is (.bool p77), .is (.bool p77), cond p77 (.is (.pointer (some ⟨g, 18, none⟩))) (.is undef), cond p77 (.is (.slice a.ba m.mem.length a.bc)) (.is undef), cond p77 (.is (.bool (decide (m.mem.length = 0) || nodesB m.mem))) (.is undef), .is (.bool p82), .is (.bool p82), cond p82 (.is (.pointer (some ⟨g, 20, none⟩))) (.is undef), cond p82 (.is (.slice a.oa m.old.length a.oc)) (.is undef), cond p82 (.is (.bool (decide (m.old.length = 0) || nodesB m.old))) (.is undef), .is (.bool p87), .is (.bool p87)]
def mayKG (p4 p11 p18 p32 p38 p44 p50 p56 e0 _p66 p67 p72 p77 p82 _p87 : Bool) : List (Nat × Option Bool) := [(4, some p4), (12, some p11), (19, some p18), (33, some p32), (39, some p38), (45, some p44), (51, some p50), (57, some p56), (62, cond p56 (some e0) none), (68, some p67), (73, some p72), (78, some p77), (83, some p82)]

theorem may_chain (m : Ms) (p4 p11 p18 p32 p38 p44 p50 p56 e0 p66 p67 p72 p77 p82 p87 : Bool) (hp4 : (withinB 1 14 [m.kind]) = p4) (hp11 : (p4 && (withinB 0 5 [m.frm, m.to_])) = p11) (hp18 : (p11 && (m.frm != m.to_)) = p18) (hp32 : (p18 && (withinB 0 1099511627776 [m.epoch, m.tick, m.seq, m.id, m.base])) = p32) (hp38 : (p32 && (withinB 0 1073741824 [m.n])) = p38) (hp44 : (p38 && (withinB 0 2 [m.op])) = p44) (hp50 : (p44 && (decide (m.key.size ≤ 40))) = p50) (hp56 : (p50 && (withinB 0 10 [m.err])) = p56) (he0 : (decide (m.item = it0)) = e0) (hp66 : (e0 || (m.item.may)) = p66) (hp67 : (p56 && p66) = p67) (hp72 : (p67 && (decide (m.items.length ≤ 4) && m.items.all It.may)) = p72) (hp77 : (p72 && (decide (m.marks.length ≤ 4) && marksB m.marks)) = p77) (hp82 : (p77 && (decide (m.mem.length = 0) || nodesB m.mem)) = p82) (hp87 : (p82 && (decide (m.old.length = 0) || nodesB m.old)) = p87) : mayM m = p87 := by
  subst hp4 hp11 hp18 hp32 hp38 hp44 hp50 hp56 he0 hp66 hp67 hp72 hp77 hp82 hp87
  unfold mayM headB listB numB withinB
  simp only [List.all_cons, List.all_nil, Bool.and_true, bne]
  ac_rfl

set_option maxRecDepth 100000 in
set_option maxHeartbeats 4000000 in
theorem mmay (w : World) (m : Ms) (a : MsA) (hm : MsAt w m a) (fm : m.Wide) :
    Calls Tryd.prog 11 #[msV m a] w fun e w' => e = .returned (.bool (mayM m)) ∧ Kp w w' := by
  have HM := Lib.hid hm
  have FM := Lib.hid fm
  obtain ⟨vM, hvM⟩ : ∃ v, msV m a = v := ⟨_, rfl⟩
  have HVM := Lib.hid hvM
  rw [hvM]
  clear hm fm hvM
  go_enter Tryd.func11, Tryd.ntmps11
  go_upto_region 1 with (refine list_boxM rfl (.tmp 0) rfl m a HVM.out.symm ?_; intro w1 hb1 hk1 hs1)
  obtain ⟨g, hg⟩ : ∃ g, w.heap.size = g := ⟨_, rfl⟩
  rw [hg] at hb1 hs1 ⊢
  have HB1 := Lib.hid hb1
  have HK := Lib.hid hk1
  have cellsM : ∀ {w5 : World}, Kp w1 w5 → ∀ (i : Nat) (v : Value), (msC m a)[i]? = some v → w5.cell? ⟨g, i, none⟩ = some v := fun h i v hv => (HB1.out.kp h).cell i v hv
  clear hb1 hk1 hs1 hg
  obtain ⟨p4, hp4⟩ : ∃ p, (withinB 1 14 [m.kind]) = p := ⟨_, rfl⟩
  obtain ⟨p11, hp11⟩ : ∃ p, (p4 && (withinB 0 5 [m.frm, m.to_])) = p := ⟨_, rfl⟩
  obtain ⟨p18, hp18⟩ : ∃ p, (p11 && (m.frm != m.to_)) = p := ⟨_, rfl⟩
  obtain ⟨p32, hp32⟩ : ∃ p, (p18 && (withinB 0 1099511627776 [m.epoch, m.tick, m.seq, m.id, m.base])) = p := ⟨_, rfl⟩
  obtain ⟨p38, hp38⟩ : ∃ p, (p32 && (withinB 0 1073741824 [m.n])) = p := ⟨_, rfl⟩
  obtain ⟨p44, hp44⟩ : ∃ p, (p38 && (withinB 0 2 [m.op])) = p := ⟨_, rfl⟩
  obtain ⟨p50, hp50⟩ : ∃ p, (p44 && (decide (m.key.size ≤ 40))) = p := ⟨_, rfl⟩
  obtain ⟨p56, hp56⟩ : ∃ p, (p50 && (withinB 0 10 [m.err])) = p := ⟨_, rfl⟩
  obtain ⟨e0, he0⟩ : ∃ p, (decide (m.item = it0)) = p := ⟨_, rfl⟩
  obtain ⟨p66, hp66⟩ : ∃ p, (e0 || (m.item.may)) = p := ⟨_, rfl⟩
  obtain ⟨p67, hp67⟩ : ∃ p, (p56 && p66) = p := ⟨_, rfl⟩
  obtain ⟨p72, hp72⟩ : ∃ p, (p67 && (decide (m.items.length ≤ 4) && m.items.all It.may)) = p := ⟨_, rfl⟩
  obtain ⟨p77, hp77⟩ : ∃ p, (p72 && (decide (m.marks.length ≤ 4) && marksB m.marks)) = p := ⟨_, rfl⟩
  obtain ⟨p82, hp82⟩ : ∃ p, (p77 && (decide (m.mem.length = 0) || nodesB m.mem)) = p := ⟨_, rfl⟩
  obtain ⟨p87, hp87⟩ : ∃ p, (p82 && (decide (m.old.length = 0) || nodesB m.old)) = p := ⟨_, rfl⟩
  refine wp_region_kn (mayKV m a g p4 p11 p18 p32 p38 p44 p50 p56 e0 p66 p67 p72 p77 p82 p87) (mayKG p4 p11 p18 p32 p38 p44 p50 p56 e0 p66 p67 p72 p77 p82 p87) [] (by cases p56 <;> kernel_rfl) (fun i hi => by cases hi) ?_ (each_of ?_) (each_of ?_) ?_
  · intro p hp; simp only [mayKG, List.mem_cons, List.not_mem_nil, or_false] at hp
    rcases hp with rfl | rfl | rfl | rfl | rfl | rfl | rfl | rfl | rfl | rfl | rfl | rfl | rfl <;> intro c hc
    · cases hc; rfl
    · cases hc; rfl
    · cases hc; rfl
    · cases hc; rfl
    · cases hc; rfl
    · cases hc; rfl
    · cases hc; rfl
    · cases hc; rfl
    · cases p56 with | false => (cases hc) | true => (cases hc; rfl)
    · cases hc; rfl
    · cases hc; rfl
    · cases hc; rfl
    · cases hc; rfl
  · refine ⟨?_, ?_, ?_, ?_, ?_, ?_, ?_, ?_, ?_, ?_, ?_, ?_, ?_, ?_, ?_, ?_, ?_, ?_, ?_, ?_, ?_, ?_, ?_, ?_, ?_, ?_, ?_, ?_, ?_, ?_, ?_, ?_, ?_, ?_, ?_, ?_, ?_, ?_, ?_, ?_, ?_, ?_, ?_, ?_, ?_, ?_, ?_, ?_, ?_, ?_, ?_, ?_, ?_, ?_, ?_, ?_, ?_, ?_, ?_, ?_, ?_, ?_, ?_, ?_, ?_, ?_, ?_, ?_, ?_, ?_, ?_, ?_, ?_, ?_, ?_, ?_, ?_, ?_, ?_, ?_, ?_, ?_, ?_, ?_, ?_, ?_, ?_, ?_, ?_, trivial⟩ <;> intro hw
    · exact nomatch (show true = false from hw)
    · exact nomatch (show true = false from hw)
    · exact nomatch (show true = false from hw)
    · exact nomatch (show true = false from hw)
    · exact nomatch (show true = false from hw)
    · cases p4 with | false => rfl | true => exact nomatch (show true = false from hw)
    · cases p4 with | false => rfl | true => exact nomatch (show true = false from hw)
    · cases p4 with | false => rfl | true => exact nomatch (show true = false from hw)
    · cases p4 with | false => rfl | true => exact nomatch (show true = false from hw)
    · cases p4 with | false => rfl | true => exact nomatch (show true = false from hw)
    · cases p4 with | false => rfl | true => exact nomatch (show true = false from hw)
    · exact nomatch (show true = false from hw)
    · exact nomatch (show true = false from hw)
    · cases p11 with | false => rfl | true => exact nomatch (show true = false from hw)
    · cases p11 with | false => rfl | true => exact nomatch (show true = false from hw)
    · cases p11 with | false => rfl | true => exact nomatch (show true = false from hw)
    · cases p11 with | false => rfl | true => exact nomatch (show true = false from hw)
    · cases p11 with | false => rfl | true => exact nomatch (show true = false from hw)
    · exact nomatch (show true = false from hw)
    · exact nomatch (show true = false from hw)
    · cases p18 with | false => rfl | true => exact nomatch (show true = false from hw)
    · cases p18 with | false => rfl | true => exact nomatch (show true = false from hw)
    · cases p18 with | false => rfl | true => exact nomatch (show true = false from hw)
    · cases p18 with | false => rfl | true => exact nomatch (show true = false from hw)
    · cases p18 with | false => rfl | true => exact nomatch (show true = false from hw)
    · cases p18 with | false => rfl | true => exact nomatch (show true = false from hw)
    · cases p18 with | false => rfl | true => exact nomatch (show true = false from hw)
    · cases p18 with | false => rfl | true => exact nomatch (show true = false from hw)
    · cases p18 with | false => rfl | true => exact nomatch (show true = false from hw)
    · cases p18 with | false => rfl | true => exact nomatch (show true = false from hw)
    · cases p18 with | false => rfl | true => exact nomatch (show true = false from hw)
    · cases p18 with | false => rfl | true => exact nomatch (show true = false from hw)
    · exact nomatch (show true = false from hw)
    · exact nomatch (show true = false from hw)
    · cases p32 with | false => rfl | true => exact nomatch (show true = false from hw)
    · cases p32 with | false => rfl | true => exact nomatch (show true = false from hw)
    · cases p32 with | false => rfl | true => exact nomatch (show true = false from hw)
    · cases p32 with | false => rfl | true => exact nomatch (show true = false from hw)
    · exact nomatch (show true = false from hw)
    · exact nomatch (show true = false from hw)
    · cases p38 with | false => rfl | true => exact nomatch (show true = false from hw)
    · cases p38 with | false => rfl | true => exact nomatch (show true = false from hw)
    · cases p38 with | false => rfl | true => exact nomatch (show true = false from hw)
    · cases p38 with | false => rfl | true => exact nomatch (show true = false from hw)
    · exact nomatch (show true = false from hw)
    · exact nomatch (show true = false from hw)
    · cases p44 with | false => rfl | true => exact nomatch (show true = false from hw)
    · cases p44 with | false => rfl | true => exact nomatch (show true = false from hw)
    · cases p44 with | false => rfl | true => exact nomatch (show true = false from hw)
    · cases p44 with | false => rfl | true => exact nomatch (show true = false from hw)
    · exact nomatch (show true = false from hw)
    · exact nomatch (show true = false from hw)
    · cases p50 with | false => rfl | true => exact nomatch (show true = false from hw)
    · cases p50 with | false => rfl | true => exact nomatch (show true = false from hw)
    · cases p50 with | false => rfl | true => exact nomatch (show true = false from hw)
    · cases p50 with | false => rfl | true => exact nomatch (show true = false from hw)
    · exact nomatch (show true = false from hw)
    · exact nomatch (show true = false from hw)
    · cases p56 with | false => rfl | true => exact nomatch (show true = false from hw)
    · cases p56 with | false => rfl | true => exact nomatch (show true = false from hw)
    · cases p56 with | false => rfl | true => exact nomatch (show true = false from hw)
    · cases p56 with | false => rfl | true => exact nomatch (show true = false from hw)
    · cases p56 with | false => rfl | true => exact nomatch (show true = false from hw)
    · cases p56 with | false => rfl | true => cases e0 with | true => rfl | false => exact nomatch (show true = false from hw)
    · cases p56 with | false => rfl | true => cases e0 with | true => rfl | false => exact nomatch (show true = false from hw)
    · cases p56 with | false => rfl | true => cases e0 with | true => rfl | false => exact nomatch (show true = false from hw)
    · cases p56 with | false => rfl | true => exact nomatch (show true = false from hw)
    · exact nomatch (show true = false from hw)
    · exact nomatch (show true = false from hw)
    · cases p67 with | false => rfl | true => exact nomatch (show true = false from hw)
    · cases p67 with | false => rfl | true => exact nomatch (show true = false from hw)
    · cases p67 with | false => rfl | true => exact nomatch (show true = false from hw)
    · exact nomatch (show true = false from hw)
    · exact nomatch (show true = false from hw)
    · cases p72 with | false => rfl | true => exact nomatch (show true = false from hw)
    · cases p72 with | false => rfl | true => exact nomatch (show true = false from hw)
    · cases p72 with | false => rfl | true => exact nomatch (show true = false from hw)
    · exact nomatch (show true = false from hw)
    · exact nomatch (show true = false from hw)
    · cases p77 with | false => rfl | true => exact nomatch (show true = false from hw)
    · cases p77 with | false => rfl | true => exact nomatch (show true = false from hw)
    · cases p77 with | false => rfl | true => exact nomatch (show true = false from hw)
    · exact nomatch (show true = false from hw)
    · exact nomatch (show true = false from hw)
    · cases p82 with | false => rfl | true => exact nomatch (show true = false from hw)
    · cases p82 with | false => rfl | true => exact nomatch (show true = false from hw)
    · cases p82 with | false => rfl | true => exact nomatch (show true = false from hw)
    · exact nomatch (show true = false from hw)
    · exact nomatch (show true = false from hw)
  · refine ⟨?_, ?_, ?_, ?_, ?_, ?_, ?_, ?_, ?_, ?_, ?_, ?_, ?_, ?_, ?_, ?_, ?_, ?_, ?_, ?_, ?_, ?_, ?_, ?_, ?_, ?_, ?_, ?_, ?_, ?_, ?_, ?_, ?_, ?_, ?_, ?_, ?_, ?_, ?_, ?_, ?_, ?_, ?_, ?_, ?_, ?_, ?_, ?_, ?_, ?_, ?_, ?_, ?_, ?_, ?_, ?_, ?_, ?_, ?_, ?_, ?_, ?_, ?_, ?_, ?_, ?_, ?_, ?_, ?_, ?_, ?_, ?_, ?_, ?_, ?_, ?_, ?_, ?_, ?_, ?_, ?_, ?_, ?_, ?_, ?_, ?_, ?_, ?_, ?_, trivial⟩ <;> intro hw a1 w3 L
    · exact kp_f19_0 rfl (L.old 1 (by kernel_rfl))
    · exact kp_ld19I (cellsM L.rel 0 (.int .i64 m.kind) rfl) rfl (L.val 0 3 (by kernel_rfl) (by kernel_rfl))
    · exact kq_row1I rfl (L.val 1 4 (by kernel_rfl) (by kernel_rfl))
    · exact kq_within_int 1 14 [m.kind] (Nat.le_of_ble_eq_true rfl) rfl (L.val 2 5 (by kernel_rfl) (by kernel_rfl))
    · exact kq_bool hp4 rfl (L.val 3 6 (by kernel_rfl) (by kernel_rfl))
    · cases p4 with | false => exact nomatch (show false = true from hw) | true => exact kp_f19_1 rfl (L.old 1 (by kernel_rfl))
    · cases p4 with | false => exact nomatch (show false = true from hw) | true => exact kp_ld19I (cellsM L.rel 1 (.int .i64 m.frm) rfl) rfl (L.val 5 8 (by kernel_rfl) (by kernel_rfl))
    · cases p4 with | false => exact nomatch (show false = true from hw) | true => exact kp_f19_2 rfl (L.old 1 (by kernel_rfl))
    · cases p4 with | false => exact nomatch (show false = true from hw) | true => exact kp_ld19I (cellsM L.rel 2 (.int .i64 m.to_) rfl) rfl (L.val 7 10 (by kernel_rfl) (by kernel_rfl))
    · cases p4 with | false => exact nomatch (show false = true from hw) | true => exact kq_row2I rfl (L.val 6 9 (by kernel_rfl) (by kernel_rfl)) (L.val 8 11 (by kernel_rfl) (by kernel_rfl))
    · cases p4 with | false => exact nomatch (show false = true from hw) | true => exact kq_within_int 0 5 [m.frm, m.to_] (Nat.le_of_ble_eq_true rfl) rfl (L.val 9 12 (by kernel_rfl) (by kernel_rfl))
    · exact kq_and hp11 rfl (L.val 4 7 (by kernel_rfl) (by kernel_rfl)) (L.val 10 13 (by kernel_rfl) (by kernel_rfl)) rfl
    · exact kp_move rfl (L.val 11 14 (by kernel_rfl) (by kernel_rfl))
    · cases p11 with | false => exact nomatch (show false = true from hw) | true => exact kp_f19_1 rfl (L.old 1 (by kernel_rfl))
    · cases p11 with | false => exact nomatch (show false = true from hw) | true => exact kp_ld19I (cellsM L.rel 1 (.int .i64 m.frm) rfl) rfl (L.val 13 16 (by kernel_rfl) (by kernel_rfl))
    · cases p11 with | false => exact nomatch (show false = true from hw) | true => exact kp_f19_2 rfl (L.old 1 (by kernel_rfl))
    · cases p11 with | false => exact nomatch (show false = true from hw) | true => exact kp_ld19I (cellsM L.rel 2 (.int .i64 m.to_) rfl) rfl (L.val 15 18 (by kernel_rfl) (by kernel_rfl))
    · cases p11 with | false => exact nomatch (show false = true from hw) | true => exact kp_ne19I rfl (L.val 14 17 (by kernel_rfl) (by kernel_rfl)) (L.val 16 19 (by kernel_rfl) (by kernel_rfl))
    · exact kq_and hp18 rfl (L.val 12 15 (by kernel_rfl) (by kernel_rfl)) (L.val 17 20 (by kernel_rfl) (by kernel_rfl)) rfl
    · exact kp_move rfl (L.val 18 21 (by kernel_rfl) (by kernel_rfl))
    · cases p18 with | false => exact nomatch (show false = true from hw) | true => exact kp_f19_3 rfl (L.old 1 (by kernel_rfl))
    · cases p18 with | false => exact nomatch (show false = true from hw) | true => exact kp_ld19L (cellsM L.rel 3 (.int .i64 m.epoch) rfl) rfl (L.val 20 23 (by kernel_rfl) (by kernel_rfl))
    · cases p18 with | false => exact nomatch (show false = true from hw) | true => exact kp_f19_4 rfl (L.old 1 (by kernel_rfl))
    · cases p18 with | false => exact nomatch (show false = true from hw) | true => exact kp_ld19L (cellsM L.rel 4 (.int .i64 m.tick) rfl) rfl (L.val 22 25 (by kernel_rfl) (by kernel_rfl))
    · cases p18 with | false => exact nomatch (show false = true from hw) | true => exact kp_f19_5 rfl (L.old 1 (by kernel_rfl))
    · cases p18 with | false => exact nomatch (show false = true from hw) | true => exact kp_ld19L (cellsM L.rel 5 (.int .i64 m.seq) rfl) rfl (L.val 24 27 (by kernel_rfl) (by kernel_rfl))
    · cases p18 with | false => exact nomatch (show false = true from hw) | true => exact kp_f19_7 rfl (L.old 1 (by kernel_rfl))
    · cases p18 with | false => exact nomatch (show false = true from hw) | true => exact kp_ld19L (cellsM L.rel 7 (.int .i64 m.id) rfl) rfl (L.val 26 29 (by kernel_rfl) (by kernel_rfl))
    · cases p18 with | false => exact nomatch (show false = true from hw) | true => exact kp_f19_16 rfl (L.old 1 (by kernel_rfl))
    · cases p18 with | false => exact nomatch (show false = true from hw) | true => exact kp_ld19L (cellsM L.rel 19 (.int .i64 m.base) rfl) rfl (L.val 28 31 (by kernel_rfl) (by kernel_rfl))
    · cases p18 with | false => exact nomatch (show false = true from hw) | true => exact kq_row5L rfl (L.val 21 24 (by kernel_rfl) (by kernel_rfl)) (L.val 23 26 (by kernel_rfl) (by kernel_rfl)) (L.val 25 28 (by kernel_rfl) (by kernel_rfl)) (L.val 27 30 (by kernel_rfl) (by kernel_rfl)) (L.val 29 32 (by kernel_rfl) (by kernel_rfl))
    · cases p18 with | false => exact nomatch (show false = true from hw) | true => exact kq_within_int64 0 1099511627776 [m.epoch, m.tick, m.seq, m.id, m.base] (Nat.le_of_ble_eq_true rfl) rfl (L.val 30 33 (by kernel_rfl) (by kernel_rfl))
    · exact kq_and hp32 rfl (L.val 19 22 (by kernel_rfl) (by kernel_rfl)) (L.val 31 34 (by kernel_rfl) (by kernel_rfl)) rfl
    · exact kp_move rfl (L.val 32 35 (by kernel_rfl) (by kernel_rfl))
    · cases p32 with | false => exact nomatch (show false = true from hw) | true => exact kp_f19_6 rfl (L.old 1 (by kernel_rfl))
    · cases p32 with | false => exact nomatch (show false = true from hw) | true => exact kp_ld19I (cellsM L.rel 6 (.int .i64 m.n) rfl) rfl (L.val 34 37 (by kernel_rfl) (by kernel_rfl))
    · cases p32 with | false => exact nomatch (show false = true from hw) | true => exact kq_row1I rfl (L.val 35 38 (by kernel_rfl) (by kernel_rfl))
    · cases p32 with | false => exact nomatch (show false = true from hw) | true => exact kq_within_int 0 1073741824 [m.n] (Nat.le_of_ble_eq_true rfl) rfl (L.val 36 39 (by kernel_rfl) (by kernel_rfl))
    · exact kq_and hp38 rfl (L.val 33 36 (by kernel_rfl) (by kernel_rfl)) (L.val 37 40 (by kernel_rfl) (by kernel_rfl)) rfl
    · exact kp_move rfl (L.val 38 41 (by kernel_rfl) (by kernel_rfl))
    · cases p38 with | false => exact nomatch (show false = true from hw) | true => exact kp_f19_8 rfl (L.old 1 (by kernel_rfl))
    · cases p38 with | false => exact nomatch (show false = true from hw) | true => exact kp_ld19I (cellsM L.rel 8 (.int .i64 m.op) rfl) rfl (L.val 40 43 (by kernel_rfl) (by kernel_rfl))
    · cases p38 with | false => exact nomatch (show false = true from hw) | true => exact kq_row1I rfl (L.val 41 44 (by kernel_rfl) (by kernel_rfl))
    · cases p38 with | false => exact nomatch (show false = true from hw) | true => exact kq_within_int 0 2 [m.op] (Nat.le_of_ble_eq_true rfl) rfl (L.val 42 45 (by kernel_rfl) (by kernel_rfl))
    · exact kq_and hp44 rfl (L.val 39 42 (by kernel_rfl) (by kernel_rfl)) (L.val 43 46 (by kernel_rfl) (by kernel_rfl)) rfl
    · exact kp_move rfl (L.val 44 47 (by kernel_rfl) (by kernel_rfl))
    · cases p44 with | false => exact nomatch (show false = true from hw) | true => exact kp_f19_9 rfl (L.old 1 (by kernel_rfl))
    · cases p44 with | false => exact nomatch (show false = true from hw) | true => exact kp_ld19T (cellsM L.rel 9 (.string m.key) rfl) rfl (L.val 46 49 (by kernel_rfl) (by kernel_rfl))
    · cases p44 with | false => exact nomatch (show false = true from hw) | true => exact kp_len19T rfl (L.val 47 50 (by kernel_rfl) (by kernel_rfl))
    · cases p44 with | false => exact nomatch (show false = true from hw) | true => exact kq_leK rfl (L.val 48 51 (by kernel_rfl) (by kernel_rfl)) rfl
    · exact kq_and hp50 rfl (L.val 45 48 (by kernel_rfl) (by kernel_rfl)) (L.val 49 52 (by kernel_rfl) (by kernel_rfl)) rfl
    · exact kp_move rfl (L.val 50 53 (by kernel_rfl) (by kernel_rfl))
    · cases p50 with | false => exact nomatch (show false = true from hw) | true => exact kp_f19_10 rfl (L.old 1 (by kernel_rfl))
    · cases p50 with | false => exact nomatch (show false = true from hw) | true => exact kp_ld19E (cellsM L.rel 10 (.int .i64 m.err) rfl) rfl (L.val 52 55 (by kernel_rfl) (by kernel_rfl))
    · cases p50 with | false => exact nomatch (show false = true from hw) | true => exact kq_row1E rfl (L.val 53 56 (by kernel_rfl) (by kernel_rfl))
    · cases p50 with | false => exact nomatch (show false = true from hw) | true => exact kq_within_errno 0 10 [m.err] (Nat.le_of_ble_eq_true rfl) rfl (L.val 54 57 (by kernel_rfl) (by kernel_rfl))
    · exact kq_and hp56 rfl (L.val 51 54 (by kernel_rfl) (by kernel_rfl)) (L.val 55 58 (by kernel_rfl) (by kernel_rfl)) rfl
    · exact kp_move rfl (L.val 56 59 (by kernel_rfl) (by kernel_rfl))
    · cases p56 with | false => exact nomatch (show false = true from hw) | true => exact kp_f19_12 rfl (L.old 1 (by kernel_rfl))
    · cases p56 with | false => exact nomatch (show false = true from hw) | true => exact kp_ld19Y (cellsM L.rel 12 (.string m.item.key) rfl) (cellsM L.rel 13 (.string m.item.val) rfl) (cellsM L.rel 14 (.int .i64 m.item.till) rfl) (cellsM L.rel 15 (.bool m.item.gone) rfl) rfl (L.val 58 61 (by kernel_rfl) (by kernel_rfl))
    · cases p56 with | false => exact nomatch (show false = true from hw) | true => exact kp_bd19Y rfl
    · cases p56 with | false => exact nomatch (show false = true from hw) | true => exact kq_eq19Y he0 rfl (L.val 59 62 (by kernel_rfl) (by kernel_rfl)) (L.val 60 63 (by kernel_rfl) (by kernel_rfl))
    · cases p56 with | false => exact nomatch (show false = true from hw) | true => exact kp_move rfl (L.val 61 64 (by kernel_rfl) (by kernel_rfl))
    · cases p56 with | false => exact nomatch (show false = true from hw) | true => cases e0 with | true => exact nomatch (show false = true from hw) | false => exact kp_f19_12 rfl (L.old 1 (by kernel_rfl))
    · cases p56 with | false => exact nomatch (show false = true from hw) | true => cases e0 with | true => exact nomatch (show false = true from hw) | false => exact kp_ld19Y (cellsM L.rel 12 (.string m.item.key) rfl) (cellsM L.rel 13 (.string m.item.val) rfl) (cellsM L.rel 14 (.int .i64 m.item.till) rfl) (cellsM L.rel 15 (.bool m.item.gone) rfl) rfl (L.val 63 66 (by kernel_rfl) (by kernel_rfl))
    · cases p56 with | false => exact nomatch (show false = true from hw) | true => cases e0 with | true => exact nomatch (show false = true from hw) | false => exact kp_c19 (cg_imay _ _) (imay _ m.item FM.out.item) rfl (L.val 64 67 (by kernel_rfl) (by kernel_rfl))
    · cases p56 with | false => exact nomatch (show false = true from hw) | true => exact kq_or hp66 rfl (L.val 62 65 (by kernel_rfl) (by kernel_rfl)) rfl (L.val 65 68 (by kernel_rfl) (by kernel_rfl))
    · exact kq_and hp67 rfl (L.val 57 60 (by kernel_rfl) (by kernel_rfl)) (L.val 66 69 (by kernel_rfl) (by kernel_rfl)) rfl
    · exact kp_move rfl (L.val 67 70 (by kernel_rfl) (by kernel_rfl))
    · cases p67 with | false => exact nomatch (show false = true from hw) | true => exact kp_f19_13 rfl (L.old 1 (by kernel_rfl))
    · cases p67 with | false => exact nomatch (show false = true from hw) | true => exact kp_ld19S (cellsM L.rel 16 (.slice a.ia m.items.length a.ic) rfl) rfl (L.val 69 72 (by kernel_rfl) (by kernel_rfl))
    · cases p67 with | false => exact nomatch (show false = true from hw) | true => exact kp_c19 (cg_items _ _) (may_items _ _ _ _ (HM.out.its.keep (HK.out.trans L.rel)) HM.out.il.1 HM.out.il.2 FM.out.il FM.out.its) rfl (L.val 70 73 (by kernel_rfl) (by kernel_rfl))
    · exact kq_and hp72 rfl (L.val 68 71 (by kernel_rfl) (by kernel_rfl)) (L.val 71 74 (by kernel_rfl) (by kernel_rfl)) rfl
    · exact kp_move rfl (L.val 72 75 (by kernel_rfl) (by kernel_rfl))
    · cases p72 with | false => exact nomatch (show false = true from hw) | true => exact kp_f19_14 rfl (L.old 1 (by kernel_rfl))
    · cases p72 with | false => exact nomatch (show false = true from hw) | true => exact kp_ld19K (cellsM L.rel 17 (.slice a.ma m.marks.length a.mc) rfl) rfl (L.val 74 77 (by kernel_rfl) (by kernel_rfl))
    · cases p72 with | false => exact nomatch (show false = true from hw) | true => exact kp_c19 (cg_marks _ _) (may_marks _ _ _ _ (HM.out.mks.keep (HK.out.trans L.rel)) HM.out.ml.1 HM.out.ml.2 FM.out.ml FM.out.mks) rfl (L.val 75 78 (by kernel_rfl) (by kernel_rfl))
    · exact kq_and hp77 rfl (L.val 73 76 (by kernel_rfl) (by kernel_rfl)) (L.val 76 79 (by kernel_rfl) (by kernel_rfl)) rfl
    · exact kp_move rfl (L.val 77 80 (by kernel_rfl) (by kernel_rfl))
    · cases p77 with | false => exact nomatch (show false = true from hw) | true => exact kp_f19_15 rfl (L.old 1 (by kernel_rfl))
    · cases p77 with | false => exact nomatch (show false = true from hw) | true => exact kp_ld19N (cellsM L.rel 18 (.slice a.ba m.mem.length a.bc) rfl) rfl (L.val 79 82 (by kernel_rfl) (by kernel_rfl))
    · cases p77 with | false => exact nomatch (show false = true from hw) | true => exact kp_c19 (cg_nodes _ _) (may_nodes _ _ _ _ (HM.out.mem.keep (HK.out.trans L.rel)) HM.out.bl.1 HM.out.bl.2.1) rfl (L.val 80 83 (by kernel_rfl) (by kernel_rfl))
    · exact kq_and hp82 rfl (L.val 78 81 (by kernel_rfl) (by kernel_rfl)) (L.val 81 84 (by kernel_rfl) (by kernel_rfl)) rfl
    · exact kp_move rfl (L.val 82 85 (by kernel_rfl) (by kernel_rfl))
    · cases p82 with | false => exact nomatch (show false = true from hw) | true => exact kp_f19_17 rfl (L.old 1 (by kernel_rfl))
    · cases p82 with | false => exact nomatch (show false = true from hw) | true => exact kp_ld19N (cellsM L.rel 20 (.slice a.oa m.old.length a.oc) rfl) rfl (L.val 84 87 (by kernel_rfl) (by kernel_rfl))
    · cases p82 with | false => exact nomatch (show false = true from hw) | true => exact kp_c19 (cg_nodes _ _) (may_nodes _ _ _ _ (HM.out.old.keep (HK.out.trans L.rel)) HM.out.ol.1 HM.out.ol.2.1) rfl (L.val 85 88 (by kernel_rfl) (by kernel_rfl))
    · exact kq_and hp87 rfl (L.val 83 86 (by kernel_rfl) (by kernel_rfl)) (L.val 86 89 (by kernel_rfl) (by kernel_rfl)) rfl
    · exact kq_set rfl (L.val 87 90 (by kernel_rfl) (by kernel_rfl))
  intro a3 w3 hk3 hd3 hz3 hv3
  have HE := Lib.hid ((may_chain m p4 p11 p18 p32 p38 p44 p50 p56 e0 p66 p67 p72 p77 p82 p87 hp4 hp11 hp18 hp32 hp38 hp44 hp50 hp56 he0 hp66 hp67 hp72 hp77 hp82 hp87).symm)
  have HV := Lib.hid (hv3 88 2 (by kernel_rfl))
  have HD := Lib.hid hd3
  have HK3 := Lib.hid (HK.out.trans hk3)
  clear hv3 hd3 hz3 hk3 hp4 hp11 hp18 hp32 hp38 hp44 hp50 hp56 he0 hp66 hp67 hp72 hp77 hp82 hp87 cellsM
  simp only [Exit.then]
  go_wp2_with fail
  refine bodyPost_ret (v := .bool (mayM m)) (results_slot rfl ?_) HD.out ⟨rfl, HK3.out⟩
  rw [← HE.out]
  exact HV.out

end Go.Proofs.YtfhhobinpmbgmaaDoor
end

/-
  slices.Equal of entries, of marks, of numbers (layer 19).
-/
section
namespace Go.Proofs.YtfhhobinpmbgmaaDoor
open Go Go.RowKit Go.Joins

theorem take_eqL {α : Type} {l m : List α} {k : Nat} (h : l.take k = m.take k) (hl : k < l.length) (hm : k < m.length) (e : l[k] = m[k]) : l.take (k + 1) = m.take (k + 1) := by
  rw [List.take_succ_eq_append_getElem hl, List.take_succ_eq_append_getElem hm, h, e]
theorem str_ne {a b : ByteArray} (h : a ≠ b) : ¬ a.toList = b.toList := fun e => by
  have := str_same a b
  rw [show (a.toList == b.toList) = true from by simpa using e] at this
  exact h (by simpa using this.symm)
set_option maxRecDepth 100000 in
set_option maxHeartbeats 1000000 in
theorem same_items (w : World) (A B : Option Addr) (c d : Nat) (l m : List It) (hA : ItsAt w A (fun _ => True) l) (hB : ItsAt w B (fun _ => True) m) (hl : l.length ≤ c) (_hm : m.length ≤ d) (hc : c ≤ maxLen) (_hd : d ≤ maxLen) (r : Bool) (hr : decide (l = m) = r) :
    Calls Tryd.prog 40 #[.slice A l.length c, .slice B m.length d] w fun e w' => e = .returned (.bool r) ∧ Kp w w' := by
  unfold maxLen at hc _hd
  have HA := Lib.hid hA
  have HB := Lib.hid hB
  clear hA hB
  by_cases hlen : l.length = m.length
  · have HR := Lib.hid hr
    have HL := Lib.hid hlen
    rw [← hlen] at _hm ⊢
    clear hr hlen
    go_enter Tryd.func40, Tryd.ntmps40
    go_wp2_with fail
    go_loopw [13] (fun i wr => ∃ k : Nat, k ≤ l.length ∧ i = .int .i64 (k : Int) ∧ Hid (l.take k = m.take k) ∧ Hid (Kp w wr)) (fun i _ => l.length - (intOf i).toNat)
    case atStart => exact ⟨0, Nat.zero_le _, rfl, Lib.hid rfl, Lib.hid (Keeps.refl _ _)⟩
    case round =>
      obtain ⟨k, hk, rfl, HT, HK⟩ := hrel
      by_cases hlt : k < l.length
      · have hlt' : (k : Int) < (l.length : Int) := by omega
        have hlm : k < m.length := by have := HL.out; omega
        have HN := Lib.hid (take_eqL HT.out hlt hlm)
        have HNE := Lib.hid (show l[k] ≠ m[k] → r = false from fun hne => by
          rw [← HR.out]
          simp only [decide_eq_false_iff_not]
          intro e; subst e; exact hne rfl)
        obtain ⟨b, o, rfl, -, c0, c1, c2, c3⟩ := (HA.out.keep HK.out) k hlt
        obtain ⟨b', o', rfl, -, d0, d1, d2, d3⟩ := (HB.out.keep HK.out) k hlm
        generalize l[k] = x at c0 c1 c2 c3 HN HNE
        generalize m[k] = y at d0 d1 d2 d3 HN HNE
        obtain ⟨k1, v1, t1, g1⟩ := x
        obtain ⟨k2, v2, t2, g2⟩ := y
        simp only at c0 c1 c2 c3 d0 d1 d2 d3
        have hcs : (k1 = k2 ∧ v1 = v2 ∧ t1 = t2 ∧ g1 = g2) ∨ k1 ≠ k2 ∨ (k1 = k2 ∧ v1 ≠ v2) ∨ (k1 = k2 ∧ v1 = v2 ∧ t1 ≠ t2) ∨ (k1 = k2 ∧ v1 = v2 ∧ t1 = t2 ∧ g1 ≠ g2) := by
          by_cases e1 : k1 = k2 <;> by_cases e2 : v1 = v2 <;> by_cases e3 : t1 = t2 <;> by_cases e4 : g1 = g2 <;> simp [e1, e2, e3, e4]
        clear hlm
        rcases hcs with ⟨rfl, rfl, rfl, rfl⟩ | hne | ⟨rfl, hne⟩ | ⟨rfl, rfl, hne⟩ | ⟨rfl, rfl, rfl, hne⟩
        · have HN' := Lib.hid (HN.out rfl)
          clear HN HNE HT
          go_wp2_with fail
          go_quiet (fail)
          go_wp2_with fail
          go_roundw
          case rel => exact ⟨k + 1, hlt, by go_num, HN', Lib.hid (HK.out.drewN _)⟩
          case measure => simp [intOf]; omega
        · have HNE' := Lib.hid (HNE.out (fun e => by injection e; contradiction))
          have hs := str_ne hne
          clear HN HNE HT
          go_wp2_with fail
          go_quiet (fail)
          go_wp2_with fail
          go_ret
          exact ⟨by rw [HNE'.out]; rfl, HK.out.drewN _⟩
        · have HNE' := Lib.hid (HNE.out (fun e => by injection e; contradiction))
          have hs := str_ne hne
          clear HN HNE HT
          go_wp2_with fail
          go_quiet (fail)
          go_wp2_with fail
          go_ret
          exact ⟨by rw [HNE'.out]; rfl, HK.out.drewN _⟩
        · have HNE' := Lib.hid (HNE.out (fun e => by injection e; contradiction))
          clear HN HNE HT
          go_wp2_with fail
          go_quiet (fail)
          go_wp2_with fail
          go_ret
          exact ⟨by rw [HNE'.out]; rfl, HK.out.drewN _⟩
        · have HNE' := Lib.hid (HNE.out (fun e => by injection e; contradiction))
          clear HN HNE HT
          go_wp2_with fail
          go_quiet (fail)
          go_wp2_with fail
          go_ret
          exact ⟨by rw [HNE'.out]; rfl, HK.out.drewN _⟩
      · obtain rfl : k = l.length := by omega
        have hlt' : ¬ ((l.length : Int) < (l.length : Int)) := by omega
        have he : r = true := by
          have h1 := HT.out
          rw [List.take_of_length_le (Nat.le_refl _), List.take_of_length_le (by have := HL.out; omega)] at h1
          rw [← HR.out, h1]; simp
        have HE := Lib.hid he
        clear he hlt
        go_wp2_with fail
        go_ret
        exact ⟨by rw [HE.out]; rfl, HK.out⟩
  · have t0 : ((l.length : Int) != (m.length : Int)) = true := bne_iff_ne.2 (by omega)
    have he : r = false := by
      rw [← hr]
      simp only [decide_eq_false_iff_not]
      intro e; exact hlen (by rw [e])
    subst he
    clear hr
    go_enter Tryd.func40, Tryd.ntmps40
    go_wp2_with fail
    go_ret
    exact ⟨rfl, Keeps.refl _ _⟩
set_option maxRecDepth 100000 in
set_option maxHeartbeats 1000000 in
theorem same_marks (w : World) (A B : Option Addr) (c d : Nat) (l m : List Mk) (hA : MksAt w A (fun _ => True) l) (hB : MksAt w B (fun _ => True) m) (hl : l.length ≤ c) (_hm : m.length ≤ d) (hc : c ≤ maxLen) (_hd : d ≤ maxLen) (r : Bool) (hr : decide (l = m) = r) :
    Calls Tryd.prog 41 #[.slice A l.length c, .slice B m.length d] w fun e w' => e = .returned (.bool r) ∧ Kp w w' := by
  unfold maxLen at hc _hd
  have HA := Lib.hid hA
  have HB := Lib.hid hB
  clear hA hB
  by_cases hlen : l.length = m.length
  · have HR := Lib.hid hr
    have HL := Lib.hid hlen
    rw [← hlen] at _hm ⊢
    clear hr hlen
    go_enter Tryd.func41, Tryd.ntmps41
    go_wp2_with fail
    go_loopw [13] (fun i wr => ∃ k : Nat, k ≤ l.length ∧ i = .int .i64 (k : Int) ∧ Hid (l.take k = m.take k) ∧ Hid (Kp w wr)) (fun i _ => l.length - (intOf i).toNat)
    case atStart => exact ⟨0, Nat.zero_le _, rfl, Lib.hid rfl, Lib.hid (Keeps.refl _ _)⟩
    case round =>
      obtain ⟨k, hk, rfl, HT, HK⟩ := hrel
      by_cases hlt : k < l.length
      · have hlt' : (k : Int) < (l.length : Int) := by omega
        have hlm : k < m.length := by have := HL.out; omega
        have HN := Lib.hid (take_eqL HT.out hlt hlm)
        have HNE := Lib.hid (show l[k] ≠ m[k] → r = false from fun hne => by
          rw [← HR.out]
          simp only [decide_eq_false_iff_not]
          intro e; subst e; exact hne rfl)
        obtain ⟨b, o, rfl, -, c0, c1⟩ := (HA.out.keep HK.out) k hlt
        obtain ⟨b', o', rfl, -, d0, d1⟩ := (HB.out.keep HK.out) k hlm
        generalize l[k] = x at c0 c1 HN HNE
        generalize m[k] = y at d0 d1 HN HNE
        obtain ⟨t1, k1⟩ := x
        obtain ⟨t2, k2⟩ := y
        simp only at c0 c1 d0 d1
        have hcs : (t1 = t2 ∧ k1 = k2) ∨ t1 ≠ t2 ∨ (t1 = t2 ∧ k1 ≠ k2) := by
          by_cases e1 : t1 = t2 <;> by_cases e2 : k1 = k2 <;> simp [e1, e2]
        clear hlm
        rcases hcs with ⟨rfl, rfl⟩ | hne | ⟨rfl, hne⟩
        · have HN' := Lib.hid (HN.out rfl)
          clear HN HNE HT
          go_wp2_with fail
          go_quiet (fail)
          go_wp2_with fail
          go_roundw
          case rel => exact ⟨k + 1, hlt, by go_num, HN', Lib.hid (HK.out.drewN _)⟩
          case measure => simp [intOf]; omega
        · have HNE' := Lib.hid (HNE.out (fun e => by injection e; contradiction))
          clear HN HNE HT
          go_wp2_with fail
          go_quiet (fail)
          go_wp2_with fail
          go_ret
          exact ⟨by rw [HNE'.out]; rfl, HK.out.drewN _⟩
        · have HNE' := Lib.hid (HNE.out (fun e => by injection e; contradiction))
          have hs := str_ne hne
          clear HN HNE HT
          go_wp2_with fail
          go_quiet (fail)
          go_wp2_with fail
          go_ret
          exact ⟨by rw [HNE'.out]; rfl, HK.out.drewN _⟩
      · obtain rfl : k = l.length := by omega
        have hlt' : ¬ ((l.length : Int) < (l.length : Int)) := by omega
        have he : r = true := by
          have h1 := HT.out
          rw [List.take_of_length_le (Nat.le_refl _), List.take_of_length_le (by have := HL.out; omega)] at h1
          rw [← HR.out, h1]; simp
        have HE := Lib.hid he
        clear he hlt
        go_wp2_with fail
        go_ret
        exact ⟨by rw [HE.out]; rfl, HK.out⟩
  · have t0 : ((l.length : Int) != (m.length : Int)) = true := bne_iff_ne.2 (by omega)
    have he : r = false := by
      rw [← hr]
      simp only [decide_eq_false_iff_not]
      intro e; exact hlen (by rw [e])
    subst he
    clear hr
    go_enter Tryd.func41, Tryd.ntmps41
    go_wp2_with fail
    go_ret
    exact ⟨rfl, Keeps.refl _ _⟩
set_option maxRecDepth 100000 in
set_option maxHeartbeats 1000000 in
theorem same_ints (w : World) (A B : Option Addr) (c d : Nat) (l m : List Int) (hA : Row w A (fun _ => True) (l.map (Value.int .i64))) (hB : Row w B (fun _ => True) (m.map (Value.int .i64))) (hl : l.length ≤ c) (_hm : m.length ≤ d) (hc : c ≤ maxLen) (_hd : d ≤ maxLen) (r : Bool) (hr : decide (l = m) = r) :
    Calls Tryd.prog 42 #[.slice A l.length c, .slice B m.length d] w fun e w' => e = .returned (.bool r) ∧ Kp w w' := by
  unfold maxLen at hc _hd
  have HA := Lib.hid hA
  have HB := Lib.hid hB
  clear hA hB
  by_cases hlen : l.length = m.length
  · have HR := Lib.hid hr
    have HL := Lib.hid hlen
    rw [← hlen] at _hm ⊢
    clear hr hlen
    go_enter Tryd.func42, Tryd.ntmps42
    go_wp2_with fail
    go_loopw [13] (fun i wr => ∃ k : Nat, k ≤ l.length ∧ i = .int .i64 (k : Int) ∧ Hid (l.take k = m.take k) ∧ Hid (Kp w wr)) (fun i _ => l.length - (intOf i).toNat)
    case atStart => exact ⟨0, Nat.zero_le _, rfl, Lib.hid rfl, Lib.hid (Keeps.refl _ _)⟩
    case round =>
      obtain ⟨k, hk, rfl, HT, HK⟩ := hrel
      by_cases hlt : k < l.length
      · have hlt' : (k : Int) < (l.length : Int) := by omega
        have hlm : k < m.length := by have := HL.out; omega
        have HN := Lib.hid (take_eqL HT.out hlt hlm)
        have HNE := Lib.hid (show l[k] ≠ m[k] → r = false from fun hne => by
          rw [← HR.out]
          simp only [decide_eq_false_iff_not]
          intro e; subst e; exact hne rfl)
        obtain ⟨b, o, rfl, -, c0⟩ := (HA.out.keep HK.out).at_ (k := k) (by simpa using hlt)
        obtain ⟨b', o', rfl, -, d0⟩ := (HB.out.keep HK.out).at_ (k := k) (by simpa using hlm)
        rw [List.getElem_map] at c0 d0
        generalize l[k] = x at c0 HN HNE
        generalize m[k] = y at d0 HN HNE
        have hcs : x = y ∨ x ≠ y := Classical.em _
        clear hlm
        rcases hcs with rfl | hne
        · have HN' := Lib.hid (HN.out rfl)
          clear HN HNE HT
          go_wp2_with fail
          go_quiet (fail)
          go_wp2_with fail
          go_roundw
          case rel => exact ⟨k + 1, hlt, by go_num, HN', Lib.hid (HK.out.drewN _)⟩
          case measure => simp [intOf]; omega
        · have HNE' := Lib.hid (HNE.out (hne))
          clear HN HNE HT
          go_wp2_with fail
          go_quiet (fail)
          go_wp2_with fail
          go_ret
          exact ⟨by rw [HNE'.out]; rfl, HK.out.drewN _⟩
      · obtain rfl : k = l.length := by omega
        have hlt' : ¬ ((l.length : Int) < (l.length : Int)) := by omega
        have he : r = true := by
          have h1 := HT.out
          rw [List.take_of_length_le (Nat.le_refl _), List.take_of_length_le (by have := HL.out; omega)] at h1
          rw [← HR.out, h1]; simp
        have HE := Lib.hid he
        clear he hlt
        go_wp2_with fail
        go_ret
        exact ⟨by rw [HE.out]; rfl, HK.out⟩
  · have t0 : ((l.length : Int) != (m.length : Int)) = true := bne_iff_ne.2 (by omega)
    have he : r = false := by
      rw [← hr]
      simp only [decide_eq_false_iff_not]
      intro e; exact hlen (by rw [e])
    subst he
    clear hr
    go_enter Tryd.func42, Tryd.ntmps42
    go_wp2_with fail
    go_ret
    exact ⟨rfl, Keeps.refl _ _⟩

end Go.Proofs.YtfhhobinpmbgmaaDoor
end

/-
  THE PROGRAM's MESSAGES (layer 19): Eq. WRITTEN by wip/gen19r.py from wip/tpl/XMsEqIs.gen.
-/
section
namespace Go.Proofs.YtfhhobinpmbgmaaDoor
open Go Go.RowKit Go.Joins

section
variable {o : Oper} {a : Act} {w : World} {Q : Exit → Act → World → Prop} {x y : Operand}
theorem kq_eqL {m n : Int} (ho : o.op = .binOp .eql 2 x y 2) (hx : a.eval x = .int .i64 m) (hy : a.eval y = .int .i64 n) : o.wp Tryd.prog a w (fun a' w' => ∃ v, a' = a.put o.dst v ∧ Kp w w' ∧ IsV (.bool (m == n)) w' v) Q := by
  refine kp_yield (v := .bool (m == n)) (w' := w) ?_ (Keeps.refl _ _) rfl
  generalize a.eval = ρ at hx hy ⊢
  unfold execOp
  rw [ho]
  go_simp
theorem kq_eqE {m n : Int} (ho : o.op = .binOp .eql 22 x y 22) (hx : a.eval x = .int .i64 m) (hy : a.eval y = .int .i64 n) : o.wp Tryd.prog a w (fun a' w' => ∃ v, a' = a.put o.dst v ∧ Kp w w' ∧ IsV (.bool (m == n)) w' v) Q := by
  refine kp_yield (v := .bool (m == n)) (w' := w) ?_ (Keeps.refl _ _) rfl
  generalize a.eval = ρ at hx hy ⊢
  unfold execOp
  rw [ho]
  go_simp
theorem kq_eqB {m n : Bool} (ho : o.op = .binOp .eql 4 x y 4) (hx : a.eval x = .bool m) (hy : a.eval y = .bool n) : o.wp Tryd.prog a w (fun a' w' => ∃ v, a' = a.put o.dst v ∧ Kp w w' ∧ IsV (.bool (m == n)) w' v) Q := by
  refine kp_yield (v := .bool (m == n)) (w' := w) ?_ (Keeps.refl _ _) rfl
  generalize a.eval = ρ at hx hy ⊢
  unfold execOp
  rw [ho]
  go_simp
theorem kq_eqT {m n : ByteArray} (ho : o.op = .binOp .eql 9 x y 9) (hx : a.eval x = .string m) (hy : a.eval y = .string n) : o.wp Tryd.prog a w (fun a' w' => ∃ v, a' = a.put o.dst v ∧ Kp w w' ∧ IsV (.bool (m.toList == n.toList)) w' v) Q := by
  refine kp_yield (v := .bool (m.toList == n.toList)) (w' := w) ?_ (Keeps.refl _ _) rfl
  generalize a.eval = ρ at hx hy ⊢
  unfold execOp
  rw [ho]
  go_simp
end
theorem cg_eqi (v u : Value) (w : World) : (callFunc 40 #[v, u]).run Tryd.prog w = .ok (.enter 40 #[v, u]) w := by go_simp
theorem cg_eqk (v u : Value) (w : World) : (callFunc 41 #[v, u]).run Tryd.prog w = .ok (.enter 41 #[v, u]) w := by go_simp
theorem cg_eqn (v u : Value) (w : World) : (callFunc 42 #[v, u]).run Tryd.prog w = .ok (.enter 42 #[v, u]) w := by go_simp

def eqKV (m n : Ms) (a b : MsA) (g : Nat) (p5 p11 p18 p25 p32 p39 p46 p53 p60 p67 p74 p81 p88 p95 p102 p109 p116 p123 : Bool) : List Kn :=
  [.is (.pointer (some ⟨g, 0, none⟩)), .is (.int .i64 m.kind), .is (.pointer (some ⟨(g + 1), 0, none⟩)), .is (.int .i64 n.kind), .is (.bool (m.kind == n.kind)), .is (.bool p5), cond p5 (.is (.pointer (some ⟨g, 1, none⟩))) (.is undef), cond p5 (.is (.int .i64 m.frm)) (.is undef), cond p5 (.is (.pointer (some ⟨(g + 1), 1, none⟩))) (.is undef), cond p5 (.is (.int .i64 n.frm)) (.is undef), cond p5 (.is (.bool (m.frm == n.frm))) (.is undef), .is (.bool p11), .is (.bool p11), cond p11 (.is (.pointer (some ⟨g, 2, none⟩))) (.is undef), cond p11 (.is (.int .i64 m.to_)) (.is undef), cond p11 (.is (.pointer (some ⟨(g + 1), 2, none⟩))) (.is undef), cond p11 (.is (.int .i64 n.to_)) (.is undef), cond p11 (.is (.bool (m.to_ == n.to_))) (.is undef), .is (.bool p18), .is (.bool p18), cond p18 (.is (.pointer (some ⟨g, 3, none⟩))) (.is undef), cond p18 (.is (.int .i64 m.epoch)) (.is undef), cond p18 (.is (.pointer (some ⟨(g + 1), 3, none⟩))) (.is undef), cond p18 (.is (.int .i64 n.epoch)) (.is undef), cond p18 (.is (.bool (m.epoch == n.epoch))) (.is undef), .is (.bool p25), .is (.bool p25), cond p25 (.is (.pointer (some ⟨g, 4, none⟩))) (.is undef), cond p25 (.is (.int .i64 m.tick)) (.is undef), cond p25 (.is (.pointer (some ⟨(g + 1), 4, none⟩))) (.is undef), cond p25 (.is (.int .i64 n.tick)) (.is undef), cond p25 (.is (.bool (m.tick == n.tick))) (.is undef), .is (.bool p32), .is (.bool p32), cond p32 (.is (.pointer (some ⟨g, 5, none⟩))) (.is undef), cond p32 (.is (.int .i64 m.seq)) (.is undef), cond p32 (.is (.pointer (some ⟨(g + 1), 5, none⟩))) (.is undef), cond p32 (.is (.int .i64 n.seq)) (.is undef), cond p32 (.is (.bool (m.seq == n.seq))) (.is undef), .is (.bool p39), .is (.bool p39), cond p39 (.is (.pointer (some ⟨g, 6, none⟩))) (.is undef), cond p39 (.is (.int .i64 m.n)) (.is undef), cond p39 (.is (.pointer (some ⟨(g + 1), 6, none⟩))) (.is undef), cond p39 (.is (.int .i64 n.n)) (.is undef), cond p39 (.is (.bool (m.n == n.n))) (.is undef), .is (.bool p46), .is (.bool p46), cond p46 (.is (.pointer (some ⟨g, 7, none⟩))) (.is undef), cond p46 (.is (.int .i64 m.id)) (.is undef), cond p46 (.is (.pointer (some ⟨(g + 1), 7, none⟩))) (.is undef), cond p46 (.is (.int .i64 n.id)) (.is undef), cond p46 (.is (.bool (m.id == n.id))) (.is undef), .is (.bool p53), .is (.bool p53), cond p53 (.is (.pointer (some ⟨g, 8, none⟩))) (.is undef), cond p53 (.is (.int .i64 m.op)) (.is undef), cond p53 (.is (.pointer (some ⟨(g + 1), 8, none⟩))) (.is undef), cond p53 (.is (.int .i64 n.op)) (.is undef), cond p53 (.is (.bool (m.op == n.op))) (.is undef), .is (.bool p60), .is (.bool p60), cond p60 (.is (.pointer (some ⟨g, 9, none⟩))) (.is undef), cond p60 (.is (.string m.key)) (.is undef), cond p60 (.is (.pointer (some ⟨(g + 1), 9, none⟩))) (.is undef), cond p60 (.is (.string n.key)) (.is undef), cond p60 (.is (.bool (m.key.toList == n.key.toList))) (.is undef), .is (.bool p67), .is (.bool p67), cond p67 (.is (.pointer (some ⟨g, 10, none⟩))) (.is undef), cond p67 (.is (.int .i64 m.err)) (.is undef), cond p67 (.is (.pointer (some ⟨(g + 1), 10, none⟩))) (.is undef), cond p67 (.is (.int .i64 n.err)) (.is undef), cond p67 (.is (.bool (m.err == n.err))) (.is undef), .is (.bool p74), .is (.bool p74), cond p74 (.is (.pointer (some ⟨g, 11, none⟩))) (.is undef), cond p74 (.is (.bool m.last)) (.is undef), cond p74 (.is (.pointer (some ⟨(g + 1), 11, none⟩))) (.is undef), cond p74 (.is (.bool n.last)) (.is undef), cond p74 (.is (.bool (m.last == n.last))) (.is undef), .is (.bool p81), .is (.bool p81), cond p81 (.is (.pointer (some ⟨g, 19, none⟩))) (.is undef), cond p81 (.is (.int .i64 m.base)) (.is undef), cond p81 (.is (.pointer (some ⟨(g + 1), 19, none⟩))) (.is undef), cond p81 (.is (.int .i64 n.base)) (.is undef), cond p81 (.is (.bool (m.base == n.base))) (.is undef), .is (.bool p88), .is (.bool p88), cond p88 (.is (.pointer (some ⟨g, 12, none⟩))) (.is undef), cond p88 (.is (.agg #[.string m.item.key, .string m.item.val, .int .i64 m.item.till, .bool m.item.gone])) (.is undef), cond p88 (.is (.pointer (some ⟨(g + 1), 12, none⟩))) (.is undef), cond p88 (.is (.agg #[.string n.item.key, .string n.item.val, .int .i64 n.item.till, .bool n.item.gone])) (.is undef), cond p88 (.is (.bool (decide (m.item = n.item)))) (.is undef), .is (.bool p95), .is (.bool p95), cond p95 (.is (.pointer (some ⟨g, 16, none⟩))) (.is undef), cond p95 (.is (.slice a.ia m.items.length a.ic)) (.is undef), cond p95 (.is (.pointer (some ⟨(g + 1), 16, none⟩))) (.is undef), cond p95 (.is (.slice b.ia n.items.length b.ic)) (.is undef), cond p95 (.is (.bool (decide (m.items = n.items)))) (.is undef), .is (.bool p102), .is (.bool p102), cond p102 (.is (.pointer (some ⟨g, 17, none⟩))) (.is undef), cond p102 (.is (.slice a.ma m.marks.length a.mc)) (.is undef), cond p102 (.is (.pointer (some ⟨(g + 1), 17, none⟩))) (.is undef), cond p102 (.is (.slice b.ma n.marks.length b.mc)) (.is undef), cond p102 (.is (.bool (decide (m.marks = n.marks)))) (.is undef), .is (.bool p109), .is (.bool p109), cond p109 (.is (.pointer (some ⟨g, 18, none⟩))) (.is undef), cond p109 (.is (.slice a.ba m.mem.length a.bc)) (.is undef), cond p109 (.is (.pointer (some ⟨(g + 1), 18, none⟩))) (.is undef), cond p109 (.is (.slice b.ba n.mem.length b.bc)) (.is undef), cond p109 (.is (.bool (decide (m.mem = n.mem)))) (.is undef), .is (.bool p116), .is (.bool p116), cond p116 (.is (.pointer (some ⟨g, 20, none⟩))) (.is undef), cond p116 (.is (.slice a.oa m.old.length a.oc)) (.is undef), cond p116 (.is (.pointer (some ⟨(g + 1), 20, none⟩))) (.is undef), cond p116 (.is (.slice b.oa n.old.length b.oc)) (.is undef), cond p116 (.is (.bool (decide (m.old = n.old)))) (.is undef), .is (.bool p123), .is (.bool p123)]
def eqKG (p5 p11 p18 p25 p32 p39 p46 p53 p60 p67 p74 p81 p88 p95 p102 p109 p116 _p123 : Bool) : List (Nat × Option Bool) := [(5, some p5), (12, some p11), (19, some p18), (26, some p25), (33, some p32), (40, some p39), (47, some p46), (54, some p53), (61, some p60), (68, some p67), (75, some p74), (82, some p81), (89, some p88), (96, some p95), (103, some p102), (110, some p109), (117, some p116)]

theorem eq_chain (m n : Ms) (p5 p11 p18 p25 p32 p39 p46 p53 p60 p67 p74 p81 p88 p95 p102 p109 p116 p123 : Bool) (hp5 : (m.kind == n.kind) = p5) (hp11 : (p5 && (m.frm == n.frm)) = p11) (hp18 : (p11 && (m.to_ == n.to_)) = p18) (hp25 : (p18 && (m.epoch == n.epoch)) = p25) (hp32 : (p25 && (m.tick == n.tick)) = p32) (hp39 : (p32 && (m.seq == n.seq)) = p39) (hp46 : (p39 && (m.n == n.n)) = p46) (hp53 : (p46 && (m.id == n.id)) = p53) (hp60 : (p53 && (m.op == n.op)) = p60) (hp67 : (p60 && (m.key.toList == n.key.toList)) = p67) (hp74 : (p67 && (m.err == n.err)) = p74) (hp81 : (p74 && (m.last == n.last)) = p81) (hp88 : (p81 && (m.base == n.base)) = p88) (hp95 : (p88 && (decide (m.item = n.item))) = p95) (hp102 : (p95 && (decide (m.items = n.items))) = p102) (hp109 : (p102 && (decide (m.marks = n.marks))) = p109) (hp116 : (p109 && (decide (m.mem = n.mem))) = p116) (hp123 : (p116 && (decide (m.old = n.old))) = p123) : decide (m = n) = p123 := by
  subst hp5 hp11 hp18 hp25 hp32 hp39 hp46 hp53 hp60 hp67 hp74 hp81 hp88 hp95 hp102 hp109 hp116 hp123
  rw [Bool.eq_iff_iff]
  constructor
  · intro h
    have := of_decide_eq_true h
    subst this
    simp
  · intro h
    simp only [Bool.and_eq_true, beq_iff_eq, decide_eq_true_eq] at h
    rw [decide_eq_true_eq]
    have hk : m.key = n.key := by
      have := str_same m.key n.key
      rw [show (m.key.toList == n.key.toList) = true from by simp [h]] at this
      exact of_decide_eq_true this.symm
    obtain ⟨⟩ := m
    obtain ⟨⟩ := n
    simp only at h hk
    simp [h, hk]

set_option maxRecDepth 100000 in
set_option maxHeartbeats 4000000 in
theorem meq (w : World) (m n : Ms) (a b : MsA) (hm : MsAt w m a) (hn : MsAt w n b) :
    Calls Tryd.prog 17 #[msV m a, msV n b] w fun e w' => e = .returned (.bool (decide (m = n))) ∧ Kp w w' := by
  have HM := Lib.hid hm
  have HN := Lib.hid hn
  obtain ⟨vM, hvM⟩ : ∃ v, msV m a = v := ⟨_, rfl⟩
  obtain ⟨vN, hvN⟩ : ∃ v, msV n b = v := ⟨_, rfl⟩
  have HVM := Lib.hid hvM
  have HVN := Lib.hid hvN
  rw [hvM, hvN]
  clear hm hn hvM hvN
  go_enter Tryd.func17, Tryd.ntmps17
  go_upto_region 1 with (first
    | (refine list_boxM rfl (.tmp 0) rfl m a HVM.out.symm ?_; intro w1 hb1 hk1 hs1)
    | (refine list_boxM rfl (.tmp 1) rfl n b HVN.out.symm ?_; intro w2 hb2 hk2 hs2))
  obtain ⟨g, hg⟩ : ∃ g, w.heap.size = g := ⟨_, rfl⟩
  rw [hg] at hb1 hs1 ⊢
  rw [hs1] at hb2 hs2
  replace hb1 := hb1.kp hk2
  have HB1 := Lib.hid hb1
  have HB2 := Lib.hid hb2
  have HK := Lib.hid (hk1.trans hk2)
  have cellsM : ∀ {w5 : World}, Kp w2 w5 → ∀ (i : Nat) (v : Value), (msC m a)[i]? = some v → w5.cell? ⟨g, i, none⟩ = some v := fun h i v hv => (HB1.out.kp h).cell i v hv
  have cellsN : ∀ {w5 : World}, Kp w2 w5 → ∀ (i : Nat) (v : Value), (msC n b)[i]? = some v → w5.cell? ⟨g + 1, i, none⟩ = some v := fun h i v hv => (HB2.out.kp h).cell i v hv
  clear hb1 hb2 hk1 hk2 hs1 hs2 hg
  obtain ⟨p5, hp5⟩ : ∃ p, (m.kind == n.kind) = p := ⟨_, rfl⟩
  obtain ⟨p11, hp11⟩ : ∃ p, (p5 && (m.frm == n.frm)) = p := ⟨_, rfl⟩
  obtain ⟨p18, hp18⟩ : ∃ p, (p11 && (m.to_ == n.to_)) = p := ⟨_, rfl⟩
  obtain ⟨p25, hp25⟩ : ∃ p, (p18 && (m.epoch == n.epoch)) = p := ⟨_, rfl⟩
  obtain ⟨p32, hp32⟩ : ∃ p, (p25 && (m.tick == n.tick)) = p := ⟨_, rfl⟩
  obtain ⟨p39, hp39⟩ : ∃ p, (p32 && (m.seq == n.seq)) = p := ⟨_, rfl⟩
  obtain ⟨p46, hp46⟩ : ∃ p, (p39 && (m.n == n.n)) = p := ⟨_, rfl⟩
  obtain ⟨p53, hp53⟩ : ∃ p, (p46 && (m.id == n.id)) = p := ⟨_, rfl⟩
  obtain ⟨p60, hp60⟩ : ∃ p, (p53 && (m.op == n.op)) = p := ⟨_, rfl⟩
  obtain ⟨p67, hp67⟩ : ∃ p, (p60 && (m.key.toList == n.key.toList)) = p := ⟨_, rfl⟩
  obtain ⟨p74, hp74⟩ : ∃ p, (p67 && (m.err == n.err)) = p := ⟨_, rfl⟩
  obtain ⟨p81, hp81⟩ : ∃ p, (p74 && (m.last == n.last)) = p := ⟨_, rfl⟩
  obtain ⟨p88, hp88⟩ : ∃ p, (p81 && (m.base == n.base)) = p := ⟨_, rfl⟩
  obtain ⟨p95, hp95⟩ : ∃ p, (p88 && (decide (m.item = n.item))) = p := ⟨_, rfl⟩
  obtain ⟨p102, hp102⟩ : ∃ p, (p95 && (decide (m.items = n.items))) = p := ⟨_, rfl⟩
  obtain ⟨p109, hp109⟩ : ∃ p, (p102 && (decide (m.marks = n.marks))) = p := ⟨_, rfl⟩
  obtain ⟨p116, hp116⟩ : ∃ p, (p109 && (decide (m.mem = n.mem))) = p := ⟨_, rfl⟩
  obtain ⟨p123, hp123⟩ : ∃ p, (p116 && (decide (m.old = n.old))) = p := ⟨_, rfl⟩
  refine wp_region_kn (eqKV m n a b g p5 p11 p18 p25 p32 p39 p46 p53 p60 p67 p74 p81 p88 p95 p102 p109 p116 p123) (eqKG p5 p11 p18 p25 p32 p39 p46 p53 p60 p67 p74 p81 p88 p95 p102 p109 p116 p123) [] (by kernel_rfl) (fun i hi => by cases hi) ?_ (each_of ?_) (each_of ?_) ?_
  · intro p hp; simp only [eqKG, List.mem_cons, List.not_mem_nil, or_false] at hp
    rcases hp with rfl | rfl | rfl | rfl | rfl | rfl | rfl | rfl | rfl | rfl | rfl | rfl | rfl | rfl | rfl | rfl | rfl <;> intro c hc
    · cases hc; rfl
    · cases hc; rfl
    · cases hc; rfl
    · cases hc; rfl
    · cases hc; rfl
    · cases hc; rfl
    · cases hc; rfl
    · cases hc; rfl
    · cases hc; rfl
    · cases hc; rfl
    · cases hc; rfl
    · cases hc; rfl
    · cases hc; rfl
    · cases hc; rfl
    · cases hc; rfl
    · cases hc; rfl
    · cases hc; rfl
  · refine ⟨?_, ?_, ?_, ?_, ?_, ?_, ?_, ?_, ?_, ?_, ?_, ?_, ?_, ?_, ?_, ?_, ?_, ?_, ?_, ?_, ?_, ?_, ?_, ?_, ?_, ?_, ?_, ?_, ?_, ?_, ?_, ?_, ?_, ?_, ?_, ?_, ?_, ?_, ?_, ?_, ?_, ?_, ?_, ?_, ?_, ?_, ?_, ?_, ?_, ?_, ?_, ?_, ?_, ?_, ?_, ?_, ?_, ?_, ?_, ?_, ?_, ?_, ?_, ?_, ?_, ?_, ?_, ?_, ?_, ?_, ?_, ?_, ?_, ?_, ?_, ?_, ?_, ?_, ?_, ?_, ?_, ?_, ?_, ?_, ?_, ?_, ?_, ?_, ?_, ?_, ?_, ?_, ?_, ?_, ?_, ?_, ?_, ?_, ?_, ?_, ?_, ?_, ?_, ?_, ?_, ?_, ?_, ?_, ?_, ?_, ?_, ?_, ?_, ?_, ?_, ?_, ?_, ?_, ?_, ?_, ?_, ?_, ?_, ?_, ?_, trivial⟩ <;> intro hw
    · exact nomatch (show true = false from hw)
    · exact nomatch (show true = false from hw)
    · exact nomatch (show true = false from hw)
    · exact nomatch (show true = false from hw)
    · exact nomatch (show true = false from hw)
    · exact nomatch (show true = false from hw)
    · cases p5 with | false => rfl | true => exact nomatch (show true = false from hw)
    · cases p5 with | false => rfl | true => exact nomatch (show true = false from hw)
    · cases p5 with | false => rfl | true => exact nomatch (show true = false from hw)
    · cases p5 with | false => rfl | true => exact nomatch (show true = false from hw)
    · cases p5 with | false => rfl | true => exact nomatch (show true = false from hw)
    · exact nomatch (show true = false from hw)
    · exact nomatch (show true = false from hw)
    · cases p11 with | false => rfl | true => exact nomatch (show true = false from hw)
    · cases p11 with | false => rfl | true => exact nomatch (show true = false from hw)
    · cases p11 with | false => rfl | true => exact nomatch (show true = false from hw)
    · cases p11 with | false => rfl | true => exact nomatch (show true = false from hw)
    · cases p11 with | false => rfl | true => exact nomatch (show true = false from hw)
    · exact nomatch (show true = false from hw)
    · exact nomatch (show true = false from hw)
    · cases p18 with | false => rfl | true => exact nomatch (show true = false from hw)
    · cases p18 with | false => rfl | true => exact nomatch (show true = false from hw)
    · cases p18 with | false => rfl | true => exact nomatch (show true = false from hw)
    · cases p18 with | false => rfl | true => exact nomatch (show true = false from hw)
    · cases p18 with | false => rfl | true => exact nomatch (show true = false from hw)
    · exact nomatch (show true = false from hw)
    · exact nomatch (show true = false from hw)
    · cases p25 with | false => rfl | true => exact nomatch (show true = false from hw)
    · cases p25 with | false => rfl | true => exact nomatch (show true = false from hw)
    · cases p25 with | false => rfl | true => exact nomatch (show true = false from hw)
    · cases p25 with | false => rfl | true => exact nomatch (show true = false from hw)
    · cases p25 with | false => rfl | true => exact nomatch (show true = false from hw)
    · exact nomatch (show true = false from hw)
    · exact nomatch (show true = false from hw)
    · cases p32 with | false => rfl | true => exact nomatch (show true = false from hw)
    · cases p32 with | false => rfl | true => exact nomatch (show true = false from hw)
    · cases p32 with | false => rfl | true => exact nomatch (show true = false from hw)
    · cases p32 with | false => rfl | true => exact nomatch (show true = false from hw)
    · cases p32 with | false => rfl | true => exact nomatch (show true = false from hw)
    · exact nomatch (show true = false from hw)
    · exact nomatch (show true = false from hw)
    · cases p39 with | false => rfl | true => exact nomatch (show true = false from hw)
    · cases p39 with | false => rfl | true => exact nomatch (show true = false from hw)
    · cases p39 with | false => rfl | true => exact nomatch (show true = false from hw)
    · cases p39 with | false => rfl | true => exact nomatch (show true = false from hw)
    · cases p39 with | false => rfl | true => exact nomatch (show true = false from hw)
    · exact nomatch (show true = false from hw)
    · exact nomatch (show true = false from hw)
    · cases p46 with | false => rfl | true => exact nomatch (show true = false from hw)
    · cases p46 with | false => rfl | true => exact nomatch (show true = false from hw)
    · cases p46 with | false => rfl | true => exact nomatch (show true = false from hw)
    · cases p46 with | false => rfl | true => exact nomatch (show true = false from hw)
    · cases p46 with | false => rfl | true => exact nomatch (show true = false from hw)
    · exact nomatch (show true = false from hw)
    · exact nomatch (show true = false from hw)
    · cases p53 with | false => rfl | true => exact nomatch (show true = false from hw)
    · cases p53 with | false => rfl | true => exact nomatch (show true = false from hw)
    · cases p53 with | false => rfl | true => exact nomatch (show true = false from hw)
    · cases p53 with | false => rfl | true => exact nomatch (show true = false from hw)
    · cases p53 with | false => rfl | true => exact nomatch (show true = false from hw)
    · exact nomatch (show true = false from hw)
    · exact nomatch (show true = false from hw)
    · cases p60 with | false => rfl | true => exact nomatch (show true = false from hw)
    · cases p60 with | false => rfl | true => exact nomatch (show true = false from hw)
    · cases p60 with | false => rfl | true => exact nomatch (show true = false from hw)
    · cases p60 with | false => rfl | true => exact nomatch (show true = false from hw)
    · cases p60 with | false => rfl | true => exact nomatch (show true = false from hw)
    · exact nomatch (show true = false from hw)
    · exact nomatch (show true = false from hw)
    · cases p67 with | false => rfl | true => exact nomatch (show true = false from hw)
    · cases p67 with | false => rfl | true => exact nomatch (show true = false from hw)
    · cases p67 with | false => rfl | true => exact nomatch (show true = false from hw)
    · cases p67 with | false => rfl | true => exact nomatch (show true = false from hw)
    · cases p67 with | false => rfl | true => exact nomatch (show true = false from hw)
    · exact nomatch (show true = false from hw)
    · exact nomatch (show true = false from hw)
    · cases p74 with | false => rfl | true => exact nomatch (show true = false from hw)
    · cases p74 with | false => rfl | true => exact nomatch (show true = false from hw)
    · cases p74 with | false => rfl | true => exact nomatch (show true = false from hw)
    · cases p74 with | false => rfl | true => exact nomatch (show true = false from hw)
    · cases p74 with | false => rfl | true => exact nomatch (show true = false from hw)
    · exact nomatch (show true = false from hw)
    · exact nomatch (show true = false from hw)
    · cases p81 with | false => rfl | true => exact nomatch (show true = false from hw)
    · cases p81 with | false => rfl | true => exact nomatch (show true = false from hw)
    · cases p81 with | false => rfl | true => exact nomatch (show true = false from hw)
    · cases p81 with | false => rfl | true => exact nomatch (show true = false from hw)
    · cases p81 with | false => rfl | true => exact nomatch (show true = false from hw)
    · exact nomatch (show true = false from hw)
    · exact nomatch (show true = false from hw)
    · cases p88 with | false => rfl | true => exact nomatch (show true = false from hw)
    · cases p88 with | false => rfl | true => exact nomatch (show true = false from hw)
    · cases p88 with | false => rfl | true => exact nomatch (show true = false from hw)
    · cases p88 with | false => rfl | true => exact nomatch (show true = false from hw)
    · cases p88 with | false => rfl | true => exact nomatch (show true = false from hw)
    · exact nomatch (show true = false from hw)
    · exact nomatch (show true = false from hw)
    · cases p95 with | false => rfl | true => exact nomatch (show true = false from hw)
    · cases p95 with | false => rfl | true => exact nomatch (show true = false from hw)
    · cases p95 with | false => rfl | true => exact nomatch (show true = false from hw)
    · cases p95 with | false => rfl | true => exact nomatch (show true = false from hw)
    · cases p95 with | false => rfl | true => exact nomatch (show true = false from hw)
    · exact nomatch (show true = false from hw)
    · exact nomatch (show true = false from hw)
    · cases p102 with | false => rfl | true => exact nomatch (show true = false from hw)
    · cases p102 with | false => rfl | true => exact nomatch (show true = false from hw)
    · cases p102 with | false => rfl | true => exact nomatch (show true = false from hw)
    · cases p102 with | false => rfl | true => exact nomatch (show true = false from hw)
    · cases p102 with | false => rfl | true => exact nomatch (show true = false from hw)
    · exact nomatch (show true = false from hw)
    · exact nomatch (show true = false from hw)
    · cases p109 with | false => rfl | true => exact nomatch (show true = false from hw)
    · cases p109 with | false => rfl | true => exact nomatch (show true = false from hw)
    · cases p109 with | false => rfl | true => exact nomatch (show true = false from hw)
    · cases p109 with | false => rfl | true => exact nomatch (show true = false from hw)
    · cases p109 with | false => rfl | true => exact nomatch (show true = false from hw)
    · exact nomatch (show true = false from hw)
    · exact nomatch (show true = false from hw)
    · cases p116 with | false => rfl | true => exact nomatch (show true = false from hw)
    · cases p116 with | false => rfl | true => exact nomatch (show true = false from hw)
    · cases p116 with | false => rfl | true => exact nomatch (show true = false from hw)
    · cases p116 with | false => rfl | true => exact nomatch (show true = false from hw)
    · cases p116 with | false => rfl | true => exact nomatch (show true = false from hw)
    · exact nomatch (show true = false from hw)
    · exact nomatch (show true = false from hw)
  · refine ⟨?_, ?_, ?_, ?_, ?_, ?_, ?_, ?_, ?_, ?_, ?_, ?_, ?_, ?_, ?_, ?_, ?_, ?_, ?_, ?_, ?_, ?_, ?_, ?_, ?_, ?_, ?_, ?_, ?_, ?_, ?_, ?_, ?_, ?_, ?_, ?_, ?_, ?_, ?_, ?_, ?_, ?_, ?_, ?_, ?_, ?_, ?_, ?_, ?_, ?_, ?_, ?_, ?_, ?_, ?_, ?_, ?_, ?_, ?_, ?_, ?_, ?_, ?_, ?_, ?_, ?_, ?_, ?_, ?_, ?_, ?_, ?_, ?_, ?_, ?_, ?_, ?_, ?_, ?_, ?_, ?_, ?_, ?_, ?_, ?_, ?_, ?_, ?_, ?_, ?_, ?_, ?_, ?_, ?_, ?_, ?_, ?_, ?_, ?_, ?_, ?_, ?_, ?_, ?_, ?_, ?_, ?_, ?_, ?_, ?_, ?_, ?_, ?_, ?_, ?_, ?_, ?_, ?_, ?_, ?_, ?_, ?_, ?_, ?_, ?_, trivial⟩ <;> intro hw a1 w3 L
    · exact kp_f19_0 rfl (L.old 2 (by kernel_rfl))
    · exact kp_ld19I (cellsM L.rel 0 (.int .i64 m.kind) rfl) rfl (L.val 0 5 (by kernel_rfl) (by kernel_rfl))
    · exact kp_f19_0 rfl (L.old 3 (by kernel_rfl))
    · exact kp_ld19I (cellsN L.rel 0 (.int .i64 n.kind) rfl) rfl (L.val 2 7 (by kernel_rfl) (by kernel_rfl))
    · exact kp_eq19I rfl (L.val 1 6 (by kernel_rfl) (by kernel_rfl)) (L.val 3 8 (by kernel_rfl) (by kernel_rfl))
    · exact kq_bool hp5 rfl (L.val 4 9 (by kernel_rfl) (by kernel_rfl))
    · cases p5 with | false => exact nomatch (show false = true from hw) | true => exact kp_f19_1 rfl (L.old 2 (by kernel_rfl))
    · cases p5 with | false => exact nomatch (show false = true from hw) | true => exact kp_ld19I (cellsM L.rel 1 (.int .i64 m.frm) rfl) rfl (L.val 6 11 (by kernel_rfl) (by kernel_rfl))
    · cases p5 with | false => exact nomatch (show false = true from hw) | true => exact kp_f19_1 rfl (L.old 3 (by kernel_rfl))
    · cases p5 with | false => exact nomatch (show false = true from hw) | true => exact kp_ld19I (cellsN L.rel 1 (.int .i64 n.frm) rfl) rfl (L.val 8 13 (by kernel_rfl) (by kernel_rfl))
    · cases p5 with | false => exact nomatch (show false = true from hw) | true => exact kp_eq19I rfl (L.val 7 12 (by kernel_rfl) (by kernel_rfl)) (L.val 9 14 (by kernel_rfl) (by kernel_rfl))
    · exact kq_and hp11 rfl (L.val 5 10 (by kernel_rfl) (by kernel_rfl)) (L.val 10 15 (by kernel_rfl) (by kernel_rfl)) rfl
    · exact kp_move rfl (L.val 11 16 (by kernel_rfl) (by kernel_rfl))
    · cases p11 with | false => exact nomatch (show false = true from hw) | true => exact kp_f19_2 rfl (L.old 2 (by kernel_rfl))
    · cases p11 with | false => exact nomatch (show false = true from hw) | true => exact kp_ld19I (cellsM L.rel 2 (.int .i64 m.to_) rfl) rfl (L.val 13 18 (by kernel_rfl) (by kernel_rfl))
    · cases p11 with | false => exact nomatch (show false = true from hw) | true => exact kp_f19_2 rfl (L.old 3 (by kernel_rfl))
    · cases p11 with | false => exact nomatch (show false = true from hw) | true => exact kp_ld19I (cellsN L.rel 2 (.int .i64 n.to_) rfl) rfl (L.val 15 20 (by kernel_rfl) (by kernel_rfl))
    · cases p11 with | false => exact nomatch (show false = true from hw) | true => exact kp_eq19I rfl (L.val 14 19 (by kernel_rfl) (by kernel_rfl)) (L.val 16 21 (by kernel_rfl) (by kernel_rfl))
    · exact kq_and hp18 rfl (L.val 12 17 (by kernel_rfl) (by kernel_rfl)) (L.val 17 22 (by kernel_rfl) (by kernel_rfl)) rfl
    · exact kp_move rfl (L.val 18 23 (by kernel_rfl) (by kernel_rfl))
    · cases p18 with | false => exact nomatch (show false = true from hw) | true => exact kp_f19_3 rfl (L.old 2 (by kernel_rfl))
    · cases p18 with | false => exact nomatch (show false = true from hw) | true => exact kp_ld19L (cellsM L.rel 3 (.int .i64 m.epoch) rfl) rfl (L.val 20 25 (by kernel_rfl) (by kernel_rfl))
    · cases p18 with | false => exact nomatch (show false = true from hw) | true => exact kp_f19_3 rfl (L.old 3 (by kernel_rfl))
    · cases p18 with | false => exact nomatch (show false = true from hw) | true => exact kp_ld19L (cellsN L.rel 3 (.int .i64 n.epoch) rfl) rfl (L.val 22 27 (by kernel_rfl) (by kernel_rfl))
    · cases p18 with | false => exact nomatch (show false = true from hw) | true => exact kq_eqL rfl (L.val 21 26 (by kernel_rfl) (by kernel_rfl)) (L.val 23 28 (by kernel_rfl) (by kernel_rfl))
    · exact kq_and hp25 rfl (L.val 19 24 (by kernel_rfl) (by kernel_rfl)) (L.val 24 29 (by kernel_rfl) (by kernel_rfl)) rfl
    · exact kp_move rfl (L.val 25 30 (by kernel_rfl) (by kernel_rfl))
    · cases p25 with | false => exact nomatch (show false = true from hw) | true => exact kp_f19_4 rfl (L.old 2 (by kernel_rfl))
    · cases p25 with | false => exact nomatch (show false = true from hw) | true => exact kp_ld19L (cellsM L.rel 4 (.int .i64 m.tick) rfl) rfl (L.val 27 32 (by kernel_rfl) (by kernel_rfl))
    · cases p25 with | false => exact nomatch (show false = true from hw) | true => exact kp_f19_4 rfl (L.old 3 (by kernel_rfl))
    · cases p25 with | false => exact nomatch (show false = true from hw) | true => exact kp_ld19L (cellsN L.rel 4 (.int .i64 n.tick) rfl) rfl (L.val 29 34 (by kernel_rfl) (by kernel_rfl))
    · cases p25 with | false => exact nomatch (show false = true from hw) | true => exact kq_eqL rfl (L.val 28 33 (by kernel_rfl) (by kernel_rfl)) (L.val 30 35 (by kernel_rfl) (by kernel_rfl))
    · exact kq_and hp32 rfl (L.val 26 31 (by kernel_rfl) (by kernel_rfl)) (L.val 31 36 (by kernel_rfl) (by kernel_rfl)) rfl
    · exact kp_move rfl (L.val 32 37 (by kernel_rfl) (by kernel_rfl))
    · cases p32 with | false => exact nomatch (show false = true from hw) | true => exact kp_f19_5 rfl (L.old 2 (by kernel_rfl))
    · cases p32 with | false => exact nomatch (show false = true from hw) | true => exact kp_ld19L (cellsM L.rel 5 (.int .i64 m.seq) rfl) rfl (L.val 34 39 (by kernel_rfl) (by kernel_rfl))
    · cases p32 with | false => exact nomatch (show false = true from hw) | true => exact kp_f19_5 rfl (L.old 3 (by kernel_rfl))
    · cases p32 with | false => exact nomatch (show false = true from hw) | true => exact kp_ld19L (cellsN L.rel 5 (.int .i64 n.seq) rfl) rfl (L.val 36 41 (by kernel_rfl) (by kernel_rfl))
    · cases p32 with | false => exact nomatch (show false = true from hw) | true => exact kq_eqL rfl (L.val 35 40 (by kernel_rfl) (by kernel_rfl)) (L.val 37 42 (by kernel_rfl) (by kernel_rfl))
    · exact kq_and hp39 rfl (L.val 33 38 (by kernel_rfl) (by kernel_rfl)) (L.val 38 43 (by kernel_rfl) (by kernel_rfl)) rfl
    · exact kp_move rfl (L.val 39 44 (by kernel_rfl) (by kernel_rfl))
    · cases p39 with | false => exact nomatch (show false = true from hw) | true => exact kp_f19_6 rfl (L.old 2 (by kernel_rfl))
    · cases p39 with | false => exact nomatch (show false = true from hw) | true => exact kp_ld19I (cellsM L.rel 6 (.int .i64 m.n) rfl) rfl (L.val 41 46 (by kernel_rfl) (by kernel_rfl))
    · cases p39 with | false => exact nomatch (show false = true from hw) | true => exact kp_f19_6 rfl (L.old 3 (by kernel_rfl))
    · cases p39 with | false => exact nomatch (show false = true from hw) | true => exact kp_ld19I (cellsN L.rel 6 (.int .i64 n.n) rfl) rfl (L.val 43 48 (by kernel_rfl) (by kernel_rfl))
    · cases p39 with | false => exact nomatch (show false = true from hw) | true => exact kp_eq19I rfl (L.val 42 47 (by kernel_rfl) (by kernel_rfl)) (L.val 44 49 (by kernel_rfl) (by kernel_rfl))
    · exact kq_and hp46 rfl (L.val 40 45 (by kernel_rfl) (by kernel_rfl)) (L.val 45 50 (by kernel_rfl) (by kernel_rfl)) rfl
    · exact kp_move rfl (L.val 46 51 (by kernel_rfl) (by kernel_rfl))
    · cases p46 with | false => exact nomatch (show false = true from hw) | true => exact kp_f19_7 rfl (L.old 2 (by kernel_rfl))
    · cases p46 with | false => exact nomatch (show false = true from hw) | true => exact kp_ld19L (cellsM L.rel 7 (.int .i64 m.id) rfl) rfl (L.val 48 53 (by kernel_rfl) (by kernel_rfl))
    · cases p46 with | false => exact nomatch (show false = true from hw) | true => exact kp_f19_7 rfl (L.old 3 (by kernel_rfl))
    · cases p46 with | false => exact nomatch (show false = true from hw) | true => exact kp_ld19L (cellsN L.rel 7 (.int .i64 n.id) rfl) rfl (L.val 50 55 (by kernel_rfl) (by kernel_rfl))
    · cases p46 with | false => exact nomatch (show false = true from hw) | true => exact kq_eqL rfl (L.val 49 54 (by kernel_rfl) (by kernel_rfl)) (L.val 51 56 (by kernel_rfl) (by kernel_rfl))
    · exact kq_and hp53 rfl (L.val 47 52 (by kernel_rfl) (by kernel_rfl)) (L.val 52 57 (by kernel_rfl) (by kernel_rfl)) rfl
    · exact kp_move rfl (L.val 53 58 (by kernel_rfl) (by kernel_rfl))
    · cases p53 with | false => exact nomatch (show false = true from hw) | true => exact kp_f19_8 rfl (L.old 2 (by kernel_rfl))
    · cases p53 with | false => exact nomatch (show false = true from hw) | true => exact kp_ld19I (cellsM L.rel 8 (.int .i64 m.op) rfl) rfl (L.val 55 60 (by kernel_rfl) (by kernel_rfl))
    · cases p53 with | false => exact nomatch (show false = true from hw) | true => exact kp_f19_8 rfl (L.old 3 (by kernel_rfl))
    · cases p53 with | false => exact nomatch (show false = true from hw) | true => exact kp_ld19I (cellsN L.rel 8 (.int .i64 n.op) rfl) rfl (L.val 57 62 (by kernel_rfl) (by kernel_rfl))
    · cases p53 with | false => exact nomatch (show false = true from hw) | true => exact kp_eq19I rfl (L.val 56 61 (by kernel_rfl) (by kernel_rfl)) (L.val 58 63 (by kernel_rfl) (by kernel_rfl))
    · exact kq_and hp60 rfl (L.val 54 59 (by kernel_rfl) (by kernel_rfl)) (L.val 59 64 (by kernel_rfl) (by kernel_rfl)) rfl
    · exact kp_move rfl (L.val 60 65 (by kernel_rfl) (by kernel_rfl))
    · cases p60 with | false => exact nomatch (show false = true from hw) | true => exact kp_f19_9 rfl (L.old 2 (by kernel_rfl))
    · cases p60 with | false => exact nomatch (show false = true from hw) | true => exact kp_ld19T (cellsM L.rel 9 (.string m.key) rfl) rfl (L.val 62 67 (by kernel_rfl) (by kernel_rfl))
    · cases p60 with | false => exact nomatch (show false = true from hw) | true => exact kp_f19_9 rfl (L.old 3 (by kernel_rfl))
    · cases p60 with | false => exact nomatch (show false = true from hw) | true => exact kp_ld19T (cellsN L.rel 9 (.string n.key) rfl) rfl (L.val 64 69 (by kernel_rfl) (by kernel_rfl))
    · cases p60 with | false => exact nomatch (show false = true from hw) | true => exact kq_eqT rfl (L.val 63 68 (by kernel_rfl) (by kernel_rfl)) (L.val 65 70 (by kernel_rfl) (by kernel_rfl))
    · exact kq_and hp67 rfl (L.val 61 66 (by kernel_rfl) (by kernel_rfl)) (L.val 66 71 (by kernel_rfl) (by kernel_rfl)) rfl
    · exact kp_move rfl (L.val 67 72 (by kernel_rfl) (by kernel_rfl))
    · cases p67 with | false => exact nomatch (show false = true from hw) | true => exact kp_f19_10 rfl (L.old 2 (by kernel_rfl))
    · cases p67 with | false => exact nomatch (show false = true from hw) | true => exact kp_ld19E (cellsM L.rel 10 (.int .i64 m.err) rfl) rfl (L.val 69 74 (by kernel_rfl) (by kernel_rfl))
    · cases p67 with | false => exact nomatch (show false = true from hw) | true => exact kp_f19_10 rfl (L.old 3 (by kernel_rfl))
    · cases p67 with | false => exact nomatch (show false = true from hw) | true => exact kp_ld19E (cellsN L.rel 10 (.int .i64 n.err) rfl) rfl (L.val 71 76 (by kernel_rfl) (by kernel_rfl))
    · cases p67 with | false => exact nomatch (show false = true from hw) | true => exact kq_eqE rfl (L.val 70 75 (by kernel_rfl) (by kernel_rfl)) (L.val 72 77 (by kernel_rfl) (by kernel_rfl))
    · exact kq_and hp74 rfl (L.val 68 73 (by kernel_rfl) (by kernel_rfl)) (L.val 73 78 (by kernel_rfl) (by kernel_rfl)) rfl
    · exact kp_move rfl (L.val 74 79 (by kernel_rfl) (by kernel_rfl))
    · cases p74 with | false => exact nomatch (show false = true from hw) | true => exact kp_f19_11 rfl (L.old 2 (by kernel_rfl))
    · cases p74 with | false => exact nomatch (show false = true from hw) | true => exact kp_ld19B (cellsM L.rel 11 (.bool m.last) rfl) rfl (L.val 76 81 (by kernel_rfl) (by kernel_rfl))
    · cases p74 with | false => exact nomatch (show false = true from hw) | true => exact kp_f19_11 rfl (L.old 3 (by kernel_rfl))
    · cases p74 with | false => exact nomatch (show false = true from hw) | true => exact kp_ld19B (cellsN L.rel 11 (.bool n.last) rfl) rfl (L.val 78 83 (by kernel_rfl) (by kernel_rfl))
    · cases p74 with | false => exact nomatch (show false = true from hw) | true => exact kq_eqB rfl (L.val 77 82 (by kernel_rfl) (by kernel_rfl)) (L.val 79 84 (by kernel_rfl) (by kernel_rfl))
    · exact kq_and hp81 rfl (L.val 75 80 (by kernel_rfl) (by kernel_rfl)) (L.val 80 85 (by kernel_rfl) (by kernel_rfl)) rfl
    · exact kp_move rfl (L.val 81 86 (by kernel_rfl) (by kernel_rfl))
    · cases p81 with | false => exact nomatch (show false = true from hw) | true => exact kp_f19_16 rfl (L.old 2 (by kernel_rfl))
    · cases p81 with | false => exact nomatch (show false = true from hw) | true => exact kp_ld19L (cellsM L.rel 19 (.int .i64 m.base) rfl) rfl (L.val 83 88 (by kernel_rfl) (by kernel_rfl))
    · cases p81 with | false => exact nomatch (show false = true from hw) | true => exact kp_f19_16 rfl (L.old 3 (by kernel_rfl))
    · cases p81 with | false => exact nomatch (show false = true from hw) | true => exact kp_ld19L (cellsN L.rel 19 (.int .i64 n.base) rfl) rfl (L.val 85 90 (by kernel_rfl) (by kernel_rfl))
    · cases p81 with | false => exact nomatch (show false = true from hw) | true => exact kq_eqL rfl (L.val 84 89 (by kernel_rfl) (by kernel_rfl)) (L.val 86 91 (by kernel_rfl) (by kernel_rfl))
    · exact kq_and hp88 rfl (L.val 82 87 (by kernel_rfl) (by kernel_rfl)) (L.val 87 92 (by kernel_rfl) (by kernel_rfl)) rfl
    · exact kp_move rfl (L.val 88 93 (by kernel_rfl) (by kernel_rfl))
    · cases p88 with | false => exact nomatch (show false = true from hw) | true => exact kp_f19_12 rfl (L.old 2 (by kernel_rfl))
    · cases p88 with | false => exact nomatch (show false = true from hw) | true => exact kp_ld19Y (cellsM L.rel 12 (.string m.item.key) rfl) (cellsM L.rel 13 (.string m.item.val) rfl) (cellsM L.rel 14 (.int .i64 m.item.till) rfl) (cellsM L.rel 15 (.bool m.item.gone) rfl) rfl (L.val 90 95 (by kernel_rfl) (by kernel_rfl))
    · cases p88 with | false => exact nomatch (show false = true from hw) | true => exact kp_f19_12 rfl (L.old 3 (by kernel_rfl))
    · cases p88 with | false => exact nomatch (show false = true from hw) | true => exact kp_ld19Y (cellsN L.rel 12 (.string n.item.key) rfl) (cellsN L.rel 13 (.string n.item.val) rfl) (cellsN L.rel 14 (.int .i64 n.item.till) rfl) (cellsN L.rel 15 (.bool n.item.gone) rfl) rfl (L.val 92 97 (by kernel_rfl) (by kernel_rfl))
    · cases p88 with | false => exact nomatch (show false = true from hw) | true => exact kq_eq19Y rfl rfl (L.val 91 96 (by kernel_rfl) (by kernel_rfl)) (L.val 93 98 (by kernel_rfl) (by kernel_rfl))
    · exact kq_and hp95 rfl (L.val 89 94 (by kernel_rfl) (by kernel_rfl)) (L.val 94 99 (by kernel_rfl) (by kernel_rfl)) rfl
    · exact kp_move rfl (L.val 95 100 (by kernel_rfl) (by kernel_rfl))
    · cases p95 with | false => exact nomatch (show false = true from hw) | true => exact kp_f19_13 rfl (L.old 2 (by kernel_rfl))
    · cases p95 with | false => exact nomatch (show false = true from hw) | true => exact kp_ld19S (cellsM L.rel 16 (.slice a.ia m.items.length a.ic) rfl) rfl (L.val 97 102 (by kernel_rfl) (by kernel_rfl))
    · cases p95 with | false => exact nomatch (show false = true from hw) | true => exact kp_f19_13 rfl (L.old 3 (by kernel_rfl))
    · cases p95 with | false => exact nomatch (show false = true from hw) | true => exact kp_ld19S (cellsN L.rel 16 (.slice b.ia n.items.length b.ic) rfl) rfl (L.val 99 104 (by kernel_rfl) (by kernel_rfl))
    · cases p95 with | false => exact nomatch (show false = true from hw) | true => exact kp_c19b (cg_eqi _ _ _) (same_items _ _ _ _ _ _ _ (HM.out.its.keep (HK.out.trans L.rel)) (HN.out.its.keep (HK.out.trans L.rel)) HM.out.il.1 HN.out.il.1 HM.out.il.2 HN.out.il.2 _ rfl) rfl (L.val 98 103 (by kernel_rfl) (by kernel_rfl)) (L.val 100 105 (by kernel_rfl) (by kernel_rfl))
    · exact kq_and hp102 rfl (L.val 96 101 (by kernel_rfl) (by kernel_rfl)) (L.val 101 106 (by kernel_rfl) (by kernel_rfl)) rfl
    · exact kp_move rfl (L.val 102 107 (by kernel_rfl) (by kernel_rfl))
    · cases p102 with | false => exact nomatch (show false = true from hw) | true => exact kp_f19_14 rfl (L.old 2 (by kernel_rfl))
    · cases p102 with | false => exact nomatch (show false = true from hw) | true => exact kp_ld19K (cellsM L.rel 17 (.slice a.ma m.marks.length a.mc) rfl) rfl (L.val 104 109 (by kernel_rfl) (by kernel_rfl))
    · cases p102 with | false => exact nomatch (show false = true from hw) | true => exact kp_f19_14 rfl (L.old 3 (by kernel_rfl))
    · cases p102 with | false => exact nomatch (show false = true from hw) | true => exact kp_ld19K (cellsN L.rel 17 (.slice b.ma n.marks.length b.mc) rfl) rfl (L.val 106 111 (by kernel_rfl) (by kernel_rfl))
    · cases p102 with | false => exact nomatch (show false = true from hw) | true => exact kp_c19b (cg_eqk _ _ _) (same_marks _ _ _ _ _ _ _ (HM.out.mks.keep (HK.out.trans L.rel)) (HN.out.mks.keep (HK.out.trans L.rel)) HM.out.ml.1 HN.out.ml.1 HM.out.ml.2 HN.out.ml.2 _ rfl) rfl (L.val 105 110 (by kernel_rfl) (by kernel_rfl)) (L.val 107 112 (by kernel_rfl) (by kernel_rfl))
    · exact kq_and hp109 rfl (L.val 103 108 (by kernel_rfl) (by kernel_rfl)) (L.val 108 113 (by kernel_rfl) (by kernel_rfl)) rfl
    · exact kp_move rfl (L.val 109 114 (by kernel_rfl) (by kernel_rfl))
    · cases p109 with | false => exact nomatch (show false = true from hw) | true => exact kp_f19_15 rfl (L.old 2 (by kernel_rfl))
    · cases p109 with | false => exact nomatch (show false = true from hw) | true => exact kp_ld19N (cellsM L.rel 18 (.slice a.ba m.mem.length a.bc) rfl) rfl (L.val 111 116 (by kernel_rfl) (by kernel_rfl))
    · cases p109 with | false => exact nomatch (show false = true from hw) | true => exact kp_f19_15 rfl (L.old 3 (by kernel_rfl))
    · cases p109 with | false => exact nomatch (show false = true from hw) | true => exact kp_ld19N (cellsN L.rel 18 (.slice b.ba n.mem.length b.bc) rfl) rfl (L.val 113 118 (by kernel_rfl) (by kernel_rfl))
    · cases p109 with | false => exact nomatch (show false = true from hw) | true => exact kp_c19b (cg_eqn _ _ _) (same_ints _ _ _ _ _ _ _ (HM.out.mem.keep (HK.out.trans L.rel)) (HN.out.mem.keep (HK.out.trans L.rel)) HM.out.bl.1 HN.out.bl.1 HM.out.bl.2.1 HN.out.bl.2.1 _ rfl) rfl (L.val 112 117 (by kernel_rfl) (by kernel_rfl)) (L.val 114 119 (by kernel_rfl) (by kernel_rfl))
    · exact kq_and hp116 rfl (L.val 110 115 (by kernel_rfl) (by kernel_rfl)) (L.val 115 120 (by kernel_rfl) (by kernel_rfl)) rfl
    · exact kp_move rfl (L.val 116 121 (by kernel_rfl) (by kernel_rfl))
    · cases p116 with | false => exact nomatch (show false = true from hw) | true => exact kp_f19_17 rfl (L.old 2 (by kernel_rfl))
    · cases p116 with | false => exact nomatch (show false = true from hw) | true => exact kp_ld19N (cellsM L.rel 20 (.slice a.oa m.old.length a.oc) rfl) rfl (L.val 118 123 (by kernel_rfl) (by kernel_rfl))
    · cases p116 with | false => exact nomatch (show false = true from hw) | true => exact kp_f19_17 rfl (L.old 3 (by kernel_rfl))
    · cases p116 with | false => exact nomatch (show false = true from hw) | true => exact kp_ld19N (cellsN L.rel 20 (.slice b.oa n.old.length b.oc) rfl) rfl (L.val 120 125 (by kernel_rfl) (by kernel_rfl))
    · cases p116 with | false => exact nomatch (show false = true from hw) | true => exact kp_c19b (cg_eqn _ _ _) (same_ints _ _ _ _ _ _ _ (HM.out.old.keep (HK.out.trans L.rel)) (HN.out.old.keep (HK.out.trans L.rel)) HM.out.ol.1 HN.out.ol.1 HM.out.ol.2.1 HN.out.ol.2.1 _ rfl) rfl (L.val 119 124 (by kernel_rfl) (by kernel_rfl)) (L.val 121 126 (by kernel_rfl) (by kernel_rfl))
    · exact kq_and hp123 rfl (L.val 117 122 (by kernel_rfl) (by kernel_rfl)) (L.val 122 127 (by kernel_rfl) (by kernel_rfl)) rfl
    · exact kq_set rfl (L.val 123 128 (by kernel_rfl) (by kernel_rfl))
  intro a3 w3 hk3 hd3 hz3 hv3
  have HE := Lib.hid ((eq_chain m n p5 p11 p18 p25 p32 p39 p46 p53 p60 p67 p74 p81 p88 p95 p102 p109 p116 p123 hp5 hp11 hp18 hp25 hp32 hp39 hp46 hp53 hp60 hp67 hp74 hp81 hp88 hp95 hp102 hp109 hp116 hp123).symm)
  have HV := Lib.hid (hv3 124 4 (by kernel_rfl))
  have HD := Lib.hid hd3
  have HK3 := Lib.hid (HK.out.trans hk3)
  clear hv3 hd3 hz3 hk3 hp5 hp11 hp18 hp25 hp32 hp39 hp46 hp53 hp60 hp67 hp74 hp81 hp88 hp95 hp102 hp109 hp116 hp123 cellsM cellsN
  simp only [Exit.then]
  go_wp2_with fail
  refine bodyPost_ret (v := .bool (decide (m = n))) (results_slot rfl ?_) HD.out ⟨rfl, HK3.out⟩
  rw [← HE.out]
  exact HV.out

end Go.Proofs.YtfhhobinpmbgmaaDoor
end
