/-
  THE PROGRAM's ENTRIES (package item): May, Live, Size.
-/
import Derived.Test.YtgdbkmecfbkobaaItemRef
namespace Go.Proofs.Ytgdbkmecfbkobaa
open Go Go.RowKit Go.Joins

set_option maxHeartbeats 1000000 in
theorem imay (w : World) (x : It) (hx : x.fits) :
    Calls Try.prog 10 #[.agg #[.string x.key, .string x.val, .int .i64 x.till, .bool x.gone]] w fun e w' => e = .returned (.bool x.may) ∧ Keeps (fun _ => True) w w' := by
  obtain ⟨hk, hv, ht1, ht2⟩ := hx
  have cases_ : (decide ((x.key.size : Int) < 1) = true ∧ x.may = false) ∨
      (decide ((x.key.size : Int) < 1) = false ∧ decide ((40 : Int) < (x.key.size : Int)) = true ∧ x.may = false) ∨
      (decide ((x.key.size : Int) < 1) = false ∧ decide ((40 : Int) < (x.key.size : Int)) = false ∧ x.gone = true ∧ (x.val.toList == []) = false ∧ x.may = false) ∨
      (decide ((x.key.size : Int) < 1) = false ∧ decide ((40 : Int) < (x.key.size : Int)) = false ∧ x.gone = true ∧ (x.val.toList == []) = true ∧ (x.till == 0) = false ∧ x.may = false) ∨
      (decide ((x.key.size : Int) < 1) = false ∧ decide ((40 : Int) < (x.key.size : Int)) = false ∧ x.gone = true ∧ (x.val.toList == []) = true ∧ (x.till == 0) = true ∧ x.may = true) ∨
      (decide ((x.key.size : Int) < 1) = false ∧ decide ((40 : Int) < (x.key.size : Int)) = false ∧ x.gone = false ∧ decide ((x.val.size : Int) ≤ 200) = false ∧ x.may = false) ∨
      (decide ((x.key.size : Int) < 1) = false ∧ decide ((40 : Int) < (x.key.size : Int)) = false ∧ x.gone = false ∧ decide ((x.val.size : Int) ≤ 200) = true ∧ decide ((0 : Int) ≤ x.till) = false ∧ x.may = false) ∨
      (decide ((x.key.size : Int) < 1) = false ∧ decide ((40 : Int) < (x.key.size : Int)) = false ∧ x.gone = false ∧ decide ((x.val.size : Int) ≤ 200) = true ∧ decide ((0 : Int) ≤ x.till) = true ∧ decide (x.till ≤ 1099511627776) = false ∧ x.may = false) ∨
      (decide ((x.key.size : Int) < 1) = false ∧ decide ((40 : Int) < (x.key.size : Int)) = false ∧ x.gone = false ∧ decide ((x.val.size : Int) ≤ 200) = true ∧ decide ((0 : Int) ≤ x.till) = true ∧ decide (x.till ≤ 1099511627776) = true ∧ x.may = true) := by
    have e1 : decide ((x.val.size : Int) ≤ 200) = decide (x.val.size ≤ 200) := decide_eq_decide.2 (by omega)
    have e2 : (x.val.toList == []) = decide (x.val.size = 0) := by
      have h := str_same x.val ⟨#[]⟩
      rw [show ByteArray.toList ⟨#[]⟩ = [] from by rw [Lib.toList_data]] at h
      exact h.trans (decide_eq_decide.2 size_zero)
    have e3 : (x.till == 0) = decide (x.till = 0) := rfl
    have e4 : decide ((x.key.size : Int) < 1) = !decide (1 ≤ x.key.size) := by
      by_cases h : 1 ≤ x.key.size
      · simp [h]; omega
      · simp [h]; omega
    have e5 : decide ((40 : Int) < (x.key.size : Int)) = !decide (x.key.size ≤ 40) := by
      by_cases h : x.key.size ≤ 40
      · simp [h]; omega
      · simp [h]; omega
    have h6 : decide (x.val.size = 0) = true → decide (x.val.size ≤ 200) = true := by simp only [decide_eq_true_eq]; omega
    have h7 : decide (x.till = 0) = true → decide ((0 : Int) ≤ x.till) = true ∧ decide (x.till ≤ 1099511627776) = true := by simp only [decide_eq_true_eq]; omega
    rw [e1, e2, e3, e4, e5]
    unfold It.may
    generalize decide (1 ≤ x.key.size) = b0 at *
    generalize decide (x.key.size ≤ 40) = b1 at *
    generalize decide (x.val.size ≤ 200) = b2 at *
    generalize decide ((0 : Int) ≤ x.till) = b3 at *
    generalize decide (x.till ≤ 1099511627776) = b4 at *
    generalize decide (x.val.size = 0) = b5 at *
    generalize decide (x.till = 0) = b6 at *
    generalize x.gone = b7
    clear e1 e2 e3 e4 e5 hk hv ht1 ht2
    revert b0 b1 b2 b3 b4 b5 b6 b7
    decide
  obtain ⟨key, val, till, gone⟩ := x
  simp only at *
  have HM := Lib.hid (show (⟨key, val, till, gone⟩ : It).may = (⟨key, val, till, gone⟩ : It).may from rfl)
  generalize (⟨key, val, till, gone⟩ : It).may = m at *
  clear HM
  rcases cases_ with ⟨t1, rfl⟩ | ⟨t1, t2, rfl⟩ | ⟨t1, t2, rfl, t3, rfl⟩ | ⟨t1, t2, rfl, t3, t4, rfl⟩ | ⟨t1, t2, rfl, t3, t4, rfl⟩ | ⟨t1, t2, rfl, t3, rfl⟩ | ⟨t1, t2, rfl, t3, t4, rfl⟩ | ⟨t1, t2, rfl, t3, t4, t5, rfl⟩ | ⟨t1, t2, rfl, t3, t4, t5, rfl⟩
  all_goals
    go_enter Try.func10, Try.ntmps10
    go_wp2_with fail
    go_ret
    exact ⟨by first | rfl | (rw [← t5]; rfl) | (rw [← t4]; rfl), (Keeps.refl _ _).alloc _⟩

set_option maxHeartbeats 1000000 in
theorem ilive (w : World) (x : It) (hx : x.fits) (now : Int) (hn1 : -9223372036854775808 ≤ now) (hn2 : now < 9223372036854775808) :
    Calls Try.prog 12 #[.agg #[.string x.key, .string x.val, .int .i64 x.till, .bool x.gone], .int .i64 now] w fun e w' => e = .returned (.bool (x.live now)) ∧ Keeps (fun _ => True) w w' := by
  have RM := fun w => imay w x hx
  obtain ⟨hk, hv, ht1, ht2⟩ := hx
  have hc : (x.may = false ∧ x.live now = false) ∨ (x.may = true ∧ x.gone = true ∧ x.live now = false) ∨ (x.may = true ∧ x.gone = false ∧ (x.till == 0) = true ∧ x.live now = true) ∨
      (x.may = true ∧ x.gone = false ∧ (x.till == 0) = false ∧ decide (now < x.till) = true ∧ x.live now = true) ∨ (x.may = true ∧ x.gone = false ∧ (x.till == 0) = false ∧ decide (now < x.till) = false ∧ x.live now = false) := by
    have e3 : (x.till == 0) = decide (x.till = 0) := rfl
    rw [e3]
    unfold It.live
    generalize x.may = b1
    generalize x.gone = b2
    generalize decide (x.till = 0) = b3
    generalize decide (now < x.till) = b4
    revert b1 b2 b3 b4
    decide
  obtain ⟨key, val, till, gone⟩ := x
  simp only at *
  generalize (⟨key, val, till, gone⟩ : It).live now = m at *
  generalize (⟨key, val, till, gone⟩ : It).may = q at *
  rcases hc with ⟨rfl, rfl⟩ | ⟨rfl, rfl, rfl⟩ | ⟨rfl, rfl, t1, rfl⟩ | ⟨rfl, rfl, t1, t2, rfl⟩ | ⟨rfl, rfl, t1, t2, rfl⟩
  all_goals
    go_enter Try.func12, Try.ntmps12
    go_wp2_with fail
    refine (RM _).mono ?_
    rintro e w1 ⟨rfl, hk1⟩
    have hc2 := hk1.cell (p := ⟨w.heap.size, 2, none⟩) (v := .int .i64 till) ((cell_of_block (heap_alloc_new w _) 2).trans rfl) trivial
    have hc3 := hk1.cell (p := ⟨w.heap.size, 3, none⟩) (v := .bool _) ((cell_of_block (heap_alloc_new w _) 3).trans rfl) trivial
    have HK := Lib.hid (((Keeps.refl (fun _ => True) w).alloc _).trans hk1)
    clear hk1
    go_wp2_with fail
    go_ret
    exact ⟨by first | rfl | (rw [← t2]; rfl), HK.out⟩

theorem sizes_next (l : List It) (k : Nat) (h : k < l.length) : sizes (l.take (k + 1)) = sizes (l.take k) + l[k].size := by
  unfold sizes
  rw [List.take_succ_eq_append_getElem h, List.map_append, List.sum_append]; simp
theorem sizes_le (l : List It) (h : ∀ x ∈ l, x.fits) : sizes l ≤ 2000000 * l.length := by
  induction l with
  | nil => simp [sizes]
  | cons x l ih =>
    have h1 := h x (by simp)
    have h2 := ih fun y hy => h y (by simp [hy])
    have e : sizes (x :: l) = x.size + sizes l := by simp [sizes]
    have := h1.1
    have := h1.2.1
    rw [e, List.length_cons]
    unfold It.size
    omega
set_option maxHeartbeats 1000000 in
theorem isize (w : World) (A : Option Addr) (c : Nat) (l : List It) (hA : ItsAt w A (fun _ => True) l) (hlc : l.length ≤ c) (hc : c ≤ maxLen) (hn : l.length ≤ 1000) (hf : ∀ x ∈ l, x.fits) :
    Calls Try.prog 17 #[.slice A l.length c] w fun e w' => e = .returned (.int .i64 ((sizes l : Nat) : Int)) ∧ Keeps (fun _ => True) w w' := by
  unfold maxLen at hc
  have HA := Lib.hid hA
  have HF := Lib.hid hf
  have HALL := Lib.hid (show sizes (l.take l.length) = sizes l by rw [List.take_length])
  clear hA hf
  go_enter Try.func17, Try.ntmps17
  go_wp2_with fail
  go_loopw [3, 8] (fun v i wr => ∃ (k s : Nat), k ≤ l.length ∧ i = .int .i64 k ∧ v = .int .i64 s ∧ RowKit.Hid (s = sizes (l.take k)) ∧ Keeps (fun _ => True) w wr) (fun _ i _ => l.length - (intOf i).toNat)
  case atStart => exact ⟨0, 0, Nat.zero_le _, rfl, rfl, Lib.hid rfl, Keeps.refl _ _⟩
  case round =>
    obtain ⟨k, s, hk, rfl, rfl, hs, hkp⟩ := hrel
    by_cases hlt : k < l.length
    · have t1 : decide ((k : Int) < (l.length : Int)) = true := by simp; omega
      obtain ⟨b, o, rfl, -, c0, c1, c2, c3⟩ := (HA.out.keep hkp) k hlt
      have hx := HF.out _ (List.getElem_mem hlt)
      have HN := Lib.hid (sizes_next l k hlt)
      have hsl := sizes_le (l.take k) fun x hx => HF.out x (List.mem_of_mem_take hx)
      rw [← hs.out, List.length_take, Nat.min_eq_left hk] at hsl
      generalize l[k] = x at c0 c1 c2 c3 hx HN
      have h1 := hx.1
      have h2 := hx.2.1
      have HK := Lib.hid (hkp.alloc (.cells #[.string x.key, .string x.val, .int .i64 x.till, .bool x.gone] 23))
      clear hkp hx
      go_wp2_with fail
      go_roundw
      case rel => exact ⟨k + 1, s + (x.key.size + x.val.size), by omega, by go_num, by go_num, Lib.hid (by rw [HN.out, hs.out]; rfl), HK.out⟩
      case measure => simp [intOf]; omega
    · have t1 : decide ((k : Int) < (l.length : Int)) = false := by simp; omega
      obtain rfl : k = l.length := by omega
      have HK := Lib.hid hkp
      clear hkp
      go_wp2_with fail
      go_ret
      exact ⟨by rw [hs.out, HALL.out]; rfl, HK.out⟩

end Go.Proofs.Ytgdbkmecfbkobaa
