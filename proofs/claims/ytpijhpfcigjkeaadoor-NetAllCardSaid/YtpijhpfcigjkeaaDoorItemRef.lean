/-
  THE CONTRACTS OF THE REFERENCE's ENTRIES: Key, May, Live, EqItem.
-/
import Derived.Test.YtpijhpfcigjkeaaDoorItemIf
import Derived.WalkSpells
import Derived.Lib.SmallJoins
namespace Go.Proofs.YtpijhpfcigjkeaaDoor
open Go Go.RowKit Go.Joins

theorem rkey (s : ByteArray) (hs : s.size ≤ 1000000) (w : World) (kb : Bool) (hk : (decide (1 ≤ s.size) && decide (s.size ≤ 40)) = kb) :
    Calls Tryd.prog 27 #[.string s] w fun e w' => e = .returned (.bool kb) ∧ w = w' := by
  by_cases h1 : 1 ≤ s.size
  · by_cases h2 : s.size ≤ 40
    · have t1 : decide ((1 : Int) ≤ (s.size : Int)) = true := by simp; omega
      have t2 : decide ((s.size : Int) ≤ 40) = true := by simp; omega
      obtain rfl : true = kb := by rw [← hk]; simp [h1, h2]
      clear hk h1 h2
      go_enter Tryd.func27, Tryd.ntmps27
      go_wp2_with fail
      go_ret
      exact ⟨rfl, rfl⟩
    · have t1 : decide ((1 : Int) ≤ (s.size : Int)) = true := by simp; omega
      have t2 : decide ((s.size : Int) ≤ 40) = false := by simp; omega
      obtain rfl : false = kb := by rw [← hk]; simp [h2]
      clear hk h1 h2
      go_enter Tryd.func27, Tryd.ntmps27
      go_wp2_with fail
      go_ret
      exact ⟨rfl, rfl⟩
  · have t1 : decide ((1 : Int) ≤ (s.size : Int)) = false := by simp; omega
    obtain rfl : false = kb := by rw [← hk]; simp [h1]
    clear hk h1
    go_enter Tryd.func27, Tryd.ntmps27
    go_wp2_with fail
    go_ret
    exact ⟨rfl, rfl⟩

theorem str_same (a b : ByteArray) : (a.toList == b.toList) = decide (a = b) := by
  by_cases h : a = b
  · subst h; simp
  · have : a.toList ≠ b.toList := fun e => h (by
      rw [Lib.toList_data, Lib.toList_data] at e
      exact data_inj e)
    simp [h, this]
theorem size_zero {s : ByteArray} : s = ⟨#[]⟩ ↔ s.size = 0 := by
  constructor
  · rintro rfl; rfl
  · intro h
    obtain ⟨d⟩ := s
    have : d.size = 0 := h
    rw [Array.size_eq_zero_iff] at this
    rw [this]

set_option maxHeartbeats 1000000 in
theorem rmay (w : World) (x : It) (hx : x.fits) :
    Calls Tryd.prog 25 #[.agg #[.string x.key, .string x.val, .int .i64 x.till, .bool x.gone]] w fun e w' => e = .returned (.bool x.may) ∧ Keeps (fun _ => True) w w' := by
  obtain ⟨hk, hv, ht1, ht2⟩ := hx
  have cases_ : ∃ kb, (decide (1 ≤ x.key.size) && decide (x.key.size ≤ 40)) = kb ∧ (
      (kb = false ∧ x.may = false) ∨
      (kb = true ∧ decide ((x.val.size : Int) ≤ 200) = false ∧ x.may = false) ∨
      (kb = true ∧ decide ((x.val.size : Int) ≤ 200) = true ∧ decide ((0 : Int) ≤ x.till) = false ∧ x.may = false) ∨
      (kb = true ∧ decide ((x.val.size : Int) ≤ 200) = true ∧ decide ((0 : Int) ≤ x.till) = true ∧ decide (x.till ≤ 1099511627776) = false ∧ x.may = false) ∨
      (kb = true ∧ decide ((x.val.size : Int) ≤ 200) = true ∧ decide ((0 : Int) ≤ x.till) = true ∧ decide (x.till ≤ 1099511627776) = true ∧ x.gone = false ∧ x.may = true) ∨
      (kb = true ∧ decide ((x.val.size : Int) ≤ 200) = true ∧ decide ((0 : Int) ≤ x.till) = true ∧ decide (x.till ≤ 1099511627776) = true ∧ x.gone = true ∧ (x.val.toList == []) = false ∧ x.may = false) ∨
      (kb = true ∧ decide ((x.val.size : Int) ≤ 200) = true ∧ decide ((0 : Int) ≤ x.till) = true ∧ decide (x.till ≤ 1099511627776) = true ∧ x.gone = true ∧ (x.val.toList == []) = true ∧ (x.till == 0) = false ∧ x.may = false) ∨
      (kb = true ∧ decide ((x.val.size : Int) ≤ 200) = true ∧ decide ((0 : Int) ≤ x.till) = true ∧ decide (x.till ≤ 1099511627776) = true ∧ x.gone = true ∧ (x.val.toList == []) = true ∧ (x.till == 0) = true ∧ x.may = true)) := by
    refine ⟨_, rfl, ?_⟩
    have e1 : decide ((x.val.size : Int) ≤ 200) = decide (x.val.size ≤ 200) := decide_eq_decide.2 (by omega)
    have e2 : (x.val.toList == []) = decide (x.val.size = 0) := by
      have h := str_same x.val ⟨#[]⟩
      rw [show ByteArray.toList ⟨#[]⟩ = [] from by rw [Lib.toList_data]] at h
      exact h.trans (decide_eq_decide.2 size_zero)
    have e3 : (x.till == 0) = decide (x.till = 0) := rfl
    rw [e1, e2, e3]
    unfold It.may
    generalize (decide (1 ≤ x.key.size) && decide (x.key.size ≤ 40)) = b1
    generalize decide (x.val.size ≤ 200) = b2
    generalize decide ((0 : Int) ≤ x.till) = b3
    generalize decide (x.till ≤ 1099511627776) = b4
    generalize decide (x.val.size = 0) = b5
    generalize decide (x.till = 0) = b6
    generalize x.gone = b7
    revert b1 b2 b3 b4 b5 b6 b7
    decide
  obtain ⟨kb, hkb, hc⟩ := cases_
  obtain ⟨key, val, till, gone⟩ := x
  simp only at *
  have RK := fun w => rkey key hk w kb hkb
  have HM := Lib.hid (show (⟨key, val, till, gone⟩ : It).may = (⟨key, val, till, gone⟩ : It).may from rfl)
  generalize (⟨key, val, till, gone⟩ : It).may = m at *
  clear hkb HM
  rcases hc with ⟨rfl, rfl⟩ | ⟨rfl, t1, rfl⟩ | ⟨rfl, t1, t2, rfl⟩ | ⟨rfl, t1, t2, t3, rfl⟩ | ⟨rfl, t1, t2, t3, rfl, rfl⟩ | ⟨rfl, t1, t2, t3, rfl, t4, rfl⟩ | ⟨rfl, t1, t2, t3, rfl, t4, t5, rfl⟩ | ⟨rfl, t1, t2, t3, rfl, t4, t5, rfl⟩
  all_goals
    go_enter Tryd.func25, Tryd.ntmps25
    go_wp2_with fail
    refine (RK _).mono ?_
    rintro e w1 ⟨rfl, rfl⟩
    go_wp2_with fail
    go_ret
    exact ⟨by first | rfl | (rw [← t5]; rfl), (Keeps.refl _ _).alloc _⟩


set_option maxHeartbeats 1000000 in
theorem reqItem (w : World) (x y : It) (hx : x.fits) (hy : y.fits) (r : Bool) (hr : decide (x = y) = r) :
    Calls Tryd.prog 24 #[.agg #[.string x.key, .string x.val, .int .i64 x.till, .bool x.gone], .agg #[.string y.key, .string y.val, .int .i64 y.till, .bool y.gone]] w fun e w' => e = .returned (.bool r) ∧ Keeps (fun _ => True) w w' := by
  obtain ⟨key, val, till, gone⟩ := x
  obtain ⟨key2, val2, till2, gone2⟩ := y
  obtain ⟨hk, hv, ht1, ht2⟩ := hx
  obtain ⟨gk, gv, gt1, gt2⟩ := hy
  simp only at *
  have hc : ((key.toList == key2.toList) = false ∧ r = false) ∨ ((key.toList == key2.toList) = true ∧ (val.toList == val2.toList) = false ∧ r = false) ∨ ((key.toList == key2.toList) = true ∧ (val.toList == val2.toList) = true ∧ (till == till2) = false ∧ r = false) ∨
      ((key.toList == key2.toList) = true ∧ (val.toList == val2.toList) = true ∧ (till == till2) = true ∧ (gone == gone2) = false ∧ r = false) ∨ ((key.toList == key2.toList) = true ∧ (val.toList == val2.toList) = true ∧ (till == till2) = true ∧ (gone == gone2) = true ∧ r = true) := by
    subst hr
    rw [str_same, str_same]
    by_cases h1 : key = key2
    · by_cases h2 : val = val2
      · by_cases h3 : till = till2
        · by_cases h4 : gone = gone2 <;> simp [h1, h2, h3, h4]
        · simp [h1, h2, h3]
      · simp [h1, h2]
    · simp [h1]
  clear hr
  rcases hc with ⟨t1, rfl⟩ | ⟨t1, t2, rfl⟩ | ⟨t1, t2, t3, rfl⟩ | ⟨t1, t2, t3, t4, rfl⟩ | ⟨t1, t2, t3, t4, rfl⟩
  all_goals
    go_enter Tryd.func24, Tryd.ntmps24
    go_wp2_with fail
    go_ret
    exact ⟨by first | rfl | (rw [← t4]; rfl), ((Keeps.refl _ _).alloc _).alloc _⟩

end Go.Proofs.YtpijhpfcigjkeaaDoor
