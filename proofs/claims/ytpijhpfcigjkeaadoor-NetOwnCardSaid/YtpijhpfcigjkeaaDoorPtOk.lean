/-
  THE PROGRAM's POINTS: May (layer 13).
-/
import Derived.Test.YtpijhpfcigjkeaaDoorNodes
import Derived.Deep.CutRange
namespace Go.Proofs.YtpijhpfcigjkeaaDoor
open Go Go.RowKit Go.Joins

def lastN (l : List Int) (k : Nat) : Int := if k = 0 then 0 else l.getD (k - 1) 0
theorem nodeB_no1 {l : List Int} {k : Nat} {x : Int} (hg : l.getD k 0 = x) (h : x ≤ lastN l k) : nodeB l k = false := by
  unfold lastN at h
  unfold nodeB
  rw [hg]
  split at h
  · have : decide (1 ≤ x) = false := by simp; omega
    rw [this]; rfl
  · rename_i h0
    have h1 : decide (k = 0) = false := by simpa using h0
    have h2 : decide (l.getD (k - 1) 0 < x) = false := decide_eq_false (by omega)
    rw [h1, h2]; simp
theorem nodeB_no5 {l : List Int} {k : Nat} {x : Int} (hg : l.getD k 0 = x) (h : 5 < x) : nodeB l k = false := by
  unfold nodeB
  rw [hg]
  have : decide (x ≤ 5) = false := by simp; omega
  rw [this]; simp
theorem nodeB_yes {l : List Int} {k : Nat} {x : Int} (hg : l.getD k 0 = x) (h : lastN l k < x) (h5 : x ≤ 5) (hb : ∀ j, j < k → nodeB l j = true) : nodeB l k = true := by
  unfold lastN at h
  split at h
  · rename_i h0
    unfold nodeB
    rw [hg]
    simp [h0]
    omega
  · rename_i h0
    have h1 := hb (k - 1) (by omega)
    unfold nodeB at h1 ⊢
    rw [hg]
    simp only [Bool.and_eq_true, Bool.or_eq_true, decide_eq_true_eq] at h1 ⊢
    exact ⟨by omega, h5, .inr h⟩
theorem lastN_succ {l : List Int} {k : Nat} {x : Int} (hg : l.getD k 0 = x) : lastN l (k + 1) = x := by
  unfold lastN
  rw [if_neg (by omega)]
  exact hg

set_option maxRecDepth 100000 in
set_option maxHeartbeats 1000000 in
theorem may_any (w : World) (A : Option Addr) (c : Nat) (l : List Int) (hr : Row w A (fun _ => True) (l.map (Value.int .i64))) (hl : l.length ≤ c) (hc : c ≤ maxLen) :
    Calls Tryd.prog 62 #[.slice A l.length c] w fun e w' => e = .returned (.bool (nodesB l)) ∧ Kp w w' := by
  have HR := Lib.hid hr
  unfold maxLen at hc
  clear hr
  go_enter Tryd.func62, Tryd.ntmps62
  go_wp2_with fail
  go_loopw [3, 8] (fun v i wr => ∃ (k : Nat) (z : Int), k ≤ l.length ∧ i = .int .i64 (k : Int) ∧ v = .int .i64 z ∧ Hid (z = lastN l k) ∧ Hid (∀ j, j < k → nodeB l j = true) ∧ Hid (Kp w wr)) (fun _ i _ => l.length - (intOf i).toNat)
  case atStart => exact ⟨0, 0, Nat.zero_le _, rfl, rfl, Lib.hid rfl, Lib.hid (fun j hj => absurd hj (Nat.not_lt_zero _)), Lib.hid (Keeps.refl _ _)⟩
  case round =>
    obtain ⟨k, z, hk, rfl, rfl, HZ, HJ, HW⟩ := hrel
    by_cases hlt : k < l.length
    · have hlt' : (k : Int) < (l.length : Int) := by omega
      obtain ⟨b, o, rfl, -, c0⟩ := HR.out.at_ (k := k) (by simpa using hlt)
      rw [List.getElem_map] at c0
      replace c0 := HW.out.cell c0 trivial
      have hg : l.getD k 0 = l[k] := by rw [List.getD_eq_getElem?_getD, List.getElem?_eq_getElem hlt]; rfl
      have HG := Lib.hid hg
      generalize l[k] = x at c0 HG
      clear hg
      have hcs : decide (x ≤ z) = true ∨ (decide (x ≤ z) = false ∧ decide (5 < x) = true) ∨ (decide (x ≤ z) = false ∧ decide (5 < x) = false) := by
        cases decide (x ≤ z) <;> cases decide (5 < x) <;> simp
      rcases hcs with t | ⟨t, t1⟩ | ⟨t, t1⟩
      · have HN := Lib.hid (nodesB_no hlt (nodeB_no1 HG.out (by rw [← HZ.out]; exact of_decide_eq_true t)))
        go_wp2_with fail
        go_ret
        exact ⟨by rw [HN.out]; rfl, HW.out⟩
      · have HN := Lib.hid (nodesB_no hlt (nodeB_no5 HG.out (of_decide_eq_true t1)))
        go_wp2_with fail
        go_ret
        exact ⟨by rw [HN.out]; rfl, HW.out⟩
      · have HJ2 := Lib.hid (show ∀ j, j < k + 1 → nodeB l j = true from fun j hj => by
          rcases Nat.lt_or_ge j k with h | h
          · exact HJ.out j h
          · obtain rfl : j = k := by omega
            exact nodeB_yes HG.out (by rw [← HZ.out]; have := of_decide_eq_false t; omega) (by have := of_decide_eq_false t1; omega) HJ.out)
        have HZ2 := Lib.hid (show x = lastN l (k + 1) from (lastN_succ HG.out).symm)
        clear HJ HZ HG
        go_wp2_with fail
        go_roundw
        case rel => exact ⟨k + 1, x, hlt, by go_num, rfl, HZ2, HJ2, HW⟩
        case measure => simp [intOf]; omega
    · obtain rfl : k = l.length := by omega
      have hlt' : ¬ ((l.length : Int) < (l.length : Int)) := by omega
      have HN := Lib.hid (show nodesB l = decide (0 < l.length) from by
        cases h0 : decide (0 < l.length) with
        | true => exact nodesB_iff.2 ⟨of_decide_eq_true h0, HJ.out⟩
        | false => unfold nodesB; rw [h0]; rfl)
      clear hlt HJ HZ
      go_wp2_with fail
      go_ret
      exact ⟨by rw [HN.out]; rfl, HW.out⟩

end Go.Proofs.YtpijhpfcigjkeaaDoor
