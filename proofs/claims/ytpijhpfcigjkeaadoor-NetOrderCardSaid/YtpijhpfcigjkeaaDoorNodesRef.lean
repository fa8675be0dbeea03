/-
  THE LAWS' OWN 'cut' OF LAYER 13 AND THE REFERENCE's Nodes AND Has.
-/
import Derived.Test.YtpijhpfcigjkeaaDoorNodes
import Derived.BigQuiet
namespace Go.Proofs.YtpijhpfcigjkeaaDoor
open Go Go.RowKit Go.Joins

set_option maxRecDepth 100000 in
set_option maxHeartbeats 4000000 in
theorem nodes_any (w : World) (A : Option Addr) (c : Nat) (l : List Int) (hr : Row w A (fun _ => True) (l.map (Value.int .i64))) (hl : l.length ≤ c) (hc : c ≤ maxLen) :
    Calls Tryd.prog 26 #[.slice A l.length c] w fun e w' => e = .returned (.bool (nodesB l)) ∧ Kp w w' := by
  have HR := Lib.hid hr
  unfold maxLen at hc
  clear hr
  go_enter Tryd.func26, Tryd.ntmps26
  go_wp2_with fail
  go_loopw [3] (fun i wr => ∃ k : Nat, k ≤ l.length ∧ i = .int .i64 k ∧ (∀ j, j < k → nodeB l j = true) ∧ Kp w wr) (fun i _ => l.length - (intOf i).toNat)
  case atStart => exact ⟨0, Nat.zero_le _, rfl, fun j hj => absurd hj (Nat.not_lt_zero _), Keeps.refl _ _⟩
  case round =>
    obtain ⟨k, hk, rfl, hj, hkw⟩ := hrel
    have HJ := Lib.hid hj
    have HW := Lib.hid hkw
    clear hj hkw
    by_cases hlt : k < l.length
    · have hlt' : (k : Int) < (l.length : Int) := by omega
      obtain ⟨b, o, rfl, -, c0⟩ := HR.out.at_ (k := k) (by simpa using hlt)
      rw [List.getElem_map] at c0
      replace c0 := HW.out.cell c0 trivial
      have hg : l.getD k 0 = l[k] := by rw [List.getD_eq_getElem?_getD, List.getElem?_eq_getElem hlt]; rfl
      have HG := Lib.hid hg
      generalize l[k] = x at c0 HG
      clear hg
      have hcs : decide (x < 1) = true ∨ decide (x < 1) = false ∧ (decide (5 < x) = true ∨ decide (5 < x) = false ∧ (k = 0 ∨ ∃ j, k = j + 1)) := by
        have h3 : k = 0 ∨ ∃ j, k = j + 1 := by cases k with | zero => exact .inl rfl | succ j => exact .inr ⟨j, rfl⟩
        cases decide (x < 1) with
        | true => exact .inl rfl
        | false =>
          refine .inr ⟨rfl, ?_⟩
          cases decide (5 < x) with
          | true => exact .inl rfl
          | false => exact .inr ⟨rfl, h3⟩
      rcases hcs with t | ⟨t, t1 | ⟨t1, h0 | ⟨j, rfl⟩⟩⟩
      · have HN := Lib.hid (nodesB_no hlt (show nodeB l k = false by
          have h1 : decide (1 ≤ x) = false := by have := of_decide_eq_true t; simp; omega
          unfold nodeB
          rw [HG.out, h1]; rfl))
        go_wp2_with fail
        go_quiet (fail)
        go_wp2_with fail
        go_ret
        exact ⟨by rw [HN.out]; rfl, HW.out.drewN _⟩
      · have HN := Lib.hid (nodesB_no hlt (show nodeB l k = false by
          have h1 : decide (1 ≤ x) = true := by have := of_decide_eq_false t; simp; omega
          have h2 : decide (x ≤ 5) = false := by have := of_decide_eq_true t1; simp; omega
          unfold nodeB
          rw [HG.out, h1, h2]; rfl))
        go_wp2_with fail
        go_quiet (fail)
        go_wp2_with fail
        go_ret
        exact ⟨by rw [HN.out]; rfl, HW.out.drewN _⟩
      · have HN := Lib.hid (show nodeB l k = true by
          have h1 : decide (1 ≤ x) = true := by have := of_decide_eq_false t; simp; omega
          have h2 : decide (x ≤ 5) = true := by have := of_decide_eq_false t1; simp; omega
          unfold nodeB
          rw [HG.out, h1, h2, h0]; rfl)
        have hz : decide (0 < k) = false := by simp [h0]
        have H0 := Lib.hid h0
        clear h0
        go_wp2_with fail
        go_quiet (fail)
        go_wp2_with fail
        go_roundw
        case rel => exact ⟨k + 1, by omega, by go_num, fun j hj => (show j = k by have := H0.out; omega) ▸ HN.out, HW.out.drewN _⟩
        case measure => simp [intOf]; omega
      · obtain ⟨b2, o2, hb2, -, e0⟩ := HR.out.at_ (k := j) (by simp; omega)
        cases hb2
        rw [List.getElem_map] at e0
        replace e0 := HW.out.cell e0 trivial
        have hg2 : l.getD j 0 = l[j]'(by omega) := by rw [List.getD_eq_getElem?_getD, List.getElem?_eq_getElem (by omega)]; rfl
        have HG2 := Lib.hid hg2
        generalize l[j]'(by omega) = y at e0 HG2
        clear hg2
        have hy : decide (x ≤ y) = true ∨ decide (x ≤ y) = false := by cases decide (x ≤ y) <;> simp
        have h1 : decide (1 ≤ x) = true := by have := of_decide_eq_false t; simp; omega
        have h2 : decide (x ≤ 5) = true := by have := of_decide_eq_false t1; simp; omega
        have HE := Lib.hid (show nodeB l (j + 1) = decide (y < x) by
          unfold nodeB
          rw [HG.out, h1, h2]
          show (decide (j + 1 = 0) || decide (l.getD j 0 < x)) = _
          rw [HG2.out]; simp)
        clear h1 h2
        rcases hy with t2 | t2
        · have HN := Lib.hid (nodesB_no hlt (show nodeB l (j + 1) = false by rw [HE.out]; have := of_decide_eq_true t2; simp; omega))
          go_wp2_with fail
          go_quiet (fail)
          go_wp2_with fail
          go_ret
          exact ⟨by rw [HN.out]; rfl, HW.out.drewN _⟩
        · have HN := Lib.hid (show nodeB l (j + 1) = true by rw [HE.out]; have := of_decide_eq_false t2; simp; omega)
          go_wp2_with fail
          go_quiet (fail)
          go_wp2_with fail
          go_roundw
          case rel =>
            refine ⟨j + 1 + 1, by omega, by go_num, fun i hi => ?_, HW.out.drewN _⟩
            rcases Nat.lt_or_ge i (j + 1) with h | h
            · exact HJ.out i h
            · exact (show i = j + 1 by omega) ▸ HN.out
          case measure => simp [intOf]; omega
    · have hkl : k = l.length := by omega
      have HB := Lib.hid (show nodesB l = decide (0 < l.length) by
        cases hz : decide (0 < l.length) with
        | true => exact nodesB_iff.2 ⟨of_decide_eq_true hz, fun j h => HJ.out j (by omega)⟩
        | false => unfold nodesB; rw [hz]; rfl)
      have hlt' : ¬ (k : Int) < (l.length : Int) := by omega
      clear hkl
      go_wp2_with fail
      go_ret
      exact ⟨by rw [HB.out]; simp, HW.out⟩

theorem has_yes {l : List Int} {n : Int} {k : Nat} (hk : k < l.length) (h : (l[k] == n) = true) : hasN l n = true := by
  unfold hasN
  rw [List.any_eq_true]
  exact ⟨l[k], List.getElem_mem hk, h⟩
theorem has_not {l : List Int} {n : Int} (h : ∀ (j : Nat) (hj : j < l.length), (l[j] == n) = false) : hasN l n = false := by
  unfold hasN
  rw [List.any_eq_false]
  intro x hx
  obtain ⟨j, hj, rfl⟩ := List.mem_iff_getElem.1 hx
  rw [h j hj]; simp


end Go.Proofs.YtpijhpfcigjkeaaDoor
