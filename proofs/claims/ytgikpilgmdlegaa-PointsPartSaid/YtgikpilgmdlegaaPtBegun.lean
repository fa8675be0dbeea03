/-
  'begun' OF LAYER 13 ANSWERS true, however the program sorts.
-/
import Derived.Test.YtgikpilgmdlegaaPtIf
import Derived.Outline
namespace Go.Proofs.Ytgikpilgmdlegaa
open Go Go.RowKit Go.Joins

theorem new_nodes (w : World) (l : List Int) (C : Array Value) (hC : C.toList = l.map (Value.int .i64)) : Row (w.alloc (.cells C 3)) (some ⟨w.heap.size, 0, none⟩) (fun _ => True) (l.map (Value.int .i64)) :=
  Row.fresh w C 3 (0, 0) _ rfl trivial _ hC
def pt15 : P2 := ⟨1, 5⟩
def pt21 : P2 := ⟨2, 1⟩
theorem of2 : ∃ x xs, ofP [2] = x :: xs ∧ xs.length = 7 ∧ x.node = 2 := by
  have h : ofP [2] = pts [2] := if_pos (by decide)
  have hl := pts_len [2]
  rw [h]
  match he : pts [2], hl with
  | x :: xs, hl =>
    refine ⟨x, xs, rfl, by simpa using hl, ?_⟩
    obtain ⟨n, hn, hx⟩ := pts_mem.1 (show x ∈ pts [2] by rw [he]; exact List.mem_cons_self)
    rw [ptsOf_node hx]
    simpa using hn

set_option maxRecDepth 100000 in
set_option maxHeartbeats 4000000 in
theorem begun13 (S : PointsOK) (w : World) (hT : S.T w) : Calls Try.prog 6 #[] w fun e w' => e = .returned (.bool true) ∧ Kp w w' := by
  have HT := Lib.hid hT
  clear hT
  go_enter Try.func6, Try.ntmps6
  go_wp2_with fail
  refine (show Calls _ _ _ _ _ from S.of _ _ 1 [2] (S.tk HT.out ((Keeps.refl _ w).alloc _)) (new_nodes w [2] _ rfl) (by decide) (by decide)).mono ?_
  obtain ⟨x, xs, hx, hn, hx2⟩ := of2
  rintro e w1 ⟨B, cb, rfl, hr, h1, h2, hk⟩
  rw [hx] at hr h1 ⊢
  have hxl : (x :: xs).length = 8 := by simp [hn]
  obtain ⟨bb, bo, rfl, -, c0, c1⟩ := hr.at_ (j := 0) (by simp)
  simp only [List.getElem_cons_zero, hx2] at c1
  rw [hxl] at h1 ⊢
  have HK1 := Lib.hid (show Kp w w1 from ((Keeps.refl _ w).alloc _).trans hk)
  have HC := Lib.hid (show ∀ w', Kp w1 w' → w'.cell? ⟨bb, bo + 0 * 2 + 1, none⟩ = some (.int .i64 2) from fun w' hk => hk.cell c1 trivial)
  clear hk hr c0 c1 hx hn hx2 hxl
  unfold maxLen at h2
  go_wp2_with fail
  refine (show Calls _ _ _ _ _ from S.may _ _ 2 [1, 4] (S.tk HT.out (HK1.out.alloc _)) (new_nodes w1 [1, 4] _ rfl) (by decide) (by decide)).mono ?_
  rintro e w2 ⟨rfl, hk⟩
  have HK2 := Lib.hid (show Kp w1 w2 from ((Keeps.refl _ w1).alloc _).trans hk)
  clear hk
  rw [show nodesB [1, 4] = true from by decide]
  go_wp2_with fail
  refine (show Calls _ _ _ _ _ from S.may _ none 0 [] (S.tk HT.out (HK1.out.trans HK2.out)) (Row.nil _ _ _) (by decide) (by decide)).mono ?_
  rintro e w3 ⟨rfl, hk⟩
  have HK3 := Lib.hid (show Kp w1 w3 from HK2.out.trans hk)
  clear hk HK2
  rw [show nodesB [] = false from rfl]
  have c1 := HC.out w3 HK3.out
  simp only [Nat.zero_mul, Nat.add_zero] at c1
  go_wp2_with fail
  refine (show Calls _ _ _ _ _ from S.less _ pt15 pt21).mono ?_
  rintro e w4 ⟨rfl, hk⟩
  have HK4 := Lib.hid (show Kp w w4 from (HK1.out.trans HK3.out).trans hk)
  clear hk HK3 HC c1
  rw [show lessB pt15 pt21 = true from by decide]
  go_wp2_with fail
  refine (show Calls _ _ _ _ _ from S.of _ _ 2 [2, 1] (S.tk HT.out (HK4.out.alloc _)) (new_nodes w4 [2, 1] _ rfl) (by decide) (by decide)).mono ?_
  rintro e w5 ⟨B5, c5, rfl, hr, h1, h2, hk⟩
  have HK5 := Lib.hid (show Kp w w5 from (HK4.out.alloc _).trans hk)
  rw [show ofP [2, 1] = [] from rfl]
  clear hk hr h1 h2 HK4
  go_wp2_with fail
  go_ret
  exact ⟨rfl, HK5.out⟩

end Go.Proofs.Ytgikpilgmdlegaa
