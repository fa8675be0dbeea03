/-
  THE PROGRAM's PARTS AS A ROW OF THE CALL's OWN (layer 15): goesOn, join.
-/
import Derived.Test.YtcmblihlbmclaaaPnIf
import Derived.Test.YtcmblihlbmclaaaPnPiece
import Derived.Deep.RegionWith
import Derived.Deep.QuietTactic
import Derived.BigQuiet
import Derived.BigGuard
import Derived.BigCall
namespace Go.Proofs.Ytcmblihlbmclaaa
open Go Go.RowKit Go.Joins

theorem mv_elem : Elem Try.prog 26 32 (.agg #[.int .u64 0, .int .u64 0, .int .i64 0, .int .i64 0]) 4 32 := ⟨Try.underlying26, by kernel_rfl, rfl, by decide⟩
theorem src_mv (w : World) (x : Mv) (b : Nat) (hb : b = w.heap.size) (c : Nat) (t : TypeId) : Src Try.prog 4 26 (.slice (some ⟨b, 0, none⟩) 1 c) 1 (mvcells x).toList (w.alloc (.cells (mvcells x) t)) := by
  subst hb
  refine Src.ofSlice _ Try.underlying26 _ 1 c _ rfl (fun j u hu => ?_) (fun u hu => ?_)
  · have hb := heap_alloc_new w (.cells (mvcells x) t)
    rw [WideShapes.add_plain, Nat.zero_add]
    rw [Array.getElem?_toList] at hu
    exact (cell_of_block hb j).trans hu
  · simp [mvcells] at hu
    rcases hu with rfl | rfl | rfl | rfl <;> rfl
theorem own_form4 {w : World} {base n : Nat} {e : TypeId} {v : Value} {xs : List Value} (h : w.ownsRow base e 4 v n xs) : ∃ A c, v = .slice A n c ∧ n ≤ c ∧ c ≤ maxLen ∧ (0 < n → ∃ g, A = some ⟨g, 0, none⟩ ∧ base ≤ g ∧ g < w.heap.size) := by
  rcases h.2 with ⟨rfl, rfl⟩ | ⟨g, cap, cur, rfl, hb, hg, h1, h2, -⟩
  · exact ⟨none, 0, rfl, Nat.le_refl _, Nat.zero_le _, fun h => absurd h (by omega)⟩
  · exact ⟨_, cap, rfl, h1, h2, fun _ => ⟨g, rfl, hb, (Array.getElem?_eq_some_iff.1 hg).1⟩⟩
theorem own_frozen {w : World} {base n g c size : Nat} {e : TypeId} {xs : List Value} (h : w.ownsRow base e size (.slice (some ⟨g, 0, none⟩) n c) n xs) (i : Nat) : w.frozen? ⟨g, i, none⟩ = false := by
  rcases h.2 with ⟨h', _⟩ | ⟨g', cap', cur, h', _, hg, _⟩
  · cases h'
  · injection h' with h'
    injection h' with h'
    injection h' with h'
    subst h'
    simp [World.frozen?, hg]
/-- One cell of an own row is written. -/
theorem own_set {w : World} {base n g c size : Nat} {e : TypeId} {xs : List Value} (h : w.ownsRow base e size (.slice (some ⟨g, 0, none⟩) n c) n xs) (i : Nat) (x : Value) : (w.setCell ⟨g, i, none⟩ x).ownsRow base e size (.slice (some ⟨g, 0, none⟩) n c) n (xs.set i x) := by
  refine ⟨by rw [List.length_set]; exact h.1, ?_⟩
  rcases h.2 with ⟨h', _⟩ | ⟨g', cap', cur, h', hb, hg, h1, h2, h3, h4⟩
  · cases h'
  · injection h' with h' h'' h'''
    injection h' with h'
    injection h' with h'
    subst h'
    subst h'''
    refine .inr ⟨g, c, cur.setIfInBounds i x, rfl, hb, ?_, h1, h2, by simpa using h3, ?_⟩
    · rw [Sort.setCell_eq]
      simp [Sort.mapBlock, Array.getElem?_modify, hg, Sort.onCells]
    · rw [Array.toList_setIfInBounds, ← h4, List.take_set]
/-- A part, as it lies in an own row. -/
theorem own_mv {w : World} {base n g c : Nat} {e : TypeId} {P : List Mv} (h : w.ownsRow base e 4 (.slice (some ⟨g, 0, none⟩) n c) n (mvrow P)) {j : Nat} (hj : j < P.length) : Mv4 w g (j * 4) P[j] := by
  have hc := fun i (hi : i < 4) => h.cells (g := g) rfl (j * 4 + i) _ (by rw [mvrow_at P j i hj hi]; exact Array.getElem?_eq_getElem hi)
  have h1 : ∀ i, i < 4 → w.cell? ⟨g, j * 4 + i, none⟩ = (mvcells P[j])[i]? := fun i hi => by
    have h := hc i hi
    rw [WideShapes.add_plain, Nat.zero_add] at h
    rw [h]; exact (Array.getElem?_eq_getElem hi).symm
  exact ⟨h1 0 (by decide), h1 1 (by decide), h1 2 (by decide), h1 3 (by decide)⟩
/-- A part made longer, in the row. -/
theorem mvrow_long (Q : List Mv) (p m : Mv) : mvrow (Q ++ [longM p m]) = (mvrow (Q ++ [p])).set (Q.length * 4 + 1) (.int .u64 m.til) := by
  rw [mvrow_snoc, mvrow_snoc, List.set_append_right _ _ (by rw [mvrow_len]; omega), mvrow_len, Nat.add_sub_cancel_left]
  rfl

set_option maxRecDepth 100000 in
set_option maxHeartbeats 2000000 in
theorem goesOn_any (w : World) (p m : Mv) (h0 : 0 ≤ p.til) (h1 : p.til < m.frm) (h2 : m.frm < 18446744073709551616) :
    Calls Try.prog 36 #[mvagg p, mvagg m] w fun e w' => e = .returned (.bool (goesB p m)) ∧ Kp w w' := by
  obtain ⟨pf, pt, ps, pd⟩ := p
  obtain ⟨mf, mt, ms, md⟩ := m
  simp only at h0 h1 h2
  obtain ⟨d, hd⟩ : ∃ d, mf - pt = d := ⟨_, rfl⟩
  have hw : IntKind.u64.wrap (mf - pt) = d := by rw [IntKind.wrap_u64]; omega
  have HB := Lib.hid (show goesB ⟨pf, pt, ps, pd⟩ ⟨mf, mt, ms, md⟩ = (d == 1 && (ps == ms && pd == md)) from by
    unfold goesB
    congr 1
    by_cases h : mf = pt + 1
    · rw [decide_eq_true h]; simp; omega
    · rw [decide_eq_false h]; simp; omega)
  generalize goesB ⟨pf, pt, ps, pd⟩ ⟨mf, mt, ms, md⟩ = r at HB ⊢
  clear hd
  have HK := Lib.hid ((Keeps.refl (fun _ => True) w).alloc (.cells #[.int .u64 pf, .int .u64 pt, .int .i64 ps, .int .i64 pd] 32) |>.alloc (.cells #[.int .u64 mf, .int .u64 mt, .int .i64 ms, .int .i64 md] 32))
  clear h0 h1 h2
  unfold mvagg mvcells
  cases q1 : (d == 1) <;> cases q2 : (ps == ms) <;> cases q3 : (pd == md) <;> rw [q1, q2, q3] at HB
  all_goals
    go_enter Try.func36, Try.ntmps36
    go_wp2_with fail
    go_ret
    exact ⟨by rw [HB.out]; rfl, HK.out⟩

set_option maxRecDepth 100000 in
set_option maxHeartbeats 4000000 in
theorem join_any (w : World) (base : Nat) (A : Option Addr) (c : Nat) (P : List Mv) (m : Mv) (ho : w.ownsRow base 32 4 (.slice A P.length c) P.length (mvrow P)) (hbase : base ≤ w.heap.size) (hl : P.length ≤ 1000) (hp : ∀ p ∈ P, 0 ≤ p.til ∧ p.til < m.frm) (hm : m.frm < 18446744073709551616) :
    Calls Try.prog 22 #[.slice A P.length c, mvagg m] w fun e w' => ∃ A' c', e = .returned (.slice A' (joinL P m).length c') ∧ w'.ownsRow base 32 4 (.slice A' (joinL P m).length c') (joinL P m).length (mvrow (joinL P m)) ∧ Keeps (fun i => i < base) w w' := by
  obtain ⟨mf, mt, ms, md⟩ := m
  obtain ⟨w1, hw1⟩ : ∃ w1, w1 = w.alloc (.cells #[.int .u64 mf, .int .u64 mt, .int .i64 ms, .int .i64 md] 32) := ⟨_, rfl⟩
  have hk1 : Kp w w1 := by rw [hw1]; exact (Keeps.refl _ w).alloc _
  have hbox : MvBlk w1 w.heap.size ⟨mf, mt, ms, md⟩ := by rw [hw1]; exact MvBlk.new w ⟨mf, mt, ms, md⟩ _ rfl
  have hsz : w1.heap.size = w.heap.size + 1 := by rw [hw1]; simp
  have HO1 := Lib.hid (show w1.ownsRow base 32 4 (.slice A P.length c) P.length (mvrow P) from by rw [hw1]; exact ho.alloc _)
  have HK1 := Lib.hid hk1
  have HX := Lib.hid (show ∀ w', Kp w1 w' → w'.cell? ⟨w.heap.size, 0, none⟩ = some (.int .u64 mf) ∧ w'.cell? ⟨w.heap.size, 1, none⟩ = some (.int .u64 mt) ∧ w'.cell? ⟨w.heap.size, 2, none⟩ = some (.int .i64 ms) ∧ w'.cell? ⟨w.heap.size, 3, none⟩ = some (.int .i64 md) from fun w' hk =>
    ⟨hk.cell hbox.c0 trivial, hk.cell hbox.c1 trivial, hk.cell hbox.c2 trivial, hk.cell hbox.c3 trivial⟩)
  have HSZ := Lib.hid (And.intro hsz hbase)
  have HW := Lib.hid hw1
  have APP := Lib.hid (show ∀ (w2 : World) (v3 : Value) (w3 : World), Kp w1 w2 → (w2.alloc (.cells #[.int .u64 mf, .int .u64 mt, .int .i64 ms, .int .i64 md] 32)).grownBy w3 (Value.slice A P.length c).ownBlock → Keeps (fun i => i < base) w w3 from fun w2 v3 w3 hk hg => by
    have h1 : Keeps (fun i => i < base) w w2 := (hk1.trans hk).mono fun _ _ _ => trivial
    refine (h1.alloc _).trans (Keeps.of_grown hg fun b hb _ h => ?_)
    have := (ho.lt b hb).1
    omega)
  clear hw1 hk1 hbox hsz ho hbase
  unfold mvagg mvcells
  simp only
  rcases List.eq_nil_or_concat P with rfl | ⟨Q, p, rfl⟩
  · obtain ⟨b0, b1, b2, b3⟩ := HX.out w1 (Keeps.refl _ _)
    obtain ⟨A', c', e, hc1, hc2, hA⟩ := own_form4 HO1.out
    injection e with e1 e2 e3
    subst e1 e3
    have hn : decide ((0 : Int) ≤ -1) = false := by decide
    clear hA e2 hc1 hc2 hp hl
    go_enter Try.func22, Try.ntmps22
    go_wp2_with fail
    rw [← HW.out]
    go_quiet (fail)
    revert nq
    intro nq1
    have KX := Lib.hid ((Keeps.refl (fun _ => True) w1).drewN nq1)
    have HOX := Lib.hid (show (w1.drewN nq1).ownsRow base 32 4 (.slice A 0 c) 0 (mvrow []) from KX.out.own HO1.out fun _ _ => trivial)
    obtain ⟨b0, b1, b2, b3⟩ := HX.out _ KX.out
    generalize w1.drewN nq1 = w2 at *
    have hsrc := src_mv w2 ⟨mf, mt, ms, md⟩ _ rfl 1 32
    unfold mvcells at hsrc
    have HSRC := Lib.hid hsrc
    have hb : base ≤ (w2.alloc (.cells #[.int .u64 mf, .int .u64 mt, .int .i64 ms, .int .i64 md] 32)).heap.size := by have := HSZ.out; have := KX.out.size; simp; omega
    clear hsrc
    go_wp2_with (at_builtin; refine mv_elem.list_append rfl (.tmp 26) (.tmp 28) _ rfl rfl (HOX.out.alloc _) rfl HSRC.out ?c3 ?c4 hb ?_)
    case c3 => unfold maxLen; omega
    intro v3 w3 ho3 hg3 hb3
    have HF := Lib.hid (APP.out w2 v3 w3 KX.out hg3)
    obtain ⟨A3, c3, rfl, -⟩ := own_form4 ho3
    have HO3 := Lib.hid (show w3.ownsRow base 32 4 (.slice A3 (0 + 1) c3) (0 + 1) (mvrow ([] ++ [⟨mf, mt, ms, md⟩])) from by rw [mvrow_snoc]; exact ho3)
    clear ho3 hg3 hb3 HSRC HOX hb
    go_wp2_with fail
    go_ret
    exact ⟨A3, c3, rfl, HO3.out, HF.out⟩
  · rw [List.concat_eq_append] at hl hp HO1 APP ⊢
    have hpp := hp p (by simp)
    have hlen : (Q ++ [p]).length = Q.length + 1 := by simp
    rw [hlen] at HO1 hl APP ⊢
    obtain ⟨A', c', e, hc1, hc2, hA⟩ := own_form4 HO1.out
    obtain ⟨g, hg1, hg2, hg3⟩ := hA (by omega)
    injection e with e1 e2 e3
    subst e1 e3
    subst hg1
    have h4 := own_mv HO1.out (j := Q.length) (by simp)
    rw [show (Q ++ [p])[Q.length]'(by simp) = p from by simp] at h4
    have HGO := Lib.hid (fun w' => goesOn_any w' p ⟨mf, mt, ms, md⟩ hpp.1 hpp.2 hm)
    unfold mvagg mvcells at HGO
    have HJ := Lib.hid (joinL_snoc Q p ⟨mf, mt, ms, md⟩)
    generalize goesB p ⟨mf, mt, ms, md⟩ = r at HGO HJ
    obtain ⟨pf, pt, ps, pd⟩ := p
    have HOW := Lib.hid (show ∀ w', Kp w1 w' → w'.ownsRow base 32 4 (.slice (some ⟨g, 0, none⟩) (Q.length + 1) c) (Q.length + 1) (mvrow (Q ++ [⟨pf, pt, ps, pd⟩])) ∧ w'.cell? ⟨g, Q.length * 4 + 1, none⟩ = some (.int .u64 pt) ∧ w'.frozen? ⟨g, Q.length * 4 + 1, none⟩ = false from fun w' hk =>
      have h := hk.own HO1.out fun _ _ => trivial
      ⟨h, hk.cell h4.c1 trivial, own_frozen h _⟩)
    obtain ⟨b0, b1, b2, b3⟩ := HX.out w1 (Keeps.refl _ _)
    have p0 := h4.c0
    have p1 := h4.c1
    have p2 := h4.c2
    have p3 := h4.c3
    simp only at p0 p1 p2 p3
    have hq0 : (0 : Int) ≤ (Q.length : Int) := by omega
    have HH := Lib.hid hg2
    clear hp hpp hc1 hc2 hg2 hg3 hm h4 e2 hlen hA
    go_enter Try.func22, Try.ntmps22
    go_wp2_with fail
    rw [← HW.out]
    go_region_with (go_at_call 36; ((with_reducible refine (HGO.out _).mono ?_); rintro e w2 ⟨rfl, hk2⟩))
    all_goals
      have KX := Lib.hid (show Kp w1 w2 from ((Keeps.refl (fun _ => True) w1).drewN _).trans hk2)
      clear hk2
      obtain ⟨b0, b1, b2, b3⟩ := HX.out _ KX.out
      cases r with
      | true =>
        have HJ2 := Lib.hid (show joinL (Q ++ [⟨pf, pt, ps, pd⟩]) ⟨mf, mt, ms, md⟩ = Q ++ [longM ⟨pf, pt, ps, pd⟩ ⟨mf, mt, ms, md⟩] from HJ.out.trans (if_pos rfl))
        clear HJ
        obtain ⟨ho2, p1, pf2⟩ := HOW.out _ KX.out
        have HO2 := Lib.hid ho2
        clear ho2
        go_wp2_with fail
        go_ret
        rw [HJ2.out]
        have hset := own_set HO2.out (Q.length * 4 + 1) (.int .u64 mt)
        rw [← mvrow_long Q ⟨pf, pt, ps, pd⟩ ⟨mf, mt, ms, md⟩] at hset
        rw [show (Q ++ [longM ⟨pf, pt, ps, pd⟩ ⟨mf, mt, ms, md⟩]).length = Q.length + 1 from by simp]
        have hkb : Keeps (fun i => i < base) w w2 := (HK1.out.trans KX.out).mono fun _ _ _ => trivial
        have hnb : ¬ g < base := Nat.not_lt.2 HH.out
        exact ⟨_, _, rfl, hset, hkb.setCell (.inr hnb) _⟩
      | false =>
        have HJ2 := Lib.hid (show joinL (Q ++ [⟨pf, pt, ps, pd⟩]) ⟨mf, mt, ms, md⟩ = Q ++ [⟨pf, pt, ps, pd⟩] ++ [⟨mf, mt, ms, md⟩] from HJ.out.trans (if_neg (by simp)))
        clear HJ
        have HOX := Lib.hid ((HOW.out _ KX.out).1)
        have hsrc := src_mv w2 ⟨mf, mt, ms, md⟩ _ rfl 1 32
        unfold mvcells at hsrc
        have HSRC := Lib.hid hsrc
        have hb : base ≤ (w2.alloc (.cells #[.int .u64 mf, .int .u64 mt, .int .i64 ms, .int .i64 md] 32)).heap.size := by have := HSZ.out; have := KX.out.size; simp; omega
        clear hsrc
        have h63 : Q.length + 1 + 1 ≤ maxLen := by unfold maxLen; omega
        have h32 : (Q.length + 1 + 1) * 32 ≤ 140737488355328 := by omega
        go_wp2_with (at_builtin; refine mv_elem.list_append rfl (.tmp 26) (.tmp 28) _ rfl rfl (HOX.out.alloc _) rfl HSRC.out h63 h32 hb ?_)
        intro v3 w3 ho3 hg3 hb3
        have HF := Lib.hid (APP.out w2 v3 w3 KX.out hg3)
        obtain ⟨A3, c3, rfl, -⟩ := own_form4 ho3
        have HO3 := Lib.hid (show w3.ownsRow base 32 4 (.slice A3 ((Q.length + 1) + 1) c3) ((Q.length + 1) + 1) (mvrow ((Q ++ [⟨pf, pt, ps, pd⟩]) ++ [⟨mf, mt, ms, md⟩])) from by rw [mvrow_snoc]; exact ho3)
        clear ho3 hg3 hb3 HSRC HOX hb h63 h32
        go_wp2_with fail
        go_ret
        rw [HJ2.out]
        rw [show (Q ++ [⟨pf, pt, ps, pd⟩] ++ [⟨mf, mt, ms, md⟩] : List Mv).length = Q.length + 1 + 1 from by simp]
        exact ⟨A3, c3, rfl, HO3.out, HF.out⟩

end Go.Proofs.Ytcmblihlbmclaaa
