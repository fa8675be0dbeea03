/-
  THE PROGRAM's ENDS OF PIECES (layer 15): the greatest hash and both rings' points, each once, rising.
-/
import Derived.Test.YtcmblihlbmclaaaRgMade
import Derived.Test.YtcmblihlbmclaaaUsSort
namespace Go.Proofs.Ytcmblihlbmclaaa
open Go Go.RowKit Go.Joins

theorem u64_elem : Elem Try.prog 22 30 (.int .u64 0) 1 8 := ⟨Try.underlying22, by kernel_rfl, rfl, by decide⟩
/-- A row of one cell, new. -/
theorem own_one (w : World) (e : TypeId) (x : Value) : (w.alloc (.cells #[x] e)).ownsRow w.heap.size e 1 (.slice (some ⟨w.heap.size, 0, none⟩) 1 1) 1 [x] :=
  ⟨rfl, .inr ⟨w.heap.size, 1, #[x], rfl, Nat.le_refl _, heap_alloc_new w _, Nat.le_refl _, by decide, rfl, rfl⟩⟩
/-- The list of all ends, as they come. -/
def endsL (x y : List Int) (k : Nat) : List Int :=
  18446744073709551615 :: ((if 0 < k then (pts x).map P2.place else []) ++ (if 1 < k then (pts y).map P2.place else []))
theorem endsL_len (x y : List Int) (k : Nat) : (endsL x y k).length ≤ 1 + (8 * x.length + 8 * y.length) := by
  have h1 := pts_len x
  have h2 := pts_len y
  unfold endsL
  rw [List.length_cons, List.length_append]
  split <;> split <;> simp <;> omega
/-- An own row of numbers as the sort wants it, and back. -/
theorem holds_u64 {w : World} {base g c : Nat} {e : TypeId} {l : List Int} (h : w.ownsRow base e 1 (.slice (some ⟨g, 0, none⟩) l.length c) l.length (l.map (Value.int .u64))) : Go.Sort.Holds (Value.int .u64) w g 0 l.toArray := by
  intro t ht
  have ht' : t < l.length := by simpa using ht
  have h1 := h.cells (g := g) rfl t (.int .u64 l[t]) (by simp [ht'])
  rw [WideShapes.add_plain] at h1
  refine ⟨by rw [h1]; simp [ht'], ?_⟩
  rcases h.2 with ⟨h', _⟩ | ⟨g', cap', cur, h', _, hg, _⟩
  · cases h'
  · injection h' with h'
    injection h' with h'
    injection h' with h'
    subst h'
    simp [World.frozen?, hg]
theorem row_u64 {w : World} {g : Nat} {l : List Int} (h : Go.Sort.Holds (Value.int .u64) w g 0 l.toArray) : Row w (some ⟨g, 0, none⟩) (fun b => b = g) (l.map (Value.int .u64)) := by
  intro _
  refine ⟨g, 0, rfl, rfl, fun t v hv => ?_⟩
  rw [List.getElem?_map] at hv
  obtain ⟨z, hz, rfl⟩ := Option.map_eq_some_iff.1 hv
  have ht := (List.getElem?_eq_some_iff.1 hz).1
  have h1 := (h t (by simpa using ht)).1
  rw [h1]
  have := (List.getElem?_eq_some_iff.1 hz).2
  simp [ht, this]
theorem own_u64_form {w : World} {base n : Nat} {e : TypeId} {v : Value} {xs : List Value} (h : w.ownsRow base e 1 v n xs) (h0 : 0 < n) : ∃ g c, v = .slice (some ⟨g, 0, none⟩) n c ∧ n ≤ c ∧ c ≤ maxLen ∧ base ≤ g ∧ g < w.heap.size := by
  rcases h.2 with ⟨-, h'⟩ | ⟨g, cap, cur, h', hb, hg, h1, h2, -⟩
  · omega
  · exact ⟨g, cap, h', h1, h2, hb, (Array.getElem?_eq_some_iff.1 hg).1⟩

set_option maxRecDepth 100000 in
set_option maxHeartbeats 2000000 in
theorem pends_any (W w : World) (r1 : Nat) (F1 : Nat → Prop) (e1 : Int) (x : List Int) (r2 : Nat) (F2 : Nat → Prop) (e2 : Int) (y : List Int) (hx : RgAt W w r1 F1 e1 x) (hy : RgAt W w r2 F2 e2 y) :
    Calls Try.prog 20 #[.pointer (some ⟨r1, 0, none⟩), .pointer (some ⟨r2, 0, none⟩)] w fun e w' => ∃ B L cb, e = .returned (.slice B L.length cb) ∧ Row w' B (fun _ => True) (L.map (Value.int .u64)) ∧ Rising (endsL x y 2) L ∧ L.length ≤ 81 ∧ L.length ≤ cb ∧ cb ≤ maxLen ∧ Kp w w' := by
  have hx5 := nodes_five (ring_nodes hx.1)
  have hy5 := nodes_five (ring_nodes hy.1)
  obtain ⟨g, hg⟩ : ∃ g, w.heap.size = g := ⟨_, rfl⟩
  obtain ⟨w2, hw2⟩ : ∃ w2, w2 = (w.alloc (.cells #[.int .u64 18446744073709551615] 30)).alloc (.cells #[.pointer (some ⟨r1, 0, none⟩), .pointer (some ⟨r2, 0, none⟩)] 28) := ⟨_, rfl⟩
  have hk2 : Kp w w2 := by rw [hw2]; exact ((Keeps.refl _ w).alloc _).alloc _
  have hs2 : w2.heap.size = g + 1 + 1 := by rw [hw2, ← hg]; simp
  have hb2 : w2.heap[g + 1]? = some (.cells #[.pointer (some ⟨r1, 0, none⟩), .pointer (some ⟨r2, 0, none⟩)] 28 (0, 0)) := by
    have := heap_alloc_new (w.alloc (.cells #[.int .u64 18446744073709551615] 30)) (.cells #[.pointer (some ⟨r1, 0, none⟩), .pointer (some ⟨r2, 0, none⟩)] 28)
    rw [World.size_alloc, hg] at this
    rw [hw2]; exact this
  have HO0 := Lib.hid (show w2.ownsRow g 30 1 (.slice (some ⟨g, 0, none⟩) 1 1) 1 ((endsL x y 0).map (Value.int .u64)) from by
    rw [hw2, ← hg]; exact (own_one w 30 _).alloc _)
  have SEL := Lib.hid (show ∀ k, k < 2 → ∃ r F e l, RgAt W w r F e l ∧ w2.cell? ⟨g + 1, k, none⟩ = some (.pointer (some ⟨r, 0, none⟩)) ∧ endsL x y (k + 1) = endsL x y k ++ (pts l).map P2.place from fun k hk => by
    have : k = 0 ∨ k = 1 := by omega
    rcases this with rfl | rfl
    · exact ⟨r1, F1, e1, x, hx, (cell_of_block hb2 0).trans rfl, by simp [endsL]⟩
    · exact ⟨r2, F2, e2, y, hy, (cell_of_block hb2 1).trans rfl, by simp [endsL]⟩)
  have HL := Lib.hid (show ∀ k, (endsL x y k).length ≤ 81 from fun k => by have := endsL_len x y k; omega)
  have H2 := Lib.hid hk2
  have HW := Lib.hid hw2
  have HG := Lib.hid hg
  clear hx hy hb2 hk2 hw2 hx5 hy5
  go_enter Try.func20, Try.ntmps20
  go_wp2_with fail
  rw [← HW.out]
  clear hg
  go_loopw [5, 15] (fun v i wr => ∃ k ga ca N : Nat, k ≤ 2 ∧ v = .slice (some ⟨ga, 0, none⟩) N ca ∧ i = .int .i64 (k : Int) ∧ Hid (N = (endsL x y k).length) ∧ Hid (wr.ownsRow g 30 1 v N ((endsL x y k).map (Value.int .u64))) ∧ Hid (Onto w2 (.slice (some ⟨g, 0, none⟩) 1 1) wr v)) (fun _ i _ => 2 - (intOf i).toNat)
  case atStart => exact ⟨0, g, 1, 1, by decide, rfl, rfl, Lib.hid (by simp [endsL]), HO0, Lib.hid (Onto.refl _ _)⟩
  case round =>
    clear HO0 HW
    obtain ⟨k, ga, ca, N, hk2, rfl, rfl, HN, HO, HON⟩ := hrel
    have HKW := Lib.hid (HON.out.keeps H2.out (fun i hi => by have hi' : some g = some i := hi; injection hi' with hi'; have := HG.out; omega))
    have hN := HL.out k
    rw [← HN.out] at hN
    by_cases hk : k < 2
    · have hk' : (k : Int) < 2 := by omega
      obtain ⟨r, F, e, l, hr, hc, hl⟩ := SEL.out k hk
      replace hc := HON.out.1.cell hc (by intro e; injection e with e; simp at e)
      have HR := Lib.hid (theRing.atK hr HKW.out)
      have HE := Lib.hid hl
      have hN1 := HL.out (k + 1)
      rw [hl, List.length_append, List.length_map, ← HN.out] at hN1
      have hl5 := nodes_five (ring_nodes hr.1)
      clear hr hl
      go_wp2_with fail
      refine (show Calls _ _ _ _ _ from theRing.nodes W _ r F e l trivial HR.out).mono ?_
      rintro e w3 ⟨B, cb, rfl, hrow, -, hb1, hb2, hk3⟩
      have HB := Lib.hid (hrow.mono fun _ _ _ => trivial : Row w3 B (fun _ => True) (l.map (Value.int .i64)))
      have HK3 := Lib.hid hk3
      have HNB := Lib.hid (ring_nodes HR.out.1)
      clear hrow hk3 HR
      unfold maxLen at hb2
      go_wp2_with fail
      refine (show Calls _ _ _ _ _ from pof_yes w3 B cb l HB.out hb1 (by unfold maxLen; exact hb2) HNB.out).mono ?_
      rintro e w4 ⟨B2, cb2, rfl, hrow, hb3, hb4, hk4⟩
      have hpl := pts_len l
      have hl0 := (nodesB_iff.1 HNB.out).1
      obtain ⟨b, o, rfl, hbF, hcell⟩ := hrow (by intro e; have := prow_len (pts l); rw [e] at this; simp at this; omega)
      have HC := Lib.hid (show ∀ (j : Nat) (hj : j < (pts l).length), w4.cell? ⟨b, o + j * 2, none⟩ = some (.int .u64 (pts l)[j].place) ∧ w4.cell? ⟨b, o + j * 2 + 1, none⟩ = some (.int .i64 (pts l)[j].node) from fun j hj =>
        ⟨hcell _ _ (prow_at (pts l) j 0 hj (by decide)), hcell _ _ (prow_at (pts l) j 1 hj (by decide))⟩)
      have hgl := (HO.out.lt ga rfl).2
      have hgl0 := (HO.out.lt ga rfl).1
      have hbg : ga ≠ b := by have := HK3.out.size; omega
      have HO4 := Lib.hid (show w4.ownsRow g 30 1 (.slice (some ⟨ga, 0, none⟩) N ca) N ((endsL x y k).map (Value.int .u64)) from (hk4.own (HK3.out.own HO.out fun _ _ => trivial) fun _ _ => trivial))
      have HON4 := Lib.hid (show Onto w2 (.slice (some ⟨g, 0, none⟩) 1 1) w4 (.slice (some ⟨ga, 0, none⟩) N ca) from HON.out.trans ⟨(HK3.out.trans hk4).mono fun _ _ _ => trivial, fun i hi => .inl hi⟩)
      have hs4 : g ≤ w4.heap.size := by have := HK3.out.size; have := hk4.size; omega
      rw [← hpl] at hb3 ⊢
      unfold maxLen at hb4
      clear HB HK3 hk4 hbF hcell hrow HO HON HKW hc hb1 hb2
      generalize pts l = P at *
      go_wp2_with fail
      go_loopw [5, 23] (fun v i wr => ∃ j gb cc : Nat, j ≤ P.length ∧ v = .slice (some ⟨gb, 0, none⟩) (N + j) cc ∧ i = .int .i64 (j : Int) ∧ Hid (wr.ownsRow g 30 1 v (N + j) ((endsL x y k ++ (P.take j).map P2.place).map (Value.int .u64))) ∧ Hid (Onto w4 (.slice (some ⟨ga, 0, none⟩) N ca) wr v)) (fun _ i _ => P.length - (intOf i).toNat)
      case atStart => exact ⟨0, ga, ca, Nat.zero_le _, rfl, rfl, by simpa using HO4, Lib.hid (Onto.refl _ _)⟩
      case round =>
        clear HO4
        obtain ⟨j, gb, cc, hj, rfl, rfl, HO, HOJ⟩ := hrel
        by_cases hjl : j < P.length
        · have hjl' : (j : Int) < (P.length : Int) := by omega
          obtain ⟨c0, c1⟩ := HC.out j hjl
          have hne : (Value.slice (some ⟨ga, 0, none⟩) N ca).ownBlock ≠ some b := by intro e; injection e with e; exact hbg e
          replace c0 := HOJ.out.1.cell c0 hne
          replace c1 := HOJ.out.1.cell c1 hne
          have HT := Lib.hid (show (endsL x y k ++ (P.take (j + 1)).map P2.place).map (Value.int .u64) = (endsL x y k ++ (P.take j).map P2.place).map (Value.int .u64) ++ [.int .u64 P[j].place] from by
            rw [List.take_succ_eq_append_getElem hjl]; simp only [List.map_append, List.append_assoc, List.map_cons, List.map_nil])
          generalize P[j] = z at c0 c1 HT
          generalize (endsL x y k ++ (P.take j).map P2.place).map (Value.int .u64) = R at HO HT
          have hsw : g ≤ wr.heap.size := Nat.le_trans hs4 HOJ.out.1.size
          have h63 : N + j + 1 ≤ maxLen := by unfold maxLen; omega
          have h81 : (N + j + 1) * 8 ≤ 140737488355328 := by omega
          have hbase : g ≤ ((wr.alloc (.cells #[.int .u64 z.place, .int .i64 z.node] 59)).alloc (.cells #[.int .u64 z.place] 30)).heap.size := by simp; omega
          clear hne
          go_wp2_with (at_builtin; refine u64_elem.list_append rfl (.tmp 27) (.tmp 30) _ rfl rfl ((HO.out.alloc _).alloc _) rfl (src_one Try.underlying22 _ _ _ rfl _ (by simp) _) ?c3 ?c4 hbase ?_)
          case c3 => exact h63
          case c4 => exact h81
          intro v3 w5 ho3 hg3 hb3
          have HOJ2 := Lib.hid (show Onto w4 (.slice (some ⟨ga, 0, none⟩) N ca) w5 v3 from ((HOJ.out.alloc _).alloc _).grown hg3 (by simpa using hb3))
          obtain ⟨gc, cd, rfl, -⟩ := own_u64_form ho3 (by omega)
          have HO3 := Lib.hid (show w5.ownsRow g 30 1 (.slice (some ⟨gc, 0, none⟩) (N + (j + 1)) cd) (N + (j + 1)) ((endsL x y k ++ (P.take (j + 1)).map P2.place).map (Value.int .u64)) from by rw [HT.out]; exact ho3)
          clear ho3 hg3 hb3 HO HOJ HT c0 c1 h63 h81 hbase
          go_wp2_with fail
          go_roundw
          case rel => exact ⟨j + 1, gc, cd, hjl, rfl, by go_num, HO3, HOJ2⟩
          case measure => simp [intOf]; omega
        · obtain rfl : j = P.length := by omega
          have hjl' : ¬ ((P.length : Int) < (P.length : Int)) := by omega
          have HO5 := HO.out
          rw [List.take_length, ← HE.out] at HO5
          have HO6 := Lib.hid HO5
          have HN6 := Lib.hid (show N + P.length = (endsL x y (k + 1)).length from by rw [HE.out, List.length_append, List.length_map, ← HN.out])
          have HON6 := Lib.hid (HON4.out.trans HOJ.out)
          clear HO HO5 HOJ HON4 HC HE
          go_wp2_with fail
          go_roundw
          case rel => exact ⟨k + 1, gb, cc, N + P.length, hk, rfl, by go_num, HN6, HO6, HON6⟩
          case measure => simp [intOf]; omega
    · obtain rfl : k = 2 := by omega
      have hk' : ¬ ((2 : Int) < 2) := by omega
      have hgl := HO.out.lt ga rfl
      have ho := HO.out
      obtain ⟨g5, c5, e5, h51, h52, -⟩ := own_u64_form ho (by rw [HN.out]; simp [endsL])
      injection e5 with e5 e6 e7
      injection e5 with e5
      injection e5 with e5 e8
      subst e7
      clear e5 e6
      rw [HN.out] at ho h51
      have hH := holds_u64 ho
      have HS := Lib.hid (usort_any wr ga 0 ca (endsL x y 2).length (endsL x y 2).toArray hH (by simp) (by have := HL.out 2; omega) hgl.2)
      have HF := Lib.hid (show ∀ w', Keeps (fun i => i ≠ ga) wr w' → Kp w w' from fun w' hk => kp_but HKW.out hk (by have := HG.out; omega))
      have H81 := Lib.hid (HL.out 2)
      have hN2 := HN.out
      subst hN2
      clear HO HON HN hN HL SEL hH ho hgl HKW
      obtain ⟨L0, hL0⟩ : ∃ L0, endsL x y 2 = L0 := ⟨_, rfl⟩
      rw [hL0] at HS H81 h51 ⊢
      have HL0 := Lib.hid hL0
      clear hL0
      unfold maxLen at h52
      go_wp2_with fail
      refine (show Calls _ _ _ _ _ from HS.out).mono ?_
      rintro e w5 ⟨rfl, D, hp, hs, hu⟩
      have HC := Lib.hid (ucompact_any w5 ga 0 ca L0.length L0 D hs hp rfl hu.row (by have := H81.out; omega) h51)
      have HK5 := Lib.hid hu.kp
      clear hp hs hu HS
      go_wp2_with fail
      refine (show Calls _ _ _ _ _ from HC.out).mono ?_
      rintro e w6 ⟨L, rfl, hr, hle, hh, hk6⟩
      have HR := Lib.hid (And.intro (show Rising (endsL x y 2) L from by rw [HL0.out]; exact hr) (And.intro hle (And.intro hh (HK5.out.trans hk6))))
      clear hr hle hh hk6 HC HK5
      go_wp2_with fail
      go_ret
      obtain ⟨hr, hle, hh, hk6⟩ := HR.out
      exact ⟨_, L, ca, rfl, (row_u64 hh).mono fun _ _ _ => trivial, hr, Nat.le_trans hle H81.out, Nat.le_trans hle h51, h52, HF.out _ hk6⟩

end Go.Proofs.Ytcmblihlbmclaaa
