/-
  THE PROGRAM's INDEX: add.
-/
import Derived.Test.YtilcmlioofkkmaaIxFind
namespace Go.Proofs.Ytilcmlioofkkmaa
open Go Go.RowKit Go.Joins

/-- All but the index's own two blocks. -/
def Off (q g : Nat) : Nat → Prop := fun b => b ≠ q ∧ b ≠ g

/-- A slot stored. -/
def put4 (w : World) (g i : Nat) (s : Sl) : World := (((w.setCell ⟨g, i * 4, none⟩ (.string s.key)).setCell ⟨g, i * 4 + 1, none⟩ (.int .u64 s.hash)).setCell ⟨g, i * 4 + 2, none⟩ (.int .i64 s.pos)).setCell ⟨g, i * 4 + 3, none⟩ (.bool s.full)
section
variable {w w' W : World} {q g n c i : Nat} {T : Tab}
theorem put4_keeps (w : World) (g i : Nat) (s : Sl) {G : Nat → Prop} (hk : Keeps G W w) (hg : W.heap.size ≤ g ∨ ¬ G g) : Keeps G W (put4 w g i s) :=
  (((hk.setCell (p := ⟨g, i * 4, none⟩) hg _).setCell (p := ⟨g, i * 4 + 1, none⟩) hg _).setCell (p := ⟨g, i * 4 + 2, none⟩) hg _).setCell (p := ⟨g, i * 4 + 3, none⟩) hg _
theorem IxAt.put4 (h : IxAt w q g n c T) (hi : i < n) (s : Sl) : IxAt (put4 w g i s) q g n c (setT T i s) :=
  ⟨h.blk.keep (put4_keeps w g i s (Keeps.refl (fun b => b ≠ g) w) (.inr fun e => e rfl)) (fun e => h.ne e.symm), h.tab.store hi s, h.ne⟩
theorem IxAt.count (h : IxAt w q g n c T) (c' : Nat) : IxAt (w.setCell ⟨q, 1, none⟩ (.int .i64 (c' : Int))) q g n c' T :=
  ⟨h.blk.set1 c', h.tab.keep ((Keeps.refl (fun b => b ≠ q) w).setCell (p := ⟨q, 1, none⟩) (.inr fun e => e rfl) _) h.ne, h.ne⟩
theorem IxAt.drew (h : IxAt w q g n c T) : IxAt w.drew q g n c T := h.keep (G := fun _ => True) ((Keeps.refl _ w).drew) trivial trivial
end

set_option maxRecDepth 100000 in
set_option maxHeartbeats 1000000 in
theorem add_any (w : World) (q g n c : Nat) (T : Tab) (st : IxSt) (hI : IxAt w q g n c T) (hT : TabOk hashN T n st) (hn : n ≤ 1099511627776) (hc : c ≤ 1099511627776) (k : ByteArray) (p : Int) (hno : ixGet st k = none) (hroom : st.length + 1 < n) :
    Calls Try.prog 24 #[.pointer (some ⟨q, 0, none⟩), .agg #[.string k, .int .u64 ((hashN k : Nat) : Int), .int .i64 p, .bool true]] w fun e w' => e = .returned (.tuple #[]) ∧ ∃ T', IxAt w' q g n (c + 1) T' ∧ TabOk hashN T' n (st ++ [(k, p)]) ∧ Keeps (Off q g) w w' := by
  obtain ⟨f, hf1, hf2⟩ := hT.free
  have h0 := hT.pos
  have hh := hashN_lt k
  have hq := hI.blk.lt
  have hg := hI.tab.lt
  have hne := hI.ne
  obtain ⟨w1, hw1⟩ : ∃ w1, w.alloc (.cells #[.string k, .int .u64 ((hashN k : Nat) : Int), .int .i64 p, .bool true] 58) = w1 := ⟨_, rfl⟩
  have HK1 := Lib.hid (show Keeps (Off q g) w w1 by rw [← hw1]; exact (Keeps.refl _ w).alloc _)
  have hI1 : IxAt w1 q g n c T := by rw [← hw1]; exact hI.keep (G := fun _ => True) ((Keeps.refl _ w).alloc _) trivial trivial
  have hb1 : w1.heap[w.heap.size]? = some (.cells #[.string k, .int .u64 ((hashN k : Nat) : Int), .int .i64 p, .bool true] 58 (0, 0)) := by rw [← hw1]; exact heap_alloc_new w _
  have HW1 := Lib.hid hw1
  have HT := Lib.hid hT
  have HS := Lib.hid (Seen.start (h := hashN) (T := T) h0 k)
  have HNO := Lib.hid hno
  have HI := Lib.hid hI1
  have hHome := Lib.hid (home_any w1 q g n c T hI1 h0 hn (hashN k) hh)
  have hBeh := Lib.hid (fun i hi => behind_any w1 q g n c T hI1 i hi hn)
  have bc0 : w1.cell? ⟨w.heap.size, 0, none⟩ = some (.string k) := (cell_of_block hb1 0).trans rfl
  have bc1 : w1.cell? ⟨w.heap.size, 1, none⟩ = some (.int .u64 ((hashN k : Nat) : Int)) := (cell_of_block hb1 1).trans rfl
  have bc2 : w1.cell? ⟨w.heap.size, 2, none⟩ = some (.int .i64 p) := (cell_of_block hb1 2).trans rfl
  have bc3 : w1.cell? ⟨w.heap.size, 3, none⟩ = some (.bool true) := (cell_of_block hb1 3).trans rfl
  have bne : w.heap.size ≠ q ∧ w.heap.size ≠ g := by omega
  clear hI hT hno hw1 hb1 hI1
  generalize hX : hashN k = X at *
  have HX := Lib.hid hX
  clear hX
  go_enter Try.func24, Try.ntmps24
  go_wp2_with fail
  rw [HW1.out]
  refine (show Calls _ _ _ _ _ from hHome.out).mono ?_
  rintro e w2 ⟨rfl, rfl⟩
  clear hHome HW1
  generalize w.heap.size = b at *
  generalize X % n = i0 at HS ⊢
  have c0 := HI.out.blk.c0
  go_wp2_with fail
  go_loopw [4] (fun i wr => ∃ j d : Nat, j < n ∧ i = .int .i64 (j : Int) ∧ wr = w2 ∧ d < n ∧ Hid (j = nx n (hashN k % n) d ∧ ∀ e, e < d → (T (nx n (hashN k % n) e)).full = true)) (fun i _ => n - way n (hashN k % n) (intOf i).toNat)
  case atStart => exact ⟨i0, 0, HS.out.lt, rfl, rfl, h0, Lib.hid ⟨HS.out.at_, HS.out.full⟩⟩
  case round =>
    clear HS
    obtain ⟨j, d, hj, rfl, rfl, hd, HS⟩ := hrel
    have t3 := HI.out.tab.c3 hj
    cases hful : (T j).full with
    | false =>
      rw [hful] at t3
      have HA := Lib.hid (HT.out.add HS.out.2 hd HS.out.1 hful HNO.out p hroom)
      clear hful HS
      have c1 := HI.out.blk.c1
      have ff := fun i => HI.out.blk.f0 i
      have tf := HI.out.tab.ice
      have t0 := HI.out.tab.c0 hj
      have t1 := HI.out.tab.c1 hj
      have t2 := HI.out.tab.c2 hj
      go_wp2_with fail
      go_region
      go_wp2_with fail
      have hfin : IxAt (((put4 wr g j ⟨k, (X : Int), p, true⟩).setCell ⟨q, 1, none⟩ (.int .i64 ((c + 1 : Nat) : Int))).drew) q g n (c + 1) (setT T j ⟨k, (X : Int), p, true⟩) := ((HI.out.put4 hj _).count (c + 1)).drew
      have hkp : Keeps (Off q g) w (((put4 wr g j ⟨k, (X : Int), p, true⟩).setCell ⟨q, 1, none⟩ (.int .i64 ((c + 1 : Nat) : Int))).drew) := (((put4_keeps wr g j _ HK1.out (.inr fun e => e.2 rfl))).setCell (p := ⟨q, 1, none⟩) (.inr fun e => e.1 rfl) _).drew
      have ec : ((c + 1 : Nat) : Int) = (c : Int) + 1 := by omega
      have hA := HA.out
      rw [HX.out] at hA
      rw [ec] at hfin hkp
      go_end0
      exact ⟨rfl, _, hfin, hA, hkp⟩
    | true =>
      rw [hful] at t3
      have hd2 : d + 1 < n := by
        refine Classical.byContradiction fun hh => ?_
        have hm := Nat.mod_lt (hashN k) h0
        have hw := way_lt hm hf1
        have hx := nx_way hm hf1
        rcases Nat.lt_or_ge (way n (hashN k % n) f) d with h1 | h1
        · have := HS.out.2 _ h1
          rw [hx, hf2] at this; cases this
        · have e : way n (hashN k % n) f = d := by omega
          rw [e, ← HS.out.1] at hx
          rw [hx, hf2] at hful; cases hful
      have hm := Nat.mod_lt (hashN k) h0
      have HN := Lib.hid (show nx n j 1 = nx n (hashN k % n) (d + 1) ∧ ∀ e, e < d + 1 → (T (nx n (hashN k % n) e)).full = true from by
        refine ⟨by rw [HS.out.1, nx_one hm hd2], fun e he => ?_⟩
        rcases Nat.lt_or_ge e d with h1 | h1
        · exact HS.out.2 e h1
        · have : e = d := by omega
          rw [this, ← HS.out.1]; exact hful)
      have HW := Lib.hid (show n - way n (hashN k % n) (nx n j 1) < n - way n (hashN k % n) j from by
        have w1 : way n (hashN k % n) j = d := by rw [HS.out.1]; exact way_nx hm hd
        have w2 : way n (hashN k % n) (nx n j 1) = d + 1 := by rw [HN.out.1]; exact way_nx hm hd2
        omega)
      have hj2 : nx n j 1 < n := nx_lt hj (by omega)
      have hB := Lib.hid (hBeh.out j hj)
      clear hful hm HS
      generalize nx n j 1 = j2 at HN hj2 HW hB
      go_wp2_with fail
      refine (show Calls _ _ _ _ _ from hB.out).mono ?_
      rintro e w2 ⟨rfl, rfl⟩
      go_wp2_with fail
      go_roundw
      case rel => exact ⟨j2, d + 1, hj2, rfl, trivial, hd2, HN⟩
      case measure => simp only [intOf, Int.toNat_natCast]; exact HW.out

end Go.Proofs.Ytilcmlioofkkmaa
