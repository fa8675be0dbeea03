/-
  THE PROGRAM's VECTORS: Set, Has (layer 11).
-/
import Derived.Test.YtdgpdooikfamlaaVcSmall
import Derived.Deep.CutRange
namespace Go.Proofs.Ytdgpdooikfamlaa
open Go Go.RowKit Go.Joins

theorem upd_same {f : Nat → Int} {i : Nat} {x : Int} (h : f i = x) : upd f i x = f := by
  funext j
  unfold upd
  split
  · rename_i e; rw [e, h]
  · rfl
set_option maxRecDepth 100000 in
set_option maxHeartbeats 1000000 in
theorem vset_any (w : World) (f : Nat → Int) (z n : Int) (hz0 : f 0 = 0) : Calls Try.prog 14 #[vagg f, .int .i64 z, .int .i64 n] w fun e w' => e = .returned (vagg (setF f z n)) ∧ Kp w w' := by
  have HZ := Lib.hid hz0
  clear hz0
  have HW := Lib.hid (show ∀ w2, w2 = (w.alloc (.cells (vcells f) 26)).alloc (.cells (vcells fun _ => 0) 26) → VBlk w2 w.heap.size 26 f ∧ VBlk w2 (w.heap.size + 1) 26 (fun _ => 0) ∧ Kp w w2 from by
    rintro w2 rfl
    have h1 : VBlk (w.alloc (.cells (vcells f) 26)) w.heap.size 26 f := heap_alloc_new w _
    have h2 := heap_alloc_new (w.alloc (.cells (vcells f) 26)) (.cells (vcells fun _ => 0) 26)
    refine ⟨h1.keep (G := fun _ => True) ((Keeps.refl _ _).alloc _) trivial, ?_, ((Keeps.refl _ _).alloc _).alloc _⟩
    have hs : (w.alloc (.cells (vcells f) 26)).heap.size = w.heap.size + 1 := by simp
    rw [hs] at h2
    exact h2)
  have HGL := Lib.hid (Nat.le_refl w.heap.size)
  unfold vagg
  unfold vcells at HW
  conv => enter [3, 1]; unfold vcells
  go_enter Try.func14, Try.ntmps14
  go_wp2_with fail
  obtain ⟨a1, a2, a3⟩ := HW.out _ rfl
  obtain ⟨q, hq⟩ : ∃ q, w.heap.size = q := ⟨_, rfl⟩
  have H0 := Lib.hid a1
  have H1 := Lib.hid a2
  have HK := Lib.hid a3
  clear a1 a2 a3 HW
  rw [hq] at H0 H1 ⊢
  have HGQ := Lib.hid (Nat.le_of_eq hq)
  clear hq HGL
  refine (show Calls _ _ _ _ _ from isnode_any _ z).mono ?_
  rintro e w1 ⟨rfl, hk1⟩
  have HK1 := Lib.hid (HK.out.trans hk1)
  replace H0 := Lib.hid (H0.out.keep hk1 trivial)
  replace H1 := Lib.hid (H1.out.keep hk1 trivial)
  clear hk1 HK
  have hend : ∀ (w2 : World) (x : Nat → Int), VBlk w2 q 26 x → VBlk w2 (q + 1) 26 (fun _ => 0) → Kp w w2 → True := fun _ _ _ _ _ => trivial
  clear hend
  cases hz : isNode z with
  | false =>
    have HE := Lib.hid (show setF f z n = f from by unfold setF; rw [hz]; rfl)
    clear hz
    have a0 := H0.out.at_ 0 (by omega)
    have a1 := H0.out.at_ 1 (by omega)
    have a2 := H0.out.at_ 2 (by omega)
    have a3 := H0.out.at_ 3 (by omega)
    have a4 := H0.out.at_ 4 (by omega)
    have a5 := H0.out.at_ 5 (by omega)
    have b0 := H1.out.at_ 0 (by omega)
    have b1 := H1.out.at_ 1 (by omega)
    have b2 := H1.out.at_ 2 (by omega)
    have b3 := H1.out.at_ 3 (by omega)
    have b4 := H1.out.at_ 4 (by omega)
    have b5 := H1.out.at_ 5 (by omega)
    have d0 := H1.out.fz 0
    have d1 := H1.out.fz 1
    have d2 := H1.out.fz 2
    have d3 := H1.out.fz 3
    have d4 := H1.out.fz 4
    have d5 := H1.out.fz 5
    go_wp2_with fail
    have hb := (((((H1.out.set 0 (by omega) (f 0)).set 1 (by omega) (f 1)).set 2 (by omega) (f 2)).set 3 (by omega) (f 3)).set 4 (by omega) (f 4)).set 5 (by omega) (f 5)
    have hg : w.heap.size ≤ q + 1 := by have := HGQ.out; omega
    have hk := ((((((HK1.out.setCell (p := ⟨q + 1, 0, none⟩) (.inl hg) (.int .i64 (f 0))).setCell (p := ⟨q + 1, 1, none⟩) (.inl hg) (.int .i64 (f 1))).setCell (p := ⟨q + 1, 2, none⟩) (.inl hg) (.int .i64 (f 2))).setCell (p := ⟨q + 1, 3, none⟩) (.inl hg) (.int .i64 (f 3))).setCell (p := ⟨q + 1, 4, none⟩) (.inl hg) (.int .i64 (f 4))).setCell (p := ⟨q + 1, 5, none⟩) (.inl hg) (.int .i64 (f 5)))
    refine bodyPost_ret (v := vagg f) ?_ rfl ⟨by rw [HE.out]; rfl, hk⟩
    generalize World.setCell (World.setCell (World.setCell (World.setCell (World.setCell (World.setCell w1 _ _) _ _) _ _) _ _) _ _) _ _ = W6 at hb ⊢
    have e0 := hb.at_ 0 (by omega)
    have e1 := hb.at_ 1 (by omega)
    have e2 := hb.at_ 2 (by omega)
    have e3 := hb.at_ 3 (by omega)
    have e4 := hb.at_ 4 (by omega)
    have e5 := hb.at_ 5 (by omega)
    simp only [upd] at e0 e1 e2 e3 e4 e5
    simp [results, Try.results14, go_sem, vagg, vcells, e0, e1, e2, e3, e4, e5]
  | true =>
    have hE : setF f z n = upd f z.toNat (max n 0) := by unfold setF; rw [hz, Int.max_comm]; rfl
    unfold isNode at hz
    simp only [Bool.and_eq_true, decide_eq_true_eq] at hz
    obtain ⟨k, rfl⟩ : ∃ k : Nat, z = (k : Int) := ⟨z.toNat, by omega⟩
    have hk6 : k < 6 := by omega
    have hk1 : 1 ≤ k := by omega
    rw [Int.toNat_natCast] at hE
    have HE := Lib.hid hE
    clear hz hE
    have hg0 : w.heap.size ≤ q := HGQ.out
    have f0 := H0.out.fz 0
    have fk := H0.out.fz k
    have c0 := H0.out.at_ 0 (by omega)
    have ck := H0.out.at_ k hk6
    have HS := Lib.hid (show VBlk ((w1.setCell ⟨q, 0, none⟩ (.int .i64 0)).setCell ⟨q, k, none⟩ (.int .i64 (max n 0))) q 26 (upd f k (max n 0)) from by
      have := (H0.out.set 0 (by omega) 0).set k hk6 (max n 0)
      rwa [upd_same HZ.out] at this)
    have HK2 := Lib.hid (show Kp w ((w1.setCell ⟨q, 0, none⟩ (.int .i64 0)).setCell ⟨q, k, none⟩ (.int .i64 (max n 0))) from (HK1.out.setCell (p := ⟨q, 0, none⟩) (.inl hg0) _).setCell (p := ⟨q, k, none⟩) (.inl hg0) _)
    have H12 := Lib.hid (show VBlk ((w1.setCell ⟨q, 0, none⟩ (.int .i64 0)).setCell ⟨q, k, none⟩ (.int .i64 (max n 0))) (q + 1) 26 (fun _ => 0) from
      H1.out.keep (((Keeps.refl (fun b => b ≠ q) w1).setCell (p := ⟨q, 0, none⟩) (.inr (fun h => h rfl)) (.int .i64 0)).setCell (p := ⟨q, k, none⟩) (.inr (fun h => h rfl)) (.int .i64 (max n 0))) (by omega))
    have HN := Lib.hid (show (w1.setCell ⟨q, 0, none⟩ (.int .i64 0)).cell? ⟨q, k, none⟩ = some (.int .i64 (f k)) from by
      have := (H0.out.set 0 (by omega) 0).at_ k hk6
      rwa [upd_same HZ.out] at this)
    have hn := HN.out
    clear hg0
    go_upto_region 5 with fail
    generalize (w1.setCell ⟨q, 0, none⟩ (.int .i64 0)).setCell ⟨q, k, none⟩ (.int .i64 (max n 0)) = w2 at HS HK2 H12 ⊢
    clear hn HN H0 H1 HK1 f0 fk c0 ck HZ
    obtain ⟨x, hx⟩ : ∃ x, upd f k (max n 0) = x := ⟨_, rfl⟩
    rw [hx] at HS HE
    clear hx
    have a0 := HS.out.at_ 0 (by omega)
    have a1 := HS.out.at_ 1 (by omega)
    have a2 := HS.out.at_ 2 (by omega)
    have a3 := HS.out.at_ 3 (by omega)
    have a4 := HS.out.at_ 4 (by omega)
    have a5 := HS.out.at_ 5 (by omega)
    have b0 := H12.out.at_ 0 (by omega)
    have b1 := H12.out.at_ 1 (by omega)
    have b2 := H12.out.at_ 2 (by omega)
    have b3 := H12.out.at_ 3 (by omega)
    have b4 := H12.out.at_ 4 (by omega)
    have b5 := H12.out.at_ 5 (by omega)
    have d0 := H12.out.fz 0
    have d1 := H12.out.fz 1
    have d2 := H12.out.fz 2
    have d3 := H12.out.fz 3
    have d4 := H12.out.fz 4
    have d5 := H12.out.fz 5
    go_wp2_with fail
    have hb := (((((H12.out.set 0 (by omega) (x 0)).set 1 (by omega) (x 1)).set 2 (by omega) (x 2)).set 3 (by omega) (x 3)).set 4 (by omega) (x 4)).set 5 (by omega) (x 5)
    have hg : w.heap.size ≤ q + 1 := by have := HGQ.out; omega
    have hk := ((((((HK2.out.setCell (p := ⟨q + 1, 0, none⟩) (.inl hg) (.int .i64 (x 0))).setCell (p := ⟨q + 1, 1, none⟩) (.inl hg) (.int .i64 (x 1))).setCell (p := ⟨q + 1, 2, none⟩) (.inl hg) (.int .i64 (x 2))).setCell (p := ⟨q + 1, 3, none⟩) (.inl hg) (.int .i64 (x 3))).setCell (p := ⟨q + 1, 4, none⟩) (.inl hg) (.int .i64 (x 4))).setCell (p := ⟨q + 1, 5, none⟩) (.inl hg) (.int .i64 (x 5)))
    refine bodyPost_ret (v := vagg x) ?_ rfl ⟨by rw [HE.out]; rfl, hk⟩
    generalize World.setCell (World.setCell (World.setCell (World.setCell (World.setCell (World.setCell w2 _ _) _ _) _ _) _ _) _ _) _ _ = W6 at hb ⊢
    have e0 := hb.at_ 0 (by omega)
    have e1 := hb.at_ 1 (by omega)
    have e2 := hb.at_ 2 (by omega)
    have e3 := hb.at_ 3 (by omega)
    have e4 := hb.at_ 4 (by omega)
    have e5 := hb.at_ 5 (by omega)
    simp only [upd] at e0 e1 e2 e3 e4 e5
    simp [results, Try.results14, go_sem, vagg, vcells, e0, e1, e2, e3, e4, e5]

end Go.Proofs.Ytdgpdooikfamlaa
