/-
  THE PROGRAM's VECTORS: Of (layer 11).
-/
import Derived.Test.YtdgpdooikfamlaaVcSets
namespace Go.Proofs.Ytdgpdooikfamlaa
open Go Go.RowKit Go.Joins

theorem VBlk.all6 {w : World} {g : Nat} {t : TypeId} {f : Nat → Int} (h : VBlk w g t f) (x : Nat → Int) :
    VBlk ((((((w.setCell ⟨g, 0, none⟩ (.int .i64 (x 0))).setCell ⟨g, 1, none⟩ (.int .i64 (x 1))).setCell ⟨g, 2, none⟩ (.int .i64 (x 2))).setCell ⟨g, 3, none⟩ (.int .i64 (x 3))).setCell ⟨g, 4, none⟩ (.int .i64 (x 4))).setCell ⟨g, 5, none⟩ (.int .i64 (x 5))) g t x := by
  have hb := (((((h.set 0 (by omega) (x 0)).set 1 (by omega) (x 1)).set 2 (by omega) (x 2)).set 3 (by omega) (x 3)).set 4 (by omega) (x 4)).set 5 (by omega) (x 5)
  have e : vcells (upd (upd (upd (upd (upd (upd f 0 (x 0)) 1 (x 1)) 2 (x 2)) 3 (x 3)) 4 (x 4)) 5 (x 5)) = vcells x := by simp [vcells, upd]
  unfold VBlk at hb ⊢
  rw [e] at hb
  exact hb
theorem all6_keeps {G : Nat → Prop} {w0 w : World} {g : Nat} (h : Keeps G w0 w) (hg : w0.heap.size ≤ g ∨ ¬ G g) (x : Nat → Int) :
    Keeps G w0 ((((((w.setCell ⟨g, 0, none⟩ (.int .i64 (x 0))).setCell ⟨g, 1, none⟩ (.int .i64 (x 1))).setCell ⟨g, 2, none⟩ (.int .i64 (x 2))).setCell ⟨g, 3, none⟩ (.int .i64 (x 3))).setCell ⟨g, 4, none⟩ (.int .i64 (x 4))).setCell ⟨g, 5, none⟩ (.int .i64 (x 5))) :=
  (((((h.setCell (p := ⟨g, 0, none⟩) hg _).setCell (p := ⟨g, 1, none⟩) hg _).setCell (p := ⟨g, 2, none⟩) hg _).setCell (p := ⟨g, 3, none⟩) hg _).setCell (p := ⟨g, 4, none⟩) hg _).setCell (p := ⟨g, 5, none⟩) hg _
set_option maxRecDepth 100000 in
set_option maxHeartbeats 2000000 in
theorem vofs_any (w : World) (A : Option Addr) (c : Nat) (l : List Int) (hr0 : Row w A (fun _ => True) (l.map (Value.int .i64))) (hl : l.length ≤ c) (hc : c ≤ maxLen) :
    Calls Try.prog 10 #[.slice A l.length c] w fun e w' => e = .returned (vagg (ofF l (min l.length 5))) ∧ Kp w w' := by
  obtain ⟨N, hN⟩ : ∃ N, l.length = N := ⟨_, rfl⟩
  have HN := Lib.hid hN
  have HR := Lib.hid (show Row w A (fun b => b < w.heap.size) (l.map (Value.int .i64)) from hr0.lt.mono fun b _ hb => hb.2)
  have hNm : N ≤ 9223372036854775807 := by unfold maxLen at hc; omega
  have hNc : N ≤ c := by omega
  have hcm : c ≤ 9223372036854775807 := by unfold maxLen at hc; omega
  rw [hN]
  clear hr0 hN hl hc
  obtain ⟨m, hm⟩ : ∃ m, min N 5 = m := ⟨_, rfl⟩
  have hm1 : m ≤ N := by omega
  have hm2 : m ≤ 5 := by omega
  have hmc : m ≤ c := by omega
  have hmi : min (N : Int) 5 = (m : Int) := by omega
  rw [hm]
  have HM := Lib.hid hm
  clear hm
  have HW := Lib.hid (show ∀ w2, w2 = (w.alloc (.cells (vcells fun _ => 0) 26)).alloc (.cells (vcells fun _ => 0) 26) → VBlk w2 w.heap.size 26 (fun _ => 0) ∧ VBlk w2 (w.heap.size + 1) 26 (fun _ => 0) ∧ Kp w w2 from by
    rintro w2 rfl
    have h1 : VBlk (w.alloc (.cells (vcells fun _ => 0) 26)) w.heap.size 26 (fun _ => 0) := heap_alloc_new w _
    have h2 := heap_alloc_new (w.alloc (.cells (vcells fun _ => 0) 26)) (.cells (vcells fun _ => 0) 26)
    refine ⟨h1.keep (G := fun _ => True) ((Keeps.refl _ _).alloc _) trivial, ?_, ((Keeps.refl _ _).alloc _).alloc _⟩
    have hs : (w.alloc (.cells (vcells fun _ => 0) 26)).heap.size = w.heap.size + 1 := by simp
    rw [hs] at h2
    exact h2)
  unfold vcells at HW
  go_enter Try.func10, Try.ntmps10
  go_upto_region 2 with fail
  obtain ⟨a1, a2, a3⟩ := HW.out _ rfl
  obtain ⟨q, hq⟩ : ∃ q, w.heap.size = q := ⟨_, rfl⟩
  rw [hq] at a1 a2 ⊢
  have HGQ := Lib.hid (Nat.le_of_eq hq)
  generalize World.alloc (World.alloc _ _) _ = w1 at a1 a2 a3 ⊢
  clear hq HW
  have H0 := Lib.hid a1
  have H1 := Lib.hid (show VBlk w1 (q + 1) 26 (ofF l 0) from by
    have e : ofF l 0 = fun _ => 0 := by
      funext i
      unfold ofF
      rw [if_neg (by omega)]
    rw [e]
    exact a2)
  have HK := Lib.hid a3
  clear a1 a2 a3
  go_wp2_with fail
  go_loopw [12] (fun i wr => ∃ k : Nat, k ≤ m ∧ i = .int .i64 (k : Int) ∧ Hid (VBlk wr q 26 (fun _ => 0)) ∧ Hid (VBlk wr (q + 1) 26 (ofF l k)) ∧ Hid (Kp w wr)) (fun i _ => m - (intOf i).toNat)
  case atStart => exact ⟨0, Nat.zero_le _, rfl, H0, H1, HK⟩
  case round =>
    clear H0 H1 HK
    obtain ⟨k, hk, rfl, H0, H1, HK⟩ := hrel
    by_cases hkm : k < m
    · have t1 : decide ((k : Int) < (m : Int)) = true := by simp; omega
      have hkl : k < l.length := by rw [HN.out]; omega
      obtain ⟨b, o, rfl, -, hcell⟩ := (HR.out.keep (HK.out.mono fun _ _ _ => trivial)).at_ (k := k) (by rw [List.length_map]; exact hkl)
      rw [List.getElem_map] at hcell
      have HX := Lib.hid (show setF (ofF l k) ((k + 1 : Nat) : Int) l[k] = ofF l (k + 1) from by
        have h := ofF_next l k
        rw [List.getD_eq_getElem?_getD, List.getElem?_eq_getElem hkl] at h
        unfold setF isNode
        rw [if_pos (by simp; omega), Int.toNat_natCast]
        exact h)
      generalize l[k] = x at hcell HX
      have HS := Lib.hid (show ∀ w2, Calls Try.prog 14 #[vagg (ofF l k), .int .i64 ((k + 1 : Nat) : Int), .int .i64 x] w2 fun e w' => e = .returned (vagg (ofF l (k + 1))) ∧ Kp w2 w' from fun w2 => by
        rw [← HX.out]
        exact vset_any w2 (ofF l k) _ x (by unfold ofF; rw [if_neg (by omega)]))
      clear hkl HX
      generalize ofF l k = f at H1 HS
      have e1 : (1 : Int) + (k : Int) = ((k + 1 : Nat) : Int) := by omega
      rw [← e1] at HS
      unfold vagg at HS
      conv at HS => enter [1, w2, 3, 1]; unfold vcells
      have c0 := H1.out.at_ 0 (by omega)
      have c1 := H1.out.at_ 1 (by omega)
      have c2 := H1.out.at_ 2 (by omega)
      have c3 := H1.out.at_ 3 (by omega)
      have c4 := H1.out.at_ 4 (by omega)
      have c5 := H1.out.at_ 5 (by omega)
      clear e1
      go_wp2_with fail
      refine (show Calls _ _ _ _ _ from HS.out _).mono ?_
      rintro e w3 ⟨rfl, hk3⟩
      have HK3 := Lib.hid (HK.out.trans hk3)
      replace H0 := Lib.hid (H0.out.keep hk3 trivial)
      replace H1 := Lib.hid (H1.out.keep hk3 trivial)
      clear hk3 HS c0 c1 c2 c3 c4 c5 HK
      obtain ⟨x2, hx2⟩ : ∃ x2, ofF l (k + 1) = x2 := ⟨_, rfl⟩
      rw [hx2]
      have HX2 := Lib.hid hx2
      clear hx2
      unfold vcells
      have c0 := H1.out.at_ 0 (by omega)
      have c1 := H1.out.at_ 1 (by omega)
      have c2 := H1.out.at_ 2 (by omega)
      have c3 := H1.out.at_ 3 (by omega)
      have c4 := H1.out.at_ 4 (by omega)
      have c5 := H1.out.at_ 5 (by omega)
      have d0 := H1.out.fz 0
      have d1 := H1.out.fz 1
      have d2 := H1.out.fz 2
      have d3 := H1.out.fz 3
      have d4 := H1.out.fz 4
      have d5 := H1.out.fz 5
      have HB := Lib.hid (H1.out.all6 x2)
      have HK4 := Lib.hid (all6_keeps (g := q + 1) HK3.out (.inl (Nat.le_succ_of_le HGQ.out)) x2)
      have H04 := Lib.hid (H0.out.keep (all6_keeps (g := q + 1) (Keeps.refl (fun b => b ≠ q + 1) w3) (.inr (fun h => h rfl)) x2) (by omega))
      clear H0 H1 HK3
      go_wp2_with fail
      go_roundw
      case rel => exact ⟨k + 1, by omega, by go_num, H04, by rw [HX2.out]; exact HB, HK4⟩
      case measure => simp [intOf]; omega
    · obtain rfl : k = m := by omega
      have t1 : decide ((k : Int) < (k : Int)) = false := by simp
      obtain ⟨x, hx⟩ : ∃ x, ofF l k = x := ⟨_, rfl⟩
      rw [hx] at H1
      have HX := Lib.hid hx
      clear hx hkm
      have a0 := H1.out.at_ 0 (by omega)
      have a1 := H1.out.at_ 1 (by omega)
      have a2 := H1.out.at_ 2 (by omega)
      have a3 := H1.out.at_ 3 (by omega)
      have a4 := H1.out.at_ 4 (by omega)
      have a5 := H1.out.at_ 5 (by omega)
      have b0 := H0.out.at_ 0 (by omega)
      have b1 := H0.out.at_ 1 (by omega)
      have b2 := H0.out.at_ 2 (by omega)
      have b3 := H0.out.at_ 3 (by omega)
      have b4 := H0.out.at_ 4 (by omega)
      have b5 := H0.out.at_ 5 (by omega)
      have d0 := H0.out.fz 0
      have d1 := H0.out.fz 1
      have d2 := H0.out.fz 2
      have d3 := H0.out.fz 3
      have d4 := H0.out.fz 4
      have d5 := H0.out.fz 5
      go_wp2_with fail
      have hb := (((((H0.out.set 0 (by omega) (x 0)).set 1 (by omega) (x 1)).set 2 (by omega) (x 2)).set 3 (by omega) (x 3)).set 4 (by omega) (x 4)).set 5 (by omega) (x 5)
      have hg : w.heap.size ≤ q := HGQ.out
      have hk := ((((((HK.out.setCell (p := ⟨q, 0, none⟩) (.inl hg) (.int .i64 (x 0))).setCell (p := ⟨q, 1, none⟩) (.inl hg) (.int .i64 (x 1))).setCell (p := ⟨q, 2, none⟩) (.inl hg) (.int .i64 (x 2))).setCell (p := ⟨q, 3, none⟩) (.inl hg) (.int .i64 (x 3))).setCell (p := ⟨q, 4, none⟩) (.inl hg) (.int .i64 (x 4))).setCell (p := ⟨q, 5, none⟩) (.inl hg) (.int .i64 (x 5)))
      refine bodyPost_ret (v := vagg x) ?_ rfl ⟨by rw [HX.out], hk⟩
      generalize World.setCell (World.setCell (World.setCell (World.setCell (World.setCell (World.setCell wr _ _) _ _) _ _) _ _) _ _) _ _ = W6 at hb ⊢
      have e0 := hb.at_ 0 (by omega)
      have e1 := hb.at_ 1 (by omega)
      have e2 := hb.at_ 2 (by omega)
      have e3 := hb.at_ 3 (by omega)
      have e4 := hb.at_ 4 (by omega)
      have e5 := hb.at_ 5 (by omega)
      simp only [upd] at e0 e1 e2 e3 e4 e5
      simp [results, Try.results10, go_sem, vagg, vcells, e0, e1, e2, e3, e4, e5]

end Go.Proofs.Ytdgpdooikfamlaa
