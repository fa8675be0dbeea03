/-
  THE WALK OF DevAll FOR A SIZE OF 20 at most (in two files: one walk over all sixteen ways took 9 GB).
-/
import Derived.Test.YtgmgojpkjchmcaaDevAllOps
namespace Go.Proofs.Ytgmgojpkjchmcaa.devAll
open Go Go.RowKit Go.Joins

set_option maxRecDepth 100000 in
set_option maxHeartbeats 16000000 in
theorem walkLo (D : DevOK) (w : World) (n : Int) (hn : (Lit.int .i64 n).wf = true) (hcb : decide (20 < n) = false) (A : Option Addr) (cap : Nat) (l : List OpD) (h1 : l.length ≤ cap) (h2 : cap ≤ maxLen) (hO : OpsAt w A (fun b => b < w.heap.size) l) :
    Calls Try.prog 3 #[.int .i64 n, .slice A l.length cap] w fun e w' => e = .returned (.bool true) ∧ Below w.heap.size w w' := by
  have hb := bounds_i64 hn
  unfold maxLen at h2
  have HO := Lib.hid hO
  clear hO hn
  obtain ⟨m, hm1, hm2, he⟩ : ∃ m : Int, -9223372036854775808 ≤ m ∧ m < 9223372036854775808 ∧ m = if decide (20 < n) = true then 20 else n := by
    by_cases h : 20 < n
    · exact ⟨20, by omega, by omega, by simp [h]⟩
    · exact ⟨n, hb.1, by omega, by simp [h]⟩
  have HCB := Lib.hid hcb
  clear hcb
  go_enter Try.func3, Try.ntmps3
  go_wp2_with fail
  refine (begun_any D w).mono ?_
  rintro e w1 ⟨rfl, hk1⟩
  have HK1 := Lib.hid hk1
  clear hk1
  have hcb := HCB.out
  rw [hcb] at he
  all_goals
    simp only [Bool.false_eq_true, if_false, if_true] at he
    have HE := Lib.hid he
    clear he
    go_wp2_with fail
    rw [← HE.out]
    refine (D.new _ m hm1 hm2).mono ?_
    rintro e w2 ⟨p, F, rfl, hr, hge, hk2⟩
    have hlt2 := D.lt hr
    have HR := Lib.hid hr
    have HG := Lib.hid hge
    have HL := Lib.hid hlt2
    have HK2 := Lib.hid (HK1.out.trans hk2)
    have hs1 := HK1.out.size
    clear hr hge hk2 hlt2
    go_wp2_with fail
    refine (rnew_any w2 m hm1 hm2).mono ?_
    rintro e w3 ⟨q, G, rfl, hr2, hge2, hk3⟩
    have hT : Two D w w3 p q F G (SDev.new (clampN m)) (SDev.new (clampN m)) := ⟨D.keep HR.out (hk3.mono fun _ _ _ => trivial), hr2, (Apart.fresh hge2 HL.out).symm, fun b hb => Nat.le_trans hs1 (HG.out b hb), fun b hb => Nat.le_trans HK2.out.size (hge2 b hb), HK2.out.trans hk3⟩
    have HT := Lib.hid hT
    clear hr2 hge2 hk3 hT
    go_wp2_with fail
    go_loopw [6, 7, 8] (fun u v i wr => ∃ (k p q : Nat) (F G : Foot) (s : SDev), k ≤ l.length ∧ k ≤ 50 ∧ i = .int .i64 k ∧ u = .pointer (some ⟨p, 0, none⟩) ∧ v = .pointer (some ⟨q, 0, none⟩) ∧ s.calls ≤ k ∧ Two D w wr p q F G s s) (fun _ _ i _ => 50 - (intOf i).toNat)
    case atStart => exact ⟨0, p, q, F, G, _, Nat.zero_le _, by omega, rfl, rfl, rfl, Nat.le_refl _, HT.out⟩
    case round =>
      clear HR HG HL HK2 HT
      obtain ⟨k, p, q, F, G, s, hkl, hk50, rfl, rfl, rfl, hcalls, hT⟩ := hrel
      by_cases hl : k < l.length
      · by_cases h50 : k < 50
        · have h50' : (k : Int) < 50 := by omega
          obtain ⟨b, o, hAe, -, x0, x1, x2, x3, hfit⟩ := HO.out k hl
          cases hAe
          replace x0 := hT.kp.cell x0 trivial
          replace x1 := hT.kp.cell x1 trivial
          replace x2 := hT.kp.cell x2 trivial
          replace x3 := hT.kp.cell x3 trivial
          generalize l[k] = x at x0 x1 x2 x3 hfit
          obtain ⟨xk, xi, ⟨BA, Bc, Bl⟩, KA, kc, kl⟩ := x
          simp only [Part.val] at x0 x1 x2 x3
          have f1 := hfit.k1
          have f2 := hfit.i1
          have f3 := hfit.b.len
          have f4 := hfit.b.cap
          have f5 := Lib.hid hfit.b.none
          have f6 := Lib.hid hfit.b.row
          have f7 := hfit.len
          have f8 := hfit.cap
          have f9 := Lib.hid hfit.none
          have f10 := Lib.hid hfit.row
          simp only at f1 f2 f3 f4 f7 f8
          unfold maxLen at f4 f8
          have HT := Lib.hid hT
          clear hfit hT
          obtain ⟨mB, hmB⟩ : ∃ mB, mB = (Bl.take 70).length := ⟨_, rfl⟩
          have HmB := Lib.hid hmB
          have hmb : mB = min Bl.length 70 := by rw [hmB, List.length_take, Nat.min_comm]
          have Hmb := Lib.hid hmb
          have hmB70 : mB ≤ 70 := by omega
          have hmBc : mB ≤ Bc := by omega
          clear hmB hmb
          obtain ⟨mK, hmK⟩ : ∃ mK, mK = (kl.take 30).length := ⟨_, rfl⟩
          have hmk : mK = min 30 kl.length := by rw [hmK, List.length_take]
          have HmK := Lib.hid hmK
          have hmK30 : mK ≤ 30 := by omega
          clear hmK
          have hkc : (30 < kl.length ∧ Hid (mK = 30)) ∨ (¬ (30 : Int) < (kl.length : Int) ∧ Hid (mK = kl.length)) := by
            by_cases h : 30 < kl.length
            · exact .inl ⟨h, Lib.hid (by omega : mK = 30)⟩
            · exact .inr ⟨by omega, Lib.hid (by omega : mK = kl.length)⟩
          clear hmk
          have hkk : (xk == 0) = true ∨ ((xk == 0) = false ∧ (xk == 1) = true) ∨ ((xk == 0) = false ∧ (xk == 1) = false ∧ (xk == 2) = true) ∨ ((xk == 0) = false ∧ (xk == 1) = false ∧ (xk == 2) = false) := by
            cases h0 : (xk == 0) <;> cases h1 : (xk == 1) <;> cases h2 : (xk == 2) <;> simp
          rcases hkk with z0 | ⟨z0, z1⟩ | ⟨z0, z1, z2⟩ | ⟨z0, z1, z2⟩
          · rcases hkc with ⟨c30, e30⟩ | ⟨c30, e30⟩
            all_goals
              go_wp2_with fail
              refine (short_at BA Bl.length Bc 70 70 mB rfl Hmb.out _ f3 f4 f5.out (by decide)).mono ?_
              rintro e w' ⟨rfl, rfl⟩
              go_wp2_with fail
              rw [← e30.out]
              generalize hw4 : wr.alloc (.cells #[.int .i64 xk, .int .i64 xi, .slice BA mB Bc, .slice KA mK kc] 31) = w4
              have hk4 : Keeps (fun _ => True) wr w4 := by rw [← hw4]; exact (Keeps.refl _ _).alloc _
              have hcs : Cells3 w w4 wr.heap.size (.int .i64 xi) (.slice BA mB Bc) (.slice KA mK kc) := by
                rw [← hw4]
                exact ⟨by rw [World.cell?_alloc_new]; rfl, by rw [World.cell?_alloc_new]; rfl, by rw [World.cell?_alloc_new]; rfl⟩
              have hT4 := HT.out.keep hk4
              have hof : ¬ F.all wr.heap.size := fun hb => by have := D.lt HT.out.d _ hb; omega
              have hog : ¬ G.all wr.heap.size := fun hb => by have := HT.out.r.lt _ hb; omega
              have HCS := Lib.hid hcs
              have HT4 := Lib.hid hT4
              have hz4 := hk4.size
              clear hw4 hk4 hcs hT4 c30 e30 x0 x1 x2 x3 HT
              generalize wr.heap.size = ob at HCS hof hog hz4 ⊢
              have h0 : ∀ va vb, SW D w ob p q (.int .i64 xi) (.slice BA mB Bc) (.slice KA mK kc) (.int .i64 (s.writeZ xi (Bl.take 70)).1) s (s.writeZ xi (Bl.take 70)).2 false false va vb w4.drew := fun va vb =>
                ⟨HCS.out.keep ((Keeps.refl (fun _ => True) _).drew) trivial, (fun h => by cases h), (fun h => by cases h), F, G, HT4.out.keep ((Keeps.refl _ _).drew), hof, hog⟩
              refine wp_region_stage (V := V0 p q ob xi (.slice BA mB Bc) (s.writeZ xi (Bl.take 70)).1) (S := SW D w ob p q (.int .i64 xi) (.slice BA mB Bc) (.slice KA mK kc) (.int .i64 (s.writeZ xi (Bl.take 70)).1) s (s.writeZ xi (Bl.take 70)).2) (A := 5) (B := 11) (fun _ _ _ _ _ _ h => V0_free _ _ _ _ _ _ _ _ _ _ _ _ h) (fun _ _ _ _ _ _ h => V0_free _ _ _ _ _ _ _ _ _ _ _ _ h) (by kernel_rfl) (by kernel_rfl) (by kernel_rfl) (by kernel_rfl) (by decide) (h0 _ _) (eachS_of ?_) ?_
              · refine ⟨?_, ?_, ?_, ?_, ?_, ?_, ?_, ?_, ?_, ?_, ?_, ?_, ?_, trivial⟩ <;> intro la lb a1 w5 ha hb L
                · exact st_move rfl (L.old 6 (by kernel_rfl)) (by decide) (by decide) rfl L.stg
                · exact st_read (run_field1 rfl (L.old 9 (by kernel_rfl))) (by decide) (by decide) rfl L.stg
                · exact st_read (run_loadI rfl (L.val 1 73 (by decide) (by decide) (by kernel_rfl) (by kernel_rfl)) L.stg.cs.a) (by decide) (by decide) rfl L.stg
                · exact st_read (run_field2 rfl (L.old 9 (by kernel_rfl))) (by decide) (by decide) rfl L.stg
                · exact st_read (run_loadB rfl (L.val 3 75 (by decide) (by decide) (by kernel_rfl) (by kernel_rfl)) L.stg.cs.b) (by decide) (by decide) rfl L.stg
                · obtain rfl := ha rfl
                  obtain ⟨F5, G5, h5, n1, n2⟩ := L.stg.two
                  refine st_call (run_call3 rfl (fun _ _ => by kernel_rfl) (L.val 0 72 (by decide) (by decide) (by kernel_rfl) (by kernel_rfl)) (L.val 2 74 (by decide) (by decide) (by kernel_rfl) (by kernel_rfl)) (L.val 4 76 (by decide) (by decide) (by kernel_rfl) (by kernel_rfl)))
                    (write_at D w5 p F5 s h5.d xi BA mB Bc (fun b => b < w.heap.size) (Bl.take 70) HmB.out f2.1 f2.2 ((bcells_take f6.out 70).keep (h5.kp.mono fun _ _ _ => trivial)) (fun b hb hF => by have := h5.gf b hF; omega) hmBc f4 f5.out (by omega)) ?_
                  rintro e w' ⟨rfl, F', hr, hs⟩
                  exact ⟨_, rfl, does_a rfl (L.stg.step_d h5 n1 n2 hr hs)⟩
                · exact st_move rfl (L.old 7 (by kernel_rfl)) (by decide) (by decide) rfl L.stg
                · exact st_read (run_field1 rfl (L.old 9 (by kernel_rfl))) (by decide) (by decide) rfl L.stg
                · exact st_read (run_loadI rfl (L.val 7 79 (by decide) (by decide) (by kernel_rfl) (by kernel_rfl)) L.stg.cs.a) (by decide) (by decide) rfl L.stg
                · exact st_read (run_field2 rfl (L.old 9 (by kernel_rfl))) (by decide) (by decide) rfl L.stg
                · exact st_read (run_loadB rfl (L.val 9 81 (by decide) (by decide) (by kernel_rfl) (by kernel_rfl)) L.stg.cs.b) (by decide) (by decide) rfl L.stg
                · obtain rfl := hb rfl
                  obtain ⟨F5, G5, h5, n1, n2⟩ := L.stg.two
                  refine st_call (run_call3 rfl (fun _ _ => by kernel_rfl) (L.val 6 78 (by decide) (by decide) (by kernel_rfl) (by kernel_rfl)) (L.val 8 80 (by decide) (by decide) (by kernel_rfl) (by kernel_rfl)) (L.val 10 82 (by decide) (by decide) (by kernel_rfl) (by kernel_rfl)))
                    (rwrite_at w5 q G5 s h5.r xi BA mB Bc (fun b => b < w.heap.size) (Bl.take 70) HmB.out ((bcells_take f6.out 70).keep (h5.kp.mono fun _ _ _ => trivial)) (by unfold maxLen; omega) (by omega)) ?_
                  rintro e w' ⟨rfl, G', hr, hs⟩
                  exact ⟨_, rfl, does_b (by decide) rfl (L.stg.step_r h5 n1 n2 hr hs)⟩
                · obtain rfl := L.wa (by kernel_rfl)
                  obtain rfl := L.wb (by kernel_rfl)
                  exact st_read (run_neqE rfl (L.stg.a rfl) (L.stg.b rfl)) (by decide) (by decide) rfl L.stg
              · intro vs w6 hlen hv hs
                match vs, hlen with
                | [v0, v1, v2, v3, v4, v5, v6, v7, v8, v9, v10, v11, v12], _ =>
                  have e12 : v12 = .bool ((s.writeZ xi (Bl.take 70)).1 != (s.writeZ xi (Bl.take 70)).1) := hv 12 84 (by decide) (by decide) (by kernel_rfl)
                  simp only [bne_self_eq_false] at e12
                  obtain ⟨F2, G2, hT6, -, -⟩ := hs.two
                  simp only [if_true] at hT6
                  clear hv hs
                  subst e12
                  have HT6 := Lib.hid hT6
                  have hcl := writeZ_calls s xi (Bl.take 70)
                  clear hT6
                  generalize (s.writeZ xi (Bl.take 70)).2 = s2 at HT6 hcl
                  simp only [putAll, List.map, Act.put, List.setIfInBounds_toArray, List.set_cons_succ, List.set_cons_zero, Exit.then]
                  go_wp2_with fail
                  refine (same_any D w6 p q F2 G2 s2 HT6.out.d HT6.out.r (by omega)).mono ?_
                  rintro e w7 ⟨rfl, hk7⟩
                  have HT7 := Lib.hid (HT6.out.keep hk7)
                  clear hk7
                  go_wp2_with fail
                  go_roundw
                  case rel => exact ⟨k + 1, p, q, F2, G2, s2, by omega, by omega, by go_num, rfl, rfl, by omega, HT7.out⟩
                  case measure => simp [intOf]; omega
          · rcases hkc with ⟨c30, e30⟩ | ⟨c30, e30⟩
            all_goals
              go_wp2_with fail
              refine (short_at BA Bl.length Bc 70 70 mB rfl Hmb.out _ f3 f4 f5.out (by decide)).mono ?_
              rintro e w' ⟨rfl, rfl⟩
              go_wp2_with fail
              rw [← e30.out]
              generalize hw4 : wr.alloc (.cells #[.int .i64 xk, .int .i64 xi, .slice BA mB Bc, .slice KA mK kc] 31) = w4
              have hk4 : Keeps (fun _ => True) wr w4 := by rw [← hw4]; exact (Keeps.refl _ _).alloc _
              have hcs : Cells3 w w4 wr.heap.size (.int .i64 xi) (.slice BA mB Bc) (.slice KA mK kc) := by
                rw [← hw4]
                exact ⟨by rw [World.cell?_alloc_new]; rfl, by rw [World.cell?_alloc_new]; rfl, by rw [World.cell?_alloc_new]; rfl⟩
              have hT4 := HT.out.keep hk4
              have hof : ¬ F.all wr.heap.size := fun hb => by have := D.lt HT.out.d _ hb; omega
              have hog : ¬ G.all wr.heap.size := fun hb => by have := HT.out.r.lt _ hb; omega
              have HCS := Lib.hid hcs
              have HT4 := Lib.hid hT4
              have hz4 := hk4.size
              clear hw4 hk4 hcs hT4 c30 e30 x0 x1 x2 x3 HT
              generalize wr.heap.size = ob at HCS hof hog hz4 ⊢
              refine (D.flush _ p F s HT4.out.d (by omega)).mono ?_
              rintro e w5 ⟨rfl, F2, hr, hs⟩
              have HT5 := Lib.hid (HT4.out.step_d hr hs)
              clear hr hs
              go_wp2_with fail
              refine (rflush_step w5 q G s HT5.out.r (by omega)).mono ?_
              rintro e w6 ⟨⟨v, rfl⟩, G2, hr, hs⟩
              have hT6 := HT5.out.step_r hr hs
              have hcl : s.flush.calls ≤ s.calls + 1 := Nat.le_refl _
              generalize s.flush = s2 at hT6 hcl
              have HT6 := Lib.hid hT6
              clear hr hs hT6 HT5
              go_wp2_with fail
              refine (same_any D w6 p q F2 G2 s2 HT6.out.d HT6.out.r (by omega)).mono ?_
              rintro e w7 ⟨rfl, hk7⟩
              have HT7 := Lib.hid (HT6.out.keep hk7)
              clear hk7
              go_wp2_with fail
              go_roundw
              case rel => exact ⟨k + 1, p, q, F2, G2, s2, by omega, by omega, by go_num, rfl, rfl, by omega, HT7.out⟩
              case measure => simp [intOf]; omega
          · rcases hkc with ⟨c30, e30⟩ | ⟨c30, e30⟩
            all_goals
              go_wp2_with fail
              refine (short_at BA Bl.length Bc 70 70 mB rfl Hmb.out _ f3 f4 f5.out (by decide)).mono ?_
              rintro e w' ⟨rfl, rfl⟩
              go_wp2_with fail
              rw [← e30.out]
              generalize hw4 : wr.alloc (.cells #[.int .i64 xk, .int .i64 xi, .slice BA mB Bc, .slice KA mK kc] 31) = w4
              have hk4 : Keeps (fun _ => True) wr w4 := by rw [← hw4]; exact (Keeps.refl _ _).alloc _
              have hcs : Cells3 w w4 wr.heap.size (.int .i64 xi) (.slice BA mB Bc) (.slice KA mK kc) := by
                rw [← hw4]
                exact ⟨by rw [World.cell?_alloc_new]; rfl, by rw [World.cell?_alloc_new]; rfl, by rw [World.cell?_alloc_new]; rfl⟩
              have hT4 := HT.out.keep hk4
              have hof : ¬ F.all wr.heap.size := fun hb => by have := D.lt HT.out.d _ hb; omega
              have hog : ¬ G.all wr.heap.size := fun hb => by have := HT.out.r.lt _ hb; omega
              have HCS := Lib.hid hcs
              have HT4 := Lib.hid hT4
              have hz4 := hk4.size
              clear hw4 hk4 hcs hT4 c30 e30 x0 x1 x2 x3 HT
              generalize wr.heap.size = ob at HCS hof hog hz4 ⊢
              have ca := HCS.out.a
              refine (D.read _ p F s HT4.out.d xi f2.1 f2.2).mono ?_
              rintro e w5 ⟨v, rfl, ho, hk⟩
              obtain ⟨Av, cv, rfl, -, -⟩ := own_slice ho
              have HT5 := Lib.hid (HT4.out.keep hk)
              replace ca := hk.cell ca trivial
              clear ho hk
              obtain ⟨gn, cn, gf, cf, gd, cd, ns, fs, hblk, -⟩ := HT5.out.r.ex
              have cq : w5.cell? ⟨q, 0, none⟩ = some (.slice (some ⟨gn, 0, none⟩) s.now.length cn) := (cell_of_block hblk 0).trans rfl
              clear hblk
              have hrk : (decide (0 ≤ xi) = false ∧ Hid (s.readE xi = 4) ∧ Hid ((s.readL xi).length = 0)) ∨ (decide (0 ≤ xi) = true ∧ decide (xi < (s.now.length : Int)) = false ∧ Hid (s.readE xi = 4) ∧ Hid ((s.readL xi).length = 0)) ∨ (decide (0 ≤ xi) = true ∧ decide (xi < (s.now.length : Int)) = true ∧ Hid (s.readE xi = 0)) := by
                unfold SDev.readE SDev.readL
                by_cases c1 : 0 ≤ xi
                · by_cases c2 : xi < (s.now.length : Int)
                  · exact .inr (.inr ⟨by simpa using c1, by simpa using c2, Lib.hid (if_neg (by omega))⟩)
                  · exact .inr (.inl ⟨by simpa using c1, by simpa using c2, Lib.hid (if_pos (by omega)), Lib.hid (by rw [if_pos (by omega)]; rfl)⟩)
                · exact .inl ⟨by simpa using c1, Lib.hid (if_pos (by omega)), Lib.hid (by rw [if_pos (by omega)]; rfl)⟩
              rcases hrk with ⟨g1, E, L⟩ | ⟨g1, g2, E, L⟩ | ⟨g1, g2, E⟩
              all_goals
                rw [E.out]
                try rw [L.out]
                go_wp2_with fail
                go_quiet (fail)
                go_wp2_with fail
                have HT6 := Lib.hid (HT5.out.keep ((Keeps.refl _ _).drewN nq))
                refine (same_any D _ p q F G s HT6.out.d HT6.out.r (by omega)).mono ?_
                rintro e w7 ⟨rfl, hk7⟩
                have HT7 := Lib.hid (HT6.out.keep hk7)
                clear hk7
                go_wp2_with fail
                go_roundw
                case rel => exact ⟨k + 1, p, q, F, G, s, by omega, by omega, by go_num, rfl, rfl, by omega, HT7.out⟩
                case measure => simp [intOf]; omega
          · rcases hkc with ⟨c30, e30⟩ | ⟨c30, e30⟩
            all_goals
              go_wp2_with fail
              refine (short_at BA Bl.length Bc 70 70 mB rfl Hmb.out _ f3 f4 f5.out (by decide)).mono ?_
              rintro e w' ⟨rfl, rfl⟩
              go_wp2_with fail
              rw [← e30.out]
              generalize hw4 : wr.alloc (.cells #[.int .i64 xk, .int .i64 xi, .slice BA mB Bc, .slice KA mK kc] 31) = w4
              have hk4 : Keeps (fun _ => True) wr w4 := by rw [← hw4]; exact (Keeps.refl _ _).alloc _
              have hcs : Cells3 w w4 wr.heap.size (.int .i64 xi) (.slice BA mB Bc) (.slice KA mK kc) := by
                rw [← hw4]
                exact ⟨by rw [World.cell?_alloc_new]; rfl, by rw [World.cell?_alloc_new]; rfl, by rw [World.cell?_alloc_new]; rfl⟩
              have hT4 := HT.out.keep hk4
              have hof : ¬ F.all wr.heap.size := fun hb => by have := D.lt HT.out.d _ hb; omega
              have hog : ¬ G.all wr.heap.size := fun hb => by have := HT.out.r.lt _ hb; omega
              have HCS := Lib.hid hcs
              have HT4 := Lib.hid hT4
              have hz4 := hk4.size
              clear hw4 hk4 hcs hT4 c30 e30 x0 x1 x2 x3 HT
              generalize wr.heap.size = ob at HCS hof hog hz4 ⊢
              have hKr : Row w KA (fun b => b < w.heap.size) ((kl.take 30).map Value.bool) := by rw [List.map_take]; exact f10.out.take
              have HKr := Lib.hid hKr
              clear hKr
              have h0 : ∀ va vb, SC D w w4.heap.size ob p q F G (.int .i64 xi) (.slice BA mB Bc) (.slice KA mK kc) s (s.crash (kl.take 30)) false false va vb w4.drew := fun va vb =>
                ⟨HCS.out.keep ((Keeps.refl (fun _ => True) _).drew) trivial, HT4.out.keep ((Keeps.refl _ _).drew), D.lt HT4.out.d, HT4.out.r.lt, ⟨HT4.out.kp.size, by simp⟩, 0, 0, F, G, (fun h => by cases h), (fun h => by cases h), (fun h => by cases h)⟩
              refine wp_region_stage (V := V3 p q ob (.slice KA mK kc)) (S := SC D w w4.heap.size ob p q F G (.int .i64 xi) (.slice BA mB Bc) (.slice KA mK kc) s (s.crash (kl.take 30))) (A := 3) (B := 7) (fun _ _ _ _ _ hw h => V3_freeA _ _ _ _ _ _ _ _ _ (fun e => by subst e; exact Bool.false_ne_true (Eq.trans (Eq.symm hw) (by kernel_rfl))) h) (fun _ _ _ _ _ hw h => V3_freeB _ _ _ _ _ _ _ _ _ (fun e => by subst e; exact Bool.false_ne_true (Eq.trans (Eq.symm hw) (by kernel_rfl))) h) (by kernel_rfl) (by kernel_rfl) (by kernel_rfl) (by kernel_rfl) (by decide) (h0 _ _) (eachS_of ?_) ?_
              · refine ⟨?_, ?_, ?_, ?_, ?_, ?_, ?_, ?_, ?_, ?_, trivial⟩ <;> intro la lb a1 w5 ha hb L
                · exact st_move rfl (L.old 6 (by kernel_rfl)) (by decide) (by decide) rfl L.stg
                · exact st_read (run_field3 rfl (L.old 9 (by kernel_rfl))) (by decide) (by decide) rfl L.stg
                · exact st_read (run_loadK rfl (L.val 1 53 (by decide) (by decide) (by kernel_rfl) (by kernel_rfl)) L.stg.cs.c) (by decide) (by decide) rfl L.stg
                · obtain rfl := ha rfl
                  refine st_call (run_call2 rfl (fun _ _ => by kernel_rfl) (L.val 0 52 (by decide) (by decide) (by kernel_rfl) (by kernel_rfl)) (L.val 2 54 (by decide) (by decide) (by kernel_rfl) (by kernel_rfl)))
                    (crash_at D w5 p F s L.stg.two.d KA mK kc (fun b => b < w.heap.size) (kl.take 30) HmK.out (HKr.out.keep (L.stg.two.kp.mono fun _ _ _ => trivial)) (by unfold maxLen; omega)) ?_
                  rintro e w' ⟨c, C, rfl, hr, hm, hi, hk⟩
                  exact ⟨_, rfl, does_a rfl (L.stg.step_d hr hm hi hk)⟩
                · exact st_move rfl (L.old 7 (by kernel_rfl)) (by decide) (by decide) rfl L.stg
                · exact st_read (run_field3 rfl (L.old 9 (by kernel_rfl))) (by decide) (by decide) rfl L.stg
                · exact st_read (run_loadK rfl (L.val 5 57 (by decide) (by decide) (by kernel_rfl) (by kernel_rfl)) L.stg.cs.c) (by decide) (by decide) rfl L.stg
                · obtain rfl := hb rfl
                  refine st_call (run_call2 rfl (fun _ _ => by kernel_rfl) (L.val 4 56 (by decide) (by decide) (by kernel_rfl) (by kernel_rfl)) (L.val 6 58 (by decide) (by decide) (by kernel_rfl) (by kernel_rfl)))
                    (rcrash_at w5 q G s L.stg.two.r KA mK kc (fun b => b < w.heap.size) (kl.take 30) HmK.out (HKr.out.keep (L.stg.two.kp.mono fun _ _ _ => trivial)) (by unfold maxLen; omega)) ?_
                  rintro e w' ⟨c, C, rfl, hr, hm, hi, hk⟩
                  exact ⟨_, rfl, does_b (by decide) rfl (L.stg.step_r hr hm hi hk)⟩
                · exact st_assign rfl rfl (by decide) (by decide) rfl L.stg
                · exact st_assign rfl rfl (by decide) (by decide) rfl L.stg
              · intro vs w6 hlen hv hs
                match vs, hlen with
                | [v0, v1, v2, v3, v4, v5, v6, v7, v8, v9], _ =>
                  have e8 : v8 = v3 := hv 8 13 (by decide) (by decide) (by kernel_rfl)
                  have e9 : v9 = v7 := hv 9 14 (by decide) (by decide) (by kernel_rfl)
                  obtain ⟨c, e, C, E, ec, ee, hTn⟩ := hs.done
                  change v3 = _ at ec
                  change v7 = _ at ee
                  have ca := hs.cs.a
                  have HTo := Lib.hid hs.two
                  have hcl : (s.crash (kl.take 30)).calls = 0 := rfl
                  have HTn := Lib.hid hTn
                  clear hv hs hTn
                  subst e8 e9 ec ee
                  generalize s.crash (kl.take 30) = t at HTn hcl
                  have HC := Lib.hid hcl
                  have hcl2 : t.calls ≤ k + 1 := by omega
                  clear hcl
                  simp only [putAll, List.map, Act.put, List.setIfInBounds_toArray, List.set_cons_succ, List.set_cons_zero, Exit.then]
                  go_wp2_with fail
                  refine (same_any D w6 c e C E t HTn.out.d HTn.out.r (by omega)).mono ?_
                  rintro e' w7 ⟨rfl, hk7⟩
                  replace ca := hk7.cell ca trivial
                  have HTn7 := Lib.hid (HTn.out.keep hk7)
                  have HTo7 := Lib.hid (HTo.out.keep hk7)
                  clear hk7 HTn HTo
                  have hpar : (xi.tmod 2 == 0) = true ∨ (xi.tmod 2 == 0) = false := by cases (xi.tmod 2 == 0) <;> simp
                  rcases hpar with hpar | hpar
                  · go_wp2_with fail
                    refine (same_any D w7 c e C E t HTn7.out.d HTn7.out.r (by omega)).mono ?_
                    rintro e' w8 ⟨rfl, hk8⟩
                    have HT8 := Lib.hid (HTn7.out.keep hk8)
                    clear hk8
                    go_wp2_with fail
                    go_roundw
                    case rel => exact ⟨k + 1, c, e, C, E, t, by omega, by omega, by go_num, rfl, rfl, hcl2, HT8.out⟩
                    case measure => simp [intOf]; omega
                  · go_wp2_with fail
                    refine (same_any D w7 p q F G s HTo7.out.d HTo7.out.r (by omega)).mono ?_
                    rintro e' w8 ⟨rfl, hk8⟩
                    have HT8 := Lib.hid (HTo7.out.keep hk8)
                    clear hk8
                    go_wp2_with fail
                    go_roundw
                    case rel => exact ⟨k + 1, p, q, F, G, s, by omega, by omega, by go_num, rfl, rfl, by omega, HT8.out⟩
                    case measure => simp [intOf]; omega
        · have hk50b : ¬ (k : Int) < 50 := by omega
          have HT := Lib.hid hT
          clear hT
          go_wp2_with fail
          go_ret
          exact ⟨rfl, HT.out.kp.below⟩
      · have hkb : ¬ (k : Int) < (l.length : Int) := by omega
        have HT := Lib.hid hT
        clear hT
        go_wp2_with fail
        go_ret
        exact ⟨rfl, HT.out.kp.below⟩
end Go.Proofs.Ytgmgojpkjchmcaa.devAll
