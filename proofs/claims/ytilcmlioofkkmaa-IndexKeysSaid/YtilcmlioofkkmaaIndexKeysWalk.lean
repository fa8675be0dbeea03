/-
  IndexKeys, walked over what an index keeps.
-/
import Derived.Test.YtilcmlioofkkmaaIndexKeysRegion
namespace Go.Proofs.Ytilcmlioofkkmaa.indexKeys
open Go Go.RowKit

theorem ix_same (a b : ByteArray) (r : Bool) (h : (a.toList == b.toList) = r) : isK b (a, 1) = r := by
  unfold isK
  rw [ByteArray.toList_eq, ByteArray.toList_eq] at h
  exact h
theorem isK_self (a : ByteArray) (p : Int) : isK a (a, p) = true := by simp [isK]

set_option maxRecDepth 100000 in
set_option maxHeartbeats 1000000 in
theorem walk (S : IndexOK) (w : World) (hT : S.T w) (a b : ByteArray) (ha : a.size ≤ maxLen) (hb : b.size ≤ maxLen) :
    Calls Try.prog 7 #[.string a, .string b] w fun e w' => e = .returned (.bool true) ∧ Below w.heap.size w w' := by
  have HT := Lib.hid hT
  have HA := Lib.hid ha
  have HB := Lib.hid hb
  clear hT ha hb
  go_enter Try.func7, Try.ntmps7
  go_wp2_with fail
  refine (show Calls _ _ _ _ _ from begun8 S w HT.out).mono ?_
  rintro e w1 ⟨rfl, hk⟩
  have K1 := Lib.hid hk
  clear hk
  go_wp2_with fail
  refine (show Calls _ _ _ _ _ from cut_any a 40 HA.out (by decide) w1).mono ?_
  rintro e w2 ⟨rfl, rfl⟩
  go_wp2_with fail
  refine (show Calls _ _ _ _ _ from cut_any b 40 HB.out (by decide) w1).mono ?_
  rintro e w2 ⟨rfl, rfl⟩
  have ha := cutZ_size a 40
  have hb := cutZ_size b 40
  generalize cutZ a 40 = x at *
  generalize cutZ b 40 = y at *
  have SA := Lib.hid (show x.size ≤ 4096 by omega)
  have SB := Lib.hid (show y.size ≤ 4096 by omega)
  clear ha hb HA HB
  go_wp2_with fail
  refine (show Calls _ _ _ _ _ from ix_new S HT.out K1.out).mono ?_
  rintro e w2 ⟨q, F, rfl, h⟩
  have H2 := Lib.hid h
  clear h K1
  go_wp2_with fail
  refine (show Calls _ _ _ _ _ from ix_put HT.out H2.out (by decide) x 1 SA.out ⟨by decide, by decide⟩ 0 rfl [(x, 1)] rfl).mono ?_
  rintro e w3 ⟨rfl, F3, h⟩
  have H3 := Lib.hid h
  clear h H2
  go_wp2_with fail
  obtain ⟨r, hr⟩ : ∃ r, (x.toList == y.toList) = r := ⟨_, rfl⟩
  have HR := Lib.hid hr
  cases r
  · have hg : ixGet [(x, 1)] y = none := by
      have := ix_same x y _ hr
      simp [ixGet, this]
    refine (show Calls _ _ _ _ _ from ix_put HT.out H3.out (by show 1 ≤ 4096; decide) y 2 SB.out ⟨by decide, by decide⟩ 0 (by rw [hg]; rfl) [(x, 1), (y, 2)] (by simp [ixPut, hg])).mono ?_
    rintro e w4 ⟨rfl, F4, h⟩
    have H4 := Lib.hid h
    clear h H3 hg
    go_wp2_with fail
    have hg : ixGet [(x, 1), (y, 2)] x = some 1 := by simp [ixGet, isK_self]
    refine (show Calls _ _ _ _ _ from ix_get HT.out H4.out (by show 2 ≤ 4096; decide) x SA.out 1 true (by rw [hg]; rfl) (by rw [hg]; rfl)).mono ?_
    rintro e w5 ⟨rfl, h⟩
    have H5 := Lib.hid h
    clear h H4 hg
    go_wp2_with fail
    refine (show Calls _ _ _ _ _ from S.keys w5 q F4 _ H5.out.r (S.tk HT.out H5.out.kp) (by show 2 ≤ 4096; decide)).mono ?_
    rintro e w6 ⟨A, c, ks, rfl, hperm, hrise, hlc, hcm, hrow, hk⟩
    have H6 := Lib.hid (H5.out.keep hk)
    have hn : ks.length = 2 := hperm.length_eq
    match ks, hn with
    | [k0, k1], _ =>
    have hle : Op.bytesLess k0.toList k1.toList = true := by
      rw [ByteArray.toList_eq, ByteArray.toList_eq]
      exact (List.pairwise_cons.1 hrise).1 k1 (by simp)
    obtain ⟨g, o, rfl, hgm, c0⟩ := hrow.at_ (k := 0) (by simp)
    obtain ⟨g', o', e, -, c1⟩ := hrow.at_ (k := 1) (by simp)
    injection e with e
    injection e with e1 e2
    subst e1; subst e2
    have C0 : w6.cell? ⟨g, o, none⟩ = some (.string k0) := c0
    have C1 : w6.cell? ⟨g, o + 1, none⟩ = some (.string k1) := c1
    have HFG := Lib.hid (show ∀ b, F4.all b → b ≠ g from fun b hb e => by
      have h1 := S.lt H5.out.r b hb
      have h2 : w5.heap.size ≤ g := hgm.1
      omega)
    have HL := Lib.hid hle
    have HNE := Lib.hid hr
    have HST := Lib.hid (show Stk S w q F4 x y g o k0 k1 false w6.drew from Stk.keep ((Keeps.refl _ w6).drew) ⟨H6.out, HFG.out, C0, C1⟩)
    clear hk H5 hperm hrise hrow c0 c1 hr hle C0 C1 hgm
    go_wp2_with fail
    --@@REGION
    refine wp_region_prev (V := VK q g o c k0 k1 y) (w0 := w6) 31 (Stk S w q F4 x y g o k0 k1) (fun _ _ => True) GK (by kernel_rfl) (fun i w w' v _ hv => VK_keep i w w' v hv) (fun _ _ _ h hs => hs.keep h) (fun i _ w w' v _ hv => VK_keep i w w' v hv) (by kernel_rfl) (by decide) GK_is (fun i o ho hw => (all_wanted (by kernel_rfl) ho hw).elim) HST.out (each_of ?_) ?_
    · refine ⟨?_, ?_, ?_, ?_, ?_, ?_, ?_, ?_, ?_, ?_, ?_, ?_, ?_, ?_, ?_, ?_, ?_, ?_, ?_, ?_, ?_, ?_, ?_, ?_, ?_, ?_, ?_, ?_, ?_, ?_, ?_, ?_, ?_, ?_, ?_, ?_, ?_, ?_, ?_, trivial⟩ <;> intro hw a1 w2 L
      · rw [if_neg (by decide)]
        intro b _ _ _
        exact kp_move rfl (L.old 7 (by kernel_rfl))
      · rw [if_neg (by decide)]
        intro b _ _ _
        have e0 : a1.eval (.tmp 50) = .int .i64 0 := L.val 0 50 (by kernel_rfl) (by kernel_rfl)
        have k0' : a1.eval (.const (.int .i64 0)) = .int .i64 0 := rfl
        refine kp_yield (v := .bool true) (w' := w2) ?_ (Keeps.refl _ _) rfl
        clear L
        generalize a1.eval = ρ at e0 k0' ⊢
        unfold execOp
        go_simp
      · rw [if_neg (by decide)]
        intro b _ _ _
        exact kp_move rfl (L.val 1 51 (by kernel_rfl) (by kernel_rfl))
      · rw [if_neg (by decide)]
        intro b _ _ _
        exact kp_move rfl (L.old 8 (by kernel_rfl))
      · rw [if_neg (by decide)]
        intro b _ _ _
        have e0 : a1.eval (.tmp 53) = .int .i64 1 := L.val 3 53 (by kernel_rfl) (by kernel_rfl)
        have k0' : a1.eval (.const (.int .i64 1)) = .int .i64 1 := rfl
        refine kp_yield (v := .bool true) (w' := w2) ?_ (Keeps.refl _ _) rfl
        clear L
        generalize a1.eval = ρ at e0 k0' ⊢
        unfold execOp
        go_simp
      · rw [if_neg (by decide)]
        intro b _ _ _
        exact kp_pick rfl (L.val 2 52 (by kernel_rfl) (by kernel_rfl)) (L.val 4 54 (by kernel_rfl) (by kernel_rfl))
      · rw [if_neg (by decide)]
        intro b _ _ _
        exact kp_move rfl (L.val 5 55 (by kernel_rfl) (by kernel_rfl))
      · rw [if_neg (by decide)]
        intro b _ _ _
        exact kp_move rfl (L.old 9 (by kernel_rfl))
      · rw [if_neg (by decide)]
        intro b _ _ _
        exact kp_pick rfl (L.val 6 56 (by kernel_rfl) (by kernel_rfl)) (L.val 7 57 (by kernel_rfl) (by kernel_rfl))
      · rw [if_neg (by decide)]
        intro b _ _ _
        exact kp_move rfl (L.val 8 58 (by kernel_rfl) (by kernel_rfl))
      · rw [if_neg (by decide)]
        intro b _ _ _
        exact kp_move rfl (L.old 6 (by kernel_rfl))
      · rw [if_neg (by decide)]
        intro b hs _ hb
        obtain rfl := hb [28, 27, 19, 18, 14, 13, 12] (by kernel_rfl)
        exact kp_ixlen HT.out hs.1 (by show 2 ≤ 4096; decide) 2 rfl rfl (L.val 10 60 (by kernel_rfl) (by kernel_rfl))
      · rw [if_neg (by decide)]
        intro b _ _ _
        have e0 : a1.eval (.tmp 61) = .int .i64 2 := L.val 11 61 (by kernel_rfl) (by kernel_rfl)
        have k0' : a1.eval (.const (.int .i64 2)) = .int .i64 2 := rfl
        refine kp_yield (v := .bool true) (w' := w2) ?_ (Keeps.refl _ _) rfl
        clear L
        generalize a1.eval = ρ at e0 k0' ⊢
        unfold execOp
        go_simp
      · rw [if_neg (by decide)]
        intro b _ _ _
        exact kp_pick rfl (L.val 9 59 (by kernel_rfl) (by kernel_rfl)) (L.val 12 62 (by kernel_rfl) (by kernel_rfl))
      · rw [if_neg (by decide)]
        intro b _ _ _
        exact kp_move rfl (L.val 13 63 (by kernel_rfl) (by kernel_rfl))
      · rw [if_neg (by decide)]
        intro b _ _ _
        exact kp_move rfl (L.old 10 (by kernel_rfl))
      · rw [if_neg (by decide)]
        intro b _ _ _
        have e0 : a1.eval (.tmp 65) = .slice (some ⟨g, o, none⟩) 2 c := L.val 15 65 (by kernel_rfl) (by kernel_rfl)
        refine kp_yield (v := .int .i64 2) (w' := w2) ?_ (Keeps.refl _ _) rfl
        clear L
        generalize a1.eval = ρ at e0 ⊢
        unfold execOp
        go_simp
      · rw [if_neg (by decide)]
        intro b _ _ _
        have e0 : a1.eval (.tmp 66) = .int .i64 2 := L.val 16 66 (by kernel_rfl) (by kernel_rfl)
        have k0' : a1.eval (.const (.int .i64 2)) = .int .i64 2 := rfl
        refine kp_yield (v := .bool true) (w' := w2) ?_ (Keeps.refl _ _) rfl
        clear L
        generalize a1.eval = ρ at e0 k0' ⊢
        unfold execOp
        go_simp
      · rw [if_neg (by decide)]
        intro b _ _ _
        exact kp_pick rfl (L.val 14 64 (by kernel_rfl) (by kernel_rfl)) (L.val 17 67 (by kernel_rfl) (by kernel_rfl))
      · rw [if_neg (by decide)]
        intro b _ _ _
        exact kp_move rfl (L.val 18 68 (by kernel_rfl) (by kernel_rfl))
      · rw [if_neg (by decide)]
        intro b _ _ _
        exact kp_move rfl (L.old 10 (by kernel_rfl))
      · rw [if_neg (by decide)]
        intro b _ _ _
        have e0 : a1.eval (.tmp 70) = .slice (some ⟨g, o, none⟩) 2 c := L.val 20 70 (by kernel_rfl) (by kernel_rfl)
        have k0' : a1.eval (.const (.int .i64 0)) = .int .i64 0 := rfl
        refine kp_yield (v := .pointer (some ⟨g, o, none⟩)) (w' := w2) ?_ (Keeps.refl _ _) rfl
        clear L
        generalize a1.eval = ρ at e0 k0' ⊢
        unfold execOp
        go_simp
      · rw [if_neg (by decide)]
        intro b hs _ _
        have hc := hs.cells.1
        have e0 : a1.eval (.tmp 71) = .pointer (some ⟨g, o, none⟩) := L.val 21 71 (by kernel_rfl) (by kernel_rfl)
        refine kp_yield (v := .string k0) (w' := w2) ?_ (Keeps.refl _ _) rfl
        clear L hs
        generalize a1.eval = ρ at e0 ⊢
        unfold execOp
        go_simp
      · rw [if_neg (by decide)]
        intro b _ _ _
        exact kp_move rfl (L.old 10 (by kernel_rfl))
      · rw [if_neg (by decide)]
        intro b _ _ _
        have e0 : a1.eval (.tmp 73) = .slice (some ⟨g, o, none⟩) 2 c := L.val 23 73 (by kernel_rfl) (by kernel_rfl)
        have k0' : a1.eval (.const (.int .i64 1)) = .int .i64 1 := rfl
        refine kp_yield (v := .pointer (some ⟨g, o + 1, none⟩)) (w' := w2) ?_ (Keeps.refl _ _) rfl
        clear L
        generalize a1.eval = ρ at e0 k0' ⊢
        unfold execOp
        go_simp
      · rw [if_neg (by decide)]
        intro b hs _ _
        have hc := hs.cells.2
        have e0 : a1.eval (.tmp 74) = .pointer (some ⟨g, o + 1, none⟩) := L.val 24 74 (by kernel_rfl) (by kernel_rfl)
        refine kp_yield (v := .string k1) (w' := w2) ?_ (Keeps.refl _ _) rfl
        clear L hs
        generalize a1.eval = ρ at e0 ⊢
        unfold execOp
        go_simp
      · rw [if_neg (by decide)]
        intro b _ _ _
        have e0 : a1.eval (.tmp 72) = .string k0 := L.val 22 72 (by kernel_rfl) (by kernel_rfl)
        have e1 : a1.eval (.tmp 75) = .string k1 := L.val 25 75 (by kernel_rfl) (by kernel_rfl)
        have hl := HL.out
        refine kp_yield (v := .bool true) (w' := w2) ?_ (Keeps.refl _ _) rfl
        clear L
        generalize a1.eval = ρ at e0 e1 ⊢
        unfold execOp
        go_simp
      · rw [if_neg (by decide)]
        intro b _ _ _
        exact kp_pick rfl (L.val 19 69 (by kernel_rfl) (by kernel_rfl)) (L.val 26 76 (by kernel_rfl) (by kernel_rfl))
      · rw [if_neg (by decide)]
        intro b _ _ _
        exact kp_move rfl (L.val 27 77 (by kernel_rfl) (by kernel_rfl))
      · rw [if_neg (by decide)]
        intro b _ _ _
        exact kp_move rfl (L.old 6 (by kernel_rfl))
      · rw [if_neg (by decide)]
        intro b _ _ _
        exact kp_move rfl (L.old 1 (by kernel_rfl))
      · rw [if_pos rfl]
        rintro ⟨hd, hfg, hc0, hc1⟩
        have e0 : a1.eval (.tmp 79) = .pointer (some ⟨q, 0, none⟩) := L.val 29 79 (by kernel_rfl) (by kernel_rfl)
        have e1 : a1.eval (.tmp 80) = .string y := L.val 30 80 (by kernel_rfl) (by kernel_rfl)
        have hf : a1.eval (.func 13) = .func (.func 13) #[] #[] := rfl
        refine one_enter (f := 13) (args := #[.pointer (some ⟨q, 0, none⟩), .string y]) ?_ (ix_drop2 HT.out x y HNE.out SB.out hd) ?_
        · clear hd hfg hc0 hc1
          generalize a1.eval = ρ at e0 e1 hf ⊢
          unfold execOp
          go_simp
        · rintro e w' ⟨rfl, hx, hk⟩
          exact ⟨_, rfl, trivial, ⟨hx, hfg, hk.cell hc0 (fun hm => hfg _ (.inl hm) rfl), hk.cell hc1 (fun hm => hfg _ (.inl hm) rfl)⟩, rfl⟩
      · rw [if_neg (by decide)]
        intro b _ _ _
        exact kp_pick rfl (L.val 28 78 (by kernel_rfl) (by kernel_rfl)) (L.val 31 81 (by kernel_rfl) (by kernel_rfl))
      · rw [if_neg (by decide)]
        intro b _ _ _
        exact kp_move rfl (L.val 32 82 (by kernel_rfl) (by kernel_rfl))
      · rw [if_neg (by decide)]
        intro b _ _ _
        exact kp_move rfl (L.old 6 (by kernel_rfl))
      · rw [if_neg (by decide)]
        intro b hs hb _
        obtain rfl := hb [33, 32] (by kernel_rfl)
        obtain ⟨⟨F', hx⟩, -⟩ := hs
        exact kp_ixlen HT.out hx (by show 1 ≤ 4096; decide) 1 rfl rfl (L.val 34 84 (by kernel_rfl) (by kernel_rfl))
      · rw [if_neg (by decide)]
        intro b _ _ _
        have e0 : a1.eval (.tmp 85) = .int .i64 1 := L.val 35 85 (by kernel_rfl) (by kernel_rfl)
        have k0' : a1.eval (.const (.int .i64 1)) = .int .i64 1 := rfl
        refine kp_yield (v := .bool true) (w' := w2) ?_ (Keeps.refl _ _) rfl
        clear L
        generalize a1.eval = ρ at e0 k0' ⊢
        unfold execOp
        go_simp
      · rw [if_neg (by decide)]
        intro b _ _ _
        exact kp_pick rfl (L.val 33 83 (by kernel_rfl) (by kernel_rfl)) (L.val 36 86 (by kernel_rfl) (by kernel_rfl))
      · rw [if_neg (by decide)]
        intro b _ _ _
        exact kp_assign rfl (L.val 37 87 (by kernel_rfl) (by kernel_rfl))
    · intro vs w8 hs8 hlen hv
      obtain ⟨us, ws, rfl, hu, hws⟩ : ∃ us ws : List Value, vs = us ++ ws ∧ us.length = 20 ∧ ws.length = 19 := ⟨vs.take 20, vs.drop 20, (List.take_append_drop 20 vs).symm, by rw [List.length_take, hlen]; rfl, by rw [List.length_drop, hlen]; rfl⟩
      match us, hu, ws, hws with
      | [v0, v1, v2, v3, v4, v5, v6, v7, v8, v9, v10, v11, v12, v13, v14, v15, v16, v17, v18, v19], _, [v20, v21, v22, v23, v24, v25, v26, v27, v28, v29, v30, v31, v32, v33, v34, v35, v36, v37, v38], _ =>
        obtain ⟨⟨F8, h8⟩, -⟩ := hs8
        have e38 : v38 = .bool true := hv 38 4 (by kernel_rfl)
        clear hv
        subst e38
        have H8 := Lib.hid h8
        clear h8
        simp only [List.cons_append, List.nil_append, putAll, List.map, Act.put, List.setIfInBounds_toArray, List.set_cons_succ, List.set_cons_zero, Exit.then]
        go_wp2
        go_ret
        exact ⟨rfl, H8.out.kp.below⟩
    --@@END
  · have hg : ixGet [(x, 1)] y = some 1 := by
      have := ix_same x y _ hr
      simp [ixGet, this]
    refine (show Calls _ _ _ _ _ from ix_put HT.out H3.out (by show 1 ≤ 4096; decide) y 2 SB.out ⟨by decide, by decide⟩ 1 (by rw [hg]; rfl) [(x, 2)] (by
      have := ix_same x y _ hr
      simp [ixPut, hg, this])).mono ?_
    rintro e w4 ⟨rfl, F4, h⟩
    have H4 := Lib.hid h
    clear h H3 hg
    go_wp2_with fail
    have hg : ixGet [(x, 2)] x = some 2 := by simp [ixGet, isK_self]
    refine (show Calls _ _ _ _ _ from ix_get HT.out H4.out (by show 1 ≤ 4096; decide) x SA.out 2 true (by rw [hg]; rfl) (by rw [hg]; rfl)).mono ?_
    rintro e w5 ⟨rfl, h⟩
    have H5 := Lib.hid h
    clear h H4 hg
    go_wp2_with fail
    refine (show Calls _ _ _ _ _ from ix_len HT.out H5.out (by show 1 ≤ 4096; decide) 1 rfl).mono ?_
    rintro e w6 ⟨rfl, h⟩
    have H6 := Lib.hid h
    clear h H5
    go_wp2_with fail
    go_ret
    exact ⟨rfl, H6.out.kp.below⟩

end Go.Proofs.Ytilcmlioofkkmaa.indexKeys
