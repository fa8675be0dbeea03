/-
  MsgEq (layer 19): both messages cut, side by side. WRITTEN by a script.
-/
import Derived.Test.YtfhhobinpmbgmaaDoorMsPair
namespace Go.Proofs.YtfhhobinpmbgmaaDoor
open Go Go.RowKit Go.Joins
theorem cf_lcut (v : Value) (w : World) : (callFunc 10 #[v]).run Tryd.prog w = .ok (.enter 10 #[v]) w := by go_simp

theorem kp_neB19 {o : Oper} {a : Act} {w : World} {Q : Exit → Act → World → Prop} {x y : Operand} {m n c : Bool} (hc : (m != n) = c) (ho : o.op = .binOp .neq 4 x y 4) (hx : a.eval x = .bool m) (hy : a.eval y = .bool n) : o.wp Tryd.prog a w (fun a' w' => ∃ v, a' = a.put o.dst v ∧ Kp w w' ∧ IsV (.bool c) w' v) Q := by
  subst hc; exact kp_ne19B ho hx hy
theorem txt_inj {a b : List UInt8} (h : txt a = txt b) : a = b := by
  have := congrArg ByteArray.data h
  simpa [txt] using this

namespace msgEq
/-- What the last region's operations leave. -/
def V9 (vP vQ : Value) (LP LQ : List UInt8) (e : Bool) : Nat → World → Value → Prop := fun i => match i with
  | 0 => IsV vP | 1 => TextV LP | 2 => IsV (.string (txt LP)) | 3 => IsV vQ | 4 => TextV LQ | 5 => IsV (.string (txt LQ)) | 6 => IsV (.bool e) | 7 => IsV vP | 8 => IsV vQ | 9 => IsV (.bool e) | _ => IsV (.bool true)
theorem V9_keep (vP vQ : Value) (LP LQ : List UInt8) (e : Bool) : ∀ i w w' v, Kp w w' → V9 vP vQ LP LQ e i w v → V9 vP vQ LP LQ e i w' v := fun i w w' v h hv => by
  rcases i with _ | _ | _ | _ | _ | _ | _ | _ | _ | _ | i
  any_goals exact hv
  all_goals exact TextV.mono h hv
set_option maxRecDepth 100000 in
set_option maxHeartbeats 4000000 in
theorem walk (S : MsgOK) (w : World) (hT : S.T w) (m n : Ms) (a b : MsA) (hm : MsAt w m a) (hn : MsAt w n b) (hc : m.Came) (hd : n.Came) :
    Calls Tryd.prog 6 #[msV m a, msV n b] w fun e w' => e = .returned (.bool true) ∧ Below w.heap.size w w' := by
  have HT := Lib.hid hT
  have HM := Lib.hid hm
  have HN := Lib.hid hn
  have HCA := Lib.hid hc
  have HCB := Lib.hid hd
  have HFIN := Lib.hid (show ∀ w', Kp w w' → Below w.heap.size w w' from fun w' h => h.below)
  obtain ⟨vM, hvM⟩ : ∃ v, msV m a = v := ⟨_, rfl⟩
  obtain ⟨vN, hvN⟩ : ∃ v, msV n b = v := ⟨_, rfl⟩
  have HVM := Lib.hid hvM
  have HVN := Lib.hid hvN
  rw [hvM, hvN]
  clear hT hm hn hc hd hvM hvN
  go_enter Tryd.func6, Tryd.ntmps6
  go_upto_region 1 with (first
    | (refine list_boxM rfl (.tmp 0) rfl m a HVM.out.symm ?_; intro w1 hb1 hk1 hs1)
    | (refine list_boxM rfl (.tmp 1) rfl n b HVN.out.symm ?_; intro w2 hb2 hk2 hs2))
  obtain ⟨g, hg⟩ : ∃ g, w.heap.size = g := ⟨_, rfl⟩
  have HG := Lib.hid hg
  rw [hg] at hb1 hs1 ⊢
  rw [hs1] at hb2 hs2
  have HB1 := Lib.hid (hb1.kp hk2)
  have HB2 := Lib.hid hb2
  have HK := Lib.hid (hk1.trans hk2)
  have HS := Lib.hid (show g + 2 ≤ w2.heap.size by omega)
  clear hb1 hb2 hk1 hk2 hs1 hs2 hg
  go_wp2_with fail
  refine (show Calls _ _ _ _ _ from begun19 S _ (S.tk HT.out HK.out)).mono ?_
  rintro e w3 ⟨rfl, hk3⟩
  replace HB1 := Lib.hid (HB1.out.kp hk3)
  replace HB2 := Lib.hid (HB2.out.kp hk3)
  replace HK := Lib.hid (HK.out.trans hk3)
  replace HS := Lib.hid (Nat.le_trans HS.out hk3.size)
  clear hk3
  go_upto_region 4 with fail
  obtain ⟨n0, hn0⟩ : ∃ n0, g + 2 = n0 := ⟨_, rfl⟩
  have hgw := HG.out
  refine wp_region_st (fun l a' w' => ∃ x9 x10 x11 x12, a' = (⟨#[vM, vN, .pointer (some ⟨g, 0, none⟩), .pointer (some ⟨g + 1, 0, none⟩), .bool false, .bool true, .bool true, .bool true, .bool false, x9, x10, x11, x12, undef, undef, undef, undef, undef, undef, undef, undef, undef, undef, undef, undef, undef, undef, undef, undef, undef, undef, undef, undef, undef, undef, undef, undef, undef, undef, undef, undef, undef, undef, undef, undef, undef, undef, undef, undef, undef, undef, undef, undef, undef], []⟩ : Act) ∧ Cn n0 g m a (l.getD 0 false) (l.getD 1 false) (l.getD 4 false) x9 x10 w' ∧ Cn n0 (g + 1) n b (l.getD 2 false) (l.getD 3 false) (l.getD 5 false) x11 x12 w' ∧ n0 ≤ w'.heap.size ∧ Kp w w') (by kernel_rfl) (by kernel_rfl) ⟨undef, undef, undef, undef, rfl, .inl ⟨rfl, rfl, rfl, HB1.out.kp (Keeps.refl _ w3).drew⟩, .inl ⟨rfl, rfl, rfl, HB2.out.kp (Keeps.refl _ w3).drew⟩, by rw [← hn0]; exact HS.out, HK.out.drew⟩ (each_of ?_) ?_
  · refine ⟨?_, ?_, ?_, ?_, ?_, ?_, trivial⟩
    · intro l a1 wx hs hl hw hst
      obtain ⟨x9, x10, x11, x12, rfl, h1, h2, h3, hk⟩ := hst
      obtain ⟨hb, hn⟩ := Cn.load h1 hl
      refine Oper.wp_mono (fun a9 w9 h => ?_) (kp_loadM (u := msV m a) rfl hb rfl rfl)
      obtain ⟨v, rfl, hk9, rfl⟩ := h
      exact ⟨msV m a, x10, x11, x12, rfl, by rw [set_eq19 (by rw [hs]; decide), set_ne19 (by decide), set_ne19 (by decide)]; exact hn.keep hk9 trivial (fun _ _ => trivial), by rw [set_ne19 (by decide), set_ne19 (by decide), set_ne19 (by decide)]; exact h2.keep hk9 trivial (fun _ _ => trivial), Nat.le_trans h3 hk9.size, hk.trans hk9⟩
    · intro l a1 wx hs hl hw hst
      obtain ⟨x9, x10, x11, x12, rfl, h1, h2, h3, hk⟩ := hst
      obtain ⟨ex, hn⟩ := Cn.cut h1 (hw 0 (by kernel_rfl)) hl
      refine Oper.wp_mono (fun a9 w9 h => ?_) (kp_c19V (V := fun w5 v => ∃ a2, v = msV (cutM m) a2 ∧ Cutted w5 n0 m a a2) (cf_lcut _ _) (ms_cut wx m a (HM.out.keep hk) HCA.out) (fun e w5 h => by
        obtain ⟨a2, rfl, hat, eba, eoa, hit, hmk, hk5⟩ := h
        exact ⟨_, rfl, hk5, a2, rfl, ⟨_, hat⟩, eba, eoa, hit.mono fun b _ (hb : wx.heap.size ≤ b) => show n0 ≤ b by omega, hmk.mono fun b _ (hb : wx.heap.size ≤ b) => show n0 ≤ b by omega⟩) rfl ex)
      obtain ⟨v, rfl, hk9, a2, rfl, hcu⟩ := h
      exact ⟨x9, msV (cutM m) a2, x11, x12, rfl, by rw [set_ne19 (by decide), set_eq19 (by rw [hs]; decide), set_ne19 (by decide)]; exact hn _ a2 hk9 hcu, by rw [set_ne19 (by decide), set_ne19 (by decide), set_ne19 (by decide)]; exact h2.keep hk9 trivial (fun _ _ => trivial), Nat.le_trans h3 hk9.size, hk.trans hk9⟩
    · intro l a1 wx hs hl hw hst
      obtain ⟨x9, x10, x11, x12, rfl, h1, h2, h3, hk⟩ := hst
      obtain ⟨hb, hn⟩ := Cn.load h2 hl
      refine Oper.wp_mono (fun a9 w9 h => ?_) (kp_loadM (u := msV n b) rfl hb rfl rfl)
      obtain ⟨v, rfl, hk9, rfl⟩ := h
      exact ⟨x9, x10, msV n b, x12, rfl, by rw [set_ne19 (by decide), set_ne19 (by decide), set_ne19 (by decide)]; exact h1.keep hk9 trivial (fun _ _ => trivial), by rw [set_eq19 (by rw [hs]; decide), set_ne19 (by decide), set_ne19 (by decide)]; exact hn.keep hk9 trivial (fun _ _ => trivial), Nat.le_trans h3 hk9.size, hk.trans hk9⟩
    · intro l a1 wx hs hl hw hst
      obtain ⟨x9, x10, x11, x12, rfl, h1, h2, h3, hk⟩ := hst
      obtain ⟨ex, hn⟩ := Cn.cut h2 (hw 2 (by kernel_rfl)) hl
      refine Oper.wp_mono (fun a9 w9 h => ?_) (kp_c19V (V := fun w5 v => ∃ a2, v = msV (cutM n) a2 ∧ Cutted w5 n0 n b a2) (cf_lcut _ _) (ms_cut wx n b (HN.out.keep hk) HCB.out) (fun e w5 h => by
        obtain ⟨a2, rfl, hat, eba, eoa, hit, hmk, hk5⟩ := h
        exact ⟨_, rfl, hk5, a2, rfl, ⟨_, hat⟩, eba, eoa, hit.mono fun b _ (hb : wx.heap.size ≤ b) => show n0 ≤ b by omega, hmk.mono fun b _ (hb : wx.heap.size ≤ b) => show n0 ≤ b by omega⟩) rfl ex)
      obtain ⟨v, rfl, hk9, a2, rfl, hcu⟩ := h
      exact ⟨x9, x10, x11, msV (cutM n) a2, rfl, by rw [set_ne19 (by decide), set_ne19 (by decide), set_ne19 (by decide)]; exact h1.keep hk9 trivial (fun _ _ => trivial), by rw [set_ne19 (by decide), set_eq19 (by rw [hs]; decide), set_ne19 (by decide)]; exact hn _ a2 hk9 hcu, Nat.le_trans h3 hk9.size, hk.trans hk9⟩
    · intro l a1 wx hs hl hw hst
      obtain ⟨x9, x10, x11, x12, rfl, h1, h2, h3, hk⟩ := hst
      obtain ⟨a2, hy, hb, hn⟩ := Cn.store h1 (hw 1 (by kernel_rfl)) hl (by omega)
      refine Oper.wp_mono (fun a9 w9 h => ?_) (op_storeM hb rfl rfl hy)
      obtain ⟨v, rfl, hb9, hk9⟩ := h
      exact ⟨x9, x10, x11, x12, rfl, by rw [set_ne19 (by decide), set_ne19 (by decide), set_eq19 (by rw [hs]; decide)]; exact hn _ hb9 hk9, by rw [set_ne19 (by decide), set_ne19 (by decide), set_ne19 (by decide)]; exact h2.keep hk9 (by omega) (fun b hb => by omega), Nat.le_trans h3 hk9.size, kp_behind hk hk9 (by omega)⟩
    · intro l a1 wx hs hl hw hst
      obtain ⟨x9, x10, x11, x12, rfl, h1, h2, h3, hk⟩ := hst
      obtain ⟨a2, hy, hb, hn⟩ := Cn.store h2 (hw 3 (by kernel_rfl)) hl (by omega)
      refine Oper.wp_mono (fun a9 w9 h => ?_) (op_storeM hb rfl rfl hy)
      obtain ⟨v, rfl, hb9, hk9⟩ := h
      exact ⟨x9, x10, x11, x12, rfl, by rw [set_ne19 (by decide), set_ne19 (by decide), set_ne19 (by decide)]; exact h1.keep hk9 (by omega) (fun b hb => by omega), by rw [set_ne19 (by decide), set_ne19 (by decide), set_eq19 (by rw [hs]; decide)]; exact hn _ hb9 hk9, Nat.le_trans h3 hk9.size, kp_behind hk hk9 (by omega)⟩
  intro l a1 w4 hs hall hst
  obtain ⟨x9, x10, x11, x12, rfl, h1, h2, -, hk⟩ := hst
  obtain ⟨a2, hb1, hc1⟩ := h1.done (hall 4 (by decide))
  obtain ⟨b2, hb2, hc2⟩ := h2.done (hall 5 (by decide))
  have HK4 := Lib.hid hk
  have HAT := Lib.hid (hc1.at_ (HM.out.keep hk))
  have HBT := Lib.hid (hc2.at_ (HN.out.keep hk))
  have HF := Lib.hid (cutM_fits HCA.out)
  have HE := Lib.hid (cutM_fits HCB.out)
  replace HB1 := Lib.hid hb1
  replace HB2 := Lib.hid hb2
  clear h1 h2 hc1 hc2 hb1 hb2 hk hs hall hn0 hgw HK HS HM HN HCA HCB
  generalize cutM m = p at HAT HF HB1
  generalize cutM n = q at HBT HE HB2
  simp only [Exit.then]
  obtain ⟨vP, hvP⟩ : ∃ v, msV p a2 = v := ⟨_, rfl⟩
  obtain ⟨vQ, hvQ⟩ : ∃ v, msV q b2 = v := ⟨_, rfl⟩
  have HVP := Lib.hid hvP
  have HVQ := Lib.hid hvQ
  obtain ⟨e, he⟩ : ∃ e, decide (p = q) = e := ⟨_, rfl⟩
  have he2 : decide (q = p) = e := by rw [← he]; exact decide_eq_decide.2 ⟨fun h => h.symm, fun h => h.symm⟩
  have HED := Lib.hid he
  have HEQ := Lib.hid (fun w5 (h : Kp w4 w5) => S.eq w5 p q a2 b2 (S.tk HT.out (HK4.out.trans h)) (HAT.out.keep h) (HBT.out.keep h) HF.out HE.out)
  have HQE := Lib.hid (fun w5 (h : Kp w4 w5) => S.eq w5 q p b2 a2 (S.tk HT.out (HK4.out.trans h)) (HBT.out.keep h) (HAT.out.keep h) HE.out HF.out)
  have HSE := Lib.hid (fun w5 (h : Kp w4 w5) => S.eq w5 p p a2 a2 (S.tk HT.out (HK4.out.trans h)) (HAT.out.keep h) (HAT.out.keep h) HF.out HF.out)
  have HRE := Lib.hid (fun w5 (h : Kp w4 w5) => reqMsg w5 p q a2 b2 (HAT.out.keep h) (HBT.out.keep h) HF.out HE.out e he)
  have HMP := Lib.hid (fun w5 (h : Kp w4 w5) => rmsg w5 p a2 (HAT.out.keep h) HF.out)
  have HMQ := Lib.hid (fun w5 (h : Kp w4 w5) => rmsg w5 q b2 (HBT.out.keep h) HE.out)
  have HNP := Lib.hid (fun w5 (h : Kp w4 w5) => S.encode w5 p a2 (S.tk HT.out (HK4.out.trans h)) (HAT.out.keep h) HF.out)
  have HNQ := Lib.hid (fun w5 (h : Kp w4 w5) => S.encode w5 q b2 (S.tk HT.out (HK4.out.trans h)) (HBT.out.keep h) HE.out)
  rw [he, hvP, hvQ] at HEQ
  rw [he2, hvP, hvQ] at HQE
  rw [show decide (p = p) = true from decide_eq_true rfl, hvP] at HSE
  rw [hvP, hvQ] at HRE
  rw [hvP] at HMP HNP
  rw [hvQ] at HMQ HNQ
  clear hvP hvQ he he2
  go_upto_region 5 with fail
  refine wp_region_valsD [vP, vQ, .bool e, vP, vQ, .bool e, .bool false, .bool false, vP, vP, .bool true, .bool false, .bool false, .bool false, vP, vQ, .bool e, vQ, vP, .bool e, .bool false, .bool false] [(7, some false), (13, some false)] ⟨#[vM, vN, .pointer (some ⟨g, 0, none⟩), .pointer (some ⟨g + 1, 0, none⟩), .bool false, .bool true, .bool true, .bool true, .bool false, x9, x10, x11, x12, vP, vQ, .bool e, vP, vQ, .bool e, .bool false, .bool false, vP, vP, .bool true, .bool false, .bool false, .bool false, vP, vQ, .bool e, vQ, vP, .bool e, .bool false, .bool false, undef, undef, undef, undef, undef, undef, undef, undef, undef, undef, undef, undef, undef, undef, undef, undef, undef, undef, undef], []⟩ rfl (by kernel_rfl) (by kernel_rfl) (by kernel_rfl) (fun p hp c hc => by simp only [List.mem_cons, List.not_mem_nil, or_false] at hp; rcases hp with rfl | rfl <;> cases hc <;> rfl) (fun i o ho hw => (all_wanted (by kernel_rfl) ho hw).elim) (each_of ?_) ?_ (by kernel_rfl)
  · refine ⟨?_, ?_, ?_, ?_, ?_, ?_, ?_, ?_, ?_, ?_, ?_, ?_, ?_, ?_, ?_, ?_, ?_, ?_, ?_, ?_, ?_, ?_, trivial⟩ <;> intro hw a1 wx L
    · exact kp_loadM HVP.out (HB1.out.kp L.rel) rfl (L.old 2 (by kernel_rfl))
    · exact kp_loadM HVQ.out (HB2.out.kp L.rel) rfl (L.old 3 (by kernel_rfl))
    · exact kp_c19b (cf_meq _ _ _) (HEQ.out _ L.rel) rfl (L.val 0 13 (by kernel_rfl) (by kernel_rfl)) (L.val 1 14 (by kernel_rfl) (by kernel_rfl))
    · exact kp_loadM HVP.out (HB1.out.kp L.rel) rfl (L.old 2 (by kernel_rfl))
    · exact kp_loadM HVQ.out (HB2.out.kp L.rel) rfl (L.old 3 (by kernel_rfl))
    · exact kp_c19b (cf_rmeq _ _ _) (HRE.out _ L.rel) rfl (L.val 3 16 (by kernel_rfl) (by kernel_rfl)) (L.val 4 17 (by kernel_rfl) (by kernel_rfl))
    · exact kp_neB19 (bne_self_eq_false _) rfl (L.val 2 15 (by kernel_rfl) (by kernel_rfl)) (L.val 5 18 (by kernel_rfl) (by kernel_rfl))
    · exact kp_move rfl (L.val 6 19 (by kernel_rfl) (by kernel_rfl))
    · exact kp_loadM HVP.out (HB1.out.kp L.rel) rfl (L.old 2 (by kernel_rfl))
    · exact kp_loadM HVP.out (HB1.out.kp L.rel) rfl (L.old 2 (by kernel_rfl))
    · exact kp_c19b (cf_meq _ _ _) (HSE.out _ L.rel) rfl (L.val 8 21 (by kernel_rfl) (by kernel_rfl)) (L.val 9 22 (by kernel_rfl) (by kernel_rfl))
    · exact kp_not19 rfl (L.val 10 23 (by kernel_rfl) (by kernel_rfl))
    · exact kp_pick rfl (L.val 7 20 (by kernel_rfl) (by kernel_rfl)) (L.val 11 24 (by kernel_rfl) (by kernel_rfl))
    · exact kp_move rfl (L.val 12 25 (by kernel_rfl) (by kernel_rfl))
    · exact kp_loadM HVP.out (HB1.out.kp L.rel) rfl (L.old 2 (by kernel_rfl))
    · exact kp_loadM HVQ.out (HB2.out.kp L.rel) rfl (L.old 3 (by kernel_rfl))
    · exact kp_c19b (cf_meq _ _ _) (HEQ.out _ L.rel) rfl (L.val 14 27 (by kernel_rfl) (by kernel_rfl)) (L.val 15 28 (by kernel_rfl) (by kernel_rfl))
    · exact kp_loadM HVQ.out (HB2.out.kp L.rel) rfl (L.old 3 (by kernel_rfl))
    · exact kp_loadM HVP.out (HB1.out.kp L.rel) rfl (L.old 2 (by kernel_rfl))
    · exact kp_c19b (cf_meq _ _ _) (HQE.out _ L.rel) rfl (L.val 17 30 (by kernel_rfl) (by kernel_rfl)) (L.val 18 31 (by kernel_rfl) (by kernel_rfl))
    · exact kp_neB19 (bne_self_eq_false _) rfl (L.val 16 29 (by kernel_rfl) (by kernel_rfl)) (L.val 19 32 (by kernel_rfl) (by kernel_rfl))
    · exact kp_pick rfl (L.val 13 26 (by kernel_rfl) (by kernel_rfl)) (L.val 20 33 (by kernel_rfl) (by kernel_rfl))
  intro w5 hk5
  have HK5 := Lib.hid hk5
  clear hk5 HEQ HQE HSE
  simp only [Exit.then]
  go_wp2_with (refine list_loadM rfl (.tmp 2) rfl g p a2 (HB1.out.kp HK5.out) rfl vP HVP.out ?_)
  refine (show Calls _ _ _ _ _ from HMP.out _ HK5.out).mono ?_
  rintro e w6 ⟨rfl, hk6⟩
  have HK6 := Lib.hid (HK5.out.trans hk6)
  clear hk6 HK5
  cases hmp : mayM p with
  | false =>
    clear hmp
    go_wp2_with fail
    go_ret
    exact ⟨rfl, HFIN.out _ (HK4.out.trans HK6.out)⟩
  | true =>
  have HPM := Lib.hid hmp
  clear hmp
  go_wp2_with (refine list_loadM rfl (.tmp 3) rfl (g + 1) q b2 (HB2.out.kp HK6.out) rfl vQ HVQ.out ?_)
  refine (show Calls _ _ _ _ _ from HMQ.out _ HK6.out).mono ?_
  rintro e w7 ⟨rfl, hk7⟩
  have HK7 := Lib.hid (HK6.out.trans hk7)
  clear hk7 HK6
  cases hmq : mayM q with
  | false =>
    clear hmq
    go_wp2_with fail
    go_ret
    exact ⟨rfl, HFIN.out _ (HK4.out.trans HK7.out)⟩
  | true =>
  have HQM := Lib.hid hmq
  have HTX := Lib.hid (show ((txt (S.enc p)).toList == (txt (S.enc q)).toList) = e from by
    rw [← HED.out, str_same]
    refine decide_eq_decide.2 ⟨fun h => ?_, fun h => by rw [h]⟩
    have h1 := txt_inj h
    have h2 := S.decEnc p HPM.out
    rw [h1, S.decEnc q HQM.out] at h2
    exact (Option.some.inj h2).symm)
  clear hmq
  go_wp2_with fail
  generalize S.enc p = LP at HNP HTX
  generalize S.enc q = LQ at HNQ HTX
  refine wp_region_guard (R := Kp) (V := V9 vP vQ LP LQ e) (w0 := w7) (fun _ => none) (by kernel_rfl) (fun w => Keeps.refl _ w) (fun _ _ _ h k => h.trans k) (V9_keep vP vQ LP LQ e) (by kernel_rfl) (fun _ _ h => by cases h) (fun i o ho hw => (all_wanted (by kernel_rfl) ho hw).elim) ((Keeps.refl _ w7).drew) (each_of ?_) ?_
  · refine ⟨?_, ?_, ?_, ?_, ?_, ?_, ?_, ?_, ?_, ?_, ?_, ?_, trivial⟩ <;> intro hw a1 wx La
    · exact kp_loadM HVP.out (HB1.out.kp (HK7.out.trans La.rel)) rfl (La.old 2 (by kernel_rfl))
    · exact kp_c19V (cf_menc _ _) (HNP.out _ (HK7.out.trans La.rel)) (enc_text HPM.out) rfl (La.val 0 43 (by kernel_rfl) (by kernel_rfl))
    · exact kp_string rfl Tryd.underlying33 Tryd.underlying5 Tryd.underlying9 (La.val 1 44 (by kernel_rfl) (by kernel_rfl))
    · exact kp_loadM HVQ.out (HB2.out.kp (HK7.out.trans La.rel)) rfl (La.old 3 (by kernel_rfl))
    · exact kp_c19V (cf_menc _ _) (HNQ.out _ (HK7.out.trans La.rel)) (enc_text HQM.out) rfl (La.val 3 46 (by kernel_rfl) (by kernel_rfl))
    · exact kp_string rfl Tryd.underlying33 Tryd.underlying5 Tryd.underlying9 (La.val 4 47 (by kernel_rfl) (by kernel_rfl))
    · exact kp_eq19T HTX.out rfl (La.val 2 45 (by kernel_rfl) (by kernel_rfl)) (La.val 5 48 (by kernel_rfl) (by kernel_rfl))
    · exact kp_loadM HVP.out (HB1.out.kp (HK7.out.trans La.rel)) rfl (La.old 2 (by kernel_rfl))
    · exact kp_loadM HVQ.out (HB2.out.kp (HK7.out.trans La.rel)) rfl (La.old 3 (by kernel_rfl))
    · exact kp_c19b (cf_rmeq _ _ _) (HRE.out _ (HK7.out.trans La.rel)) rfl (La.val 7 50 (by kernel_rfl) (by kernel_rfl)) (La.val 8 51 (by kernel_rfl) (by kernel_rfl))
    · exact kp_eq19B (beq_self_eq_true _) rfl (La.val 6 49 (by kernel_rfl) (by kernel_rfl)) (La.val 9 52 (by kernel_rfl) (by kernel_rfl))
    · exact kp_assign rfl (La.val 10 53 (by kernel_rfl) (by kernel_rfl))
  · intro vs w9 hw9 hlen hv
    match vs, hlen with
    | [u0, u1, u2, u3, u4, u5, u6, u7, u8, u9, u10, u11], _ =>
      have e11 : u11 = .bool true := hv 11 4 (by kernel_rfl)
      clear hv
      subst e11
      have HK9 := Lib.hid (HK4.out.trans (HK7.out.trans hw9))
      clear hw9
      simp only [putAll, List.map, Act.put, List.setIfInBounds_toArray, List.set_cons_succ, List.set_cons_zero, Exit.then]
      go_wp2_with fail
      go_ret
      exact ⟨rfl, HFIN.out _ HK9.out⟩
end msgEq
end Go.Proofs.YtfhhobinpmbgmaaDoor
