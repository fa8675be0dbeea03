/-
  MsgTurned (layer 19), walked.
-/
import Derived.Test.YtfhhobinpmbgmaaDoorMsLaw
import Derived.Test.YtfhhobinpmbgmaaDoorMsgEqWalk
import Derived.Test.YtfhhobinpmbgmaaDoorMsLists
import Derived.Test.YtfhhobinpmbgmaaDoorItemTake
import Derived.OwnWalk
import Derived.Deep.CutBlock
namespace Go.Proofs.YtfhhobinpmbgmaaDoor.msgTurned
open Go Go.RowKit Go.Joins

/-- The bytes of a message that may be, or none. -/
def encB (S : MsgOK) (m : Ms) : List UInt8 := if mayM m then S.enc m else []
theorem enc_any (S : MsgOK) (w : World) (m : Ms) (a : MsA) (hT : S.T w) (hm : MsAt w m a) (hf : m.Fits) (v : Value) (hv : msV m a = v) :
    Calls Tryd.prog 13 #[v] w fun e w' => ∃ u, e = .returned u ∧ Kp w w' ∧ TextV (encB S m) w' u := by
  subst hv
  refine (S.encode w m a hT hm hf).mono ?_
  rintro e w' ⟨h1, h0, hk⟩
  unfold encB
  cases hmay : mayM m with
  | false =>
    obtain ⟨A, c, rfl⟩ := h0 hmay
    exact ⟨_, rfl, hk, A, c, rfl, Row.nil _ _ _⟩
  | true =>
    obtain ⟨A, c, rfl, -, -, hr⟩ := h1 hmay
    exact ⟨_, rfl, hk, A, c, rfl, hr.mono fun _ _ _ => trivial⟩
theorem encB_ne (S : MsgOK) {m n : Ms} (h : m ≠ n) (h1 : (encB S m).length ≠ 0) (h2 : (encB S n).length ≠ 0) : txt (encB S m) ≠ txt (encB S n) := by
  unfold encB at *
  split at h1
  · rename_i m1
    split at h2
    · rename_i m2
      rw [if_pos m1, if_pos m2]
      intro e
      have e1 := txt_inj e
      have e2 := S.decEnc m m1
      rw [e1, S.decEnc n m2] at e2
      exact h (Option.some.inj e2).symm
    · exact absurd rfl h2
  · exact absurd rfl h1

theorem tmod12 (z : Int) : -12 < z.tmod 12 ∧ z.tmod 12 < 12 := by
  rcases Int.le_total 0 z with h | h
  · rw [Int.tmod_eq_emod_of_nonneg h]; omega
  · have e : z = -(-z) := by omega
    rw [e, Int.neg_tmod, Int.tmod_eq_emod_of_nonneg (by omega)]; omega
theorem tmod14 (z : Int) : -14 < z.tmod 14 ∧ z.tmod 14 < 14 := by
  rcases Int.le_total 0 z with h | h
  · rw [Int.tmod_eq_emod_of_nonneg h]; omega
  · have e : z = -(-z) := by omega
    rw [e, Int.neg_tmod, Int.tmod_eq_emod_of_nonneg (by omega)]; omega
theorem tmod11 (z : Int) : -11 < z.tmod 11 ∧ z.tmod 11 < 11 := by
  rcases Int.le_total 0 z with h | h
  · rw [Int.tmod_eq_emod_of_nonneg h]; omega
  · have e : z = -(-z) := by omega
    rw [e, Int.neg_tmod, Int.tmod_eq_emod_of_nonneg (by omega)]; omega
theorem kp_as19 {o : Oper} {a : Act} {w : World} {Q : Exit → Act → World → Prop} {x : Operand} {V : World → Value → Prop} (ho : o.op = .assign x) (hx : V w (a.eval x)) : o.wp Tryd.prog a w (fun a' w' => ∃ v', a' = a.put o.dst v' ∧ Kp w w' ∧ V w' v') Q := by
  refine kp_yield (v := a.eval x) ?_ (Keeps.refl _ _) hx
  unfold execOp; rw [ho]; rfl
/-- What the drawn region leaves. -/
def V34 (vP vQ : Value) (LP LQ : List UInt8) : Nat → World → Value → Prop := fun i => match i with
  | 0 => IsV vP | 1 => TextV LP | 2 => IsV vQ | 3 => TextV LQ | 4 => TextV LP | _ => TextV LQ
theorem V34_keep (vP vQ : Value) (LP LQ : List UInt8) : ∀ i w w' v, Kp w w' → V34 vP vQ LP LQ i w v → V34 vP vQ LP LQ i w' v := fun i w w' v h hv => by
  rcases i with _ | _ | _ | _ | _ | i
  any_goals exact hv
  all_goals exact TextV.mono h hv
/-- What the message was turned to. -/
structure Turned (w0 w : World) (g h : Nat) (p : Ms) (a : MsA) (q : Ms) (b : MsA) : Prop where
  mb : MB w g p a
  nb : MB w h q b
  at_ : MsAt w q b
  fits : q.Fits
  keep : Kp w0 w

theorem Turned.set {w0 w : World} {g h : Nat} {p q : Ms} {a b : MsA} (t : Turned w0 w g h p a p a) (hg : g < h) (hs : w0.heap.size ≤ h) (i : Nat) (v : Value) (e : (msC p a).setIfInBounds i v = msC q b) (hq : q.Fits) (hat : MsAt w0 q b) :
    Turned w0 (w.setCell ⟨h, i, none⟩ v) g h p a q b := by
  have hk : Keeps (fun b => b ≠ h) w (w.setCell ⟨h, i, none⟩ v) := (Keeps.refl _ w).setCell (p := ⟨h, i, none⟩) (.inr fun hh => hh rfl) v
  have hk2 := t.keep.setCell (p := ⟨h, i, none⟩) (.inl hs) v
  exact ⟨t.mb.keep hk (by omega), (block_setCell t.nb v).trans (by rw [e]), hat.keep hk2, hq, hk2⟩
theorem Turned.items {w0 w w8 : World} {g h : Nat} {p : Ms} {a : MsA} (t : Turned w0 w g h p a p a) (hk : Kp w w8) (hg : g < h) (hs : w0.heap.size ≤ h) (hat : MsAt w0 p a) (l : List It) (A : Option Addr) (c n : Nat) (hn : n = l.length)
    (hl : ItsAt w8 A (fun b => w.heap.size ≤ b) l) (h1 : l.length ≤ c) (h2 : c ≤ maxLen) (hf : ({ p with items := l } : Ms).Fits) : Turned w0 (w8.setCell ⟨h, 16, none⟩ (.slice A n c)) g h p a { p with items := l } { a with ia := A, ic := c } := by
  subst hn
  have hlt := t.nb.lt
  have hkp : Keeps (fun b => b ≠ h) w8 (w8.setCell ⟨h, 16, none⟩ (.slice A l.length c)) := (Keeps.refl _ w8).setCell (p := ⟨h, 16, none⟩) (.inr fun hh => hh rfl) _
  have hk2 := (t.keep.trans hk).setCell (p := ⟨h, 16, none⟩) (.inl hs) (.slice A l.length c)
  have ha := hat.keep hk2
  exact ⟨(t.mb.kp hk).keep hkp (by omega), (t.nb.kp hk).setItems l A c,
    ⟨(hl.keep (hkp.mono fun b _ (hb : w.heap.size ≤ b) => show b ≠ h by omega)).mono fun _ _ _ => trivial, ⟨h1, h2⟩, ha.mks, ha.ml, ha.mem, ha.bl, ha.old, ha.ol⟩, hf, hk2⟩
theorem Turned.marks {w0 w w8 : World} {g h : Nat} {p : Ms} {a : MsA} (t : Turned w0 w g h p a p a) (hk : Kp w w8) (hg : g < h) (hs : w0.heap.size ≤ h) (hat : MsAt w0 p a) (l : List Mk) (A : Option Addr) (c n : Nat) (hn : n = l.length)
    (hl : MksAt w8 A (fun b => w.heap.size ≤ b) l) (h1 : l.length ≤ c) (h2 : c ≤ maxLen) (hf : ({ p with marks := l } : Ms).Fits) : Turned w0 (w8.setCell ⟨h, 17, none⟩ (.slice A n c)) g h p a { p with marks := l } { a with ma := A, mc := c } := by
  subst hn
  have hlt := t.nb.lt
  have hkp : Keeps (fun b => b ≠ h) w8 (w8.setCell ⟨h, 17, none⟩ (.slice A l.length c)) := (Keeps.refl _ w8).setCell (p := ⟨h, 17, none⟩) (.inr fun hh => hh rfl) _
  have hk2 := (t.keep.trans hk).setCell (p := ⟨h, 17, none⟩) (.inl hs) (.slice A l.length c)
  have ha := hat.keep hk2
  exact ⟨(t.mb.kp hk).keep hkp (by omega), (t.nb.kp hk).setMarks l A c,
    ⟨ha.its, ha.il, (hl.keep (hkp.mono fun b _ (hb : w.heap.size ≤ b) => show b ≠ h by omega)).mono fun _ _ _ => trivial, ⟨h1, h2⟩, ha.mem, ha.bl, ha.old, ha.ol⟩, hf, hk2⟩
theorem i64z_wrap (z : Int) : i64z (wrap64 z) := by
  unfold wrap64; exact ⟨by omega, by omega⟩

set_option maxRecDepth 100000 in
set_option maxHeartbeats 4000000 in
theorem walk (S : MsgOK) (w : World) (hT : S.T w) (m : Ms) (a : MsA) (hm : MsAt w m a) (hc : m.Came) (which : Int) (hp1 : -9223372036854775808 ≤ which) (hp2 : which < 9223372036854775808) :
    Calls Tryd.prog 7 #[msV m a, .int .i64 which] w fun e w' => e = .returned (.bool true) ∧ Below w.heap.size w w' := by
  have HT := Lib.hid hT
  have HM := Lib.hid hm
  have HF := Lib.hid (cutM_fits hc)
  have HC := Lib.hid (fun w2 h => ms_cut w2 m a h hc)
  have HP := Lib.hid (And.intro hp1 hp2)
  obtain ⟨vM, hvM⟩ : ∃ v, msV m a = v := ⟨_, rfl⟩
  have HVM := Lib.hid hvM
  rw [hvM] at HC ⊢
  have HKEY := Lib.hid (show (cutM m).key.size ≤ 50 from cutTo_size m.key 50)
  have HIL := Lib.hid (show (cutM m).items.length ≤ 6 from by show (cutL m.items 6).length ≤ 6; rw [cutL_len]; omega)
  have HML := Lib.hid (show (cutM m).marks.length ≤ 6 from by show (cutMk m.marks 6).length ≤ 6; rw [cutMk_len]; omega)
  clear hT hm hc hvM hp1 hp2
  go_enter Tryd.func7, Tryd.ntmps7
  go_upto_region 1 with (refine list_boxM rfl (.tmp 0) rfl m a HVM.out.symm ?_; intro w1 hb1 hk1 hs1)
  obtain ⟨g, hg⟩ : ∃ g, w.heap.size = g := ⟨_, rfl⟩
  have HG := Lib.hid hg
  have HB1 := Lib.hid hb1
  have HK := Lib.hid hk1
  have HFIN := Lib.hid (show ∀ w', Kp w w' → Below w.heap.size w w' from fun w' h => h.below)
  rw [hg] at HB1 ⊢
  clear hb1 hk1 hs1 hg
  go_wp2_with fail
  refine (show Calls _ _ _ _ _ from begun19 S _ (S.tk HT.out HK.out)).mono ?_
  rintro e w2 ⟨rfl, hk2⟩
  replace HB1 := Lib.hid (HB1.out.kp hk2)
  replace HK := Lib.hid (HK.out.trans hk2)
  clear hk2
  go_upto_region 4 with fail
  go_upto_region 5 with (first
    | (refine list_loadM rfl (.tmp 2) rfl g m a HB1.out rfl vM HVM.out ?_)
    | (go_at_call 10; ((with_reducible refine (HC.out _ (HM.out.keep HK.out)).mono ?_); rintro e w3 ⟨a2, rfl, hat, eba, eoa, hit, hmk, hk3⟩))
    | (refine list_storeM rfl (.tmp 2) (.tmp 13) rfl g m (cutM m) a a2 (HB1.out.kp hk3) rfl rfl ?_; intro w4 hb4 hk4 hs4))
  have HK4 := Lib.hid (kp_behind (HK.out.trans hk3) hk4 (Nat.le_of_eq HG.out))
  have HB4 := Lib.hid hb4
  have HAT := Lib.hid ((HM.out.keep HK4.out).over hat eba eoa hit hmk hk4 HB1.out.lt)
  clear hb4 hk4 hs4 hat eba eoa hit hmk hk3 HC HB1 HK HM
  generalize cutM m = p at HAT HB4 HF HKEY HIL HML
  obtain ⟨vC, hvC⟩ : ∃ v, msV p a2 = v := ⟨_, rfl⟩
  have HVC := Lib.hid hvC
  rw [hvC]
  clear hvC
  go_upto_region 6 with (first
    | (refine list_loadM rfl (.tmp 2) rfl g p a2 HB4.out rfl vC HVC.out ?_)
    | (refine list_allocM rfl rfl ?_; intro w5 hb5 hk5 hs5)
    | (refine list_storeM rfl (.tmp 6) (.tmp 14) rfl _ _ p _ a2 hb5 rfl HVC.out.symm ?_; intro w6 hb6 hk6 hs6))
  have HK6 := Lib.hid (kp_made hk5 hk6)
  obtain ⟨g2, hg2⟩ : ∃ g, w4.heap.size = g := ⟨_, rfl⟩
  have hgg : g < g2 := by rw [← hg2]; exact HB4.out.lt
  rw [hg2] at hb6 hk6 ⊢
  have HG2 := Lib.hid hg2
  have HGG := Lib.hid hgg
  have HTU := Lib.hid (Turned.mk (HB4.out.kp HK6.out) hb6 (HAT.out.keep HK6.out) HF.out HK6.out)
  clear hb5 hk5 hs5 hb6 hk6 hs6 hg2 HK6 hgg
  obtain ⟨t, ht⟩ : ∃ t, which.tmod 12 = t := ⟨_, rfl⟩
  have hb := tmod12 which
  rw [ht] at hb
  obtain ⟨r, hr, r0, r1⟩ : ∃ r : Int, (t + 12).tmod 12 = r ∧ 0 ≤ r ∧ r < 12 := ⟨_, rfl, by rw [Int.tmod_eq_emod_of_nonneg (by omega)]; omega, by rw [Int.tmod_eq_emod_of_nonneg (by omega)]; omega⟩
  have hb1 := hb.1
  have hb2 := hb.2
  clear hb
  go_upto_block 0 with fail
  go_cut [] from 18 to 97 (fun wx => ∃ (q : Ms) (b : MsA), Hid (Turned w4 wx g g2 p a2 q b))
  case first =>
    have hcs : r = 0 ∨ r = 1 ∨ r = 2 ∨ r = 3 ∨ r = 4 ∨ r = 5 ∨ r = 6 ∨ r = 7 ∨ r = 8 ∨ r = 9 ∨ r = 10 ∨ r = 11 := by omega
    rcases hcs with rfl | rfl | rfl | rfl | rfl | rfl | rfl | rfl | rfl | rfl | rfl | rfl
    · obtain ⟨z, hz⟩ : ∃ z, p.kind.tmod 14 = z := ⟨_, rfl⟩
      have hb := tmod14 p.kind
      rw [hz] at hb
      have hb1 := hb.1
      have hb2 := hb.2
      clear hb
      have c0 := HTU.out.nb.cell 0 (.int .i64 p.kind) rfl
      have c1 := HTU.out.mb.cell 0 (.int .i64 p.kind) rfl
      have d0 := HTU.out.nb.fz 0
      have HFT := Lib.hid (show Ms.Fits { p with kind := 1 + z } from ⟨⟨by show _ ≤ 1 + z; omega, by show 1 + z < _; omega⟩, HF.out.k2, HF.out.k3, HF.out.k4, HF.out.k5, HF.out.k6, HF.out.k7, HF.out.k8, HF.out.k9, HF.out.k10, HF.out.k11, HF.out.key, HF.out.item, HF.out.il, HF.out.its, HF.out.ml, HF.out.mks, HF.out.bl, HF.out.mem, HF.out.ol, HF.out.old⟩)
      go_wp2_with fail
      go_meet
      exact ⟨{ p with kind := 1 + z }, a2, Lib.hid (HTU.out.set HGG.out (Nat.le_of_eq HG2.out) 0 _ rfl HFT.out ⟨HAT.out.its, HAT.out.il, HAT.out.mks, HAT.out.ml, HAT.out.mem, HAT.out.bl, HAT.out.old, HAT.out.ol⟩)⟩
    · have c0 := HTU.out.nb.cell 3 (.int .i64 p.epoch) rfl
      have d0 := HTU.out.nb.fz 3
      have HFT := Lib.hid (show Ms.Fits { p with epoch := wrap64 (p.epoch + 1) } from ⟨HF.out.k1, HF.out.k2, HF.out.k3, i64z_wrap _, HF.out.k5, HF.out.k6, HF.out.k7, HF.out.k8, HF.out.k9, HF.out.k10, HF.out.k11, HF.out.key, HF.out.item, HF.out.il, HF.out.its, HF.out.ml, HF.out.mks, HF.out.bl, HF.out.mem, HF.out.ol, HF.out.old⟩)
      go_wp2_with fail
      go_meet
      exact ⟨{ p with epoch := wrap64 (p.epoch + 1) }, a2, Lib.hid (HTU.out.set HGG.out (Nat.le_of_eq HG2.out) 3 _ rfl HFT.out ⟨HAT.out.its, HAT.out.il, HAT.out.mks, HAT.out.ml, HAT.out.mem, HAT.out.bl, HAT.out.old, HAT.out.ol⟩)⟩
    · have c0 := HTU.out.nb.cell 4 (.int .i64 p.tick) rfl
      have d0 := HTU.out.nb.fz 4
      have HFT := Lib.hid (show Ms.Fits { p with tick := wrap64 (p.tick + 1) } from ⟨HF.out.k1, HF.out.k2, HF.out.k3, HF.out.k4, i64z_wrap _, HF.out.k6, HF.out.k7, HF.out.k8, HF.out.k9, HF.out.k10, HF.out.k11, HF.out.key, HF.out.item, HF.out.il, HF.out.its, HF.out.ml, HF.out.mks, HF.out.bl, HF.out.mem, HF.out.ol, HF.out.old⟩)
      go_wp2_with fail
      go_meet
      exact ⟨{ p with tick := wrap64 (p.tick + 1) }, a2, Lib.hid (HTU.out.set HGG.out (Nat.le_of_eq HG2.out) 4 _ rfl HFT.out ⟨HAT.out.its, HAT.out.il, HAT.out.mks, HAT.out.ml, HAT.out.mem, HAT.out.bl, HAT.out.old, HAT.out.ol⟩)⟩
    · have c0 := HTU.out.nb.cell 5 (.int .i64 p.seq) rfl
      have d0 := HTU.out.nb.fz 5
      have HFT := Lib.hid (show Ms.Fits { p with seq := wrap64 (p.seq + 1) } from ⟨HF.out.k1, HF.out.k2, HF.out.k3, HF.out.k4, HF.out.k5, i64z_wrap _, HF.out.k7, HF.out.k8, HF.out.k9, HF.out.k10, HF.out.k11, HF.out.key, HF.out.item, HF.out.il, HF.out.its, HF.out.ml, HF.out.mks, HF.out.bl, HF.out.mem, HF.out.ol, HF.out.old⟩)
      go_wp2_with fail
      go_meet
      exact ⟨{ p with seq := wrap64 (p.seq + 1) }, a2, Lib.hid (HTU.out.set HGG.out (Nat.le_of_eq HG2.out) 5 _ rfl HFT.out ⟨HAT.out.its, HAT.out.il, HAT.out.mks, HAT.out.ml, HAT.out.mem, HAT.out.bl, HAT.out.old, HAT.out.ol⟩)⟩
    · have c0 := HTU.out.nb.cell 6 (.int .i64 p.n) rfl
      have d0 := HTU.out.nb.fz 6
      have HFT := Lib.hid (show Ms.Fits { p with n := wrap64 (p.n + 1) } from ⟨HF.out.k1, HF.out.k2, HF.out.k3, HF.out.k4, HF.out.k5, HF.out.k6, i64z_wrap _, HF.out.k8, HF.out.k9, HF.out.k10, HF.out.k11, HF.out.key, HF.out.item, HF.out.il, HF.out.its, HF.out.ml, HF.out.mks, HF.out.bl, HF.out.mem, HF.out.ol, HF.out.old⟩)
      go_wp2_with fail
      go_meet
      exact ⟨{ p with n := wrap64 (p.n + 1) }, a2, Lib.hid (HTU.out.set HGG.out (Nat.le_of_eq HG2.out) 6 _ rfl HFT.out ⟨HAT.out.its, HAT.out.il, HAT.out.mks, HAT.out.ml, HAT.out.mem, HAT.out.bl, HAT.out.old, HAT.out.ol⟩)⟩
    · have c0 := HTU.out.nb.cell 7 (.int .i64 p.id) rfl
      have d0 := HTU.out.nb.fz 7
      have HFT := Lib.hid (show Ms.Fits { p with id := wrap64 (p.id + 1) } from ⟨HF.out.k1, HF.out.k2, HF.out.k3, HF.out.k4, HF.out.k5, HF.out.k6, HF.out.k7, i64z_wrap _, HF.out.k9, HF.out.k10, HF.out.k11, HF.out.key, HF.out.item, HF.out.il, HF.out.its, HF.out.ml, HF.out.mks, HF.out.bl, HF.out.mem, HF.out.ol, HF.out.old⟩)
      go_wp2_with fail
      go_meet
      exact ⟨{ p with id := wrap64 (p.id + 1) }, a2, Lib.hid (HTU.out.set HGG.out (Nat.le_of_eq HG2.out) 7 _ rfl HFT.out ⟨HAT.out.its, HAT.out.il, HAT.out.mks, HAT.out.ml, HAT.out.mem, HAT.out.bl, HAT.out.old, HAT.out.ol⟩)⟩
    · have c0 := HTU.out.nb.cell 11 (.bool p.last) rfl
      have c1 := HTU.out.mb.cell 11 (.bool p.last) rfl
      have d0 := HTU.out.nb.fz 11
      have HFT := Lib.hid (show Ms.Fits { p with last := !p.last } from ⟨HF.out.k1, HF.out.k2, HF.out.k3, HF.out.k4, HF.out.k5, HF.out.k6, HF.out.k7, HF.out.k8, HF.out.k9, HF.out.k10, HF.out.k11, HF.out.key, HF.out.item, HF.out.il, HF.out.its, HF.out.ml, HF.out.mks, HF.out.bl, HF.out.mem, HF.out.ol, HF.out.old⟩)
      go_wp2_with fail
      go_meet
      exact ⟨{ p with last := !p.last }, a2, Lib.hid (HTU.out.set HGG.out (Nat.le_of_eq HG2.out) 11 _ rfl HFT.out ⟨HAT.out.its, HAT.out.il, HAT.out.mks, HAT.out.ml, HAT.out.mem, HAT.out.bl, HAT.out.old, HAT.out.ol⟩)⟩
    · have hks := HKEY.out
      have c0 := HTU.out.nb.cell 9 (.string p.key) rfl
      have d0 := HTU.out.nb.fz 9
      have HFT := Lib.hid (show Ms.Fits { p with key := p.key ++ ⟨#[120]⟩ } from ⟨HF.out.k1, HF.out.k2, HF.out.k3, HF.out.k4, HF.out.k5, HF.out.k6, HF.out.k7, HF.out.k8, HF.out.k9, HF.out.k10, HF.out.k11, by show (p.key ++ _).size ≤ 1000; rw [ByteArray.size_append]; show p.key.size + 1 ≤ _; have := HKEY.out; omega, HF.out.item, HF.out.il, HF.out.its, HF.out.ml, HF.out.mks, HF.out.bl, HF.out.mem, HF.out.ol, HF.out.old⟩)
      go_wp2_with fail
      go_meet
      exact ⟨{ p with key := p.key ++ ⟨#[120]⟩ }, a2, Lib.hid (HTU.out.set HGG.out (Nat.le_of_eq HG2.out) 9 _ rfl HFT.out ⟨HAT.out.its, HAT.out.il, HAT.out.mks, HAT.out.ml, HAT.out.mem, HAT.out.bl, HAT.out.old, HAT.out.ol⟩)⟩
    · have c0 := HTU.out.nb.cell 19 (.int .i64 p.base) rfl
      have d0 := HTU.out.nb.fz 19
      have HFT := Lib.hid (show Ms.Fits { p with base := wrap64 (p.base + 1) } from ⟨HF.out.k1, HF.out.k2, HF.out.k3, HF.out.k4, HF.out.k5, HF.out.k6, HF.out.k7, HF.out.k8, HF.out.k9, HF.out.k10, i64z_wrap _, HF.out.key, HF.out.item, HF.out.il, HF.out.its, HF.out.ml, HF.out.mks, HF.out.bl, HF.out.mem, HF.out.ol, HF.out.old⟩)
      go_wp2_with fail
      go_meet
      exact ⟨{ p with base := wrap64 (p.base + 1) }, a2, Lib.hid (HTU.out.set HGG.out (Nat.le_of_eq HG2.out) 19 _ rfl HFT.out ⟨HAT.out.its, HAT.out.il, HAT.out.mks, HAT.out.ml, HAT.out.mem, HAT.out.bl, HAT.out.old, HAT.out.ol⟩)⟩
    · have c0 := HTU.out.mb.cell 16 (.slice a2.ia p.items.length a2.ic) rfl
      have c1 := HTU.out.nb.cell 16 (.slice a2.ia p.items.length a2.ic) rfl
      have hbd := HIL.out
      have HS := Lib.hid (its_all (c := a2.ic) HTU.out.at_.its)
      have hs6 := HTU.out.nb.lt
      go_wp2_with (at_builtin; refine item_elem.list_append rfl (.const (.slice none 0 0)) (.tmp 82) _ rfl rfl (World.ownsRow_nil _ w6.heap.size _ _) rfl HS.out ?c3 ?c4 ?c5 ?_)
      case c3 => unfold maxLen; omega
      case c4 => omega
      case c5 => exact Nat.le_refl _
      intro v7 w7 ho hg hb
      have HK7 := Lib.hid (show Kp w6 w7 from Keeps.of_grown hg fun _ h => by cases h)
      have HO7 := Lib.hid (show w7.ownsRow w6.heap.size 24 4 v7 p.items.length (itCells p.items) from by simpa using ho)
      obtain ⟨A7, c7, rfl, -, -, -⟩ := own_formL HO7.out
      have HS7 := Lib.hid (src_item w7 (⟨⟨#[111, 110, 101, 32, 109, 111, 114, 101]⟩, ⟨#[]⟩, 0, false⟩ : It))
      have hs7 := HK7.out.size
      clear ho hg hb HS
      go_wp2_with (at_builtin; refine item_elem.list_append rfl (.tmp 83) (.tmp 85) _ rfl rfl (HO7.out.alloc _) rfl HS7.out ?c3 ?c4 ?c5 ?_)
      case c3 => unfold maxLen; omega
      case c4 => omega
      case c5 => omega
      intro v8 w8 ho hg hb
      have HK8 := Lib.hid (show Kp w6 w8 from (HK7.out.alloc _).grown hg fun j hj => (HO7.out.lt j hj).1)
      obtain ⟨A8, c8, rfl, hc1, hc2, -⟩ := own_formL ho
      have HL8 := Lib.hid ((ItsAt.of_own (l := p.items ++ [(⟨⟨#[111, 110, 101, 32, 109, 111, 114, 101]⟩, ⟨#[]⟩, 0, false⟩ : It)]) (by rw [itCells_snoc]; exact ho) (by rw [List.length_append]; rfl)).mono (G := fun b => w6.heap.size ≤ b) fun b _ h => h.1)
      have HC8 := Lib.hid (And.intro hc1 hc2)
      have e1 := (HTU.out.nb.kp HK8.out).cell 16 (.slice a2.ia p.items.length a2.ic) rfl
      have d1 := (HTU.out.nb.kp HK8.out).fz 16
      have HFT := Lib.hid (show Ms.Fits { p with items := p.items ++ [(⟨⟨#[111, 110, 101, 32, 109, 111, 114, 101]⟩, ⟨#[]⟩, 0, false⟩ : It)] } from ⟨HF.out.k1, HF.out.k2, HF.out.k3, HF.out.k4, HF.out.k5, HF.out.k6, HF.out.k7, HF.out.k8, HF.out.k9, HF.out.k10, HF.out.k11, HF.out.key, HF.out.item, by show (p.items ++ [(⟨⟨#[111, 110, 101, 32, 109, 111, 114, 101]⟩, ⟨#[]⟩, 0, false⟩ : It)]).length ≤ 100; rw [List.length_append]; show p.items.length + 1 ≤ 100; omega, fun x hx => by
          rcases List.mem_append.1 hx with h | h
          · exact HF.out.its x h
          · rw [List.mem_singleton.1 h]; exact ⟨by decide, by decide, by decide, by decide⟩, HF.out.ml, HF.out.mks, HF.out.bl, HF.out.mem, HF.out.ol, HF.out.old⟩)
      clear ho hg hb HS7 HO7 HK7 c0 c1 hc1 hc2
      go_wp2_with fail
      go_meet
      exact ⟨_, _, Lib.hid (HTU.out.items HK8.out HGG.out (Nat.le_of_eq HG2.out) HAT.out (p.items ++ [(⟨⟨#[111, 110, 101, 32, 109, 111, 114, 101]⟩, ⟨#[]⟩, 0, false⟩ : It)]) A8 c8 (p.items.length + 1) (by rw [List.length_append]; rfl) HL8.out (by rw [List.length_append]; exact HC8.out.1) HC8.out.2 HFT.out)⟩
    · have c0 := HTU.out.mb.cell 17 (.slice a2.ma p.marks.length a2.mc) rfl
      have c1 := HTU.out.nb.cell 17 (.slice a2.ma p.marks.length a2.mc) rfl
      have hbd := HML.out
      have HS := Lib.hid (mks_all (c := a2.mc) HTU.out.at_.mks)
      have hs6 := HTU.out.nb.lt
      go_wp2_with (at_builtin; refine mark_elem.list_append rfl (.const (.slice none 0 0)) (.tmp 91) _ rfl rfl (World.ownsRow_nil _ w6.heap.size _ _) rfl HS.out ?c3 ?c4 ?c5 ?_)
      case c3 => unfold maxLen; omega
      case c4 => omega
      case c5 => exact Nat.le_refl _
      intro v7 w7 ho hg hb
      have HK7 := Lib.hid (show Kp w6 w7 from Keeps.of_grown hg fun _ h => by cases h)
      have HO7 := Lib.hid (show w7.ownsRow w6.heap.size 42 2 v7 p.marks.length (mkCells p.marks) from by simpa using ho)
      obtain ⟨A7, c7, rfl, -, -, -⟩ := own_formL HO7.out
      have HS7 := Lib.hid (mark_src w7 (⟨1099511627776, ⟨#[107]⟩⟩ : Mk))
      have hs7 := HK7.out.size
      clear ho hg hb HS
      go_wp2_with (at_builtin; refine mark_elem.list_append rfl (.tmp 92) (.tmp 94) _ rfl rfl (HO7.out.alloc _) rfl HS7.out ?c3 ?c4 ?c5 ?_)
      case c3 => unfold maxLen; omega
      case c4 => omega
      case c5 => omega
      intro v8 w8 ho hg hb
      have HK8 := Lib.hid (show Kp w6 w8 from (HK7.out.alloc _).grown hg fun j hj => (HO7.out.lt j hj).1)
      obtain ⟨A8, c8, rfl, hc1, hc2, -⟩ := own_formL ho
      have HL8 := Lib.hid ((MksAt.of_own (l := p.marks ++ [(⟨1099511627776, ⟨#[107]⟩⟩ : Mk)]) (by rw [mkCells_snoc]; exact ho) (by rw [List.length_append]; rfl)).mono (G := fun b => w6.heap.size ≤ b) fun b _ h => h.1)
      have HC8 := Lib.hid (And.intro hc1 hc2)
      have e1 := (HTU.out.nb.kp HK8.out).cell 17 (.slice a2.ma p.marks.length a2.mc) rfl
      have d1 := (HTU.out.nb.kp HK8.out).fz 17
      have HFT := Lib.hid (show Ms.Fits { p with marks := p.marks ++ [(⟨1099511627776, ⟨#[107]⟩⟩ : Mk)] } from ⟨HF.out.k1, HF.out.k2, HF.out.k3, HF.out.k4, HF.out.k5, HF.out.k6, HF.out.k7, HF.out.k8, HF.out.k9, HF.out.k10, HF.out.k11, HF.out.key, HF.out.item, HF.out.il, HF.out.its, by show (p.marks ++ [(⟨1099511627776, ⟨#[107]⟩⟩ : Mk)]).length ≤ 100; rw [List.length_append]; show p.marks.length + 1 ≤ 100; omega, fun x hx => by
          rcases List.mem_append.1 hx with h | h
          · exact HF.out.mks x h
          · rw [List.mem_singleton.1 h]; exact ⟨by decide, by decide, by decide⟩, HF.out.bl, HF.out.mem, HF.out.ol, HF.out.old⟩)
      clear ho hg hb HS7 HO7 HK7 c0 c1 hc1 hc2
      go_wp2_with fail
      go_meet
      exact ⟨_, _, Lib.hid (HTU.out.marks HK8.out HGG.out (Nat.le_of_eq HG2.out) HAT.out (p.marks ++ [(⟨1099511627776, ⟨#[107]⟩⟩ : Mk)]) A8 c8 (p.marks.length + 1) (by rw [List.length_append]; rfl) HL8.out (by rw [List.length_append]; exact HC8.out.1) HC8.out.2 HFT.out)⟩
    · obtain ⟨z, hz⟩ : ∃ z, (wrap64 (p.err + 1)).tmod 11 = z := ⟨_, rfl⟩
      have hb := tmod11 (wrap64 (p.err + 1))
      rw [hz] at hb
      have hb1 := hb.1
      have hb2 := hb.2
      clear hb
      have c0 := HTU.out.nb.cell 10 (.int .i64 p.err) rfl
      have c1 := HTU.out.mb.cell 10 (.int .i64 p.err) rfl
      have d0 := HTU.out.nb.fz 10
      have HFT := Lib.hid (show Ms.Fits { p with err := z } from ⟨HF.out.k1, HF.out.k2, HF.out.k3, HF.out.k4, HF.out.k5, HF.out.k6, HF.out.k7, HF.out.k8, HF.out.k9, ⟨by show _ ≤ z; omega, by show z < _; omega⟩, HF.out.k11, HF.out.key, HF.out.item, HF.out.il, HF.out.its, HF.out.ml, HF.out.mks, HF.out.bl, HF.out.mem, HF.out.ol, HF.out.old⟩)
      go_wp2_with fail
      go_meet
      exact ⟨{ p with err := z }, a2, Lib.hid (HTU.out.set HGG.out (Nat.le_of_eq HG2.out) 10 _ rfl HFT.out ⟨HAT.out.its, HAT.out.il, HAT.out.mks, HAT.out.ml, HAT.out.mem, HAT.out.bl, HAT.out.old, HAT.out.ol⟩)⟩
  case rest =>
    obtain ⟨q, b, HTQ⟩ := hcut
    clear HTU hr r0 r1 hb1 hb2 ht HKEY HIL HML
    have HKC := Lib.hid (HK4.out.trans HTQ.out.keep)
    have HPA := Lib.hid (HAT.out.keep HTQ.out.keep)
    obtain ⟨vQ, hvQ⟩ : ∃ v, msV q b = v := ⟨_, rfl⟩
    have HVQ := Lib.hid hvQ
    obtain ⟨e, he⟩ : ∃ e, decide (p = q) = e := ⟨_, rfl⟩
    have HED := Lib.hid he
    have HRE := Lib.hid (reqMsg wc p q a2 b HPA.out HTQ.out.at_ HF.out HTQ.out.fits e he)
    have HEQ := Lib.hid (fun w5 (h : Kp wc w5) => S.eq w5 p q a2 b (S.tk HT.out (HKC.out.trans h)) (HPA.out.keep h) (HTQ.out.at_.keep h) HF.out HTQ.out.fits)
    have HNP := Lib.hid (fun w5 (h : Kp wc w5) => enc_any S w5 p a2 (S.tk HT.out (HKC.out.trans h)) (HPA.out.keep h) HF.out vC HVC.out)
    have HNQ := Lib.hid (fun w5 (h : Kp wc w5) => enc_any S w5 q b (S.tk HT.out (HKC.out.trans h)) (HTQ.out.at_.keep h) HTQ.out.fits vQ hvQ)
    rw [hvQ, HVC.out] at HRE
    rw [he, hvQ, HVC.out] at HEQ
    clear hvQ
    go_wp2_with (first
      | (refine list_loadM rfl (.tmp 2) rfl g p a2 HTQ.out.mb rfl vC HVC.out ?_)
      | (refine list_loadM rfl (.tmp 6) rfl g2 q b HTQ.out.nb rfl vQ HVQ.out ?_))
    refine (show Calls _ _ _ _ _ from HRE.out).mono ?_
    rintro e5 w5 ⟨rfl, hk5⟩
    have HK5 := Lib.hid hk5
    have HM5 := Lib.hid (HTQ.out.mb.kp hk5)
    have HN5 := Lib.hid (HTQ.out.nb.kp hk5)
    clear hk5 HRE
    cases e with
    | true =>
      clear he
      go_wp2_with fail
      go_ret
      exact ⟨rfl, HFIN.out _ (HKC.out.trans HK5.out)⟩
    | false =>
      have HNE := Lib.hid (of_decide_eq_false he)
      clear he
      go_wp2_with (first
        | (refine list_loadM rfl (.tmp 2) rfl g p a2 HM5.out rfl vC HVC.out ?_)
        | (refine list_loadM rfl (.tmp 6) rfl g2 q b HN5.out rfl vQ HVQ.out ?_))
      refine (show Calls _ _ _ _ _ from HEQ.out _ HK5.out).mono ?_
      rintro e5 w6 ⟨rfl, hk6⟩
      have HK6 := Lib.hid (HK5.out.trans hk6)
      have HM6 := Lib.hid (HM5.out.kp hk6)
      have HN6 := Lib.hid (HN5.out.kp hk6)
      have HTX := Lib.hid (fun h1 h2 => encB_ne S HNE.out h1 h2)
      generalize encB S p = LP at HNP HTX
      generalize encB S q = LQ at HNQ HTX
      clear hk6 HEQ HK5 HM5 HN5
      go_upto_region 34 with fail
      refine wp_region_guard (R := Kp) (V := V34 vC vQ LP LQ) (w0 := w6) (fun _ => none) (by kernel_rfl) (fun w => Keeps.refl _ w) (fun _ _ _ h k => h.trans k) (V34_keep vC vQ LP LQ) (by kernel_rfl) (fun _ _ h => by cases h) (fun i o ho hw => (all_wanted (by kernel_rfl) ho hw).elim) ((Keeps.refl _ w6).drew) (each_of ?_) ?_
      · refine ⟨?_, ?_, ?_, ?_, ?_, ?_, trivial⟩ <;> intro hw a1 wx La
        · exact kp_loadM HVC.out (HM6.out.kp La.rel) rfl (La.old 2 (by kernel_rfl))
        · exact kp_c19V (cf_menc _ _) (HNP.out _ (HK6.out.trans La.rel)) (fun e w' h => h) rfl (La.val 0 103 (by kernel_rfl) (by kernel_rfl))
        · exact kp_loadM HVQ.out (HN6.out.kp La.rel) rfl (La.old 6 (by kernel_rfl))
        · exact kp_c19V (cf_menc _ _) (HNQ.out _ (HK6.out.trans La.rel)) (fun e w' h => h) rfl (La.val 2 105 (by kernel_rfl) (by kernel_rfl))
        · exact kp_as19 rfl (La.val 1 104 (by kernel_rfl) (by kernel_rfl))
        · exact kp_as19 rfl (La.val 3 106 (by kernel_rfl) (by kernel_rfl))
      · intro vs w9 hw9 hlen hv
        match vs, hlen with
        | [v0, v1, v2, v3, v4, v5], _ =>
          have e4 : TextV LP w9 v4 := hv 4 7 (by kernel_rfl)
          have e5 : TextV LQ w9 v5 := hv 5 8 (by kernel_rfl)
          clear hv
          obtain ⟨A4, c4, rfl, r4⟩ := e4
          obtain ⟨A5, c5, rfl, r5⟩ := e5
          have HK9 := Lib.hid (HKC.out.trans (HK6.out.trans hw9))
          have k4 : (convert 33 9 (.slice A4 LP.length c4)).run Tryd.prog w9 = .ok (.string (txt LP)) w9 := r4.to_string Tryd.underlying33 Tryd.underlying5 Tryd.underlying9 _ _ rfl
          have k5 : (convert 33 9 (.slice A5 LQ.length c5)).run Tryd.prog w9 = .ok (.string (txt LQ)) w9 := r5.to_string Tryd.underlying33 Tryd.underlying5 Tryd.underlying9 _ _ rfl
          clear hw9 r4 r5
          simp only [putAll, List.map, Act.put, List.setIfInBounds_toArray, List.set_cons_succ, List.set_cons_zero, Exit.then]
          have hcs : ((LP.length : Int) == 0) = true ∨ (((LP.length : Int) == 0) = false ∧ ((LQ.length : Int) == 0) = true) ∨ (((LP.length : Int) == 0) = false ∧ ((LQ.length : Int) == 0) = false ∧ ((txt LP).toList == (txt LQ).toList) = false) := by
            by_cases h1 : LP.length = 0
            · exact .inl (beq_iff_eq.2 (by omega))
            · by_cases h2 : LQ.length = 0
              · exact .inr (.inl ⟨beq_eq_false_iff_ne.2 (by omega), beq_iff_eq.2 (by omega)⟩)
              · exact .inr (.inr ⟨beq_eq_false_iff_ne.2 (by omega), beq_eq_false_iff_ne.2 (by omega), by rw [str_same]; exact decide_eq_false (HTX.out h1 h2)⟩)
          generalize txt LP = sP at *
          generalize txt LQ = sQ at *
          generalize LP.length = nP at *
          generalize LQ.length = nQ at *
          rcases hcs with t1 | ⟨t1, t2⟩ | ⟨t1, t2, t3⟩
          all_goals
            go_wp2_with fail
            go_ret
            exact ⟨rfl, HFIN.out _ HK9.out⟩

end Go.Proofs.YtfhhobinpmbgmaaDoor.msgTurned
