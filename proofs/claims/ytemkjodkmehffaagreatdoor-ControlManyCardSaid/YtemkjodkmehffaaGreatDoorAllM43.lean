/-
  CtRenew: texts of mine, joined.
-/
import Derived.Test.YtemkjodkmehffaaGreatDoorAllM42
namespace Go.Proofs.YtemkjodkmehffaaGreatDoor
open Go Go.RowKit Go.Joins
theorem tell_tick {w : World} {g : Nat} {k n e t : Int} {l : List Int} {a : MsA} (h : MB w g (tellM k n e t l) a) (x : Int) : MB (w.setCell ⟨g, 4, none⟩ (.int .i64 x)) g (tellM k n e x l) a := (block_setCell h _).trans rfl
section
variable {W w w' : World} {p c : Nat} {ck : Option Nat} {F : Nat → Prop} {n : Int} {k : Nat} {S : CtS}
def abR (S : CtS) (m : Ms) : List Ms := if S.epoch < m.seq ∧ m.seq ≠ S.underZ then [abortM m.frm m.seq] else []
theorem renew_is (S : CtS) (now : Int) (m : Ms) : renewC S now m = (if hasN S.mem m.frm && !(losesB S.und m.frm) then (abR S m ++ [tellM 2 m.frm S.epoch m.tick S.mem], ⟨S.epoch, S.mem, S.top, S.und, setO S.over m.frm.toNat (now + 40)⟩) else if m.epoch < S.epoch then (abR S m ++ [tellM 11 m.frm S.epoch 0 S.mem], S) else (abR S m, S)) := rfl
set_option maxRecDepth 100000 in
set_option maxHeartbeats 8000000 in
theorem renew_any (h : CtAt W w p c ck F n k S) (m : Ms) (a : MsA) (hk : k + 1 ≤ 1000000) :
  Calls Tryz.prog 36 #[.pointer (some ⟨c, 0, none⟩), msV m a] w fun e w' => ∃ v, e = .returned v ∧ OutP W w p c ck F n (k + 1) (renewC S n m).2 (renewC S n m).1 v w' := by
 have HRN := Lib.hid (renew_is S n m)
 obtain ⟨vM, hvM⟩ : ∃ v, msV m a = v := ⟨_, rfl⟩
 have HVM := Lib.hid hvM
 have HH := Lib.hid h
 have HHK := Lib.hid hk
 obtain ⟨q, Fd, Fs, g, R, s, st, hin, hF, hFr⟩ := h
 obtain ⟨r, hb, hrb, -, A1, c1, A2, c2, hrc⟩ := hin.bd.ex
 have HB := Lib.hid hb
 have HIN := Lib.hid hin
 have HF := Lib.hid hF
 have HFR := Lib.hid hFr
 have HEP := Lib.hid (fun w1 (hk : Kp w w1) => (hin.bd.kp hk).epoch)
 have HUN := Lib.hid (fun w1 (hk : Kp w w1) => (hin.bd.kp hk).under)
 have HTL := Lib.hid (fun w1 (hk : Kp w w1) => (hin.bd.kp hk).tell 11 m.frm)
 have HHAS := Lib.hid (fun w1 (hk : Kp w w1) => rhas_any w1 r (fun _ => True) S.epoch S.mem A1 c1 A2 c2 m.frm ((hrc.mono fun _ _ _ => trivial).keep trivial hk) hin.bd.ok.len.2)
 have HLO := Lib.hid (fun w1 (hk : Kp w w1) => (hin.bd.kp hk).und.loses m.frm)
 have HGR := Lib.hid (fun w1 (i : Nat) (hi : i ≤ 5) (hz : m.frm = (i : Int)) (hk : Kp w w1) => granted_any w1 c q r ck g S.top S.over n i hi m.frm hz (hb.keep hk trivial) (hin.cl.keep hk fun _ _ => trivial))
 have HRNG := Lib.hid (show hasN S.mem m.frm = true → 1 ≤ m.frm ∧ m.frm ≤ 5 from fun hh => by
  obtain ⟨y, hy, he⟩ := List.any_eq_true.1 hh
  have := nodes_each (ring_nodes hrb) y hy
  have e : y = m.frm := by simpa using he
  omega)
 obtain ⟨pv, hpv⟩ : ∃ pv, pOf g = pv := ⟨_, rfl⟩
 have hpv1 : pv.oneCell' = true := by rw [← hpv]; rfl
 have HPV := Lib.hid hpv
 rw [hpv] at HLO
 have HC4 := Lib.hid (fun w1 (hk : Kp w w1) => (show w1.cell? ⟨c, 4, none⟩ = some pv ∧ w1.cell? ⟨c, 2, none⟩ = some (.pointer (some ⟨r, 0, none⟩)) from ⟨by rw [← HPV.out]; exact hk.cell HB.out.c4 trivial, hk.cell HB.out.c2 trivial⟩))
 rw [hvM]
 clear hin hb hrb hrc hvM hF hFr hk hpv
 go_enter Tryz.func36, Tryz.ntmps36
 go_upto_region 1 with (refine list_boxM rfl (.tmp 1) rfl m a HVM.out.symm ?_; intro w1 hb1 hk1 hs1)
 obtain ⟨gg, hg⟩ : ∃ gg, w.heap.size = gg := ⟨_, rfl⟩
 rw [hg] at hb1 hs1 ⊢
 have HM1 := Lib.hid hb1
 have HK1 := Lib.hid hk1
 have HG := Lib.hid hg
 have d5 := hb1.cell 5 (.int .i64 m.seq) rfl
 have d1 := hb1.cell 1 (.int .i64 m.frm) rfl
 clear hb1 hk1 hs1 hg
 obtain ⟨sq, hsq⟩ : ∃ sq, m.seq = sq := ⟨_, rfl⟩
 obtain ⟨fr, hfr⟩ : ∃ fr, m.frm = fr := ⟨_, rfl⟩
 rw [hsq] at d5
 rw [hfr] at d1
 have HSQ := Lib.hid hsq
 have HFRM := Lib.hid hfr
 have HEP1 := Lib.hid (fun i => HEP.out (w1.drewN i) (HK1.out.drewN i))
 have HUN1 := Lib.hid (fun i => HUN.out (w1.drewN i) (HK1.out.drewN i))
 clear hsq hfr
 cases t1 : decide (S.epoch < sq) with
 | false =>
  have HAB := Lib.hid (show abR S m = [] from by unfold abR; rw [if_neg (by rw [HSQ.out]; simp at *; omega)])
  go_wp2_with fail
  go_quiet ((first | (go_at_call 16; exact Calls.quiet_of_same ((HEP1.out _).mono fun _ _ h => ⟨h.1, h.2.symm⟩)) | (go_at_call 17; exact Calls.quiet_of_same ((HUN1.out _).mono fun _ _ h => ⟨h.1, h.2.symm⟩))))
  go_upto_region 4 with fail
  have hkr := fun i => HK1.out.drewN i
  have hmr := fun i => HM1.out.kp ((Keeps.refl (fun _ => True) w1).drewN i)
  have HX := Lib.hid (And.intro hkr hmr)
  clear hkr hmr
  generalize hwr : World.drewN w1 _ = wr
  have HKR := Lib.hid (show Kp w wr from by rw [← hwr]; exact HX.out.1 _)
  have HMR := Lib.hid (show MB wr gg m a from by rw [← hwr]; exact HX.out.2 _)
  obtain ⟨ps, hps⟩ : ∃ ps : List MP, ps = [] := ⟨_, rfl⟩
  have HO := Lib.hid (show MOwn w.heap.size wr (.slice none 0 0) ps from by rw [hps]; exact MOwn.nil _ _)
  have HPS := Lib.hid (show ps.map (·.1) = abR S m from by rw [hps, HAB.out]; rfl)
  have HPL := Lib.hid (show ps.length = 0 from by rw [hps]; rfl)
  clear hps hwr HX HAB HM1 HK1 HEP1 HUN1 d5 d1
  have d1 := HMR.out.cell 1 (.int .i64 m.frm) rfl
  have d3 := HMR.out.cell 3 (.int .i64 m.epoch) rfl
  have d4 := HMR.out.cell 4 (.int .i64 m.tick) rfl
  obtain ⟨e4, e2⟩ := HC4.out wr HKR.out
  rw [HFRM.out] at d1
  have HHAS1 := Lib.hid (fun i => HHAS.out (wr.drewN i) (HKR.out.drewN i))
  have HLO1 := Lib.hid (fun i => HLO.out (wr.drewN i) (HKR.out.drewN i))
  rw [HFRM.out] at HHAS1 HLO1
  cases t3 : hasN S.mem fr with
  | false =>
   have HGN := Lib.hid (show (hasN S.mem m.frm && !(losesB S.und m.frm)) = false from by rw [HFRM.out, t3]; rfl)
   have hne := HRN.out
   rw [HGN.out] at hne
   obtain ⟨me, hme⟩ : ∃ me, m.epoch = me := ⟨_, rfl⟩
   have HME := Lib.hid hme
   rw [hme] at hne
   have HNE := Lib.hid hne
   clear hne hme
   rw [t3] at HHAS1
   go_wp2_with fail
   go_quiet ((first | (go_at_call 66; exact Calls.quiet_of_same ((HHAS1.out _).mono fun _ _ h => ⟨h.1, h.2.symm⟩))))
   go_upto_region 9 with fail
   have hkr := fun i => HKR.out.drewN i
   have hmr := fun i => HMR.out.kp ((Keeps.refl (fun _ => True) wr).drewN i)
   have hor := fun i => HO.out.keep ((Keeps.refl (fun _ => True) wr).drewN i)
   have HX := Lib.hid (And.intro hkr (And.intro hmr hor))
   clear hkr hmr hor d1 d3 d4
   generalize hwq : World.drewN wr _ = wq
   have HKQ := Lib.hid (show Kp w wq from by rw [← hwq]; exact HX.out.1 _)
   have HMQ := Lib.hid (show MB wq gg m a from by rw [← hwq]; exact HX.out.2.1 _)
   have HOQ := Lib.hid (show MOwn w.heap.size wq (Value.slice none 0 0) ps from by rw [← hwq]; exact HX.out.2.2 _)
   have d1 := HMQ.out.cell 1 (.int .i64 m.frm) rfl
   have d3 := HMQ.out.cell 3 (.int .i64 m.epoch) rfl
   rw [HFRM.out] at d1
   rw [HME.out] at d3
   have HEP3 := Lib.hid (fun i => HEP.out (wq.drewN i) (HKQ.out.drewN i))
   clear hwq HX
   by_cases u1 : me < S.epoch
   ·have HRE := Lib.hid (show renewC S n m = (abR S m ++ [tellM 11 m.frm S.epoch 0 S.mem], S) from by rw [HNE.out]; simp [u1])
    have u1' : decide (me < S.epoch) = true := decide_eq_true u1
    clear u1 e4 e2 HGN HHAS1 HLO1
    go_wp2_with fail
    go_quiet ((first | (go_at_call 16; exact Calls.quiet_of_same ((HEP3.out _).mono fun _ _ h => ⟨h.1, h.2.symm⟩))))
    go_wp2_with fail
    have hkd := fun i => HKQ.out.drewN i
    have htl := fun i => HTL.out (wq.drewN i) (hkd i)
    rw [HFRM.out] at htl
    refine (show Calls _ _ _ _ _ from htl _).mono ?_
    rintro e w3 ⟨a3, rfl, hin3, hk3⟩
    obtain ⟨vT, hvT⟩ : ∃ v, msV (tellM 11 fr S.epoch 0 S.mem) a3 = v := ⟨_, rfl⟩
    have HVT := Lib.hid hvT
    have hkr3 : Kp wq w3 := ((Keeps.refl (fun _ => True) wq).drewN _).trans hk3
    have HIN3 := Lib.hid (show MsIn w3 (tellM 11 fr S.epoch 0 S.mem) a3 (fun b => w.heap.size ≤ b ∧ b < w3.heap.size ∧ (Value.slice none 0 0).ownBlock ≠ some b) from hin3.mono fun b _ hb => ⟨Nat.le_trans HKQ.out.size hb.1, hb.2, fun e => by have := (HOQ.out.lt b e).2; have := hb.1; change wq.heap.size ≤ b at this; omega⟩)
    have HO3 := Lib.hid (HOQ.out.keep hkr3)
    have HK3 := Lib.hid (HKQ.out.trans hkr3)
    have hsz := HK3.out.size
    rw [hvT]
    clear hin3 hk3 hkr3 hvT hkd htl d1 d3 u1'
    go_wp2_with (first
     | (refine list_slice1 rfl (.tmp 69) rfl _ _ HVT.out.symm ?_; intro w4 hb3 hk3 hs3)
     | (at_builtin; refine msg_elem.list_append rfl (.tmp 65) (.tmp 70) _ rfl rfl (hk3.own HO3.out.own fun _ _ => trivial) rfl (msRow_src (c := 1) hb3.row) ?c3 ?c4 ?c5 ?_))
    case c3 => have := HPL.out; unfold maxLen; show ps.length + 1 ≤ _; omega
    case c4 => have := HPL.out; show (ps.length + 1) * 256 ≤ _; omega
    case c5 => omega
    intro v5 w5 ho5 hg5 hb5
    have hO5 := (HO3.out.keep hk3).app ((HIN3.out.keep (hk3.mono fun _ _ _ => trivial)).mono fun b _ hb => ⟨hb.1, Nat.lt_of_lt_of_le hb.2.1 hk3.size, hb.2.2⟩) ho5 hg5 (by rw [hs3]; exact hb5)
    have hk5 : Kp w w5 := (HK3.out.trans hk3).grown hg5 fun b hb => (HO3.out.lt b hb).1
    have HFIN := Lib.hid (show OutP W w p c ck F n (k + 1) S (abR S m ++ [tellM 11 m.frm S.epoch 0 S.mem]) v5 w5 from HH.out.same hk5 (by
     have := hO5.out
     rw [List.map_append, HPS.out] at this
     rw [HFRM.out]
     exact this) (Nat.le_succ k) HHK.out)
    clear ho5 hg5 hb5 hO5 hk5 hb3 hk3 hs3
    go_wp2_with fail
    go_ret
    exact ⟨_, rfl, by rw [HRE.out]; exact HFIN.out⟩
   ·have HRE := Lib.hid (show renewC S n m = (abR S m, S) from by rw [HNE.out]; simp [u1])
    have u1' : decide (me < S.epoch) = false := decide_eq_false u1
    clear u1 e4 e2 HGN HHAS1 HLO1
    go_wp2_with fail
    go_quiet ((first | (go_at_call 16; exact Calls.quiet_of_same ((HEP3.out _).mono fun _ _ h => ⟨h.1, h.2.symm⟩))))
    have HFIN := Lib.hid (fun i => (show OutP W w p c ck F n (k + 1) S (abR S m) (Value.slice none 0 0) (wq.drewN i) from HH.out.same (HKQ.out.drewN i) (by
     have := (HOQ.out.keep ((Keeps.refl (fun _ => True) wq).drewN i)).out
     rw [HPS.out] at this
     exact this) (Nat.le_succ k) HHK.out))
    go_wp2_with fail
    go_ret
    exact ⟨_, rfl, by rw [HRE.out]; exact HFIN.out _⟩
  | true =>
   cases t4 : losesB S.und fr with
   | true =>
    have HGN := Lib.hid (show (hasN S.mem m.frm && !(losesB S.und m.frm)) = false from by rw [HFRM.out, t3, t4]; rfl)
    have hne := HRN.out
    rw [HGN.out] at hne
    obtain ⟨me, hme⟩ : ∃ me, m.epoch = me := ⟨_, rfl⟩
    have HME := Lib.hid hme
    rw [hme] at hne
    have HNE := Lib.hid hne
    clear hne hme
    rw [t3] at HHAS1
    rw [t4] at HLO1
    go_wp2_with fail
    go_quiet ((first | (go_at_call 66; exact Calls.quiet_of_same ((HHAS1.out _).mono fun _ _ h => ⟨h.1, h.2.symm⟩)) | (go_at_call 67; exact Calls.quiet_of_same ((HLO1.out _).mono fun _ _ h => ⟨h.1, h.2.symm⟩))))
    go_upto_region 9 with fail
    have hkr := fun i => HKR.out.drewN i
    have hmr := fun i => HMR.out.kp ((Keeps.refl (fun _ => True) wr).drewN i)
    have hor := fun i => HO.out.keep ((Keeps.refl (fun _ => True) wr).drewN i)
    have HX := Lib.hid (And.intro hkr (And.intro hmr hor))
    clear hkr hmr hor d1 d3 d4
    generalize hwq : World.drewN wr _ = wq
    have HKQ := Lib.hid (show Kp w wq from by rw [← hwq]; exact HX.out.1 _)
    have HMQ := Lib.hid (show MB wq gg m a from by rw [← hwq]; exact HX.out.2.1 _)
    have HOQ := Lib.hid (show MOwn w.heap.size wq (Value.slice none 0 0) ps from by rw [← hwq]; exact HX.out.2.2 _)
    have d1 := HMQ.out.cell 1 (.int .i64 m.frm) rfl
    have d3 := HMQ.out.cell 3 (.int .i64 m.epoch) rfl
    rw [HFRM.out] at d1
    rw [HME.out] at d3
    have HEP3 := Lib.hid (fun i => HEP.out (wq.drewN i) (HKQ.out.drewN i))
    clear hwq HX
    by_cases u1 : me < S.epoch
    ·have HRE := Lib.hid (show renewC S n m = (abR S m ++ [tellM 11 m.frm S.epoch 0 S.mem], S) from by rw [HNE.out]; simp [u1])
     have u1' : decide (me < S.epoch) = true := decide_eq_true u1
     clear u1 e4 e2 HGN HHAS1 HLO1
     go_wp2_with fail
     go_quiet ((first | (go_at_call 16; exact Calls.quiet_of_same ((HEP3.out _).mono fun _ _ h => ⟨h.1, h.2.symm⟩))))
     go_wp2_with fail
     have hkd := fun i => HKQ.out.drewN i
     have htl := fun i => HTL.out (wq.drewN i) (hkd i)
     rw [HFRM.out] at htl
     refine (show Calls _ _ _ _ _ from htl _).mono ?_
     rintro e w3 ⟨a3, rfl, hin3, hk3⟩
     obtain ⟨vT, hvT⟩ : ∃ v, msV (tellM 11 fr S.epoch 0 S.mem) a3 = v := ⟨_, rfl⟩
     have HVT := Lib.hid hvT
     have hkr3 : Kp wq w3 := ((Keeps.refl (fun _ => True) wq).drewN _).trans hk3
     have HIN3 := Lib.hid (show MsIn w3 (tellM 11 fr S.epoch 0 S.mem) a3 (fun b => w.heap.size ≤ b ∧ b < w3.heap.size ∧ (Value.slice none 0 0).ownBlock ≠ some b) from hin3.mono fun b _ hb => ⟨Nat.le_trans HKQ.out.size hb.1, hb.2, fun e => by have := (HOQ.out.lt b e).2; have := hb.1; change wq.heap.size ≤ b at this; omega⟩)
     have HO3 := Lib.hid (HOQ.out.keep hkr3)
     have HK3 := Lib.hid (HKQ.out.trans hkr3)
     have hsz := HK3.out.size
     rw [hvT]
     clear hin3 hk3 hkr3 hvT hkd htl d1 d3 u1'
     go_wp2_with (first
      | (refine list_slice1 rfl (.tmp 69) rfl _ _ HVT.out.symm ?_; intro w4 hb3 hk3 hs3)
      | (at_builtin; refine msg_elem.list_append rfl (.tmp 65) (.tmp 70) _ rfl rfl (hk3.own HO3.out.own fun _ _ => trivial) rfl (msRow_src (c := 1) hb3.row) ?c3 ?c4 ?c5 ?_))
     case c3 => have := HPL.out; unfold maxLen; show ps.length + 1 ≤ _; omega
     case c4 => have := HPL.out; show (ps.length + 1) * 256 ≤ _; omega
     case c5 => omega
     intro v5 w5 ho5 hg5 hb5
     have hO5 := (HO3.out.keep hk3).app ((HIN3.out.keep (hk3.mono fun _ _ _ => trivial)).mono fun b _ hb => ⟨hb.1, Nat.lt_of_lt_of_le hb.2.1 hk3.size, hb.2.2⟩) ho5 hg5 (by rw [hs3]; exact hb5)
     have hk5 : Kp w w5 := (HK3.out.trans hk3).grown hg5 fun b hb => (HO3.out.lt b hb).1
     have HFIN := Lib.hid (show OutP W w p c ck F n (k + 1) S (abR S m ++ [tellM 11 m.frm S.epoch 0 S.mem]) v5 w5 from HH.out.same hk5 (by
      have := hO5.out
      rw [List.map_append, HPS.out] at this
      rw [HFRM.out]
      exact this) (Nat.le_succ k) HHK.out)
     clear ho5 hg5 hb5 hO5 hk5 hb3 hk3 hs3
     go_wp2_with fail
     go_ret
     exact ⟨_, rfl, by rw [HRE.out]; exact HFIN.out⟩
    ·have HRE := Lib.hid (show renewC S n m = (abR S m, S) from by rw [HNE.out]; simp [u1])
     have u1' : decide (me < S.epoch) = false := decide_eq_false u1
     clear u1 e4 e2 HGN HHAS1 HLO1
     go_wp2_with fail
     go_quiet ((first | (go_at_call 16; exact Calls.quiet_of_same ((HEP3.out _).mono fun _ _ h => ⟨h.1, h.2.symm⟩))))
     have HFIN := Lib.hid (fun i => (show OutP W w p c ck F n (k + 1) S (abR S m) (Value.slice none 0 0) (wq.drewN i) from HH.out.same (HKQ.out.drewN i) (by
      have := (HOQ.out.keep ((Keeps.refl (fun _ => True) wq).drewN i)).out
      rw [HPS.out] at this
      exact this) (Nat.le_succ k) HHK.out))
     go_wp2_with fail
     go_ret
     exact ⟨_, rfl, by rw [HRE.out]; exact HFIN.out _⟩
   | false =>
    have HRE := Lib.hid (show renewC S n m = (abR S m ++ [tellM 2 m.frm S.epoch m.tick S.mem], ⟨S.epoch, S.mem, S.top, S.und, setO S.over m.frm.toNat (n + 40)⟩) from by rw [HRN.out, HFRM.out, t3, t4]; rfl)
    have hrng := HRNG.out (by rw [HFRM.out]; exact t3)
    rw [HFRM.out] at hrng
    obtain ⟨fi, hfi⟩ : ∃ fi : Nat, fr = (fi : Int) := ⟨fr.toNat, by omega⟩
    have hfi5 : fi ≤ 5 := by omega
    have HFI := Lib.hid (show m.frm.toNat = fi from by rw [HFRM.out]; omega)
    have HGD := Lib.hid (fun i => HGR.out (wr.drewN i) fi hfi5 (by rw [HFRM.out]; exact hfi) (HKR.out.drewN i))
    rw [HFRM.out] at HGD
    clear hrng hfi hfi5
    rw [t3] at HHAS1
    rw [t4] at HLO1
    go_wp2_with fail
    go_quiet ((first | (go_at_call 66; exact Calls.quiet_of_same ((HHAS1.out _).mono fun _ _ h => ⟨h.1, h.2.symm⟩)) | (go_at_call 67; exact Calls.quiet_of_same ((HLO1.out _).mono fun _ _ h => ⟨h.1, h.2.symm⟩))))
    go_wp2_with fail
    have hsame := fun i => (HKR.out.drewN i)
    refine (show Calls _ _ _ _ _ from HGD.out _).mono ?_
    rintro e w3 ⟨rfl, hb3, hk3⟩
    have hcF : F c := HF.out c (.inr (.inr (.inr (.inl rfl))))
    have hk03 : Keeps (fun b => b ≠ c) wr w3 := ((Keeps.refl (fun b => b ≠ c) wr).drewN _).trans hk3
    have HK03 := Lib.hid (show Keeps (fun b => b ≠ c) w w3 from (HKR.out.mono fun _ _ _ => trivial).trans hk03)
    have hin3 : CtIn W w3 p q c Fd Fs ck g R s st n k ⟨S.epoch, S.mem, S.top, S.und, setO S.over fi (n + 40)⟩ := by
     have hin := HIN.out
     obtain ⟨r', hb', hrg'⟩ := hin.bd.ex
     have hkR : Keeps (fun b => b ≠ c) w w3 := HK03.out
     have e2' : r' = r := by
      have h1 := hb'.c2
      have h2 := HB.out.c2
      rw [h1] at h2
      injection h2 with h2
      injection h2 with h2
      injection h2 with h2
      injection h2 with h2
     subst e2'
     exact hin.own (hkR.mono fun b _ hb e => hb (.inl e)) ⟨over_ok hin.bd.ok _, ⟨_, hb3, hrg'.keep (hkR.mono fun b _ hb e => hin.bd.cR (e ▸ hb))⟩, hin.bd.und.keep hkR (fun b hb e => by
      subst e
      rcases hb with hb | hb
      ·exact (hin.bd.gR _ hb).2 rfl
      ·exact hin.bd.cR hb), fun b hb => Nat.lt_of_lt_of_le (hin.bd.lt b hb) hkR.size, hin.bd.cR, hin.bd.gR⟩ (fun b hb => .inl hb) hin.txt
    have HI3 := Lib.hid hin3
    have hcw : c < w.heap.size := HIN.out.lt c (.inr (.inr (.inr (.inl rfl))))
    have HO3 := Lib.hid (show MOwn w.heap.size w3 (Value.slice none 0 0) ps from ⟨hk03.own HO.out.own fun b hb e => by have := (HO.out.lt b hb).1; omega, fun y hy => ((HO.out.ls y hy).keep (hk03.mono fun b _ hb e => by have := hb.1; omega)).mono fun b _ hb => ⟨hb.1, Nat.lt_of_lt_of_le hb.2.1 hk03.size, hb.2.2⟩⟩)
    have HM3 := Lib.hid (HMR.out.keep hk03 (show gg ≠ c from by have := HG.out; omega))
    have HTL3 := Lib.hid (hin3.bd.tell 2 fr)
    have d1' := HM3.out.cell 1 (.int .i64 m.frm) rfl
    rw [HFRM.out] at d1'
    have HSZ3 := Lib.hid (show w.heap.size ≤ w3.heap.size from HK03.out.size)
    clear hb3 hk3 hcF hk03 hin3 hsame d1 d3 d4 e2 e4 HHAS1 HLO1 HGD
    go_wp2_with fail
    refine (show Calls _ _ _ _ _ from HTL3.out).mono ?_
    rintro e w4 ⟨a4, rfl, hin4, hk4⟩
    obtain ⟨vT, hvT⟩ : ∃ v, msV (tellM 2 fr S.epoch 0 S.mem) a4 = v := ⟨_, rfl⟩
    have HVT := Lib.hid hvT
    have HIN4 := Lib.hid hin4
    have HK4 := Lib.hid hk4
    rw [show msV (tellM 2 fr S.epoch 0 S.mem) a4 = vT from hvT]
    clear hin4 hk4 hvT d1'
    go_upto_region 7 with (first
     | (refine list_allocM rfl rfl ?_; intro w5 hb5 hk5 hs5)
     | (refine list_storeM rfl (.tmp 6) (.tmp 52) rfl _ ms0 (tellM 2 fr S.epoch 0 S.mem) msA0 a4 hb5 rfl HVT.out.symm ?_; intro w6 hb6 hk6 hs6))
    obtain ⟨g6, hg6⟩ : ∃ g6, w4.heap.size = g6 := ⟨_, rfl⟩
    rw [hg6] at hb5 hb6 hk6 hs5 ⊢
    have hk46 : Kp w4 w6 := kp_behind hk5 hk6 (by omega)
    have HK46 := Lib.hid hk46
    have d4 := (HM3.out.kp (HK4.out.trans hk46)).cell 4 (.int .i64 m.tick) rfl
    obtain ⟨tk, htk⟩ : ∃ tk, m.tick = tk := ⟨_, rfl⟩
    rw [htk] at d4
    have c6 := hb6.cell 4 (.int .i64 0) rfl
    have f6 := hb6.fz 4
    have HTK := Lib.hid htk
    have HSET := Lib.hid (show ∀ w7, w7 = w6.setCell ⟨g6, 4, none⟩ (.int .i64 tk) → MB w7 g6 (tellM 2 fr S.epoch tk S.mem) a4 ∧ Keeps (fun b => b ≠ g6) w6 w7 ∧ w7.heap.size = w6.heap.size from by
     rintro w7 rfl
     exact ⟨tell_tick hb6 tk, (Keeps.refl _ w6).setCell (p := ⟨g6, 4, none⟩) (.inr (fun h => h rfl)) _, by simp [World.setCell]⟩)
    have HG6 := Lib.hid hg6
    clear hb5 hk5 hb6 hk6 hk46 hs6 htk hg6
    go_upto_region 8 with fail
    obtain ⟨b1, b2, b3⟩ := HSET.out _ rfl
    generalize World.setCell w6 _ _ = w7 at b1 b2 b3 ⊢
    obtain ⟨vG, hvG⟩ : ∃ v, msV (tellM 2 fr S.epoch tk S.mem) a4 = v := ⟨_, rfl⟩
    have HVG := Lib.hid hvG
    have hk47 : Kp w4 w7 := kp_behind HK46.out b2 (by have := HG6.out; omega)
    have HB7 := Lib.hid b1
    have hk37 : Kp w3 w7 := HK4.out.trans hk47
    have HK37 := Lib.hid hk37
    have HO7 := Lib.hid (HO3.out.keep hk37)
    have HIN7 := Lib.hid (show MsIn w7 (tellM 2 fr S.epoch tk S.mem) a4 (fun b => w.heap.size ≤ b ∧ b < w7.heap.size ∧ (Value.slice none 0 0).ownBlock ≠ some b) from by
     have h0 : MsIn w4 (tellM 2 fr S.epoch tk S.mem) a4 (fun b => w3.heap.size ≤ b ∧ b < w4.heap.size) := ⟨HIN4.out.its, HIN4.out.mks, HIN4.out.mem, HIN4.out.old, HIN4.out.il, HIN4.out.ml, HIN4.out.bl, HIN4.out.ol⟩
     exact (h0.keep (hk47.mono fun _ _ _ => trivial)).mono fun b _ hb => ⟨Nat.le_trans HSZ3.out hb.1, Nat.lt_of_lt_of_le hb.2 hk47.size, fun e => by have := (HO3.out.lt b e).2; have := hb.1; omega⟩)
    have hsz7 : w.heap.size ≤ w7.heap.size := Nat.le_trans HSZ3.out hk37.size
    clear b1 b2 b3 hvG hk47 hk37 HSET HK46 HM3 d4 c6 f6 HK4 HIN4
    go_wp2_with (first
     | (refine list_loadM rfl (.tmp 6) rfl g6 _ _ HB7.out rfl vG HVG.out ?_)
     | (refine list_slice1 rfl (.tmp 57) rfl _ _ HVG.out.symm ?_; intro w8 hb8 hk8 hs8)
     | (at_builtin; refine msg_elem.list_append rfl (.tmp 56) (.tmp 58) _ rfl rfl (hk8.own HO7.out.own fun _ _ => trivial) rfl (msRow_src (c := 1) hb8.row) ?c3 ?c4 ?c5 ?_))
    case c3 => have := HPL.out; unfold maxLen; show ps.length + 1 ≤ _; omega
    case c4 => have := HPL.out; show (ps.length + 1) * 256 ≤ _; omega
    case c5 => omega
    intro v9 w9 ho9 hg9 hb9
    have hO9 := (HO7.out.keep hk8).app ((HIN7.out.keep (hk8.mono fun _ _ _ => trivial)).mono fun b _ hb => ⟨hb.1, Nat.lt_of_lt_of_le hb.2.1 hk8.size, hb.2.2⟩) ho9 hg9 (by rw [hs8]; exact hb9)
    have hlt9 := HO7.out.lt
    have HFIN := Lib.hid (show OutP W w p c ck F n (k + 1) ⟨S.epoch, S.mem, S.top, S.und, setO S.over m.frm.toNat (n + 40)⟩ (abR S m ++ [tellM 2 m.frm S.epoch m.tick S.mem]) v9 w9 from by
     have hkk : Keeps (fun b => b < w.heap.size) w3 w9 := ((HK37.out.mono fun _ _ _ => trivial : Keeps (fun b => b < w.heap.size) w3 w7).trans (hk8.mono fun _ _ _ => trivial)).trans (Keeps.of_grown hg9 fun b hb _ hh => by have := (hlt9 b hb).1; omega)
     have hltI := HIN.out.lt
     have hW9 : Kp W w9 := ((HI3.out.kpW.mono fun _ _ _ => trivial : Keeps (fun b => b < W.heap.size) W w3).trans (hkk.mono fun b _ hb => Nat.lt_of_lt_of_le hb HIN.out.kpW.size)).mono fun b hb _ => hb
     have hi9 := HI3.out.keep (hkk.mono fun b _ hb => hltI b hb) hW9
     rw [HFI.out]
     refine ⟨F, w.heap.size, CtAt.more ⟨q, Fd, Fs, g, R, s, st, hi9, HF.out, fun b hb => ⟨(HFR.out b hb).1, Nat.lt_of_lt_of_le (HFR.out b hb).2 (Nat.le_trans HSZ3.out hkk.size)⟩⟩ (k + 1) (Nat.le_succ k) HHK.out, fun b hb => ⟨.inl hb, (HFR.out b hb).2⟩, Nat.le_refl _, ?_, ?_⟩
     ·have := hO9.out
      rw [List.map_append, HPS.out] at this
      rw [HFRM.out, HTK.out]
      exact this
     ·have hkF : Keeps (fun b => ¬ F b) w w3 := HK03.out.mono fun b _ hb e => hb (e ▸ HF.out c (.inr (.inr (.inr (.inl rfl)))))
      exact ⟨hkk.os.trans hkF.os, hkk.tape.trans hkF.tape, hkk.output.trans hkF.output, Nat.le_trans hkF.size hkk.size, fun b hb hl => (hkk.block b hl (Nat.lt_of_lt_of_le hl hkF.size)).trans (hkF.block b hb hl)⟩)
    clear ho9 hg9 hb9 hO9 hlt9 hb8 hk8 hs8 HI3 HK37 HK03 HO7 HIN7
    go_wp2_with fail
    go_ret
    exact ⟨_, rfl, by rw [HRE.out]; exact HFIN.out⟩
 | true =>
  cases t2 : (sq != S.underZ) with
  | false =>
   have HAB := Lib.hid (show abR S m = [] from by unfold abR; rw [if_neg (by rw [HSQ.out]; simp at *; intro _; exact t2)])
   go_wp2_with fail
   go_quiet ((first | (go_at_call 16; exact Calls.quiet_of_same ((HEP1.out _).mono fun _ _ h => ⟨h.1, h.2.symm⟩)) | (go_at_call 17; exact Calls.quiet_of_same ((HUN1.out _).mono fun _ _ h => ⟨h.1, h.2.symm⟩))))
   go_upto_region 4 with fail
   have hkr := fun i => HK1.out.drewN i
   have hmr := fun i => HM1.out.kp ((Keeps.refl (fun _ => True) w1).drewN i)
   have HX := Lib.hid (And.intro hkr hmr)
   clear hkr hmr
   generalize hwr : World.drewN w1 _ = wr
   have HKR := Lib.hid (show Kp w wr from by rw [← hwr]; exact HX.out.1 _)
   have HMR := Lib.hid (show MB wr gg m a from by rw [← hwr]; exact HX.out.2 _)
   obtain ⟨ps, hps⟩ : ∃ ps : List MP, ps = [] := ⟨_, rfl⟩
   have HO := Lib.hid (show MOwn w.heap.size wr (.slice none 0 0) ps from by rw [hps]; exact MOwn.nil _ _)
   have HPS := Lib.hid (show ps.map (·.1) = abR S m from by rw [hps, HAB.out]; rfl)
   have HPL := Lib.hid (show ps.length = 0 from by rw [hps]; rfl)
   clear hps hwr HX HAB HM1 HK1 HEP1 HUN1 d5 d1
   have d1 := HMR.out.cell 1 (.int .i64 m.frm) rfl
   have d3 := HMR.out.cell 3 (.int .i64 m.epoch) rfl
   have d4 := HMR.out.cell 4 (.int .i64 m.tick) rfl
   obtain ⟨e4, e2⟩ := HC4.out wr HKR.out
   rw [HFRM.out] at d1
   have HHAS1 := Lib.hid (fun i => HHAS.out (wr.drewN i) (HKR.out.drewN i))
   have HLO1 := Lib.hid (fun i => HLO.out (wr.drewN i) (HKR.out.drewN i))
   rw [HFRM.out] at HHAS1 HLO1
   cases t3 : hasN S.mem fr with
   | false =>
    have HGN := Lib.hid (show (hasN S.mem m.frm && !(losesB S.und m.frm)) = false from by rw [HFRM.out, t3]; rfl)
    have hne := HRN.out
    rw [HGN.out] at hne
    obtain ⟨me, hme⟩ : ∃ me, m.epoch = me := ⟨_, rfl⟩
    have HME := Lib.hid hme
    rw [hme] at hne
    have HNE := Lib.hid hne
    clear hne hme
    rw [t3] at HHAS1
    go_wp2_with fail
    go_quiet ((first | (go_at_call 66; exact Calls.quiet_of_same ((HHAS1.out _).mono fun _ _ h => ⟨h.1, h.2.symm⟩))))
    go_upto_region 9 with fail
    have hkr := fun i => HKR.out.drewN i
    have hmr := fun i => HMR.out.kp ((Keeps.refl (fun _ => True) wr).drewN i)
    have hor := fun i => HO.out.keep ((Keeps.refl (fun _ => True) wr).drewN i)
    have HX := Lib.hid (And.intro hkr (And.intro hmr hor))
    clear hkr hmr hor d1 d3 d4
    generalize hwq : World.drewN wr _ = wq
    have HKQ := Lib.hid (show Kp w wq from by rw [← hwq]; exact HX.out.1 _)
    have HMQ := Lib.hid (show MB wq gg m a from by rw [← hwq]; exact HX.out.2.1 _)
    have HOQ := Lib.hid (show MOwn w.heap.size wq (Value.slice none 0 0) ps from by rw [← hwq]; exact HX.out.2.2 _)
    have d1 := HMQ.out.cell 1 (.int .i64 m.frm) rfl
    have d3 := HMQ.out.cell 3 (.int .i64 m.epoch) rfl
    rw [HFRM.out] at d1
    rw [HME.out] at d3
    have HEP3 := Lib.hid (fun i => HEP.out (wq.drewN i) (HKQ.out.drewN i))
    clear hwq HX
    by_cases u1 : me < S.epoch
    ·have HRE := Lib.hid (show renewC S n m = (abR S m ++ [tellM 11 m.frm S.epoch 0 S.mem], S) from by rw [HNE.out]; simp [u1])
     have u1' : decide (me < S.epoch) = true := decide_eq_true u1
     clear u1 e4 e2 HGN HHAS1 HLO1
     go_wp2_with fail
     go_quiet ((first | (go_at_call 16; exact Calls.quiet_of_same ((HEP3.out _).mono fun _ _ h => ⟨h.1, h.2.symm⟩))))
     go_wp2_with fail
     have hkd := fun i => HKQ.out.drewN i
     have htl := fun i => HTL.out (wq.drewN i) (hkd i)
     rw [HFRM.out] at htl
     refine (show Calls _ _ _ _ _ from htl _).mono ?_
     rintro e w3 ⟨a3, rfl, hin3, hk3⟩
     obtain ⟨vT, hvT⟩ : ∃ v, msV (tellM 11 fr S.epoch 0 S.mem) a3 = v := ⟨_, rfl⟩
     have HVT := Lib.hid hvT
     have hkr3 : Kp wq w3 := ((Keeps.refl (fun _ => True) wq).drewN _).trans hk3
     have HIN3 := Lib.hid (show MsIn w3 (tellM 11 fr S.epoch 0 S.mem) a3 (fun b => w.heap.size ≤ b ∧ b < w3.heap.size ∧ (Value.slice none 0 0).ownBlock ≠ some b) from hin3.mono fun b _ hb => ⟨Nat.le_trans HKQ.out.size hb.1, hb.2, fun e => by have := (HOQ.out.lt b e).2; have := hb.1; change wq.heap.size ≤ b at this; omega⟩)
     have HO3 := Lib.hid (HOQ.out.keep hkr3)
     have HK3 := Lib.hid (HKQ.out.trans hkr3)
     have hsz := HK3.out.size
     rw [hvT]
     clear hin3 hk3 hkr3 hvT hkd htl d1 d3 u1'
     go_wp2_with (first
      | (refine list_slice1 rfl (.tmp 69) rfl _ _ HVT.out.symm ?_; intro w4 hb3 hk3 hs3)
      | (at_builtin; refine msg_elem.list_append rfl (.tmp 65) (.tmp 70) _ rfl rfl (hk3.own HO3.out.own fun _ _ => trivial) rfl (msRow_src (c := 1) hb3.row) ?c3 ?c4 ?c5 ?_))
     case c3 => have := HPL.out; unfold maxLen; show ps.length + 1 ≤ _; omega
     case c4 => have := HPL.out; show (ps.length + 1) * 256 ≤ _; omega
     case c5 => omega
     intro v5 w5 ho5 hg5 hb5
     have hO5 := (HO3.out.keep hk3).app ((HIN3.out.keep (hk3.mono fun _ _ _ => trivial)).mono fun b _ hb => ⟨hb.1, Nat.lt_of_lt_of_le hb.2.1 hk3.size, hb.2.2⟩) ho5 hg5 (by rw [hs3]; exact hb5)
     have hk5 : Kp w w5 := (HK3.out.trans hk3).grown hg5 fun b hb => (HO3.out.lt b hb).1
     have HFIN := Lib.hid (show OutP W w p c ck F n (k + 1) S (abR S m ++ [tellM 11 m.frm S.epoch 0 S.mem]) v5 w5 from HH.out.same hk5 (by
      have := hO5.out
      rw [List.map_append, HPS.out] at this
      rw [HFRM.out]
      exact this) (Nat.le_succ k) HHK.out)
     clear ho5 hg5 hb5 hO5 hk5 hb3 hk3 hs3
     go_wp2_with fail
     go_ret
     exact ⟨_, rfl, by rw [HRE.out]; exact HFIN.out⟩
    ·have HRE := Lib.hid (show renewC S n m = (abR S m, S) from by rw [HNE.out]; simp [u1])
     have u1' : decide (me < S.epoch) = false := decide_eq_false u1
     clear u1 e4 e2 HGN HHAS1 HLO1
     go_wp2_with fail
     go_quiet ((first | (go_at_call 16; exact Calls.quiet_of_same ((HEP3.out _).mono fun _ _ h => ⟨h.1, h.2.symm⟩))))
     have HFIN := Lib.hid (fun i => (show OutP W w p c ck F n (k + 1) S (abR S m) (Value.slice none 0 0) (wq.drewN i) from HH.out.same (HKQ.out.drewN i) (by
      have := (HOQ.out.keep ((Keeps.refl (fun _ => True) wq).drewN i)).out
      rw [HPS.out] at this
      exact this) (Nat.le_succ k) HHK.out))
     go_wp2_with fail
     go_ret
     exact ⟨_, rfl, by rw [HRE.out]; exact HFIN.out _⟩
   | true =>
    cases t4 : losesB S.und fr with
    | true =>
     have HGN := Lib.hid (show (hasN S.mem m.frm && !(losesB S.und m.frm)) = false from by rw [HFRM.out, t3, t4]; rfl)
     have hne := HRN.out
     rw [HGN.out] at hne
     obtain ⟨me, hme⟩ : ∃ me, m.epoch = me := ⟨_, rfl⟩
     have HME := Lib.hid hme
     rw [hme] at hne
     have HNE := Lib.hid hne
     clear hne hme
     rw [t3] at HHAS1
     rw [t4] at HLO1
     go_wp2_with fail
     go_quiet ((first | (go_at_call 66; exact Calls.quiet_of_same ((HHAS1.out _).mono fun _ _ h => ⟨h.1, h.2.symm⟩)) | (go_at_call 67; exact Calls.quiet_of_same ((HLO1.out _).mono fun _ _ h => ⟨h.1, h.2.symm⟩))))
     go_upto_region 9 with fail
     have hkr := fun i => HKR.out.drewN i
     have hmr := fun i => HMR.out.kp ((Keeps.refl (fun _ => True) wr).drewN i)
     have hor := fun i => HO.out.keep ((Keeps.refl (fun _ => True) wr).drewN i)
     have HX := Lib.hid (And.intro hkr (And.intro hmr hor))
     clear hkr hmr hor d1 d3 d4
     generalize hwq : World.drewN wr _ = wq
     have HKQ := Lib.hid (show Kp w wq from by rw [← hwq]; exact HX.out.1 _)
     have HMQ := Lib.hid (show MB wq gg m a from by rw [← hwq]; exact HX.out.2.1 _)
     have HOQ := Lib.hid (show MOwn w.heap.size wq (Value.slice none 0 0) ps from by rw [← hwq]; exact HX.out.2.2 _)
     have d1 := HMQ.out.cell 1 (.int .i64 m.frm) rfl
     have d3 := HMQ.out.cell 3 (.int .i64 m.epoch) rfl
     rw [HFRM.out] at d1
     rw [HME.out] at d3
     have HEP3 := Lib.hid (fun i => HEP.out (wq.drewN i) (HKQ.out.drewN i))
     clear hwq HX
     by_cases u1 : me < S.epoch
     ·have HRE := Lib.hid (show renewC S n m = (abR S m ++ [tellM 11 m.frm S.epoch 0 S.mem], S) from by rw [HNE.out]; simp [u1])
      have u1' : decide (me < S.epoch) = true := decide_eq_true u1
      clear u1 e4 e2 HGN HHAS1 HLO1
      go_wp2_with fail
      go_quiet ((first | (go_at_call 16; exact Calls.quiet_of_same ((HEP3.out _).mono fun _ _ h => ⟨h.1, h.2.symm⟩))))
      go_wp2_with fail
      have hkd := fun i => HKQ.out.drewN i
      have htl := fun i => HTL.out (wq.drewN i) (hkd i)
      rw [HFRM.out] at htl
      refine (show Calls _ _ _ _ _ from htl _).mono ?_
      rintro e w3 ⟨a3, rfl, hin3, hk3⟩
      obtain ⟨vT, hvT⟩ : ∃ v, msV (tellM 11 fr S.epoch 0 S.mem) a3 = v := ⟨_, rfl⟩
      have HVT := Lib.hid hvT
      have hkr3 : Kp wq w3 := ((Keeps.refl (fun _ => True) wq).drewN _).trans hk3
      have HIN3 := Lib.hid (show MsIn w3 (tellM 11 fr S.epoch 0 S.mem) a3 (fun b => w.heap.size ≤ b ∧ b < w3.heap.size ∧ (Value.slice none 0 0).ownBlock ≠ some b) from hin3.mono fun b _ hb => ⟨Nat.le_trans HKQ.out.size hb.1, hb.2, fun e => by have := (HOQ.out.lt b e).2; have := hb.1; change wq.heap.size ≤ b at this; omega⟩)
      have HO3 := Lib.hid (HOQ.out.keep hkr3)
      have HK3 := Lib.hid (HKQ.out.trans hkr3)
      have hsz := HK3.out.size
      rw [hvT]
      clear hin3 hk3 hkr3 hvT hkd htl d1 d3 u1'
      go_wp2_with (first
       | (refine list_slice1 rfl (.tmp 69) rfl _ _ HVT.out.symm ?_; intro w4 hb3 hk3 hs3)
       | (at_builtin; refine msg_elem.list_append rfl (.tmp 65) (.tmp 70) _ rfl rfl (hk3.own HO3.out.own fun _ _ => trivial) rfl (msRow_src (c := 1) hb3.row) ?c3 ?c4 ?c5 ?_))
      case c3 => have := HPL.out; unfold maxLen; show ps.length + 1 ≤ _; omega
      case c4 => have := HPL.out; show (ps.length + 1) * 256 ≤ _; omega
      case c5 => omega
      intro v5 w5 ho5 hg5 hb5
      have hO5 := (HO3.out.keep hk3).app ((HIN3.out.keep (hk3.mono fun _ _ _ => trivial)).mono fun b _ hb => ⟨hb.1, Nat.lt_of_lt_of_le hb.2.1 hk3.size, hb.2.2⟩) ho5 hg5 (by rw [hs3]; exact hb5)
      have hk5 : Kp w w5 := (HK3.out.trans hk3).grown hg5 fun b hb => (HO3.out.lt b hb).1
      have HFIN := Lib.hid (show OutP W w p c ck F n (k + 1) S (abR S m ++ [tellM 11 m.frm S.epoch 0 S.mem]) v5 w5 from HH.out.same hk5 (by
       have := hO5.out
       rw [List.map_append, HPS.out] at this
       rw [HFRM.out]
       exact this) (Nat.le_succ k) HHK.out)
      clear ho5 hg5 hb5 hO5 hk5 hb3 hk3 hs3
      go_wp2_with fail
      go_ret
      exact ⟨_, rfl, by rw [HRE.out]; exact HFIN.out⟩
     ·have HRE := Lib.hid (show renewC S n m = (abR S m, S) from by rw [HNE.out]; simp [u1])
      have u1' : decide (me < S.epoch) = false := decide_eq_false u1
      clear u1 e4 e2 HGN HHAS1 HLO1
      go_wp2_with fail
      go_quiet ((first | (go_at_call 16; exact Calls.quiet_of_same ((HEP3.out _).mono fun _ _ h => ⟨h.1, h.2.symm⟩))))
      have HFIN := Lib.hid (fun i => (show OutP W w p c ck F n (k + 1) S (abR S m) (Value.slice none 0 0) (wq.drewN i) from HH.out.same (HKQ.out.drewN i) (by
       have := (HOQ.out.keep ((Keeps.refl (fun _ => True) wq).drewN i)).out
       rw [HPS.out] at this
       exact this) (Nat.le_succ k) HHK.out))
      go_wp2_with fail
      go_ret
      exact ⟨_, rfl, by rw [HRE.out]; exact HFIN.out _⟩
    | false =>
     have HRE := Lib.hid (show renewC S n m = (abR S m ++ [tellM 2 m.frm S.epoch m.tick S.mem], ⟨S.epoch, S.mem, S.top, S.und, setO S.over m.frm.toNat (n + 40)⟩) from by rw [HRN.out, HFRM.out, t3, t4]; rfl)
     have hrng := HRNG.out (by rw [HFRM.out]; exact t3)
     rw [HFRM.out] at hrng
     obtain ⟨fi, hfi⟩ : ∃ fi : Nat, fr = (fi : Int) := ⟨fr.toNat, by omega⟩
     have hfi5 : fi ≤ 5 := by omega
     have HFI := Lib.hid (show m.frm.toNat = fi from by rw [HFRM.out]; omega)
     have HGD := Lib.hid (fun i => HGR.out (wr.drewN i) fi hfi5 (by rw [HFRM.out]; exact hfi) (HKR.out.drewN i))
     rw [HFRM.out] at HGD
     clear hrng hfi hfi5
     rw [t3] at HHAS1
     rw [t4] at HLO1
     go_wp2_with fail
     go_quiet ((first | (go_at_call 66; exact Calls.quiet_of_same ((HHAS1.out _).mono fun _ _ h => ⟨h.1, h.2.symm⟩)) | (go_at_call 67; exact Calls.quiet_of_same ((HLO1.out _).mono fun _ _ h => ⟨h.1, h.2.symm⟩))))
     go_wp2_with fail
     have hsame := fun i => (HKR.out.drewN i)
     refine (show Calls _ _ _ _ _ from HGD.out _).mono ?_
     rintro e w3 ⟨rfl, hb3, hk3⟩
     have hcF : F c := HF.out c (.inr (.inr (.inr (.inl rfl))))
     have hk03 : Keeps (fun b => b ≠ c) wr w3 := ((Keeps.refl (fun b => b ≠ c) wr).drewN _).trans hk3
     have HK03 := Lib.hid (show Keeps (fun b => b ≠ c) w w3 from (HKR.out.mono fun _ _ _ => trivial).trans hk03)
     have hin3 : CtIn W w3 p q c Fd Fs ck g R s st n k ⟨S.epoch, S.mem, S.top, S.und, setO S.over fi (n + 40)⟩ := by
      have hin := HIN.out
      obtain ⟨r', hb', hrg'⟩ := hin.bd.ex
      have hkR : Keeps (fun b => b ≠ c) w w3 := HK03.out
      have e2' : r' = r := by
       have h1 := hb'.c2
       have h2 := HB.out.c2
       rw [h1] at h2
       injection h2 with h2
       injection h2 with h2
       injection h2 with h2
       injection h2 with h2
      subst e2'
      exact hin.own (hkR.mono fun b _ hb e => hb (.inl e)) ⟨over_ok hin.bd.ok _, ⟨_, hb3, hrg'.keep (hkR.mono fun b _ hb e => hin.bd.cR (e ▸ hb))⟩, hin.bd.und.keep hkR (fun b hb e => by
       subst e
       rcases hb with hb | hb
       ·exact (hin.bd.gR _ hb).2 rfl
       ·exact hin.bd.cR hb), fun b hb => Nat.lt_of_lt_of_le (hin.bd.lt b hb) hkR.size, hin.bd.cR, hin.bd.gR⟩ (fun b hb => .inl hb) hin.txt
     have HI3 := Lib.hid hin3
     have hcw : c < w.heap.size := HIN.out.lt c (.inr (.inr (.inr (.inl rfl))))
     have HO3 := Lib.hid (show MOwn w.heap.size w3 (Value.slice none 0 0) ps from ⟨hk03.own HO.out.own fun b hb e => by have := (HO.out.lt b hb).1; omega, fun y hy => ((HO.out.ls y hy).keep (hk03.mono fun b _ hb e => by have := hb.1; omega)).mono fun b _ hb => ⟨hb.1, Nat.lt_of_lt_of_le hb.2.1 hk03.size, hb.2.2⟩⟩)
     have HM3 := Lib.hid (HMR.out.keep hk03 (show gg ≠ c from by have := HG.out; omega))
     have HTL3 := Lib.hid (hin3.bd.tell 2 fr)
     have d1' := HM3.out.cell 1 (.int .i64 m.frm) rfl
     rw [HFRM.out] at d1'
     have HSZ3 := Lib.hid (show w.heap.size ≤ w3.heap.size from HK03.out.size)
     clear hb3 hk3 hcF hk03 hin3 hsame d1 d3 d4 e2 e4 HHAS1 HLO1 HGD
     go_wp2_with fail
     refine (show Calls _ _ _ _ _ from HTL3.out).mono ?_
     rintro e w4 ⟨a4, rfl, hin4, hk4⟩
     obtain ⟨vT, hvT⟩ : ∃ v, msV (tellM 2 fr S.epoch 0 S.mem) a4 = v := ⟨_, rfl⟩
     have HVT := Lib.hid hvT
     have HIN4 := Lib.hid hin4
     have HK4 := Lib.hid hk4
     rw [show msV (tellM 2 fr S.epoch 0 S.mem) a4 = vT from hvT]
     clear hin4 hk4 hvT d1'
     go_upto_region 7 with (first
      | (refine list_allocM rfl rfl ?_; intro w5 hb5 hk5 hs5)
      | (refine list_storeM rfl (.tmp 6) (.tmp 52) rfl _ ms0 (tellM 2 fr S.epoch 0 S.mem) msA0 a4 hb5 rfl HVT.out.symm ?_; intro w6 hb6 hk6 hs6))
     obtain ⟨g6, hg6⟩ : ∃ g6, w4.heap.size = g6 := ⟨_, rfl⟩
     rw [hg6] at hb5 hb6 hk6 hs5 ⊢
     have hk46 : Kp w4 w6 := kp_behind hk5 hk6 (by omega)
     have HK46 := Lib.hid hk46
     have d4 := (HM3.out.kp (HK4.out.trans hk46)).cell 4 (.int .i64 m.tick) rfl
     obtain ⟨tk, htk⟩ : ∃ tk, m.tick = tk := ⟨_, rfl⟩
     rw [htk] at d4
     have c6 := hb6.cell 4 (.int .i64 0) rfl
     have f6 := hb6.fz 4
     have HTK := Lib.hid htk
     have HSET := Lib.hid (show ∀ w7, w7 = w6.setCell ⟨g6, 4, none⟩ (.int .i64 tk) → MB w7 g6 (tellM 2 fr S.epoch tk S.mem) a4 ∧ Keeps (fun b => b ≠ g6) w6 w7 ∧ w7.heap.size = w6.heap.size from by
      rintro w7 rfl
      exact ⟨tell_tick hb6 tk, (Keeps.refl _ w6).setCell (p := ⟨g6, 4, none⟩) (.inr (fun h => h rfl)) _, by simp [World.setCell]⟩)
     have HG6 := Lib.hid hg6
     clear hb5 hk5 hb6 hk6 hk46 hs6 htk hg6
     go_upto_region 8 with fail
     obtain ⟨b1, b2, b3⟩ := HSET.out _ rfl
     generalize World.setCell w6 _ _ = w7 at b1 b2 b3 ⊢
     obtain ⟨vG, hvG⟩ : ∃ v, msV (tellM 2 fr S.epoch tk S.mem) a4 = v := ⟨_, rfl⟩
     have HVG := Lib.hid hvG
     have hk47 : Kp w4 w7 := kp_behind HK46.out b2 (by have := HG6.out; omega)
     have HB7 := Lib.hid b1
     have hk37 : Kp w3 w7 := HK4.out.trans hk47
     have HK37 := Lib.hid hk37
     have HO7 := Lib.hid (HO3.out.keep hk37)
     have HIN7 := Lib.hid (show MsIn w7 (tellM 2 fr S.epoch tk S.mem) a4 (fun b => w.heap.size ≤ b ∧ b < w7.heap.size ∧ (Value.slice none 0 0).ownBlock ≠ some b) from by
      have h0 : MsIn w4 (tellM 2 fr S.epoch tk S.mem) a4 (fun b => w3.heap.size ≤ b ∧ b < w4.heap.size) := ⟨HIN4.out.its, HIN4.out.mks, HIN4.out.mem, HIN4.out.old, HIN4.out.il, HIN4.out.ml, HIN4.out.bl, HIN4.out.ol⟩
      exact (h0.keep (hk47.mono fun _ _ _ => trivial)).mono fun b _ hb => ⟨Nat.le_trans HSZ3.out hb.1, Nat.lt_of_lt_of_le hb.2 hk47.size, fun e => by have := (HO3.out.lt b e).2; have := hb.1; omega⟩)
     have hsz7 : w.heap.size ≤ w7.heap.size := Nat.le_trans HSZ3.out hk37.size
     clear b1 b2 b3 hvG hk47 hk37 HSET HK46 HM3 d4 c6 f6 HK4 HIN4
     go_wp2_with (first
      | (refine list_loadM rfl (.tmp 6) rfl g6 _ _ HB7.out rfl vG HVG.out ?_)
      | (refine list_slice1 rfl (.tmp 57) rfl _ _ HVG.out.symm ?_; intro w8 hb8 hk8 hs8)
      | (at_builtin; refine msg_elem.list_append rfl (.tmp 56) (.tmp 58) _ rfl rfl (hk8.own HO7.out.own fun _ _ => trivial) rfl (msRow_src (c := 1) hb8.row) ?c3 ?c4 ?c5 ?_))
     case c3 => have := HPL.out; unfold maxLen; show ps.length + 1 ≤ _; omega
     case c4 => have := HPL.out; show (ps.length + 1) * 256 ≤ _; omega
     case c5 => omega
     intro v9 w9 ho9 hg9 hb9
     have hO9 := (HO7.out.keep hk8).app ((HIN7.out.keep (hk8.mono fun _ _ _ => trivial)).mono fun b _ hb => ⟨hb.1, Nat.lt_of_lt_of_le hb.2.1 hk8.size, hb.2.2⟩) ho9 hg9 (by rw [hs8]; exact hb9)
     have hlt9 := HO7.out.lt
     have HFIN := Lib.hid (show OutP W w p c ck F n (k + 1) ⟨S.epoch, S.mem, S.top, S.und, setO S.over m.frm.toNat (n + 40)⟩ (abR S m ++ [tellM 2 m.frm S.epoch m.tick S.mem]) v9 w9 from by
      have hkk : Keeps (fun b => b < w.heap.size) w3 w9 := ((HK37.out.mono fun _ _ _ => trivial : Keeps (fun b => b < w.heap.size) w3 w7).trans (hk8.mono fun _ _ _ => trivial)).trans (Keeps.of_grown hg9 fun b hb _ hh => by have := (hlt9 b hb).1; omega)
      have hltI := HIN.out.lt
      have hW9 : Kp W w9 := ((HI3.out.kpW.mono fun _ _ _ => trivial : Keeps (fun b => b < W.heap.size) W w3).trans (hkk.mono fun b _ hb => Nat.lt_of_lt_of_le hb HIN.out.kpW.size)).mono fun b hb _ => hb
      have hi9 := HI3.out.keep (hkk.mono fun b _ hb => hltI b hb) hW9
      rw [HFI.out]
      refine ⟨F, w.heap.size, CtAt.more ⟨q, Fd, Fs, g, R, s, st, hi9, HF.out, fun b hb => ⟨(HFR.out b hb).1, Nat.lt_of_lt_of_le (HFR.out b hb).2 (Nat.le_trans HSZ3.out hkk.size)⟩⟩ (k + 1) (Nat.le_succ k) HHK.out, fun b hb => ⟨.inl hb, (HFR.out b hb).2⟩, Nat.le_refl _, ?_, ?_⟩
      ·have := hO9.out
       rw [List.map_append, HPS.out] at this
       rw [HFRM.out, HTK.out]
       exact this
      ·have hkF : Keeps (fun b => ¬ F b) w w3 := HK03.out.mono fun b _ hb e => hb (e ▸ HF.out c (.inr (.inr (.inr (.inl rfl)))))
       exact ⟨hkk.os.trans hkF.os, hkk.tape.trans hkF.tape, hkk.output.trans hkF.output, Nat.le_trans hkF.size hkk.size, fun b hb hl => (hkk.block b hl (Nat.lt_of_lt_of_le hl hkF.size)).trans (hkF.block b hb hl)⟩)
     clear ho9 hg9 hb9 hO9 hlt9 hb8 hk8 hs8 HI3 HK37 HK03 HO7 HIN7
     go_wp2_with fail
     go_ret
     exact ⟨_, rfl, by rw [HRE.out]; exact HFIN.out⟩
  | true =>
   have HAB := Lib.hid (show abR S m = [abortM m.frm m.seq] from by unfold abR; rw [if_pos (by rw [HSQ.out]; simp at *; omega)])
   go_wp2_with fail
   go_quiet ((first | (go_at_call 16; exact Calls.quiet_of_same ((HEP1.out _).mono fun _ _ h => ⟨h.1, h.2.symm⟩)) | (go_at_call 17; exact Calls.quiet_of_same ((HUN1.out _).mono fun _ _ h => ⟨h.1, h.2.symm⟩))))
   go_wp2_with fail
   refine (abort_any _ fr sq).mono ?_
   rintro e w2 ⟨rfl, hk2⟩
   obtain ⟨vA, hvA⟩ : ∃ v, msV (abortM fr sq) msA0 = v := ⟨_, rfl⟩
   have HVA := Lib.hid hvA
   have HK2 := Lib.hid ((HK1.out.drewN _).trans hk2)
   have HM2 := Lib.hid ((HM1.out.kp ((Keeps.refl (fun _ => True) w1).drewN _)).kp hk2)
   rw [hvA]
   have hs2 := HK2.out.size
   clear hvA hk2 HM1 HK1 HEP1 HUN1 d5 d1
   go_wp2_with (first
    | (refine list_slice1 rfl (.tmp 24) rfl _ _ HVA.out.symm ?_; intro w3 hb3 hk3 hs3)
    | (at_builtin; refine msg_elem.list_append rfl (.tmp 19) (.tmp 25) _ rfl rfl (World.ownsRow_nil _ w.heap.size _ _) rfl (msRow_src (c := 1) hb3.row) ?c3 ?c4 ?c5 ?_))
   case c3 => unfold maxLen; show (1 : Nat) ≤ _; decide
   case c4 => show (1 : Nat) * 256 ≤ _; decide
   case c5 => omega
   intro v4 wr ho4 hg4 hb4
   have HO := Lib.hid ((MOwn.nil w.heap.size w3).app (m := abortM fr sq) (a := msA0) (MsIn.zero _ _ _ rfl rfl rfl rfl) ho4 hg4 (by rw [hs3]; exact hb4))
   have hkr : Kp w wr := (HK2.out.trans hk3).grown hg4 fun b hb => by cases hb
   have hk24 : Kp w2 wr := hk3.grown hg4 fun b hb => by cases hb
   have HKR := Lib.hid hkr
   have HMR := Lib.hid (HM2.out.kp hk24)
   obtain ⟨A5, c5, e5⟩ := HO.out.form
   subst e5
   have HPS := Lib.hid (show (([] : List MP) ++ [(abortM fr sq, msA0)]).map (·.1) = abR S m from by rw [HAB.out, HFRM.out, HSQ.out]; rfl)
   have HPL := Lib.hid (show (([] : List MP) ++ [(abortM fr sq, msA0)]).length ≤ 1 from Nat.le_refl 1)
   go_upto_region 4 with fail
   generalize ([] : List MP) ++ [(abortM fr sq, msA0)] = ps at HO HPS HPL
   clear hb3 hk3 hs3 ho4 hg4 hb4 hkr hk24 HK2 HM2 HVA HAB hs2
   have d1 := HMR.out.cell 1 (.int .i64 m.frm) rfl
   have d3 := HMR.out.cell 3 (.int .i64 m.epoch) rfl
   have d4 := HMR.out.cell 4 (.int .i64 m.tick) rfl
   obtain ⟨e4, e2⟩ := HC4.out wr HKR.out
   rw [HFRM.out] at d1
   have HHAS1 := Lib.hid (fun i => HHAS.out (wr.drewN i) (HKR.out.drewN i))
   have HLO1 := Lib.hid (fun i => HLO.out (wr.drewN i) (HKR.out.drewN i))
   rw [HFRM.out] at HHAS1 HLO1
   cases t3 : hasN S.mem fr with
   | false =>
    have HGN := Lib.hid (show (hasN S.mem m.frm && !(losesB S.und m.frm)) = false from by rw [HFRM.out, t3]; rfl)
    have hne := HRN.out
    rw [HGN.out] at hne
    obtain ⟨me, hme⟩ : ∃ me, m.epoch = me := ⟨_, rfl⟩
    have HME := Lib.hid hme
    rw [hme] at hne
    have HNE := Lib.hid hne
    clear hne hme
    rw [t3] at HHAS1
    go_wp2_with fail
    go_quiet ((first | (go_at_call 66; exact Calls.quiet_of_same ((HHAS1.out _).mono fun _ _ h => ⟨h.1, h.2.symm⟩))))
    go_upto_region 9 with fail
    have hkr := fun i => HKR.out.drewN i
    have hmr := fun i => HMR.out.kp ((Keeps.refl (fun _ => True) wr).drewN i)
    have hor := fun i => HO.out.keep ((Keeps.refl (fun _ => True) wr).drewN i)
    have HX := Lib.hid (And.intro hkr (And.intro hmr hor))
    clear hkr hmr hor d1 d3 d4
    generalize hwq : World.drewN wr _ = wq
    have HKQ := Lib.hid (show Kp w wq from by rw [← hwq]; exact HX.out.1 _)
    have HMQ := Lib.hid (show MB wq gg m a from by rw [← hwq]; exact HX.out.2.1 _)
    have HOQ := Lib.hid (show MOwn w.heap.size wq (Value.slice A5 _ c5) ps from by rw [← hwq]; exact HX.out.2.2 _)
    have d1 := HMQ.out.cell 1 (.int .i64 m.frm) rfl
    have d3 := HMQ.out.cell 3 (.int .i64 m.epoch) rfl
    rw [HFRM.out] at d1
    rw [HME.out] at d3
    have HEP3 := Lib.hid (fun i => HEP.out (wq.drewN i) (HKQ.out.drewN i))
    clear hwq HX
    by_cases u1 : me < S.epoch
    ·have HRE := Lib.hid (show renewC S n m = (abR S m ++ [tellM 11 m.frm S.epoch 0 S.mem], S) from by rw [HNE.out]; simp [u1])
     have u1' : decide (me < S.epoch) = true := decide_eq_true u1
     clear u1 e4 e2 HGN HHAS1 HLO1
     go_wp2_with fail
     go_quiet ((first | (go_at_call 16; exact Calls.quiet_of_same ((HEP3.out _).mono fun _ _ h => ⟨h.1, h.2.symm⟩))))
     go_wp2_with fail
     have hkd := fun i => HKQ.out.drewN i
     have htl := fun i => HTL.out (wq.drewN i) (hkd i)
     rw [HFRM.out] at htl
     refine (show Calls _ _ _ _ _ from htl _).mono ?_
     rintro e w3 ⟨a3, rfl, hin3, hk3⟩
     obtain ⟨vT, hvT⟩ : ∃ v, msV (tellM 11 fr S.epoch 0 S.mem) a3 = v := ⟨_, rfl⟩
     have HVT := Lib.hid hvT
     have hkr3 : Kp wq w3 := ((Keeps.refl (fun _ => True) wq).drewN _).trans hk3
     have HIN3 := Lib.hid (show MsIn w3 (tellM 11 fr S.epoch 0 S.mem) a3 (fun b => w.heap.size ≤ b ∧ b < w3.heap.size ∧ (Value.slice A5 _ c5).ownBlock ≠ some b) from hin3.mono fun b _ hb => ⟨Nat.le_trans HKQ.out.size hb.1, hb.2, fun e => by have := (HOQ.out.lt b e).2; have := hb.1; change wq.heap.size ≤ b at this; omega⟩)
     have HO3 := Lib.hid (HOQ.out.keep hkr3)
     have HK3 := Lib.hid (HKQ.out.trans hkr3)
     have hsz := HK3.out.size
     rw [hvT]
     clear hin3 hk3 hkr3 hvT hkd htl d1 d3 u1'
     go_wp2_with (first
      | (refine list_slice1 rfl (.tmp 69) rfl _ _ HVT.out.symm ?_; intro w4 hb3 hk3 hs3)
      | (at_builtin; refine msg_elem.list_append rfl (.tmp 65) (.tmp 70) _ rfl rfl (hk3.own HO3.out.own fun _ _ => trivial) rfl (msRow_src (c := 1) hb3.row) ?c3 ?c4 ?c5 ?_))
     case c3 => have := HPL.out; unfold maxLen; show ps.length + 1 ≤ _; omega
     case c4 => have := HPL.out; show (ps.length + 1) * 256 ≤ _; omega
     case c5 => omega
     intro v5 w5 ho5 hg5 hb5
     have hO5 := (HO3.out.keep hk3).app ((HIN3.out.keep (hk3.mono fun _ _ _ => trivial)).mono fun b _ hb => ⟨hb.1, Nat.lt_of_lt_of_le hb.2.1 hk3.size, hb.2.2⟩) ho5 hg5 (by rw [hs3]; exact hb5)
     have hk5 : Kp w w5 := (HK3.out.trans hk3).grown hg5 fun b hb => (HO3.out.lt b hb).1
     have HFIN := Lib.hid (show OutP W w p c ck F n (k + 1) S (abR S m ++ [tellM 11 m.frm S.epoch 0 S.mem]) v5 w5 from HH.out.same hk5 (by
      have := hO5.out
      rw [List.map_append, HPS.out] at this
      rw [HFRM.out]
      exact this) (Nat.le_succ k) HHK.out)
     clear ho5 hg5 hb5 hO5 hk5 hb3 hk3 hs3
     go_wp2_with fail
     go_ret
     exact ⟨_, rfl, by rw [HRE.out]; exact HFIN.out⟩
    ·have HRE := Lib.hid (show renewC S n m = (abR S m, S) from by rw [HNE.out]; simp [u1])
     have u1' : decide (me < S.epoch) = false := decide_eq_false u1
     clear u1 e4 e2 HGN HHAS1 HLO1
     go_wp2_with fail
     go_quiet ((first | (go_at_call 16; exact Calls.quiet_of_same ((HEP3.out _).mono fun _ _ h => ⟨h.1, h.2.symm⟩))))
     have HFIN := Lib.hid (fun i => (show OutP W w p c ck F n (k + 1) S (abR S m) (Value.slice A5 _ c5) (wq.drewN i) from HH.out.same (HKQ.out.drewN i) (by
      have := (HOQ.out.keep ((Keeps.refl (fun _ => True) wq).drewN i)).out
      rw [HPS.out] at this
      exact this) (Nat.le_succ k) HHK.out))
     go_wp2_with fail
     go_ret
     exact ⟨_, rfl, by rw [HRE.out]; exact HFIN.out _⟩
   | true =>
    cases t4 : losesB S.und fr with
    | true =>
     have HGN := Lib.hid (show (hasN S.mem m.frm && !(losesB S.und m.frm)) = false from by rw [HFRM.out, t3, t4]; rfl)
     have hne := HRN.out
     rw [HGN.out] at hne
     obtain ⟨me, hme⟩ : ∃ me, m.epoch = me := ⟨_, rfl⟩
     have HME := Lib.hid hme
     rw [hme] at hne
     have HNE := Lib.hid hne
     clear hne hme
     rw [t3] at HHAS1
     rw [t4] at HLO1
     go_wp2_with fail
     go_quiet ((first | (go_at_call 66; exact Calls.quiet_of_same ((HHAS1.out _).mono fun _ _ h => ⟨h.1, h.2.symm⟩)) | (go_at_call 67; exact Calls.quiet_of_same ((HLO1.out _).mono fun _ _ h => ⟨h.1, h.2.symm⟩))))
     go_upto_region 9 with fail
     have hkr := fun i => HKR.out.drewN i
     have hmr := fun i => HMR.out.kp ((Keeps.refl (fun _ => True) wr).drewN i)
     have hor := fun i => HO.out.keep ((Keeps.refl (fun _ => True) wr).drewN i)
     have HX := Lib.hid (And.intro hkr (And.intro hmr hor))
     clear hkr hmr hor d1 d3 d4
     generalize hwq : World.drewN wr _ = wq
     have HKQ := Lib.hid (show Kp w wq from by rw [← hwq]; exact HX.out.1 _)
     have HMQ := Lib.hid (show MB wq gg m a from by rw [← hwq]; exact HX.out.2.1 _)
     have HOQ := Lib.hid (show MOwn w.heap.size wq (Value.slice A5 _ c5) ps from by rw [← hwq]; exact HX.out.2.2 _)
     have d1 := HMQ.out.cell 1 (.int .i64 m.frm) rfl
     have d3 := HMQ.out.cell 3 (.int .i64 m.epoch) rfl
     rw [HFRM.out] at d1
     rw [HME.out] at d3
     have HEP3 := Lib.hid (fun i => HEP.out (wq.drewN i) (HKQ.out.drewN i))
     clear hwq HX
     by_cases u1 : me < S.epoch
     ·have HRE := Lib.hid (show renewC S n m = (abR S m ++ [tellM 11 m.frm S.epoch 0 S.mem], S) from by rw [HNE.out]; simp [u1])
      have u1' : decide (me < S.epoch) = true := decide_eq_true u1
      clear u1 e4 e2 HGN HHAS1 HLO1
      go_wp2_with fail
      go_quiet ((first | (go_at_call 16; exact Calls.quiet_of_same ((HEP3.out _).mono fun _ _ h => ⟨h.1, h.2.symm⟩))))
      go_wp2_with fail
      have hkd := fun i => HKQ.out.drewN i
      have htl := fun i => HTL.out (wq.drewN i) (hkd i)
      rw [HFRM.out] at htl
      refine (show Calls _ _ _ _ _ from htl _).mono ?_
      rintro e w3 ⟨a3, rfl, hin3, hk3⟩
      obtain ⟨vT, hvT⟩ : ∃ v, msV (tellM 11 fr S.epoch 0 S.mem) a3 = v := ⟨_, rfl⟩
      have HVT := Lib.hid hvT
      have hkr3 : Kp wq w3 := ((Keeps.refl (fun _ => True) wq).drewN _).trans hk3
      have HIN3 := Lib.hid (show MsIn w3 (tellM 11 fr S.epoch 0 S.mem) a3 (fun b => w.heap.size ≤ b ∧ b < w3.heap.size ∧ (Value.slice A5 _ c5).ownBlock ≠ some b) from hin3.mono fun b _ hb => ⟨Nat.le_trans HKQ.out.size hb.1, hb.2, fun e => by have := (HOQ.out.lt b e).2; have := hb.1; change wq.heap.size ≤ b at this; omega⟩)
      have HO3 := Lib.hid (HOQ.out.keep hkr3)
      have HK3 := Lib.hid (HKQ.out.trans hkr3)
      have hsz := HK3.out.size
      rw [hvT]
      clear hin3 hk3 hkr3 hvT hkd htl d1 d3 u1'
      go_wp2_with (first
       | (refine list_slice1 rfl (.tmp 69) rfl _ _ HVT.out.symm ?_; intro w4 hb3 hk3 hs3)
       | (at_builtin; refine msg_elem.list_append rfl (.tmp 65) (.tmp 70) _ rfl rfl (hk3.own HO3.out.own fun _ _ => trivial) rfl (msRow_src (c := 1) hb3.row) ?c3 ?c4 ?c5 ?_))
      case c3 => have := HPL.out; unfold maxLen; show ps.length + 1 ≤ _; omega
      case c4 => have := HPL.out; show (ps.length + 1) * 256 ≤ _; omega
      case c5 => omega
      intro v5 w5 ho5 hg5 hb5
      have hO5 := (HO3.out.keep hk3).app ((HIN3.out.keep (hk3.mono fun _ _ _ => trivial)).mono fun b _ hb => ⟨hb.1, Nat.lt_of_lt_of_le hb.2.1 hk3.size, hb.2.2⟩) ho5 hg5 (by rw [hs3]; exact hb5)
      have hk5 : Kp w w5 := (HK3.out.trans hk3).grown hg5 fun b hb => (HO3.out.lt b hb).1
      have HFIN := Lib.hid (show OutP W w p c ck F n (k + 1) S (abR S m ++ [tellM 11 m.frm S.epoch 0 S.mem]) v5 w5 from HH.out.same hk5 (by
       have := hO5.out
       rw [List.map_append, HPS.out] at this
       rw [HFRM.out]
       exact this) (Nat.le_succ k) HHK.out)
      clear ho5 hg5 hb5 hO5 hk5 hb3 hk3 hs3
      go_wp2_with fail
      go_ret
      exact ⟨_, rfl, by rw [HRE.out]; exact HFIN.out⟩
     ·have HRE := Lib.hid (show renewC S n m = (abR S m, S) from by rw [HNE.out]; simp [u1])
      have u1' : decide (me < S.epoch) = false := decide_eq_false u1
      clear u1 e4 e2 HGN HHAS1 HLO1
      go_wp2_with fail
      go_quiet ((first | (go_at_call 16; exact Calls.quiet_of_same ((HEP3.out _).mono fun _ _ h => ⟨h.1, h.2.symm⟩))))
      have HFIN := Lib.hid (fun i => (show OutP W w p c ck F n (k + 1) S (abR S m) (Value.slice A5 _ c5) (wq.drewN i) from HH.out.same (HKQ.out.drewN i) (by
       have := (HOQ.out.keep ((Keeps.refl (fun _ => True) wq).drewN i)).out
       rw [HPS.out] at this
       exact this) (Nat.le_succ k) HHK.out))
      go_wp2_with fail
      go_ret
      exact ⟨_, rfl, by rw [HRE.out]; exact HFIN.out _⟩
    | false =>
     have HRE := Lib.hid (show renewC S n m = (abR S m ++ [tellM 2 m.frm S.epoch m.tick S.mem], ⟨S.epoch, S.mem, S.top, S.und, setO S.over m.frm.toNat (n + 40)⟩) from by rw [HRN.out, HFRM.out, t3, t4]; rfl)
     have hrng := HRNG.out (by rw [HFRM.out]; exact t3)
     rw [HFRM.out] at hrng
     obtain ⟨fi, hfi⟩ : ∃ fi : Nat, fr = (fi : Int) := ⟨fr.toNat, by omega⟩
     have hfi5 : fi ≤ 5 := by omega
     have HFI := Lib.hid (show m.frm.toNat = fi from by rw [HFRM.out]; omega)
     have HGD := Lib.hid (fun i => HGR.out (wr.drewN i) fi hfi5 (by rw [HFRM.out]; exact hfi) (HKR.out.drewN i))
     rw [HFRM.out] at HGD
     clear hrng hfi hfi5
     rw [t3] at HHAS1
     rw [t4] at HLO1
     go_wp2_with fail
     go_quiet ((first | (go_at_call 66; exact Calls.quiet_of_same ((HHAS1.out _).mono fun _ _ h => ⟨h.1, h.2.symm⟩)) | (go_at_call 67; exact Calls.quiet_of_same ((HLO1.out _).mono fun _ _ h => ⟨h.1, h.2.symm⟩))))
     go_wp2_with fail
     have hsame := fun i => (HKR.out.drewN i)
     refine (show Calls _ _ _ _ _ from HGD.out _).mono ?_
     rintro e w3 ⟨rfl, hb3, hk3⟩
     have hcF : F c := HF.out c (.inr (.inr (.inr (.inl rfl))))
     have hk03 : Keeps (fun b => b ≠ c) wr w3 := ((Keeps.refl (fun b => b ≠ c) wr).drewN _).trans hk3
     have HK03 := Lib.hid (show Keeps (fun b => b ≠ c) w w3 from (HKR.out.mono fun _ _ _ => trivial).trans hk03)
     have hin3 : CtIn W w3 p q c Fd Fs ck g R s st n k ⟨S.epoch, S.mem, S.top, S.und, setO S.over fi (n + 40)⟩ := by
      have hin := HIN.out
      obtain ⟨r', hb', hrg'⟩ := hin.bd.ex
      have hkR : Keeps (fun b => b ≠ c) w w3 := HK03.out
      have e2' : r' = r := by
       have h1 := hb'.c2
       have h2 := HB.out.c2
       rw [h1] at h2
       injection h2 with h2
       injection h2 with h2
       injection h2 with h2
       injection h2 with h2
      subst e2'
      exact hin.own (hkR.mono fun b _ hb e => hb (.inl e)) ⟨over_ok hin.bd.ok _, ⟨_, hb3, hrg'.keep (hkR.mono fun b _ hb e => hin.bd.cR (e ▸ hb))⟩, hin.bd.und.keep hkR (fun b hb e => by
       subst e
       rcases hb with hb | hb
       ·exact (hin.bd.gR _ hb).2 rfl
       ·exact hin.bd.cR hb), fun b hb => Nat.lt_of_lt_of_le (hin.bd.lt b hb) hkR.size, hin.bd.cR, hin.bd.gR⟩ (fun b hb => .inl hb) hin.txt
     have HI3 := Lib.hid hin3
     have hcw : c < w.heap.size := HIN.out.lt c (.inr (.inr (.inr (.inl rfl))))
     have HO3 := Lib.hid (show MOwn w.heap.size w3 (Value.slice A5 _ c5) ps from ⟨hk03.own HO.out.own fun b hb e => by have := (HO.out.lt b hb).1; omega, fun y hy => ((HO.out.ls y hy).keep (hk03.mono fun b _ hb e => by have := hb.1; omega)).mono fun b _ hb => ⟨hb.1, Nat.lt_of_lt_of_le hb.2.1 hk03.size, hb.2.2⟩⟩)
     have HM3 := Lib.hid (HMR.out.keep hk03 (show gg ≠ c from by have := HG.out; omega))
     have HTL3 := Lib.hid (hin3.bd.tell 2 fr)
     have d1' := HM3.out.cell 1 (.int .i64 m.frm) rfl
     rw [HFRM.out] at d1'
     have HSZ3 := Lib.hid (show w.heap.size ≤ w3.heap.size from HK03.out.size)
     clear hb3 hk3 hcF hk03 hin3 hsame d1 d3 d4 e2 e4 HHAS1 HLO1 HGD
     go_wp2_with fail
     refine (show Calls _ _ _ _ _ from HTL3.out).mono ?_
     rintro e w4 ⟨a4, rfl, hin4, hk4⟩
     obtain ⟨vT, hvT⟩ : ∃ v, msV (tellM 2 fr S.epoch 0 S.mem) a4 = v := ⟨_, rfl⟩
     have HVT := Lib.hid hvT
     have HIN4 := Lib.hid hin4
     have HK4 := Lib.hid hk4
     rw [show msV (tellM 2 fr S.epoch 0 S.mem) a4 = vT from hvT]
     clear hin4 hk4 hvT d1'
     go_upto_region 7 with (first
      | (refine list_allocM rfl rfl ?_; intro w5 hb5 hk5 hs5)
      | (refine list_storeM rfl (.tmp 6) (.tmp 52) rfl _ ms0 (tellM 2 fr S.epoch 0 S.mem) msA0 a4 hb5 rfl HVT.out.symm ?_; intro w6 hb6 hk6 hs6))
     obtain ⟨g6, hg6⟩ : ∃ g6, w4.heap.size = g6 := ⟨_, rfl⟩
     rw [hg6] at hb5 hb6 hk6 hs5 ⊢
     have hk46 : Kp w4 w6 := kp_behind hk5 hk6 (by omega)
     have HK46 := Lib.hid hk46
     have d4 := (HM3.out.kp (HK4.out.trans hk46)).cell 4 (.int .i64 m.tick) rfl
     obtain ⟨tk, htk⟩ : ∃ tk, m.tick = tk := ⟨_, rfl⟩
     rw [htk] at d4
     have c6 := hb6.cell 4 (.int .i64 0) rfl
     have f6 := hb6.fz 4
     have HTK := Lib.hid htk
     have HSET := Lib.hid (show ∀ w7, w7 = w6.setCell ⟨g6, 4, none⟩ (.int .i64 tk) → MB w7 g6 (tellM 2 fr S.epoch tk S.mem) a4 ∧ Keeps (fun b => b ≠ g6) w6 w7 ∧ w7.heap.size = w6.heap.size from by
      rintro w7 rfl
      exact ⟨tell_tick hb6 tk, (Keeps.refl _ w6).setCell (p := ⟨g6, 4, none⟩) (.inr (fun h => h rfl)) _, by simp [World.setCell]⟩)
     have HG6 := Lib.hid hg6
     clear hb5 hk5 hb6 hk6 hk46 hs6 htk hg6
     go_upto_region 8 with fail
     obtain ⟨b1, b2, b3⟩ := HSET.out _ rfl
     generalize World.setCell w6 _ _ = w7 at b1 b2 b3 ⊢
     obtain ⟨vG, hvG⟩ : ∃ v, msV (tellM 2 fr S.epoch tk S.mem) a4 = v := ⟨_, rfl⟩
     have HVG := Lib.hid hvG
     have hk47 : Kp w4 w7 := kp_behind HK46.out b2 (by have := HG6.out; omega)
     have HB7 := Lib.hid b1
     have hk37 : Kp w3 w7 := HK4.out.trans hk47
     have HK37 := Lib.hid hk37
     have HO7 := Lib.hid (HO3.out.keep hk37)
     have HIN7 := Lib.hid (show MsIn w7 (tellM 2 fr S.epoch tk S.mem) a4 (fun b => w.heap.size ≤ b ∧ b < w7.heap.size ∧ (Value.slice A5 _ c5).ownBlock ≠ some b) from by
      have h0 : MsIn w4 (tellM 2 fr S.epoch tk S.mem) a4 (fun b => w3.heap.size ≤ b ∧ b < w4.heap.size) := ⟨HIN4.out.its, HIN4.out.mks, HIN4.out.mem, HIN4.out.old, HIN4.out.il, HIN4.out.ml, HIN4.out.bl, HIN4.out.ol⟩
      exact (h0.keep (hk47.mono fun _ _ _ => trivial)).mono fun b _ hb => ⟨Nat.le_trans HSZ3.out hb.1, Nat.lt_of_lt_of_le hb.2 hk47.size, fun e => by have := (HO3.out.lt b e).2; have := hb.1; omega⟩)
     have hsz7 : w.heap.size ≤ w7.heap.size := Nat.le_trans HSZ3.out hk37.size
     clear b1 b2 b3 hvG hk47 hk37 HSET HK46 HM3 d4 c6 f6 HK4 HIN4
     go_wp2_with (first
      | (refine list_loadM rfl (.tmp 6) rfl g6 _ _ HB7.out rfl vG HVG.out ?_)
      | (refine list_slice1 rfl (.tmp 57) rfl _ _ HVG.out.symm ?_; intro w8 hb8 hk8 hs8)
      | (at_builtin; refine msg_elem.list_append rfl (.tmp 56) (.tmp 58) _ rfl rfl (hk8.own HO7.out.own fun _ _ => trivial) rfl (msRow_src (c := 1) hb8.row) ?c3 ?c4 ?c5 ?_))
     case c3 => have := HPL.out; unfold maxLen; show ps.length + 1 ≤ _; omega
     case c4 => have := HPL.out; show (ps.length + 1) * 256 ≤ _; omega
     case c5 => omega
     intro v9 w9 ho9 hg9 hb9
     have hO9 := (HO7.out.keep hk8).app ((HIN7.out.keep (hk8.mono fun _ _ _ => trivial)).mono fun b _ hb => ⟨hb.1, Nat.lt_of_lt_of_le hb.2.1 hk8.size, hb.2.2⟩) ho9 hg9 (by rw [hs8]; exact hb9)
     have hlt9 := HO7.out.lt
     have HFIN := Lib.hid (show OutP W w p c ck F n (k + 1) ⟨S.epoch, S.mem, S.top, S.und, setO S.over m.frm.toNat (n + 40)⟩ (abR S m ++ [tellM 2 m.frm S.epoch m.tick S.mem]) v9 w9 from by
      have hkk : Keeps (fun b => b < w.heap.size) w3 w9 := ((HK37.out.mono fun _ _ _ => trivial : Keeps (fun b => b < w.heap.size) w3 w7).trans (hk8.mono fun _ _ _ => trivial)).trans (Keeps.of_grown hg9 fun b hb _ hh => by have := (hlt9 b hb).1; omega)
      have hltI := HIN.out.lt
      have hW9 : Kp W w9 := ((HI3.out.kpW.mono fun _ _ _ => trivial : Keeps (fun b => b < W.heap.size) W w3).trans (hkk.mono fun b _ hb => Nat.lt_of_lt_of_le hb HIN.out.kpW.size)).mono fun b hb _ => hb
      have hi9 := HI3.out.keep (hkk.mono fun b _ hb => hltI b hb) hW9
      rw [HFI.out]
      refine ⟨F, w.heap.size, CtAt.more ⟨q, Fd, Fs, g, R, s, st, hi9, HF.out, fun b hb => ⟨(HFR.out b hb).1, Nat.lt_of_lt_of_le (HFR.out b hb).2 (Nat.le_trans HSZ3.out hkk.size)⟩⟩ (k + 1) (Nat.le_succ k) HHK.out, fun b hb => ⟨.inl hb, (HFR.out b hb).2⟩, Nat.le_refl _, ?_, ?_⟩
      ·have := hO9.out
       rw [List.map_append, HPS.out] at this
       rw [HFRM.out, HTK.out]
       exact this
      ·have hkF : Keeps (fun b => ¬ F b) w w3 := HK03.out.mono fun b _ hb e => hb (e ▸ HF.out c (.inr (.inr (.inr (.inl rfl)))))
       exact ⟨hkk.os.trans hkF.os, hkk.tape.trans hkF.tape, hkk.output.trans hkF.output, Nat.le_trans hkF.size hkk.size, fun b hb hl => (hkk.block b hl (Nat.lt_of_lt_of_le hl hkF.size)).trans (hkF.block b hb hl)⟩)
     clear ho9 hg9 hb9 hO9 hlt9 hb8 hk8 hs8 HI3 HK37 HK03 HO7 HIN7
     go_wp2_with fail
     go_ret
     exact ⟨_, rfl, by rw [HRE.out]; exact HFIN.out⟩
end
end Go.Proofs.YtemkjodkmehffaaGreatDoor
