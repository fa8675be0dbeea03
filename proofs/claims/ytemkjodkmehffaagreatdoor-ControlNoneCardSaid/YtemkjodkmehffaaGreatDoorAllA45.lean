/-
  CtStep: texts of mine, joined.
-/
import Derived.Test.YtemkjodkmehffaaGreatDoorAllA44
import Derived.Test.YtemkjodkmehffaaGreatDoorAllA38
namespace Go.Proofs.YtemkjodkmehffaaGreatDoor
open Go Go.RowKit Go.Joins
section
variable {W w w' : World} {p c : Nat} {ck : Option Nat} {F : Nat → Prop} {n : Int} {k : Nat} {S : CtS}
set_option maxRecDepth 100000 in
set_option maxHeartbeats 2000000 in
theorem cstep_nil (w : World) (m : Ms) (a : MsA) : Calls Tryz.prog 13 #[.pointer none, msV m a] w fun e w' => e = .returned (.slice none 0 0) ∧ Kp w w' := by
 have HD := fun w => cdown_nil w
 obtain ⟨vM, hvM⟩ : ∃ v, msV m a = v := ⟨_, rfl⟩
 have HVM := Lib.hid hvM
 rw [hvM]
 clear hvM
 go_enter Tryz.func13, Tryz.ntmps13
 go_upto_region 1 with (refine list_boxM rfl (.tmp 1) rfl m a HVM.out.symm ?_; intro w1 hb1 hk1 hs1)
 have HK := Lib.hid hk1
 clear hb1 hk1 hs1
 go_wp2_with fail
 refine (HD _).mono ?_
 rintro e w2 ⟨rfl, rfl⟩
 go_wp2_with fail
 go_ret
 exact ⟨rfl, HK.out⟩
set_option maxRecDepth 100000 in
set_option maxHeartbeats 4000000 in
theorem step_any (hT : theSup.T W) (h : CtAt W w p c ck F n k S) (m : Ms) (a : MsA) (hm : MsAt w m a) (hw : m.Wide) (hk : k + 1 ≤ 1000000) :
  Calls Tryz.prog 13 #[.pointer (some ⟨c, 0, none⟩), msV m a] w fun e w' => ∃ v, e = .returned v ∧ OutP W w p c ck F n (k + 1) (stepC S n m).2 (stepC S n m).1 v w' := by
 have HNO := Lib.hid (fun w' (hkk : Kp w w') => h.same (out := []) (v := .slice none 0 0) hkk (MOut.nil _ _) (Nat.le_succ k) hk)
 have HRN := Lib.hid (fun w1 (hk1 : Kp w w1) => renew_any (h.kp hk1) m a hk)
 have HNT := Lib.hid (fun w1 (hk1 : Kp w w1) => note_any hT (h.kp hk1) m a hk)
 have HMAY := Lib.hid (fun w1 (hk1 : Kp w w1) => mmay w1 m a (hm.keep hk1) hw)
 have HDN := Lib.hid (fun w1 (hk1 : Kp w w1) => (show Calls Tryz.prog 34 #[.pointer (some ⟨c, 0, none⟩)] w1 fun e w' => e = .returned (.bool false) ∧ w1 = w' from by
  obtain ⟨q, Fd, Fs, g, R, s, st, hin, -⟩ := h
  exact (hin.bd.kp hk1).down))
 have HAF := Lib.hid (fun w1 (hk1 : Kp w w1) {k' : Nat} {S' : CtS} {out : List Ms} {v : Value} {w' : World} (ho : OutP W w1 p c ck F n k' S' out v w') => ho.after (F := F) (w0 := w) (hk1.mono fun _ _ _ => trivial) (fun _ hb => .inl hb))
 obtain ⟨vM, hvM⟩ : ∃ v, msV m a = v := ⟨_, rfl⟩
 have HVM := Lib.hid hvM
 rw [hvM] at HRN HNT HMAY ⊢
 have HST := Lib.hid (show stepC S n m = (if m.to_ = 0 ∧ mayM m = true then (if m.kind = 1 then renewC S n m else if m.kind = 4 ∨ m.kind = 10 then noteC S n m else ([], S)) else ([], S)) from rfl)
 clear h hm hw hk hvM hT
 go_enter Tryz.func13, Tryz.ntmps13
 go_upto_region 1 with (refine list_boxM rfl (.tmp 1) rfl m a HVM.out.symm ?_; intro w1 hb1 hk1 hs1)
 obtain ⟨gg, hg⟩ : ∃ gg, w.heap.size = gg := ⟨_, rfl⟩
 rw [hg] at hb1 hs1 ⊢
 have HB := Lib.hid hb1
 have HK := Lib.hid hk1
 have d2 := hb1.cell 2 (.int .i64 m.to_) rfl
 clear hb1 hk1 hs1 hg
 obtain ⟨tt, htt⟩ : ∃ tt, m.to_ = tt := ⟨_, rfl⟩
 rw [htt] at d2 HST
 clear htt
 cases t1 : (tt == 0) with
 | false =>
  have t1' : (tt != 0) = true := by simpa using t1
  have HE := Lib.hid (show stepC S n m = ([], S) from by rw [HST.out, if_neg (by intro hh; rw [hh.1] at t1; cases t1)])
  have HF := Lib.hid (HNO.out w1 HK.out)
  clear HST HNO HRN HNT HMAY HAF
  go_wp2_with fail
  refine (show Calls _ _ _ _ _ from HDN.out _ HK.out).mono ?_
  rintro e w2 ⟨rfl, rfl⟩
  go_wp2_with fail
  go_ret
  exact ⟨_, rfl, by rw [HE.out]; exact HF.out⟩
 | true =>
  have t1' : (tt != 0) = false := by simpa using t1
  have ht0 : tt = 0 := by simpa using t1
  have HT0 := Lib.hid ht0
  clear ht0
  go_wp2_with fail
  refine (show Calls _ _ _ _ _ from HDN.out _ HK.out).mono ?_
  rintro e w2 ⟨rfl, rfl⟩
  go_wp2_with (refine list_loadM rfl (.tmp 3) rfl gg _ _ HB.out rfl vM HVM.out ?_)
  refine (show Calls _ _ _ _ _ from HMAY.out _ HK.out).mono ?_
  rintro e w2 ⟨rfl, hk2⟩
  have HK2 := Lib.hid (HK.out.trans hk2)
  have HB2 := Lib.hid (HB.out.kp hk2)
  clear hk2 HMAY d2
  cases t2 : mayM m with
  | false =>
   have HE := Lib.hid (show stepC S n m = ([], S) from by rw [HST.out, if_neg (by rw [t2]; simp)])
   have HF := Lib.hid (HNO.out w2 HK2.out)
   clear HST HNO HRN HNT HAF
   go_wp2_with fail
   go_ret
   exact ⟨_, rfl, by rw [HE.out]; exact HF.out⟩
  | true =>
   have HST2 := Lib.hid (show stepC S n m = (if m.kind = 1 then renewC S n m else if m.kind = 4 ∨ m.kind = 10 then noteC S n m else ([], S)) from by rw [HST.out, if_pos ⟨HT0.out, t2⟩])
   have d0 := HB2.out.cell 0 (.int .i64 m.kind) rfl
   obtain ⟨mk, hmk⟩ : ∃ mk, m.kind = mk := ⟨_, rfl⟩
   rw [hmk] at d0 HST2
   clear hmk HST
   by_cases q1 : mk = 1
   ·have HE := Lib.hid (show stepC S n m = renewC S n m from by rw [HST2.out, if_pos q1])
    subst q1
    have HR := Lib.hid (HRN.out w2 HK2.out)
    clear HST2 HNO HRN HNT
    go_wp2_with (refine list_loadM rfl (.tmp 3) rfl gg _ _ HB2.out rfl vM HVM.out ?_)
    refine (show Calls _ _ _ _ _ from HR.out).mono ?_
    rintro e w3 ⟨v, rfl, ho⟩
    have HO := Lib.hid (HAF.out w2 HK2.out ho)
    clear ho HR HAF
    go_wp2_with fail
    go_ret
    exact ⟨_, rfl, by rw [HE.out]; exact HO.out⟩
   ·rw [if_neg q1] at HST2
    have q1' : (mk == 1) = false := by simpa using q1
    clear q1
    by_cases q2 : mk = 4
    ·have HE := Lib.hid (show stepC S n m = noteC S n m from by rw [HST2.out, if_pos (.inl q2)])
     subst q2
     have HR := Lib.hid (HNT.out w2 HK2.out)
     clear HST2 HNO HRN HNT
     go_wp2_with (refine list_loadM rfl (.tmp 3) rfl gg _ _ HB2.out rfl vM HVM.out ?_)
     refine (show Calls _ _ _ _ _ from HR.out).mono ?_
     rintro e w3 ⟨v, rfl, ho⟩
     have HO := Lib.hid (HAF.out w2 HK2.out ho)
     clear ho HR HAF
     go_wp2_with fail
     go_ret
     exact ⟨_, rfl, by rw [HE.out]; exact HO.out⟩
    ·have q2' : (mk == 4) = false := by simpa using q2
     by_cases q3 : mk = 10
     ·have HE := Lib.hid (show stepC S n m = noteC S n m from by rw [HST2.out, if_pos (.inr q3)])
      subst q3
      have HR := Lib.hid (HNT.out w2 HK2.out)
      clear HST2 HNO HRN HNT q2 q2' q1'
      go_wp2_with (refine list_loadM rfl (.tmp 3) rfl gg _ _ HB2.out rfl vM HVM.out ?_)
      refine (show Calls _ _ _ _ _ from HR.out).mono ?_
      rintro e w3 ⟨v, rfl, ho⟩
      have HO := Lib.hid (HAF.out w2 HK2.out ho)
      clear ho HR HAF
      go_wp2_with fail
      go_ret
      exact ⟨_, rfl, by rw [HE.out]; exact HO.out⟩
     ·have HE := Lib.hid (show stepC S n m = ([], S) from by rw [HST2.out, if_neg (by omega)])
      have q3' : (mk == 10) = false := by simpa using q3
      have HF := Lib.hid (HNO.out w2 HK2.out)
      clear HST2 HNO HRN HNT HAF q2 q3
      go_wp2_with fail
      go_ret
      exact ⟨_, rfl, by rw [HE.out]; exact HF.out⟩
theorem cback_nil (w : World) : Calls Tryz.prog 20 #[.pointer none] w fun e w' => e = .returned (.tuple #[.slice none 0 0, .int .i64 8]) ∧ w = w' := by
 have HD := fun w => cdown_nil w
 go_enter Tryz.func20, Tryz.ntmps20
 go_wp2_with fail
 refine (HD _).mono ?_
 rintro e w2 ⟨rfl, rfl⟩
 go_wp2_with fail
 go_ret2
 exact ⟨rfl, rfl⟩
def CtS.back (S : CtS) : CtS := ⟨S.epoch, S.mem, S.top, none, S.over⟩
set_option maxRecDepth 100000 in
set_option maxHeartbeats 4000000 in
theorem back_yes (h : CtAt W w p c ck F n k S) (x : ChS) (hu : S.und = some x) : Calls Tryz.prog 20 #[.pointer (some ⟨c, 0, none⟩)] w fun e w' => ∃ v, e = .returned (.tuple #[v, .int .i64 0]) ∧ OutP W w p c ck F n k S.back x.aborts v w' := by
 obtain ⟨q, Fd, Fs, g, R, s, st, hin, hF, hFr⟩ := h
 have hok := hin.bd.ok.und x hu
 have HD := Lib.hid hin.bd.down
 obtain ⟨r, hb, hrg⟩ := hin.bd.ex
 have hu' := hin.bd.und
 rw [hu] at hu'
 obtain ⟨kk, rfl, rt, A, ca, B, cb, C, cc, hblk, -, -, hnodes, -⟩ := hu'
 have c4 : w.cell? ⟨c, 4, none⟩ = some (.pointer (some ⟨kk, 0, none⟩)) := hb.c4
 have k3 := hblk.c3
 have HU := Lib.hid (fun w1 (hk : Kp w w1) => (hin.bd.kp hk).under)
 rw [show S.underZ = x.num from by unfold CtS.underZ; rw [hu]] at HU
 have HROW := Lib.hid (show Row w B (fun _ => True) (x.nodes.map (Value.int .i64)) from hnodes.1.mono fun _ _ _ => trivial)
 have HIN := Lib.hid hin
 have HF := Lib.hid hF
 have HFR := Lib.hid hFr
 have HB := Lib.hid hb
 have HRG := Lib.hid hrg
 have hN5 := hok.nl
 obtain ⟨N, hN⟩ : ∃ N, x.nodes.length = N := ⟨_, rfl⟩
 rw [hN] at k3 hN5
 have HNN := Lib.hid hN
 clear hin hb hrg hblk hnodes hu hok hN hF hFr
 go_enter Tryz.func20, Tryz.ntmps20
 go_wp2_with fail
 refine (show Calls _ _ _ _ _ from HD.out).mono ?_
 rintro e w1 ⟨rfl, rfl⟩
 go_wp2_with fail
 go_loopw [4, 22] (fun v i wr => ∃ (j : Nat) (ps : List MP) (A : Option Addr) (cA : Nat), j ≤ N ∧ i = .int .i64 (j : Int) ∧ v = .slice A j cA ∧ Hid (ps.map (·.1) = (x.nodes.take j).map fun n => abortM n x.num) ∧ Hid (MOwn w.heap.size wr v ps) ∧ Hid (Kp w wr)) (fun _ i _ => N - (intOf i).toNat)
 case atStart => exact ⟨0, [], none, 0, Nat.zero_le _, rfl, rfl, Lib.hid rfl, Lib.hid (MOwn.nil _ _), Lib.hid (Keeps.refl _ _)⟩
 case round =>
  clear c4 k3
  obtain ⟨j, ps, A5, c5, hj, rfl, rfl, HP, HO, HK⟩ := hrel
  by_cases hlt : j < N
  ·have hlt' : (j : Int) < (N : Int) := by omega
   have hjl : j < x.nodes.length := by rw [HNN.out]; exact hlt
   obtain ⟨b, o, rfl, -, hcell⟩ := (HROW.out.keep HK.out).at_ (k := j) (by rw [List.length_map]; exact hjl)
   rw [List.getElem_map] at hcell
   have HMN := Lib.hid (map_next (fun n => abortM n x.num) x.nodes j hjl)
   generalize x.nodes[j] = nd at hcell HMN
   have hpl : ps.length = j := by have := congrArg List.length HP.out; simpa [Nat.min_eq_left (Nat.le_of_lt hjl)] using this
   have HPL := Lib.hid hpl
   clear hpl hjl
   go_wp2_with fail
   refine (show Calls _ _ _ _ _ from HU.out wr HK.out).mono ?_
   rintro e w2 ⟨rfl, rfl⟩
   go_wp2_with fail
   refine (abort_any wr nd x.num).mono ?_
   rintro e w3 ⟨rfl, hk3⟩
   obtain ⟨vT, hvT⟩ : ∃ v, msV (abortM nd x.num) msA0 = v := ⟨_, rfl⟩
   have HV := Lib.hid hvT
   have HO2 := Lib.hid (HO.out.keep hk3)
   have HW2 := Lib.hid (HK.out.trans hk3)
   have hsz := HW2.out.size
   rw [hvT]
   clear hk3 HO HK hvT hcell
   go_wp2_with (first
    | (refine list_slice1 rfl (.tmp 30) rfl _ _ HV.out.symm ?_; intro w4 hb3 hk3 hs3)
    | (at_builtin; refine msg_elem.list_append rfl (.tmp 26) (.tmp 31) _ rfl rfl (hk3.own HO2.out.own fun _ _ => trivial) rfl (msRow_src (c := 1) hb3.row) ?c3 ?c4 ?c5 ?_))
   case c3 => have := HPL.out; unfold maxLen; show ps.length + 1 ≤ _; omega
   case c4 => have := HPL.out; show (ps.length + 1) * 256 ≤ _; omega
   case c5 => omega
   intro v4 w5 ho4 hg4 hb4
   have HO4 := Lib.hid ((HO2.out.keep hk3).app (m := abortM nd x.num) (a := msA0) (MsIn.zero _ _ _ rfl rfl rfl rfl) ho4 hg4 (by rw [hs3]; exact hb4))
   have HK4 := Lib.hid ((HW2.out.trans hk3).grown hg4 fun b hb => (HO2.out.lt b hb).1)
   have HP4 := Lib.hid (show (ps ++ [(abortM nd x.num, msA0)]).map (·.1) = (x.nodes.take (j + 1)).map fun n => abortM n x.num from by rw [List.map_append, HP.out, HMN.out]; rfl)
   obtain ⟨A4, cc4, e4⟩ := HO4.out.form
   rw [List.length_append, List.length_singleton, HPL.out] at e4
   subst e4
   clear hb3 hk3 hs3 ho4 hg4 hb4 HO2 HW2 HP
   go_wp2_with fail
   go_roundw
   case rel => exact ⟨j + 1, _, A4, cc4, hlt, by go_num, rfl, HP4, HO4, HK4⟩
   case measure => simp [intOf]; omega
  ·obtain rfl : j = N := by omega
   have hlt' : ¬ ((j : Int) < (j : Int)) := by omega
   have hbr := HB.out.keep HK.out trivial
   have d4 : wr.cell? ⟨c, 4, none⟩ = some (.pointer (some ⟨kk, 0, none⟩)) := hbr.c4
   have f4 := hbr.fz 4
   have HFIN := Lib.hid (show ∀ w6, w6 = wr.setCell ⟨c, 4, none⟩ (.pointer none) → OutP W w p c ck F n k S.back x.aborts (.slice A5 j c5) w6 from by
    rintro w6 rfl
    have hm := HO.out.out
    rw [HP.out, List.take_of_length_le (by rw [HNN.out]; exact Nat.le_refl _)] at hm
    have hi := HIN.out.kp HK.out
    have hcw : c < w.heap.size := HIN.out.lt c (.inr (.inr (.inr (.inl rfl))))
    have hw6 : Keeps (fun b => b ≠ c) wr (wr.setCell ⟨c, 4, none⟩ (.pointer none)) := (Keeps.refl _ wr).setCell (p := ⟨c, 4, none⟩) (.inr (fun h => h rfl)) _
    have hb6 := hbr.setU none
    have hbd : CtB (wr.setCell ⟨c, 4, none⟩ (.pointer none)) c q ck none R S.back := ⟨back_ok hi.bd.ok, ⟨r, hb6, (HRG.out.keep (HK.out.mono fun _ _ _ => trivial)).keep (hw6.mono fun b _ hb e => hi.bd.cR (e ▸ hb))⟩, rfl, fun b hb => Nat.lt_of_lt_of_le (hi.bd.lt b hb) hw6.size, hi.bd.cR, fun k hk => by cases hk⟩
    have hi6 := hi.own (hw6.mono fun b _ hb e => hb (.inl e)) hbd (fun b hb => .inl (by
     rcases hb with rfl | hb | hb
     ·exact .inl rfl
     ·cases hb
     ·exact .inr (.inr hb))) hi.txt
    have hsz := HK.out.size
    refine ⟨F, w.heap.size, ⟨q, Fd, Fs, none, R, s, st, hi6, fun b hb => HF.out b (by
     rcases hb with h | h | h | h | h | h
     ·exact .inl h
     ·exact .inr (.inl h)
     ·exact .inr (.inr (.inl h))
     ·exact .inr (.inr (.inr (.inl h)))
     ·cases h
     ·exact .inr (.inr (.inr (.inr (.inr h))))), fun b hb => ⟨(HFR.out b hb).1, Nat.lt_of_lt_of_le (HFR.out b hb).2 (Nat.le_trans hsz hw6.size)⟩⟩, fun b hb => ⟨.inl hb, (HFR.out b hb).2⟩, Nat.le_refl _, ?_, ?_⟩
    ·exact hm.keep (hw6.mono fun b _ hb => by omega)
    ·exact (HK.out.mono fun _ _ _ => trivial : Keeps (fun b => ¬ F b) w wr).trans (hw6.mono fun b _ hb e => hb (e ▸ HF.out c (.inr (.inr (.inr (.inl rfl)))))))
   clear hlt hbr HO HP HK
   go_wp2_with fail
   go_ret2
   exact ⟨_, rfl, HFIN.out _ rfl⟩
end
end Go.Proofs.YtemkjodkmehffaaGreatDoor
