/-
  CtCommit, CtBeat: texts of mine, joined.
-/
import Derived.Test.YtemkjodkmehffaaGreatDoorAllM33
namespace Go.Proofs.YtemkjodkmehffaaGreatDoor
open Go Go.RowKit Go.Joins
def CtAt (W w : World) (p c : Nat) (ck : Option Nat) (F : Nat → Prop) (n : Int) (k : Nat) (S : CtS) : Prop :=
 ∃ (q : Nat) (Fd Fs : Foot) (g : Option Nat) (R : Nat → Prop) (s : SDev) (st : SSt), CtIn W w p q c Fd Fs ck g R s st n k S ∧ (∀ b, CtAll Fd Fs ck g c R b → F b) ∧ ∀ b, F b → W.heap.size ≤ b ∧ b < w.heap.size
def OutP (W w : World) (p c : Nat) (ck : Option Nat) (F : Nat → Prop) (n : Int) (k : Nat) (S' : CtS) (out : List Ms) (v : Value) (w' : World) : Prop :=
 ∃ (F' : Nat → Prop) (B : Nat), CtAt W w' p c ck F' n k S' ∧ (∀ b, F' b → (F b ∨ w.heap.size ≤ b) ∧ b < B) ∧ w.heap.size ≤ B ∧ MOut B w' v out ∧ Keeps (fun b => ¬ F b) w w'
section
variable {W w w' : World} {p q c : Nat} {Fd Fs : Foot} {ck g : Option Nat} {R F : Nat → Prop} {s : SDev} {st : SSt} {n : Int} {k : Nat} {S : CtS}
theorem CtIn.at_ (h : CtIn W w p q c Fd Fs ck g R s st n k S) : CtAt W w p c ck (CtAll Fd Fs ck g c R) n k S := ⟨q, Fd, Fs, g, R, s, st, h, fun _ hb => hb, fun b hb => ⟨h.ge b hb, h.lt b hb⟩⟩
theorem CtAt.kpW (h : CtAt W w p c ck F n k S) : Kp W w := by
 obtain ⟨q, Fd, Fs, g, R, s, st, h1, -⟩ := h
 exact h1.kpW
theorem CtAt.rng (h : CtAt W w p c ck F n k S) : ∀ b, F b → W.heap.size ≤ b ∧ b < w.heap.size := by
 obtain ⟨q, Fd, Fs, g, R, s, st, -, -, h3⟩ := h
 exact h3
theorem CtAt.ok (h : CtAt W w p c ck F n k S) : S.Ok := by
 obtain ⟨q, Fd, Fs, g, R, s, st, h1, -⟩ := h
 exact h1.bd.ok
theorem CtAt.keep (h : CtAt W w p c ck F n k S) (hk : Keeps F w w') (hW : Kp W w') : CtAt W w' p c ck F n k S := by
 obtain ⟨q, Fd, Fs, g, R, s, st, h1, h2, h3⟩ := h
 exact ⟨q, Fd, Fs, g, R, s, st, h1.keep (hk.mono fun b _ hb => h2 b hb) hW, h2, fun b hb => ⟨(h3 b hb).1, Nat.lt_of_lt_of_le (h3 b hb).2 hk.size⟩⟩
theorem CtAt.kp (h : CtAt W w p c ck F n k S) (hk : Kp w w') : CtAt W w' p c ck F n k S := h.keep (hk.mono fun _ _ _ => trivial) (h.kpW.trans hk)
theorem CtAt.more (h : CtAt W w p c ck F n k S) (k' : Nat) (h1 : k ≤ k') (h2 : k' ≤ 1000000) : CtAt W w p c ck F n k' S := by
 obtain ⟨q, Fd, Fs, g, R, s, st, h3, h4, h5⟩ := h
 exact ⟨q, Fd, Fs, g, R, s, st, h3.more k' h1 h2, h4, h5⟩
theorem keeps_or {G H : Nat → Prop} (h : Keeps G w w') (k : Keeps H w w') : Keeps (fun b => G b ∨ H b) w w' :=
 ⟨h.os, h.tape, h.output, h.size, fun b hb hl => hb.elim (fun h1 => h.block b h1 hl) fun h1 => k.block b h1 hl⟩
set_option maxRecDepth 100000 in
set_option maxHeartbeats 4000000 in
theorem commit_any (hT : theSup.T W) (h : CtAt W w p c ck F n k S) (x : ChS) (hu : S.und = some x) (hk : k + 1 ≤ 1000000) :
  Calls Tryz.prog 42 #[.pointer (some ⟨c, 0, none⟩)] w fun e w' => ∃ v, e = .returned v ∧ OutP W w p c ck F n (k + 1) (S.commit x) x.commits v w' := by
 obtain ⟨q, Fd, Fs, g, R, s, st, hin, hF, hFr⟩ := h
 have hok := hin.bd.ok.und x hu
 have htop := hin.bd.ok.hi
 obtain ⟨r, hb, -⟩ := hin.bd.ex
 have hu' := hin.bd.und
 rw [hu] at hu'
 obtain ⟨kk, rfl, hch⟩ := hu'
 have hkk := hin.bd.gR kk rfl
 have HCH := Lib.hid hch
 obtain ⟨rt, A, ca, B, cb, C, cc, hblk, hring, hall, -⟩ := hch
 have hkw : kk < w.heap.size := hblk.lt
 have hw1 : Keeps (fun b => b ≠ c) w (w.setCell ⟨c, 4, none⟩ (.pointer none)) := (Keeps.refl _ w).setCell (p := ⟨c, 4, none⟩) (.inr (fun h => h rfl)) _
 have HSET := Lib.hid (show ∀ w1, w1 = w.setCell ⟨c, 4, none⟩ (.pointer none) → CtIn W w1 p q c Fd Fs ck none R s st n k ⟨S.epoch, S.mem, S.top, none, S.over⟩ ∧ Keeps (fun b => b ≠ c) w w1 from by
  rintro w1 rfl
  refine ⟨hin.own (hw1.mono fun b _ hb e => hb (.inl e)) ⟨back_ok hin.bd.ok, ?_, rfl, fun b hb => Nat.lt_of_lt_of_le (hin.bd.lt b hb) hw1.size, hin.bd.cR, fun k hk => by cases hk⟩ (fun b hb => .inl (by
   rcases hb with rfl | hb | hb
   ·exact .inl rfl
   ·cases hb
   ·exact .inr (.inr hb))) hin.txt, hw1⟩
  obtain ⟨r, hb, hrg⟩ := hin.bd.ex
  exact ⟨r, hb.setU none, hrg.keep (hw1.mono fun b _ hb e => hin.bd.cR (e ▸ hb))⟩)
 have c4 : w.cell? ⟨c, 4, none⟩ = some (.pointer (some ⟨kk, 0, none⟩)) := hb.c4
 have f4 := hb.fz 4
 have c3 := hb.c3
 have k0 := hblk.c0
 have HF := Lib.hid hF
 have HFR := Lib.hid hFr
 have HKP := Lib.hid (fun (w1 : World) (h1 : CtIn W w1 p q c Fd Fs ck none R s st n k ⟨S.epoch, S.mem, S.top, none, S.over⟩) (h2 : Keeps (fun b => b ≠ c) w w1) => keep_any hT h1 rfl hk rt x.num S.top x.to_ (hring.keep (h2.mono fun b _ hb e => hin.bd.cR (e ▸ hb))) hok.hi htop)
 have HALL := Lib.hid hall
 have HBLK := Lib.hid hblk
 have HIN := Lib.hid hin
 have hN5 : x.all.length ≤ 5 := (nodes_len hok.al).2
 have HKK := Lib.hid hkk
 obtain ⟨N, hN⟩ : ∃ N, x.all.length = N := ⟨_, rfl⟩
 rw [hN] at hN5
 have HNN := Lib.hid hN
 have hckk : c ≠ kk := fun e => hkk.2 e.symm
 clear hF hFr hok htop hb hblk hring hall hin hw1 hkk hu hN hT
 go_enter Tryz.func42, Tryz.ntmps42
 go_upto_region 3 with fail
 obtain ⟨a1, a2⟩ := HSET.out _ rfl
 generalize World.setCell w _ _ = w1 at a1 a2 ⊢
 have HI1 := Lib.hid a1
 have HK1 := Lib.hid a2
 obtain ⟨r1, hb1, -⟩ := a1.bd.ex
 have d3 : w1.cell? ⟨c, 3, none⟩ = some (.int .i64 S.top) := hb1.c3
 have e0 := a2.cell k0 (show kk ≠ c from fun e => hckk e.symm)
 clear a1 a2 HSET hb1 c4 f4 c3 k0
 go_still_tail 11, (by kernel_rfl)
 change wpList _ _ _ _ _ w1.drew
 have hid := HI1.out.kp ((Keeps.refl (fun _ => True) w1).drew)
 have HKP1 := Lib.hid (HKP.out w1.drew hid HK1.out.drew)
 have HK1D := Lib.hid (show Keeps (fun b => b ≠ c) w w1.drew from HK1.out.drew)
 clear hid d3 e0 HKP HI1 HK1
 generalize w1.drew = wd at HKP1 HK1D ⊢
 go_wp2_with fail
 refine (show Calls _ _ _ _ _ from HKP1.out).mono ?_
 rintro e w2 ⟨rfl, Fd', Fs', s', st', hin2, hF2, hk2, hR2⟩
 have hch2 : ChAt w2 kk R x := by
  have h1 : Keeps (fun b => b = kk ∨ R b) w wd := HK1D.out.mono fun b _ hb e => hb.elim (fun h => hckk (e ▸ h)) fun h => HIN.out.bd.cR (e ▸ h)
  have h2 : Keeps (fun b => b = kk ∨ R b) wd w2 := keeps_or (hk2.mono fun b _ hb hf => by
   subst hb
   have hdj := HIN.out.dj b (.inr (.inl rfl))
   rcases hf with hf | hf | hf | hf | hf | hf
   ·exact hdj.1 hf
   ·exact hdj.2.1 hf
   ·exact hdj.2.2.1 hf
   ·exact hckk hf.symm
   ·cases hf
   ·exact HKK.out.1 hf) hR2
  exact HCH.out.keep (h1.trans h2) fun _ hb => hb
 have hbd2 := hin2.bd
 have hFF : ∀ b, CtAll Fd' Fs' ck none c R b → F b ∨ w.heap.size ≤ b := fun b hb => by
  rcases hF2 b hb with h | h
  ·refine .inl (HF.out b ?_)
   rcases h with h | h | h | h | h | h
   ·exact .inl h
   ·exact .inr (.inl h)
   ·exact .inr (.inr (.inl h))
   ·exact .inr (.inr (.inr (.inl h)))
   ·cases h
   ·exact .inr (.inr (.inr (.inr (.inr h))))
  ·exact .inr (Nat.le_trans HK1D.out.size h)
 have hkF : Keeps (fun b => ¬ F b) w w2 := (HK1D.out.mono fun b _ hb e => hb (HF.out b (.inr (.inr (.inr (.inl e)))))).trans (hk2.mono fun b _ hb hf => hb (HF.out b (by
   rcases hf with h | h | h | h | h | h
   ·exact .inl h
   ·exact .inr (.inl h)
   ·exact .inr (.inr (.inl h))
   ·exact .inr (.inr (.inr (.inl h)))
   ·cases h
   ·exact .inr (.inr (.inr (.inr (.inr h)))))))
 have HI2 := Lib.hid hin2
 have HFF := Lib.hid hFF
 have HKF := Lib.hid hkF
 have HTL := Lib.hid (fun w3 (hk3 : Kp w2 w3) nd => (hbd2.kp hk3).tell 11 nd)
 obtain ⟨rt2, A2, ca2, B2, cb2, C2, cc2, hblk2, -, hall2, -⟩ := hch2
 have k1 := hblk2.c1
 have HROW := Lib.hid (show Row w2 A2 (fun _ => True) (x.all.map (Value.int .i64)) from hall2.1.mono fun _ _ _ => trivial)
 have HSZ := Lib.hid (show w.heap.size ≤ w2.heap.size from hkF.size)
 rw [HNN.out] at k1
 clear hin2 hF2 hk2 hR2 hbd2 hFF hkF hblk2 hall2 HKP1 HIN HCH HALL HBLK
 go_wp2_with fail
 go_loopw [4, 32] (fun v i wr => ∃ (j : Nat) (ps : List MP) (A : Option Addr) (cA : Nat), j ≤ N ∧ i = .int .i64 (j : Int) ∧ v = .slice A j cA ∧ Hid (ps.map (·.1) = (x.all.take j).map fun n => tellM 11 n x.num 0 x.to_) ∧ Hid (MOwn w2.heap.size wr v ps) ∧ Hid (Kp w2 wr)) (fun _ i _ => N - (intOf i).toNat)
 case atStart => exact ⟨0, [], none, 0, Nat.zero_le _, rfl, rfl, Lib.hid rfl, Lib.hid (MOwn.nil _ _), Lib.hid (Keeps.refl _ _)⟩
 case round =>
  clear k1
  obtain ⟨j, ps, A5, c5, hj, rfl, rfl, HP, HO, HK⟩ := hrel
  by_cases hlt : j < N
  ·have hlt' : (j : Int) < (N : Int) := by omega
   have hjl : j < x.all.length := by rw [HNN.out]; exact hlt
   obtain ⟨b, o, rfl, -, hcell⟩ := (HROW.out.keep HK.out).at_ (k := j) (by rw [List.length_map]; exact hjl)
   rw [List.getElem_map] at hcell
   have HMN := Lib.hid (map_next (fun n => tellM 11 n x.num 0 x.to_) x.all j hjl)
   generalize x.all[j] = nd at hcell HMN
   have hpl : ps.length = j := by have := congrArg List.length HP.out; simpa [Nat.min_eq_left (Nat.le_of_lt hjl)] using this
   have HPL := Lib.hid hpl
   have HLV := Lib.hid HO.out.lt
   clear hpl hjl
   go_wp2_with fail
   refine (show Calls _ _ _ _ _ from HTL.out wr HK.out nd).mono ?_
   rintro e w3 ⟨a, rfl, hin3, hk3⟩
   obtain ⟨vT, hvT⟩ : ∃ v, msV (tellM 11 nd x.num 0 x.to_) a = v := ⟨_, rfl⟩
   have HV := Lib.hid hvT
   have HIN := Lib.hid (show MsIn w3 (tellM 11 nd x.num 0 x.to_) a (fun b => w2.heap.size ≤ b ∧ b < w3.heap.size ∧ (Value.slice A5 j c5).ownBlock ≠ some b) from hin3.mono fun b _ hb => ⟨Nat.le_trans HK.out.size hb.1, hb.2, fun e => by have := (HLV.out b e).2; have := hb.1; omega⟩)
   have HO2 := Lib.hid (HO.out.keep hk3)
   have HW2 := Lib.hid (HK.out.trans hk3)
   have hsz := HW2.out.size
   have HRET := Lib.hid (show msV (tellM 11 nd (S.commit x).epoch 0 (S.commit x).mem) a = vT from hvT)
   rw [show msV (tellM 11 nd x.num 0 x.to_) a = vT from hvT]
   clear hin3 hk3 HO HK HLV hvT hcell
   go_wp2_with (first
    | (refine list_slice1 rfl (.tmp 39) rfl _ _ HV.out.symm ?_; intro w4 hb3 hk3 hs3)
    | (at_builtin; refine msg_elem.list_append rfl (.tmp 36) (.tmp 40) _ rfl rfl (hk3.own HO2.out.own fun _ _ => trivial) rfl (msRow_src (c := 1) hb3.row) ?c3 ?c4 ?c5 ?_))
   case c3 => have := HPL.out; unfold maxLen; show ps.length + 1 ≤ _; omega
   case c4 => have := HPL.out; show (ps.length + 1) * 256 ≤ _; omega
   case c5 => omega
   intro v4 w5 ho4 hg4 hb4
   have HO4 := Lib.hid ((HO2.out.keep hk3).app ((HIN.out.keep (hk3.mono fun _ _ _ => trivial)).mono fun b _ hb => ⟨hb.1, Nat.lt_of_lt_of_le hb.2.1 hk3.size, hb.2.2⟩) ho4 hg4 (by rw [hs3]; exact hb4))
   have HK4 := Lib.hid ((HW2.out.trans hk3).grown hg4 fun b hb => (HO2.out.lt b hb).1)
   have HP4 := Lib.hid (show (ps ++ [(tellM 11 nd x.num 0 x.to_, a)]).map (·.1) = (x.all.take (j + 1)).map fun n => tellM 11 n x.num 0 x.to_ from by rw [List.map_append, HP.out, HMN.out]; rfl)
   obtain ⟨A4, cc4, e4⟩ := HO4.out.form
   rw [List.length_append, List.length_singleton, HPL.out] at e4
   subst e4
   clear hb3 hk3 hs3 ho4 hg4 hb4 HO2 HIN HW2 HP
   go_wp2_with fail
   go_roundw
   case rel => exact ⟨j + 1, _, A4, cc4, hlt, by go_num, rfl, HP4, HO4, HK4⟩
   case measure => simp [intOf]; omega
  ·obtain rfl : j = N := by omega
   have hlt' : ¬ ((j : Int) < (j : Int)) := by omega
   have HFIN := Lib.hid (show OutP W w p c ck F n (k + 1) (S.commit x) x.commits (.slice A5 j c5) wr from by
    have hm := HO.out.out
    rw [HP.out, List.take_of_length_le (by rw [HNN.out]; exact Nat.le_refl _)] at hm
    have hi := HI2.out.kp HK.out
    refine ⟨_, w2.heap.size, hi.at_, fun b hb => ⟨HFF.out b hb, HI2.out.lt b hb⟩, HSZ.out, hm, HKF.out.trans (HK.out.mono fun _ _ _ => trivial)⟩)
   clear hlt HO HP HK
   go_wp2_with fail
   go_ret
   exact ⟨_, rfl, HFIN.out⟩
end
section
variable {W w w' : World} {p q c : Nat} {Fd Fs : Foot} {ck g : Option Nat} {R F : Nat → Prop} {s : SDev} {st : SSt} {n : Int} {k : Nat} {S : CtS}
theorem CtAt.same (h : CtAt W w p c ck F n k S) {out : List Ms} {v : Value} {k' : Nat} (hk : Kp w w') (hm : MOut w.heap.size w' v out) (h1 : k ≤ k') (h2 : k' ≤ 1000000) : OutP W w p c ck F n k' S out v w' :=
 ⟨F, w.heap.size, (h.kp hk).more k' h1 h2, fun b hb => ⟨.inl hb, (h.rng b hb).2⟩, Nat.le_refl _, hm, hk.mono fun _ _ _ => trivial⟩
set_option maxRecDepth 100000 in
set_option maxHeartbeats 4000000 in
theorem beat_any (hT : theSup.T W) (h : CtAt W w p c ck F n k S) (hk : k + 1 ≤ 1000000) :
  Calls Tryz.prog 15 #[.pointer (some ⟨c, 0, none⟩)] w fun e w' => ∃ v, e = .returned v ∧ OutP W w p c ck F n (k + 1) (beatC S n).2 (beatC S n).1 v w' := by
 have HH := Lib.hid h
 obtain ⟨q, Fd, Fs, g, R, s, st, hin, hF, hFr⟩ := h
 have HU := Lib.hid hin.bd.under
 have hu' := hin.bd.und
 cases hS : S.und with
 | none =>
  have HE := Lib.hid (show beatC S n = ([], S) from by unfold beatC; rw [hS])
  have HZ := Lib.hid (show S.underZ = 0 from by unfold CtS.underZ; rw [hS])
  rw [HZ.out] at HU
  have HF := Lib.hid (HH.out.same (out := []) (v := .slice none 0 0) (Keeps.refl _ w) (MOut.nil _ _) (Nat.le_succ k) hk)
  rw [HE.out]
  clear hin hF hFr hu' hS HE HZ HH hT
  go_enter Tryz.func15, Tryz.ntmps15
  go_wp2_with fail
  refine (show Calls _ _ _ _ _ from HU.out).mono ?_
  rintro e w1 ⟨rfl, rfl⟩
  go_wp2_with fail
  go_ret
  exact ⟨_, rfl, HF.out⟩
 | some x =>
  have hok := hin.bd.ok.und x hS
  rw [hS] at hu'
  obtain ⟨kk, rfl, rt, A, ca, B, cb, C, cc, hblk, -⟩ := hu'
  obtain ⟨r, hb, -⟩ := hin.bd.ex
  have c4 : w.cell? ⟨c, 4, none⟩ = some (.pointer (some ⟨kk, 0, none⟩)) := hb.c4
  have k4 := hblk.c4
  have k2 := hblk.c2
  obtain ⟨i, hi⟩ : ∃ i : Nat, x.lost = (i : Int) := ⟨x.lost.toNat, by have := hok.l0; omega⟩
  have hi5 : i ≤ 5 := by have := hok.l5; omega
  have hov := hb.over i hi5
  have hit : x.lost.toNat = i := by omega
  have HE := Lib.hid (show beatC S n = (if x.phase = 0 then (S.asks 3 x, S) else if x.phase = 1 then (S.asks 7 x, S) else if n < S.over i then ([], S) else (x.commits, S.commit x)) from by unfold beatC; rw [hS, ← hit])
  have HA := Lib.hid (fun y => hin.bd.ask x hS y)
  have HCM := Lib.hid (fun n => commit_any hT (HH.out.kp ((Keeps.refl (fun _ => True) w).drewN n)) x hS hk)
  have HN := Lib.hid (fun m => (hin.cl.keep ((Keeps.refl (fun _ => True) w).drewN m) fun _ _ => trivial).now)
  have hnu : (x.num == 0) = false := by have := (ringB_num hok.ring).1; simp; omega
  have HZ := Lib.hid (show S.underZ = x.num from by unfold CtS.underZ; rw [hS])
  rw [HZ.out] at HU
  rw [hi] at k2
  have c0 := hb.c0
  obtain ⟨vck, hvck⟩ : ∃ v, pOf ck = v := ⟨_, rfl⟩
  rw [hvck] at c0 HN
  generalize S.over i = ov at hov HE
  generalize x.phase = ph at k4 HE
  generalize x.num = nu at hnu HU
  have hil : (i : Int) < 6 := by omega
  clear hin hF hFr hS hok hblk hb hi hit HZ hvck hT
  go_enter Tryz.func15, Tryz.ntmps15
  go_wp2_with fail
  refine (show Calls _ _ _ _ _ from HU.out).mono ?_
  rintro e w1 ⟨rfl, rfl⟩
  by_cases p0 : ph = 0
  ·have HX := Lib.hid (show beatC S n = (S.asks 3 x, S) from by rw [HE.out, if_pos p0])
   subst p0
   have HF := Lib.hid (fun v w' (hm : MOut w.heap.size w' v (S.asks 3 x)) (hkk : Kp w w') => HH.out.same (out := S.asks 3 x) hkk hm (Nat.le_succ k) hk)
   clear HE HCM HN
   go_wp2_with fail
   refine (show Calls _ _ _ _ _ from HA.out 3).mono ?_
   rintro e w1 ⟨v, rfl, hm, hkk⟩
   have HF1 := Lib.hid (HF.out v w1 hm hkk)
   clear hm hkk HF
   go_wp2_with fail
   go_ret
   exact ⟨_, rfl, by rw [HX.out]; exact HF1.out⟩
  ·rw [if_neg p0] at HE
   have q0 : (ph == 0) = false := by simpa using p0
   by_cases p1 : ph = 1
   ·have HX := Lib.hid (show beatC S n = (S.asks 7 x, S) from by rw [HE.out, if_pos p1])
    subst p1
    have HF := Lib.hid (fun v w' (hm : MOut w.heap.size w' v (S.asks 7 x)) (hkk : Kp w w') => HH.out.same (out := S.asks 7 x) hkk hm (Nat.le_succ k) hk)
    clear HE HCM HN p0 q0
    go_wp2_with fail
    refine (show Calls _ _ _ _ _ from HA.out 7).mono ?_
    rintro e w1 ⟨v, rfl, hm, hkk⟩
    have HF1 := Lib.hid (HF.out v w1 hm hkk)
    clear hm hkk HF
    go_wp2_with fail
    go_ret
    exact ⟨_, rfl, by rw [HX.out]; exact HF1.out⟩
   ·rw [if_neg p1] at HE
    have q1 : (ph == 1) = false := by simpa using p1
    clear p0 p1 HA
    go_wp2_with fail
    go_quiet ((first | (go_at_call 41; exact Calls.quiet_of_same ((HN.out _).mono fun _ _ h => ⟨h.1, h.2.symm⟩))))
    by_cases hlt : n < ov
    ·have HX := Lib.hid (show beatC S n = ([], S) from by rw [HE.out, if_pos hlt])
     clear HE
     have HF := Lib.hid (fun m => HH.out.same (out := []) (v := .slice none 0 0) (w' := w.drewN m) ((Keeps.refl _ w).drewN m) (MOut.nil _ _) (Nat.le_succ k) hk)
     go_wp2_with fail
     go_ret
     exact ⟨_, rfl, by rw [HX.out]; exact HF.out _⟩
    ·have HX := Lib.hid (show beatC S n = (x.commits, S.commit x) from by rw [HE.out, if_neg hlt])
     clear HE
     go_wp2_with fail
     refine (show Calls _ _ _ _ _ from HCM.out _).mono ?_
     rintro e w1 ⟨v, rfl, ho⟩
     have HO := Lib.hid (show OutP W w p c ck F n (k + 1) (S.commit x) x.commits v w1 from by
      obtain ⟨F', B, o1, o2, o3, o4, o5⟩ := ho
      exact ⟨F', B, o1, o2, o3, o4, ⟨o5.os, o5.tape, o5.output, o5.size, o5.block⟩⟩)
     clear ho HCM
     go_wp2_with fail
     go_ret
     exact ⟨_, rfl, by rw [HX.out]; exact HO.out⟩
end
end Go.Proofs.YtemkjodkmehffaaGreatDoor
