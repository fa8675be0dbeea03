/-
  CtBegin: texts of mine, joined.
-/
import Derived.Test.YtemkjodkmehffaaGreatDoorAllM34
import Derived.Test.YtemkjodkmehffaaGreatDoorAllM29
namespace Go.Proofs.YtemkjodkmehffaaGreatDoor
open Go Go.RowKit Go.Joins
section
variable {W w0 w w' : World} {p q c : Nat} {Fd Fs : Foot} {ck g : Option Nat} {R F : Nat → Prop} {s : SDev} {st : SSt} {n : Int} {k : Nat} {S : CtS}
theorem CtIn.take {g' : Option Nat} {R' : Nat → Prop} {S' : CtS} (h : CtIn W w p q c Fd Fs ck g R s st n k S) (hk : Keeps (fun b => ¬ CtF c g R b) w w') (hb : CtB w' c q ck g' R' S') (hF : ∀ b, CtF c g' R' b → CtF c g R b ∨ (¬ Fd.all b ∧ ¬ Fs.all b ∧ ck ≠ some b ∧ W.heap.size ≤ b)) (ht : st.text = encC S'.epoch S'.top S'.mem) : CtIn W w' p q c Fd Fs ck g' R' s st n k S' := by
 have hge := h.ge
 have hW : Kp W w' := ((h.kpW.mono fun _ _ _ => trivial : Keeps (fun b => ¬ CtF c g R b) W w).trans hk).mono fun b hb2 _ hF => by have := hge b (.inr (.inr (.inr hF))); omega
 have h1 : Keeps Fd.all w w' := hk.mono fun b _ hb2 hF => (h.dj b hF).1 hb2
 have h2 : Keeps Fs.all w w' := hk.mono fun b _ hb2 hF => (h.dj b hF).2.1 hb2
 exact ⟨⟨⟨h.du.dv.d.keep h1, h.du.dv.gd, hW⟩, theSup.keep h.du.su h2, h.du.ap, h.du.gs, h.du.on, h.du.room, h.du.sec⟩, h.oth, h.still, h.pl, ht, hb, h.cl.keep hk fun b hb2 hF => (h.dj b hF).2.2.1 hb2, fun b hb2 => (hF b hb2).elim (h.dj b) id, h.dk, h.cb, h.tb, h.kb⟩
theorem OutP.after {F4 : Nat → Prop} {w4 : World} {k' : Nat} {S' : CtS} {out : List Ms} {v : Value} (h : OutP W w4 p c ck F4 n k' S' out v w') (hk : Keeps (fun b => ¬ F b) w0 w4) (hF : ∀ b, F4 b → F b ∨ w0.heap.size ≤ b) : OutP W w0 p c ck F n k' S' out v w' := by
 obtain ⟨F', B, o1, o2, o3, o4, o5⟩ := h
 refine ⟨F', B, o1, fun b hb => ⟨?_, (o2 b hb).2⟩, Nat.le_trans hk.size o3, o4, ⟨o5.os.trans hk.os, o5.tape.trans hk.tape, o5.output.trans hk.output, Nat.le_trans hk.size o5.size, fun b hb hl => ?_⟩⟩
 ·rcases (o2 b hb).1 with h1 | h1
  ·exact hF b h1
  ·exact .inr (Nat.le_trans hk.size h1)
 ·exact (o5.block b (fun hf => (hF b hf).elim hb fun h1 => by omega) (Nat.lt_of_lt_of_le hl hk.size)).trans (hk.block b hb hl)
theorem begin_busy (h : CtAt W w p c ck F n k S) (x : ChS) (hu : S.und = some x) (u v : Value) (z : Int) : Calls Tryz.prog 38 #[.pointer (some ⟨c, 0, none⟩), u, v, .int .i64 z] w fun e w' => e = .returned (.tuple #[.slice none 0 0, .int .i64 6]) ∧ w = w' := by
 obtain ⟨q, Fd, Fs, g, R, s, st, hin, -⟩ := h
 have HD := Lib.hid hin.bd.down
 obtain ⟨r, hb, -⟩ := hin.bd.ex
 have hu' := hin.bd.und
 rw [hu] at hu'
 obtain ⟨kk, rfl, -⟩ := hu'
 have c4 : w.cell? ⟨c, 4, none⟩ = some (.pointer (some ⟨kk, 0, none⟩)) := hb.c4
 clear hin hb hu
 go_enter Tryz.func38, Tryz.ntmps38
 go_wp2_with fail
 refine (show Calls _ _ _ _ _ from HD.out).mono ?_
 rintro e w1 ⟨rfl, rfl⟩
 go_wp2_with fail
 go_ret2
 exact ⟨rfl, rfl⟩
set_option maxRecDepth 100000 in
set_option maxHeartbeats 4000000 in
theorem begin_form (h : CtAt W w p c ck F n k S) (hu : S.und = none) (u : Value) (z : Int) (B : Option Addr) (cb : Nat) (l : List Int) (hl : Row w B (fun _ => True) (l.map (Value.int .i64))) (hlc : l.length ≤ cb) (hcm : cb ≤ maxLen) (hf : begB S l = false) (m : Nat) (hm : m = l.length) :
  Calls Tryz.prog 38 #[.pointer (some ⟨c, 0, none⟩), u, .slice B m cb, .int .i64 z] w fun e w' => e = .returned (.tuple #[.slice none 0 0, .int .i64 1]) ∧ Kp w w' := by
 subst hm
 obtain ⟨q, Fd, Fs, g, R, s, st, hin, -⟩ := h
 have HD := Lib.hid hin.bd.down
 have HM := Lib.hid (fun w1 (hk : Kp w w1) => (hin.bd.kp hk).members)
 obtain ⟨r, hb, -⟩ := hin.bd.ex
 have hu' := hin.bd.und
 rw [hu] at hu'
 have c4 : w.cell? ⟨c, 4, none⟩ = some (.pointer none) := by rw [show (Value.pointer none) = pOf g from by rw [show g = none from hu']; rfl]; exact hb.c4
 have c3 := hb.c3
 have t0 : 0 ≤ S.top := by have := hin.bd.ok.lo; have := (ringB_num hin.bd.ok.ring).1; omega
 have t1 := hin.bd.ok.hi
 have HL := Lib.hid hl
 have HC := Lib.hid (And.intro hlc hcm)
 have HK := Lib.hid (Keeps.refl (fun _ => True) w)
 have HS5 := Lib.hid hin.bd.ok.len
 cases hrb : ringB (S.top + 1) l with
 | false =>
  have HN := Lib.hid (rnew_no w B cb l (S.top + 1) hl hlc hcm hrb)
  clear hin hb hl hlc hcm hf hu hu' hrb HM
  go_enter Tryz.func38, Tryz.ntmps38
  go_wp2_with fail
  refine (show Calls _ _ _ _ _ from HD.out).mono ?_
  rintro e w1 ⟨rfl, rfl⟩
  go_wp2_with fail
  refine (show Calls _ _ _ _ _ from HN.out).mono ?_
  rintro e w1 ⟨rfl, hk⟩
  have HK1 := Lib.hid hk
  clear hk HN
  go_wp2_with fail
  go_ret2
  exact ⟨rfl, HK1.out⟩
 | true =>
  have heq : l = S.mem := by
   unfold begB at hf
   rw [hrb] at hf
   simpa using hf
  have HEQ := Lib.hid heq
  have HN := Lib.hid (rnew_yes w B cb l (S.top + 1) hl hlc hcm hrb)
  clear hin hb hl hlc hcm hf hu hu' hrb heq
  go_enter Tryz.func38, Tryz.ntmps38
  go_wp2_with fail
  refine (show Calls _ _ _ _ _ from HD.out).mono ?_
  rintro e w1 ⟨rfl, rfl⟩
  go_wp2_with fail
  refine (show Calls _ _ _ _ _ from HN.out).mono ?_
  rintro e w1 ⟨rr, D, cd, E, ce, rfl, -, -, -, hk⟩
  have HK1 := Lib.hid hk
  clear hk HN
  go_wp2_with fail
  refine (show Calls _ _ _ _ _ from HM.out w1 HK1.out).mono ?_
  rintro e w2 ⟨v, rfl, ho, hk2⟩
  obtain ⟨A2, c2, rfl, -, hr2⟩ := own_slice ho
  obtain ⟨q1, q2, -⟩ := own_cap ho
  have HSM := Lib.hid (same_ints w2 B A2 cb c2 l S.mem (HL.out.keep (HK1.out.trans hk2)) (hr2.mono fun _ _ _ => trivial) HC.out.1 q1 HC.out.2 q2 true (by simp [HEQ.out]))
  have HK2 := Lib.hid (HK1.out.trans hk2)
  clear ho hr2 q1 q2 hk2 HM
  go_wp2_with fail
  refine (show Calls _ _ _ _ _ from HSM.out).mono ?_
  rintro e w3 ⟨rfl, hk3⟩
  have HK3 := Lib.hid (HK2.out.trans hk3)
  clear hk3 HSM
  go_wp2_with fail
  go_ret2
  exact ⟨rfl, HK3.out⟩
set_option maxRecDepth 100000 in
set_option maxHeartbeats 4000000 in
theorem begin_yes (hT : theSup.T W) (h : CtAt W w0 p c ck F n k S) (hk0 : Kp w0 w) (hu : S.und = none) (A : Option Addr) (ca : Nat) (all : List Int) (ha : LRow w (fun b => w0.heap.size ≤ b) A ca all) (hna : nodesB all = true) (B : Option Addr) (cb : Nat) (l : List Int) (hl : Row w B (fun _ => True) (l.map (Value.int .i64))) (hlc : l.length ≤ cb) (hcm : cb ≤ maxLen) (hf : begB S l = true) (lost : Int) (h0 : 0 ≤ lost) (h5 : lost ≤ 5) (hk : k + 2 ≤ 1000000) (m m' : Nat) (hm : m = l.length) (hm' : m' = all.length) :
  Calls Tryz.prog 38 #[.pointer (some ⟨c, 0, none⟩), .slice A m' ca, .slice B m cb, .int .i64 lost] w fun e w' => ∃ v, e = .returned (.tuple #[v, .int .i64 0]) ∧ OutP W w0 p c ck F n (k + 2) (begC S all l lost) (beatC (begC S all l lost) n).1 v w' := by
 subst hm hm'
 have hat := h
 obtain ⟨q, Fd, Fs, g, R, s, st, hin0, hF, hFr⟩ := h
 have hbok := beg_ok hin0.bd.ok hf hna h0 h5
 have hin := hin0.kp hk0
 have hu' := hin.bd.und
 rw [hu] at hu'
 obtain rfl : g = none := hu'
 have HD := Lib.hid hin.bd.down
 obtain ⟨r, hb, hrg⟩ := hin.bd.ex
 have c4 : w.cell? ⟨c, 4, none⟩ = some (.pointer none) := hb.c4
 have c3 := hb.c3
 have t0 : 0 ≤ S.top := by have := hin.bd.ok.lo; have := (ringB_num hin.bd.ok.ring).1; omega
 have t1 := hin.bd.ok.hi
 unfold begB at hf
 rw [Bool.and_eq_true] at hf
 have hrb := hf.1
 have hne : decide (l = S.mem) = false := by simpa using hf.2
 have t2 := (ringB_num hrb).2
 have HM := Lib.hid (fun w1 (hk : Kp w w1) => (hin.bd.kp hk).members)
 have HN := Lib.hid (rnew_yes w B cb l (S.top + 1) hl hlc hcm hrb)
 have HL := Lib.hid hl
 have HC := Lib.hid (And.intro hlc hcm)
 have HNE := Lib.hid hne
 have HIN := Lib.hid hin
 have HIN0 := Lib.hid hin0
 have HF := Lib.hid hF
 have HFR := Lib.hid hFr
 have HK0 := Lib.hid hk0
 have HA := Lib.hid ha
 have HBOK := Lib.hid hbok
 have HRB := Lib.hid hrb
 have HU := Lib.hid hu
 have HRG := Lib.hid hrg
 have HB := Lib.hid hb
 have hSz := hin0.lt
 have HSZ := Lib.hid hSz
 have HKP := Lib.hid (fun (w1 : World) (h1 : Kp w w1) => keep_any hT (HIN.out.kp h1) HU.out (by omega) r S.epoch (S.top + 1) S.mem (HRG.out.keep (h1.mono fun _ _ _ => trivial)) (by have := HIN.out.bd.ok.lo; omega) t2)
 have HN5 := Lib.hid (nodes_len hna)
 have HBT := Lib.hid (fun (w4 : World) (F4 : Nat → Prop) (h4 : CtAt W w4 p c ck F4 n (k + 1) (begC S all l lost)) => beat_any hT h4 (by omega))
 have HBB := Lib.hid (show (beatC (begC S all l lost) n).2 = begC S all l lost from by unfold beatC begC; simp)
 clear hat hF hFr hbok hin hb hrg hrb hne hl hlc hcm hf hu hin0 hSz ha hk0 hna h0 h5 hT hk t2
 go_enter Tryz.func38, Tryz.ntmps38
 go_wp2_with fail
 refine (show Calls _ _ _ _ _ from HD.out).mono ?_
 rintro e w1 ⟨rfl, rfl⟩
 go_wp2_with fail
 refine (show Calls _ _ _ _ _ from HN.out).mono ?_
 rintro e w1 ⟨rr, D, cd, E, ce, rfl, hrc, hr1, hr2, hk1⟩
 have HK1 := Lib.hid hk1
 have HRR := Lib.hid (show RgR w1 (fun b => w.heap.size ≤ b ∧ b < w1.heap.size) rr (S.top + 1) l from ⟨HRB.out, ⟨hr1, hr2⟩, D, cd, E, ce, hrc⟩)
 have HE0 := Lib.hid hrc.e0
 clear hrc hr1 hr2 hk1 HN HD c4 c3
 go_wp2_with fail
 refine (show Calls _ _ _ _ _ from HM.out w1 HK1.out).mono ?_
 rintro e w2 ⟨v, rfl, ho, hk2⟩
 obtain ⟨A2, c2, rfl, -, hrw⟩ := own_slice ho
 obtain ⟨q1, q2, -⟩ := own_cap ho
 have HSM := Lib.hid (same_ints w2 B A2 cb c2 l S.mem (HL.out.keep (HK1.out.trans hk2)) (hrw.mono fun _ _ _ => trivial) HC.out.1 q1 HC.out.2 q2 false HNE.out)
 have HK2 := Lib.hid (HK1.out.trans hk2)
 have HK12 := Lib.hid hk2
 clear ho hrw q1 q2 hk2 HM
 go_wp2_with fail
 refine (show Calls _ _ _ _ _ from HSM.out).mono ?_
 rintro e w3 ⟨rfl, hk3⟩
 have HK3 := Lib.hid (HK2.out.trans hk3)
 have HK13 := Lib.hid (HK12.out.trans hk3)
 clear hk3 HSM HK2 HK12
 have d2 := HK3.out.cell HB.out.c2 trivial
 have HEW := Lib.hid (show Calls Tryz.prog 43 #[.pointer (some ⟨rr, 0, none⟩)] w3.drew fun x w' => x = .returned (.int .i64 (S.top + 1)) ∧ w' = w3.drew from (repoch_any _ rr (S.top + 1) ((HK13.out.drew).cell HE0.out trivial)).mono fun _ _ h => ⟨h.1, h.2.symm⟩)
 go_wp2_with fail
 go_still_tail 9, (by kernel_rfl)
 still_call HEW.out
 repeat still_step
 refine wpStill_nil ?_
 change wpList _ _ _ _ _ w3.drew
 have HKD := Lib.hid (show Kp w w3.drew from HK3.out.drew)
 have HK1D := Lib.hid (show Kp w1 w3.drew from HK13.out.drew)
 have HKP1 := Lib.hid (HKP.out w3.drew HKD.out)
 clear d2 HEW HK3 HK13 HKP HE0
 generalize w3.drew = wd at HKD HK1D HKP1 ⊢
 go_wp2_with fail
 refine (show Calls _ _ _ _ _ from HKP1.out).mono ?_
 rintro e w4 ⟨rfl, Fd', Fs', s', st', hin4, hF4, hk4, hR4⟩
 have hXF : ∀ b, CtAll Fd Fs ck none c R b → b < w0.heap.size := HSZ.out
 have hnew4 : Keeps (fun b => w0.heap.size ≤ b) wd w4 := hk4.mono fun b _ hb hf => by have := hXF b hf; omega
 have hring4 : RgR w4 (fun b => w0.heap.size ≤ b ∧ b < w1.heap.size) rr (S.top + 1) l := ((HRR.out.keep (HK1D.out.mono fun _ _ _ => trivial)).mono fun b hb => ⟨Nat.le_trans HK0.out.size hb.1, hb.2⟩).keep (hnew4.mono fun b _ hb => hb.1)
 have hall4 : LRow w4 (fun b => w0.heap.size ≤ b ∧ b < w1.heap.size) A ca all := ⟨(((HA.out.1.lt.mono fun b _ hb => (⟨hb.1, Nat.lt_of_lt_of_le hb.2 HK1.out.size⟩ : w0.heap.size ≤ b ∧ b < w1.heap.size)).keep (HKD.out.mono fun _ _ _ => trivial)).keep (hnew4.mono fun b _ hb => hb.1)), HA.out.2⟩
 have hs1d := HK1D.out.size
 have hsd4 := hk4.size
 have HNC := Lib.hid (newChange_any w4 (fun b => w0.heap.size ≤ b ∧ b < w1.heap.size) rr A ca (S.top + 1) l all lost hring4 hall4 (HN5.out.2) (fun b hb => by omega) all.length rfl)
 have HI4 := Lib.hid hin4
 have HF4 := Lib.hid hF4
 have HK4 := Lib.hid hk4
 clear hin4 hF4 hk4 hR4 hXF hnew4 hring4 hall4 HKP1
 go_wp2_with fail
 refine (show Calls _ _ _ _ _ from HNC.out).mono ?_
 rintro e w5 ⟨kk, rfl, hch5, hkk1, hkk2, hk5⟩
 have hin5 := HI4.out.kp hk5
 obtain ⟨r5, hb5, hrg5⟩ := hin5.bd.ex
 have c4 : w5.cell? ⟨c, 4, none⟩ = some (.pointer none) := hb5.c4
 have f4 := hb5.fz 4
 have HSET := Lib.hid (show ∀ w6, w6 = w5.setCell ⟨c, 4, none⟩ (.pointer (some ⟨kk, 0, none⟩)) → ∃ F6, CtAt W w6 p c ck F6 n (k + 1) (begC S all l lost) ∧ (∀ b, F6 b → F b ∨ w0.heap.size ≤ b) ∧ Keeps (fun b => ¬ F b) w0 w6 from by
  rintro w6 rfl
  have hw6 : Keeps (fun b => b ≠ c) w5 (w5.setCell ⟨c, 4, none⟩ (.pointer (some ⟨kk, 0, none⟩))) := (Keeps.refl _ w5).setCell (p := ⟨c, 4, none⟩) (.inr (fun h => h rfl)) _
  have hb6 := hb5.setU (some kk)
  have hcw : c < w0.heap.size := HSZ.out c (.inr (.inr (.inr (.inl rfl))))
  generalize hw : w5.setCell ⟨c, 4, none⟩ (.pointer (some ⟨kk, 0, none⟩)) = w6 at hw6
  have hb6' : CtBlk w6 c q r5 ck (some kk) (S.top + 1) S.over := by rw [← hw]; exact hb6
  have hsz0 := HK0.out.size
  have hsz1 := HK1.out.size
  have hs45 := hk5.size
  have hs56 := hw6.size
  have hlt4 := HI4.out.lt
  have hRo : ∀ b, R b → b < w0.heap.size := fun b hb => HSZ.out b (.inr (.inr (.inr (.inr (.inr hb)))))
  have hap : ∀ b, w0.heap.size ≤ b → b < w1.heap.size ∨ w4.heap.size ≤ b → ¬ Fd'.all b ∧ ¬ Fs'.all b ∧ ck ≠ some b ∧ W.heap.size ≤ b := fun b hb1 hb2 => by
   have hno : ¬ CtAll Fd' Fs' ck none c R b := fun hf => by
    rcases hb2 with hb2 | hb2
    ·rcases HF4.out b hf with h | h
     ·have := HSZ.out b h; omega
     ·omega
    ·have := hlt4 b hf; omega
   exact ⟨fun h => hno (.inl h), fun h => hno (.inr (.inl h)), fun h => hno (.inr (.inr (.inl h))), Nat.le_trans HIN0.out.kpW.size hb1⟩
  have hbd : CtB w6 c q ck (some kk) (fun b => R b ∨ ((w0.heap.size ≤ b ∧ b < w1.heap.size) ∨ (w4.heap.size ≤ b ∧ b < kk))) (begC S all l lost) := by
   refine ⟨HBOK.out, ⟨r5, hb6', (hrg5.keep (hw6.mono fun b _ hb e => hin5.bd.cR (e ▸ hb))).mono fun b hb => .inl hb⟩, ⟨kk, rfl, ?_⟩, fun b hb => ?_, fun hc => ?_, fun y hy => ?_⟩
   ·refine (hch5.keep hw6 fun b hb e => ?_).mono fun b hb => .inr hb
    subst e
    rcases hb with hb | hb | hb
    ·omega
    ·omega
    ·omega
   ·rcases hb with hb | hb | hb
    ·have := hRo b hb; omega
    ·omega
    ·omega
   ·rcases hc with hc | hc | hc
    ·exact hin5.bd.cR hc
    ·omega
    ·omega
   ·cases hy
    refine ⟨fun hc => ?_, by omega⟩
    rcases hc with hc | hc | hc
    ·have := hRo kk hc; omega
    ·omega
    ·omega
  have hi6 : CtIn W w6 p q c Fd' Fs' ck (some kk) (fun b => R b ∨ ((w0.heap.size ≤ b ∧ b < w1.heap.size) ∨ (w4.heap.size ≤ b ∧ b < kk))) s' st' n (k + 1) (begC S all l lost) := by
   refine hin5.take (hw6.mono fun b _ hb e => hb (.inl e)) hbd (fun b hb => ?_) hin5.txt
   rcases hb with rfl | hb | hb | hb | hb
   ·exact .inl (.inl rfl)
   ·cases hb; exact .inr (hap kk (by omega) (.inr hkk1))
   ·exact .inl (.inr (.inr hb))
   ·exact .inr (hap b hb.1 (.inl hb.2))
   ·exact .inr (hap b (by omega) (.inr hb.1))
  refine ⟨_, hi6.at_, fun b hb => ?_, ?_⟩
  ·have hold : CtAll Fd' Fs' ck none c R b → F b ∨ w0.heap.size ≤ b := fun hb => by
    rcases HF4.out b hb with h | h
    ·exact .inl (HF.out b h)
    ·exact .inr (by have := HKD.out.size; omega)
   rcases hb with hb | hb | hb | hb | hb | hb | hb | hb
   ·exact hold (.inl hb)
   ·exact hold (.inr (.inl hb))
   ·exact hold (.inr (.inr (.inl hb)))
   ·exact hold (.inr (.inr (.inr (.inl hb))))
   ·cases hb; exact .inr (by omega)
   ·exact hold (.inr (.inr (.inr (.inr (.inr hb)))))
   ·exact .inr hb.1
   ·exact .inr (by omega)
  ·exact ((((HK0.out.trans HKD.out).mono fun _ _ _ => trivial : Keeps (fun b => ¬ F b) w0 wd).trans (HK4.out.mono fun b _ hb hf => hb (HF.out b hf))).trans (hk5.mono fun _ _ _ => trivial)).trans (hw6.mono fun b _ hb e => hb (HF.out b (.inr (.inr (.inr (.inl e)))))))
 clear hch5 hkk1 hkk2 hk5 hin5 hb5 hrg5 HNC HI4 HF4 HK4
 go_upto_region 11 with fail
 obtain ⟨F6, a1, a2, a3⟩ := HSET.out _ rfl
 generalize World.setCell w5 _ _ = w6 at a1 a2 a3 ⊢
 have HBT6 := Lib.hid (HBT.out w6 F6 a1)
 have HAF := Lib.hid (And.intro a2 a3)
 clear a1 a2 a3 HSET HBT c4 f4
 go_wp2_with fail
 refine (show Calls _ _ _ _ _ from HBT6.out).mono ?_
 rintro e w7 ⟨v, rfl, ho⟩
 have HO := Lib.hid (ho.after HAF.out.2 HAF.out.1)
 rw [HBB.out] at HO
 clear ho HBT6
 go_wp2_with fail
 go_ret2
 exact ⟨v, rfl, HO.out⟩
end
end Go.Proofs.YtemkjodkmehffaaGreatDoor
