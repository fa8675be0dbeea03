/-
  StStart, StOpens, StMake, StOpen, SlgRead: texts of mine, joined.
-/
import Derived.Test.YticophaepapjoaaGreatDoorAllA23
import Derived.Test.YticophaepapjoaaGreatDoorAllA25
import Derived.Test.YticophaepapjoaaGreatDoorAllA27
namespace Go.Proofs.YticophaepapjoaaGreatDoor
open Go Go.RowKit Go.Joins
theorem csegs_any (w : World) (p : Nat) (F : Foot) (s : SDev) (h : DAt w p F s) (n : Nat) (hn : s.now.length = n) (h1 : 192 ≤ n) (h2 : n ≤ 2048) :
  Calls Tryz.prog 36 #[.pointer (some ⟨p, 0, none⟩)] w fun e w' => e = .returned (.int .i64 (segsOf n : Int)) ∧ w = w' := by
 have HL := Lib.hid (dlen_any w p F s h)
 rw [hn] at HL
 clear h hn
 have hr : (segsOf n : Int) = min (((n - 162) / 8 : Nat) : Int) 200 := by unfold segsOf; omega
 rw [hr]
 go_enter Tryz.func36, Tryz.ntmps36
 go_wp2_with fail
 refine (show Calls _ _ _ _ _ from HL.out).mono ?_
 rintro e w' ⟨rfl, rfl⟩
 go_wp2_with fail
 go_ret
 exact ⟨congrArg (fun z => Ending.returned (Value.int .i64 z)) (show min (((n : Int) - 162) / 8) 200 = min (((n - 162) / 8 : Nat) : Int) 200 by omega), rfl⟩
def JOpens (J : JournalOK) (p : Nat) (s : SDev) (P : JSt → Prop) (w : World) : Prop := ∀ w1, Kp w w1 → Calls Tryz.prog 66 #[.pointer (some ⟨p, 0, none⟩), .int .i64 2, .int .i64 20] w1 fun e w' => ∃ (q : Nat) (Fj : Foot) (j : JSt), e = .returned (.tuple #[.pointer (some ⟨q, 0, none⟩), .int .i64 0]) ∧ J.rep w' p q Fj j s ∧ j.place = 2 ∧ j.segs = 20 ∧ P j ∧ (∀ b, Fj.all b → w1.heap.size ≤ b) ∧ Kp w1 w'
def COpens (S : FlashOK) (p : Nat) (s : SDev) (n : Nat) (P : FSt → Prop) (w : World) : Prop := ∀ w1, Kp w w1 → Calls Tryz.prog 67 #[.pointer (some ⟨p, 0, none⟩), .int .i64 162, .int .i64 (segsOf n : Int)] w1 fun e w' => ∃ (q : Nat) (Fc : Foot) (f : FSt), e = .returned (.tuple #[.pointer (some ⟨q, 0, none⟩), .int .i64 0]) ∧ S.rep w' p q Fc f s ∧ f.place = 162 ∧ f.segs = segsOf n ∧ P f ∧ (∀ b, Fc.all b → w1.heap.size ≤ b) ∧ Kp w1 w'
def nextM (m : M4) : M4 := ⟨m.boot + 1, m.epoch, m.ready, m.frozen⟩
theorem next_ok {m : M4} (h : mayB m = true) (hb : m.boot < 1099511627776) : (mayB (nextM m) && overB m (nextM m)) = true := by
 unfold mayB small12 at h
 simp only [Bool.and_eq_true, decide_eq_true_eq] at h
 obtain ⟨⟨h1, h2, h3, h4, h5, h6⟩, h7⟩ := h
 unfold mayB small12 overB nextM
 simp only [Bool.and_eq_true, decide_eq_true_eq]
 exact ⟨⟨⟨by omega, by omega, h3, h4, h5, h6⟩, h7⟩, by omega, by omega⟩
section
variable {S : FlashOK} {J : JournalOK} {W w w1 w2 w3 w' : World} {p b q1 q2 q3 k wh n d : Nat} {F Fc Fj Fs : Foot} {s : SDev} {z : Sto} {X : Nat → Prop} {f : FSt} {j : JSt} {m : M4} {t : Nat}
theorem StIn.made (h : Kep W w p q3 k F Fs s ⟨p, 0, wh, t, encM m⟩ m) (ho : Oth theSup s.now ⟨p, 0, wh, t, encM m⟩) (hn : s.now.length = n) (h1 : 192 ≤ n) (hX : ∀ c, X c → ¬ F.all c ∧ ¬ (kfoot k Fs).all c ∧ c < w.heap.size)
  (hw2 : Kp w w2) (hj : J.rep w2 p q2 Fj j s) (j1 : j.place = 2) (j2 : j.segs = 20) (gj : ∀ b, Fj.all b → w.heap.size ≤ b) (hw3 : Kp w2 w3) (hc : S.rep w3 p q1 Fc f s) (f1 : f.place = 162) (f2 : f.segs = segsOf n) (gc : ∀ b, Fc.all b → w2.heap.size ≤ b) (boot : Int) (c : Nat) (hcc : s.calls ≤ c) :
  StIn S J W w3 p q1 q2 q3 k wh F Fc Fj Fs s ⟨f, j, t, m, boot, c⟩ n ⟨X, fun _ => False⟩ := by
 have s1 := hw2.size
 have s2 := hw3.size
 have s0 := h.du.dv.kp.size
 have hFl : ∀ b, F.all b → b < w.heap.size := h.du.dv.d.lt
 have hkl : ∀ b, (kfoot k Fs).all b → b < w.heap.size := fun c hc => by
  rcases kfoot_all.1 hc with hc | rfl
  ·exact theSup.lt h.du.su c hc
  ·exact h.kb.lt
 have hjl : ∀ b, Fj.all b → b < w2.heap.size := J.lt hj
 have hXl : ∀ b, (⟨X, fun _ => False⟩ : Foot).all b → X b := fun b hb => hb.elim id fun h => h.elim
 refine ⟨hc, J.keep hj (hw3.mono fun _ _ _ => trivial), (h.keep hw2).keep hw3, ?_, ?_, ?_, ?_, ?_, ?_, ?_, ?_, ?_, ?_, fun b hb => ?_, fun b hb => ?_, fun b hb => ?_, hn, h1, f1, f2, j1, j2, ho, hcc⟩
 ·exact ⟨fun b hb hf => by have := hFl b (.inl hb); have := gc b hf; omega, fun b hb hf => by have := hFl b hf; have := gc b (.inl hb); omega⟩
 ·exact ⟨fun b hb hf => by have := hFl b (.inl hb); have := gj b hf; omega, fun b hb hf => by have := hFl b hf; have := gj b (.inl hb); omega⟩
 ·refine ⟨fun b hb hf => ?_, fun b hb hf => ?_⟩
  ·rcases kfoot_all.1 hf with hf | rfl
   ·exact h.du.ap.l b hb hf
   ·exact h.nf (.inl hb)
  ·rcases hb with hb | rfl
   ·exact h.du.ap.r b hb hf
   ·exact h.nf hf
 ·exact ⟨fun b hb hf => by have := hjl b hf; have := gc b (.inl hb); omega, fun b hb hf => by have := hjl b (.inl hb); have := gc b hf; omega⟩
 ·exact ⟨fun b hb hf => by have := hkl b hf; have := gc b (.inl hb); omega, fun b hb hf => by have := hkl b (.inl hb); have := gc b hf; omega⟩
 ·exact ⟨fun b hb hf => by have := hkl b hf; have := gj b (.inl hb); omega, fun b hb hf => by have := hkl b (.inl hb); have := gj b hf; omega⟩
 ·exact ⟨fun b hb hf => (hX b (hXl b hf)).1 (.inl hb), fun b hb hf => (hX b hb).1 hf⟩
 ·exact ⟨fun b hb hf => by have := (hX b (hXl b hf)).2.2; have := gc b (.inl hb); omega, fun b hb hf => by have := (hX b hb).2.2; have := gc b hf; omega⟩
 ·exact ⟨fun b hb hf => by have := (hX b (hXl b hf)).2.2; have := gj b (.inl hb); omega, fun b hb hf => by have := (hX b hb).2.2; have := gj b hf; omega⟩
 ·exact ⟨fun b hb hf => (hX b (hXl b hf)).2.1 (.inl hb), fun b hb hf => (hX b hb).2.1 hf⟩
 ·have := (hX b (hXl b hb)).2.2; omega
 ·have := gc b hb; omega
 ·have := gj b hb; omega
def Started (S : FlashOK) (J : JournalOK) (W : World) (p wh t n : Nat) (s : SDev) (m : M4) (X : Nat → Prop) (PC : FSt → Prop) (PJ : JSt → Prop) (w : World) (e : Ending) (w' : World) : Prop :=
 ∃ (b q1 q2 q3 k : Nat) (F Fc Fj Fs : Foot) (c : Nat) (f : FSt) (j : JSt), e = .returned (.tuple #[.pointer (some ⟨b, 0, none⟩), .int .i64 0]) ∧ PC f ∧ PJ j ∧
  StIn S J W w' p q1 q2 q3 k (1 - wh) F Fc Fj Fs (SDev.still (s.now.set (1 - wh) (theSup.enc (t + 1) (encM (nextM m)))) c) ⟨f, j, t + 1, nextM m, m.boot + 1, s.calls + 100⟩ n (efoot b X) ∧ StBlk w' b q1 q2 k (m.boot + 1) ∧ W.heap.size ≤ b ∧ ¬ X b ∧ Keeps X w w'
set_option maxRecDepth 100000 in
set_option maxHeartbeats 2000000 in
theorem sstart (hT : theSup.T W) (h : Kep W w p q3 k F Fs s ⟨p, 0, wh, t, encM m⟩ m) (ho : Oth theSup s.now ⟨p, 0, wh, t, encM m⟩) (hn : s.now.length = n) (h1 : 192 ≤ n) (hX : ∀ c, X c → ¬ F.all c ∧ ¬ (kfoot k Fs).all c ∧ c < w.heap.size)
  (PC : FSt → Prop) (PJ : JSt → Prop) (hJ : JOpens J p s PJ w) (hC : COpens S p s n PC w) (hb : m.boot < 1099511627776) (ht : t ≤ 300000000000) (hc : s.calls ≤ 300000000000) :
  Calls Tryz.prog 39 #[.pointer (some ⟨p, 0, none⟩), .pointer (some ⟨k, 0, none⟩)] w (Started S J W p wh t n s m X PC PJ w) := by
 have hsm : n ≤ 2048 := by rw [← hn]; exact h.du.dv.d.ok.small
 have HJ := Lib.hid hJ
 have HC := Lib.hid hC
 have HCS := Lib.hid (show ∀ w1, Kp w w1 → Calls Tryz.prog 36 #[.pointer (some ⟨p, 0, none⟩)] w1 fun e w' => e = .returned (.int .i64 (segsOf n : Int)) ∧ w1 = w' from fun w1 hk => csegs_any w1 p F s (h.keep hk).du.dv.d n hn h1 hsm)
 have HM := Lib.hid (show ∀ w1, Kp w w1 → Calls Tryz.prog 12 #[.pointer (some ⟨k, 0, none⟩)] w1 fun e w' => e = .returned (magg m) ∧ Kp w1 w' from fun w1 hk => kmeta_any w1 k q3 m (h.keep hk).kb)
 have HIN := Lib.hid (show ∀ (w2 w3 : World) (q1 q2 : Nat) (Fj Fc : Foot) (j : JSt) (f : FSt), Kp w w2 → J.rep w2 p q2 Fj j s → j.place = 2 → j.segs = 20 → (∀ b, Fj.all b → w.heap.size ≤ b) → Kp w2 w3 → S.rep w3 p q1 Fc f s → f.place = 162 → f.segs = segsOf n → (∀ b, Fc.all b → w2.heap.size ≤ b) → StIn S J W w3 p q1 q2 q3 k wh F Fc Fj Fs s ⟨f, j, t, m, m.boot + 1, s.calls⟩ n ⟨X, fun _ => False⟩ from
  fun w2 w3 q1 q2 Fj Fc j f a b c d e f' g i l o => StIn.made h ho hn h1 hX a b c d e f' g i l o (m.boot + 1) s.calls (Nat.le_refl _))
 have HSV := Lib.hid (show ∀ (w3 : World) (q1 q2 : Nat) (Fj Fc : Foot) (j : JSt) (f : FSt) (E : Foot), StIn S J W w3 p q1 q2 q3 k wh F Fc Fj Fs s ⟨f, j, t, m, m.boot + 1, s.calls⟩ n E → Calls Tryz.prog 19 #[.pointer (some ⟨k, 0, none⟩), magg (nextM m)] w3 fun e w' => e = .returned (.int .i64 0) ∧ ∃ (F' Fs' : Foot) (c : Nat),
   StIn S J W w' p q1 q2 q3 k (1 - wh) F' Fc Fj Fs' (SDev.still (s.now.set (1 - wh) (theSup.enc (t + 1) (encM (nextM m)))) c) ⟨f, j, t + 1, nextM m, m.boot + 1, s.calls + 100⟩ n E ∧ Keeps E.all w3 w' from
  fun w3 q1 q2 Fj Fc j f E hI => hI.moveK hT (nextM m) (next_ok h.may hb) (by show s.calls ≤ _; omega) (by show t ≤ _; omega))
 have HB := Lib.hid hb
 have HB0 := Lib.hid (show -9223372036854775808 ≤ m.boot by have := (may_fits h.may).b1; omega)
 clear h ho hn hX hJ hC ht hc hT
 have HNM := Lib.hid (show nextM m = ⟨m.boot + 1, m.epoch, m.ready, m.frozen⟩ from rfl)
 obtain ⟨bo, ep, re, fr⟩ := m
 have hm : magg ⟨bo, ep, re, fr⟩ = .agg #[.int .i64 bo, .int .i64 ep, .int .i64 re, .bool fr] := rfl
 have hm2 : magg (nextM ⟨bo, ep, re, fr⟩) = .agg #[.int .i64 (bo + 1), .int .i64 ep, .int .i64 re, .bool fr] := rfl
 rw [hm] at HM
 rw [hm2] at HSV
 have hb1 : bo < 1099511627776 := HB.out
 have hb2 : -9223372036854775808 ≤ bo := HB0.out
 clear hm hm2 HB HB0
 go_enter Tryz.func39, Tryz.ntmps39
 go_wp2_with fail
 refine (show Calls _ _ _ _ _ from HJ.out w (Keeps.refl _ _)).mono ?_
 rintro e w2 ⟨q2, Fj, j, rfl, hj, j1, j2, pj, gj, k2⟩
 have K2 := Lib.hid k2
 have HJR := Lib.hid (And.intro hj (And.intro j1 (And.intro j2 (And.intro pj gj))))
 clear hj j1 j2 pj gj k2 HJ
 go_wp2_with fail
 refine (show Calls _ _ _ _ _ from HCS.out w2 K2.out).mono ?_
 rintro e w3 ⟨rfl, rfl⟩
 clear HCS
 go_wp2_with fail
 refine (show Calls _ _ _ _ _ from HC.out w2 K2.out).mono ?_
 rintro e w3 ⟨q1, Fc, f, rfl, hc, f1, f2, pf, gc, k3⟩
 have K3 := Lib.hid (K2.out.trans k3)
 have HI := Lib.hid (HIN.out w2 w3 q1 q2 Fj Fc j f K2.out HJR.out.1 HJR.out.2.1 HJR.out.2.2.1 HJR.out.2.2.2.2 k3 hc f1 f2 gc)
 have HP := Lib.hid (And.intro pf HJR.out.2.2.2.1)
 clear hc f1 f2 pf gc k3 HC HJR HIN K2
 go_wp2_with fail
 refine (show Calls _ _ _ _ _ from HM.out w3 K3.out).mono ?_
 rintro e w4 ⟨rfl, k4⟩
 have K4 := Lib.hid (K3.out.trans k4)
 replace HI := Lib.hid (HI.out.keep k4)
 clear k4 HM K3
 go_wp2_with fail
 have hka : Kp w4 (w4.alloc (.cells #[.int .i64 (bo + 1), .int .i64 ep, .int .i64 re, .bool fr] 32)) := (Keeps.refl _ w4).alloc _
 have hba := heap_alloc_new w4 (.cells #[.int .i64 (bo + 1), .int .i64 ep, .int .i64 re, .bool fr] 32)
 have hsa : (w4.alloc (.cells #[.int .i64 (bo + 1), .int .i64 ep, .int .i64 re, .bool fr] 32)).heap.size = w4.heap.size + 1 := by simp
 have HI5 := Lib.hid (HI.out.more (Y := fun c => X c ∨ c = w4.heap.size) hka fun c hc => hc.imp id fun e => by omega)
 have HS5 := Lib.hid (HSV.out _ q1 q2 Fj Fc j f _ HI5.out)
 have HX4 := Lib.hid (show ∀ c, X c → c < w4.heap.size from fun c hc => HI.out.elt c (.inl hc))
 have K5 := Lib.hid (K4.out.trans hka)
 have C5 := Lib.hid ((cell_of_block hba 0).trans (show _ = some (Value.int .i64 (bo + 1)) from rfl))
 clear hka hba hsa HI HSV HI5 K4
 generalize w4.alloc (.cells #[.int .i64 (bo + 1), .int .i64 ep, .int .i64 re, .bool fr] 32) = w5 at *
 generalize w4.heap.size = g at *
 refine (show Calls _ _ _ _ _ from HS5.out).mono ?_
 rintro e w6 ⟨rfl, F', Fs', c, hI6, hk6⟩
 have c6 := hk6.cell C5.out (.inl (.inr rfl))
 have HI6 := Lib.hid (hI6.more (Y := X) (Keeps.refl _ _) fun c hc => .inl (.inl hc))
 have K6 := Lib.hid (Keeps.trans (K5.out.mono fun _ _ _ => trivial) (hk6.mono fun c _ (hc : X c) => .inl (.inl hc)))
 clear hI6 hk6 HS5 C5 K5 HX4
 go_wp2_with fail
 go_ret2
 obtain ⟨a1, a2, a3, a4⟩ := HI6.out.block (bo + 1) _ rfl
 exact ⟨_, _, _, _, _, _, _, _, _, _, _, _, rfl, HP.out.1, HP.out.2, a1, a2, a3, a4, K6.out.trans ((Keeps.refl _ w6).alloc _)⟩
end
section
variable {S : FlashOK} {J : JournalOK} {W w w' : World} {p b q1 q2 q3 k wh n d : Nat} {F F' : Foot} {s : SDev} {z : Sto} {X : Nat → Prop}
theorem jopens_new (hT : J.T W) (hd : Dv W w p F s) (hl : 192 ≤ s.now.length) (hb : ∀ i, 2 ≤ i → i < 162 → s.now.getD i [] = blank) : JOpens J p s (fun j => j = ⟨2, 20, [], 0, 32, 1⟩) w := fun w1 hk => by
 have hd1 := hd.keep hk
 refine (J.openNew w1 p F s hd1.d (J.tk hT hd1.kp) 2 20 (by decide) (by decide) (by omega) fun j h1 h2 => hb j h1 (by omega)).mono ?_
 rintro e w2 ⟨q, Fj, rfl, hr, hn, hk2⟩
 exact ⟨q, Fj, _, rfl, hr, rfl, rfl, rfl, hn, hk2⟩
theorem jopens_old (hT : J.T W) (hd : Dv W w p F s) (hl : 192 ≤ s.now.length) (st : JSt) (h1 : st.place = 2) (h2 : st.segs = 20) (ha : st.age ≤ 20000) (hb : J.disk st s.now) : JOpens J p s (fun j => j.keys = st.keys) w := fun w1 hk => by
 have hd1 := hd.keep hk
 have h := J.openOld w1 p F s st hd1.d (J.tk hT hd1.kp) hb (by rw [h1, h2]; omega) ha
 rw [h1, h2] at h
 refine h.mono ?_
 rintro e w2 ⟨q, Fj, b, rfl, hr, hn, hk2⟩
 exact ⟨q, Fj, _, rfl, hr, rfl, rfl, rfl, hn, hk2⟩
theorem copens_new (hT : S.T W) (hd : Dv W w p F s) (hn : s.now.length = n) (hl : 192 ≤ n) (hb : ∀ i, 162 ≤ i → i < 162 + 8 * segsOf n → s.now.getD i [] = blank) : COpens S p s n (fun f => f = ⟨162, segsOf n, [], 0, 1⟩) w := fun w1 hk => by
 have hd1 := hd.keep hk
 have hroom := segs_room hl
 have h3 : 3 ≤ segsOf n ∧ segsOf n ≤ 200 := by unfold segsOf; omega
 refine (S.openNew w1 p F s hd1.d (S.tk hT hd1.kp) 162 (segsOf n) h3.1 h3.2 (by rw [hn]; exact hroom) hb).mono ?_
 rintro e w2 ⟨q, Fc, rfl, hr, hn, hk2⟩
 exact ⟨q, Fc, _, rfl, hr, rfl, rfl, rfl, hn, hk2⟩
theorem copens_old (hT : S.T W) (hd : Dv W w p F s) (hn : s.now.length = n) (hl : 192 ≤ n) (st : FSt) (h1 : st.place = 162) (h2 : st.segs = segsOf n) (ha : st.age ≤ 20000) (hb : S.disk st s.now) : COpens S p s n (fun _ => True) w := fun w1 hk => by
 have hd1 := hd.keep hk
 have hroom := segs_room hl
 have h := S.openOld w1 p F s st hd1.d (S.tk hT hd1.kp) hb (by rw [h1, h2, hn]; exact hroom) ha
 rw [h1, h2] at h
 refine h.mono ?_
 rintro e w2 ⟨q, Fc, rfl, hr, hn, hk2⟩
 exact ⟨q, Fc, _, rfl, hr, rfl, rfl, trivial, hn, hk2⟩
theorem started_new {t : Nat} {m : M4} {e : Ending} {w0 : World} (hwh : wh ≤ 1) (hb : ∀ i, 2 ≤ i → i < 162 + 8 * segsOf n → s.now.getD i [] = blank)
  (h : Started S J W p wh t n s m X (fun f => f = ⟨162, segsOf n, [], 0, 1⟩) (fun j => j = ⟨2, 20, [], 0, 32, 1⟩) w0 e w') :
  ∃ b q1 q2 k, e = .returned (.tuple #[.pointer (some ⟨b, 0, none⟩), .int .i64 0]) ∧ StAt S J W w' p b q1 q2 k ⟨⟨162, segsOf n, [], 0, 1⟩, ⟨2, 20, [], 0, 32, 1⟩, t + 1, nextM m, m.boot + 1, s.calls + 100⟩ n 1 X ∧ Keeps X w0 w' := by
 obtain ⟨b, q1, q2, q3, k, F, Fc, Fj, Fs, c, f, j, rfl, rfl, rfl, h1, h2, h3, h4, hk⟩ := h
 refine ⟨b, q1, q2, k, rfl, ⟨q3, 1 - wh, F, Fc, Fj, Fs, _, h1, h2, h3, h4, fun _ => ⟨_, c, rfl, .inl ⟨rfl, rfl, rfl, fun i h5 h6 => ?_⟩⟩⟩, hk⟩
 rw [set_getD_ne _ _ _ _ (by omega)]
 exact hb i h5 h6
theorem started_old {t : Nat} {m : M4} {e : Ending} {w0 : World} {l : List ByteArray}
  (h : Started S J W p wh t n s m X (fun _ => True) (fun j => j.keys = l) w0 e w') :
  ∃ b q1 q2 k z, e = .returned (.tuple #[.pointer (some ⟨b, 0, none⟩), .int .i64 0]) ∧ StAt S J W w' p b q1 q2 k z n 0 X ∧ z.j.keys = l ∧ z.m = nextM m ∧ z.boot = m.boot + 1 ∧ Keeps X w0 w' := by
 obtain ⟨b, q1, q2, q3, k, F, Fc, Fj, Fs, c, f, j, rfl, -, hj, h1, h2, h3, h4, hk⟩ := h
 exact ⟨b, q1, q2, k, _, rfl, ⟨q3, 1 - wh, F, Fc, Fj, Fs, _, h1, h2, h3, h4, fun h => absurd h (Nat.lt_irrefl 0)⟩, hj, rfl, rfl, hk⟩
end
section
variable {S : FlashOK} {J : JournalOK} {W w w' : World} {p b q1 q2 q3 k wh n d c : Nat} {F F' : Foot} {s : SDev} {z : Sto} {X : Nat → Prop}
structure MkSt (w wr : World) (p : Nat) (F : Foot) (s : SDev) (n i : Nat) (F' : Foot) (s' : SDev) : Prop where
 d : DAt wr p F' s'
 st : Step F F' w wr
 len : s'.now.length = n
 one : 1 ≤ i → ∀ j, j < 2 → s'.now.getD j [] = blank
 two : 2 ≤ i → ∀ j, j < 162 + 8 * segsOf n → s'.now.getD j [] = blank
 calls : s'.calls ≤ s.calls + 3000 * i
theorem MkSt.keep {wr w2 : World} {i : Nat} {s' : SDev} (h : MkSt w wr p F s n i F' s') (hk : Kp wr w2) : MkSt w w2 p F s n i F' s' :=
 { h with d := h.d.keep (hk.mono fun _ _ _ => trivial), st := h.st.trans (Step.of_keeps hk F') }
theorem MkSt.first {wr w2 : World} {F2 : Foot} {s' : SDev} {rows : List (List UInt8)} {c : Nat} (h : MkSt w wr p F s n 0 F' s') (hd : DAt w2 p F2 (SDev.still rows c)) (hb : SBl s'.now rows 0 2) (hc : c ≤ s'.calls + 3000) (hs : Step F' F2 wr w2) : MkSt w w2 p F s n 1 F2 (SDev.still rows c) := by
 refine ⟨hd, h.st.trans hs, hb.len.trans h.len, fun _ j hj => hb.yes j (Nat.zero_le _) hj, fun h => by omega, ?_⟩
 have := h.calls
 show c ≤ _; omega
theorem MkSt.second {wr w2 : World} {F2 : Foot} {s' : SDev} {rows : List (List UInt8)} {c : Nat} (h : MkSt w wr p F s n 1 F' s') (hd : DAt w2 p F2 (SDev.still rows c)) (hb : SBl s'.now rows 2 (162 + 8 * segsOf n)) (hc : c ≤ s'.calls + 3000) (hs : Step F' F2 wr w2) : MkSt w w2 p F s n 2 F2 (SDev.still rows c) := by
 refine ⟨hd, h.st.trans hs, hb.len.trans h.len, fun _ j hj => ?_, fun _ j hj => ?_, ?_⟩
 ·exact (hb.no j (.inl hj)).trans (h.one (Nat.le_refl _) j hj)
 ·by_cases h2 : j < 2
  ·exact (hb.no j (.inl h2)).trans (h.one (Nat.le_refl _) j h2)
  ·exact hb.yes j (by omega) hj
 ·have := h.calls
  show c ≤ _; omega
def MadePost (S : FlashOK) (J : JournalOK) (W w : World) (p n c : Nat) (X : Nat → Prop) (e : Ending) (w' : World) : Prop :=
 ∃ b q1 q2 k c', e = .returned (.tuple #[.pointer (some ⟨b, 0, none⟩), .int .i64 0]) ∧ StAt S J W w' p b q1 q2 k ⟨⟨162, segsOf n, [], 0, 1⟩, ⟨2, 20, [], 0, 32, 1⟩, 2, ⟨1, 0, 0, false⟩, 1, c'⟩ n 1 X ∧ c' ≤ c + 10000 ∧ Keeps X w w'
theorem made_tail (hS : S.T W) (hJ : J.T W) (hT : theSup.T W) {wr : World} {s' : SDev} (h : Dv W w p F s) (hX : ∀ b, X b → ¬ F.all b ∧ b < w.heap.size) (h1 : 192 ≤ n) (hc : s.calls ≤ 200000000000) (hm : MkSt w wr p F s n 2 F' s') :
  Calls Tryz.prog 38 #[.pointer (some ⟨p, 0, none⟩), .int .i64 0] wr fun e w2 => ∃ k, e = .returned (.tuple #[.pointer (some ⟨k, 0, none⟩), .int .i64 0]) ∧
   Calls Tryz.prog 39 #[.pointer (some ⟨p, 0, none⟩), .pointer (some ⟨k, 0, none⟩)] w2 (MadePost S J W w p n s.calls X) := by
 have hdv := h.step hm.d hm.st
 have hroom := segs_room h1
 have hlen := hm.len
 have hcl := hm.calls
 refine (kmake_yes W wr hT p F' s' hdv 0 (by rw [hm.len]; omega) (by omega)).mono ?_
 rintro e w2 ⟨q3, k, F2, Fs, c2, rfl, hK, hc2, hst, hfs, hk⟩
 refine ⟨k, rfl, ?_⟩
 have hst2 := hm.st.trans hst
 have hs1 := hm.st.keeps.size
 have hs2 := hst.keeps.size
 have hrow : ∀ i, 2 ≤ i → i < 162 + 8 * segsOf n → (SDev.still ((s'.now.set 0 (theSup.enc 1 (encM m0))).set (0 + 1) blank) c2).now.getD i [] = blank := fun i h2 h3 => by
  show ((s'.now.set 0 _).set 1 blank).getD i [] = _
  rw [set_getD_ne _ _ _ _ (by omega), set_getD_ne _ _ _ _ (by omega)]
  exact hm.two (Nat.le_refl _) i h3
 have hln : (SDev.still ((s'.now.set 0 (theSup.enc 1 (encM m0))).set (0 + 1) blank) c2).now.length = n := by
  show ((s'.now.set 0 _).set 1 blank).length = n
  rw [List.length_set, List.length_set]; exact hm.len
 have hXX : ∀ c, X c → ¬ F2.all c ∧ ¬ (kfoot k Fs).all c ∧ c < w2.heap.size := fun c hx => by
  have h5 := (hX c hx).2
  refine ⟨fun hf => ?_, fun hf => ?_, by omega⟩
  ·rcases hst2.all c hf with h6 | h6
   ·exact (hX c hx).1 h6
   ·omega
  ·rcases kfoot_all.1 hf with hf | rfl
   ·have := hfs c hf; omega
   ·omega
 have ho : Oth theSup (SDev.still ((s'.now.set 0 (theSup.enc 1 (encM m0))).set (0 + 1) blank) c2).now ⟨p, 0, 0, 1, encM m0⟩ := oth_make (S := theSup) (rows := s'.now) p 0 _ _ (by rw [hm.len]; omega)
 have hkW := hK.du.dv
 refine (sstart (X := X) hT hK ho hln h1 hXX _ _ (jopens_new (J.tk hJ (Keeps.refl _ W)) hkW (by rw [hln]; exact h1) fun i a b => hrow i a (by unfold segsOf; omega)) (copens_new hS hkW hln h1 fun i a b => hrow i (by omega) b) (by show (0 : Int) < _; decide) (by decide) (by show c2 ≤ _; omega)).mono ?_
 intro e w3 hs
 obtain ⟨b, q1, q2, k', rfl, hat, hkx⟩ := started_new (by decide) hrow hs
 refine ⟨b, q1, q2, k', _, rfl, hat, ?_, Keeps.trans (hst2.keeps.mono fun c _ hc hm => (hX c hc).1 (.inl hm)) hkx⟩
 show c2 + 100 ≤ _
 omega
set_option maxRecDepth 100000 in
set_option maxHeartbeats 2000000 in
theorem stmake_any (hS : S.T W) (hJ : J.T W) (hT : theSup.T W) (h : Dv W w p F s) (hn : s.now.length = n) (hX : ∀ b, X b → ¬ F.all b ∧ b < w.heap.size) (h1 : 192 ≤ n) (hc : s.calls ≤ 200000000000) :
  Calls Tryz.prog 11 #[.pointer (some ⟨p, 0, none⟩)] w (MadePost S J W w p n s.calls X) := by
 have hsm : n ≤ 2048 := by rw [← hn]; exact h.d.ok.small
 have hroom := segs_room h1
 have HL := Lib.hid (dlen_any w p F s h.d)
 have HCS := Lib.hid (csegs_any w p F s h.d n hn h1 hsm)
 have HLT := Lib.hid h.d.lt
 have HT := Lib.hid (show ∀ (wr : World) (F' : Foot) (s' : SDev), MkSt w wr p F s n 2 F' s' → _ from fun wr F' s' hm => made_tail (X := X) hS hJ hT h hX h1 hc hm)
 have HB1 := Lib.hid (show ∀ (wr : World) (F' : Foot) (s' : SDev), MkSt w wr p F s n 0 F' s' → Calls Tryz.prog 37 #[.pointer (some ⟨p, 0, none⟩), .int .i64 0, .int .i64 2] wr fun e w' => e = .returned (.int .i64 0) ∧ ∃ (F2 : Foot) (s2 : SDev), MkSt w w' p F s n 1 F2 s2 ∧ Step F' F2 wr w' from fun wr F' s' hm =>
  (sblank_any wr p F' s' hm.d 0 2 (by decide) (by rw [hm.len]; omega) (by have := hm.calls; omega) 0 2 rfl rfl).mono fun e w' ⟨he, F2, rows, c, a1, a2, a3, a4⟩ => ⟨he, F2, _, hm.first a1 a2 a3 a4, a4⟩)
 have HB2 := Lib.hid (show ∀ (wr : World) (F' : Foot) (s' : SDev), MkSt w wr p F s n 1 F' s' → Calls Tryz.prog 37 #[.pointer (some ⟨p, 0, none⟩), .int .i64 2, .int .i64 (162 + (segsOf n : Int) * 8)] wr fun e w' => e = .returned (.int .i64 0) ∧ ∃ (F2 : Foot) (s2 : SDev), MkSt w w' p F s n 2 F2 s2 ∧ Step F' F2 wr w' from fun wr F' s' hm =>
  (sblank_any wr p F' s' hm.d 2 (162 + 8 * segsOf n) (by omega) (by rw [hm.len]; omega) (by have := hm.calls; omega) 2 (162 + (segsOf n : Int) * 8) rfl (by omega)).mono fun e w' ⟨he, F2, rows, c, a1, a2, a3, a4⟩ => ⟨he, F2, _, hm.second a1 a2 a3 a4, a4⟩)
 have HM0 := Lib.hid (show ∀ wr, Kp w wr → MkSt w wr p F s n 0 F s from fun wr hk => ⟨h.d.keep (hk.mono fun _ _ _ => trivial), Step.of_keeps hk F, hn, fun h => by omega, fun h => by omega, by omega⟩)
 have hsg : (segsOf n : Int) ≤ 200 := by unfold segsOf; omega
 have hsg0 : (0 : Int) ≤ (segsOf n : Int) := by omega
 have hn192 : ¬ ((n : Int) < 192) := by omega
 rw [hn] at HL
 clear h hn hX hc hS hJ hT h1 hsm hroom
 go_enter Tryz.func11, Tryz.ntmps11
 go_wp2_with fail
 refine (show Calls _ _ _ _ _ from HL.out).mono ?_
 rintro e w' ⟨rfl, rfl⟩
 clear HL
 go_wp2_with fail
 refine (show Calls _ _ _ _ _ from HCS.out).mono ?_
 rintro e w' ⟨rfl, rfl⟩
 clear HCS
 go_wp2_with fail
 obtain ⟨l3, hl3⟩ : ∃ l3 : Int, 162 + (segsOf n : Int) * 8 = l3 := ⟨_, rfl⟩
 rw [hl3] at HB2 ⊢
 have hka : Kp w (w.alloc (.cells #[.int .i64 0, .int .i64 2, .int .i64 2, .int .i64 l3] 77)) := (Keeps.refl _ w).alloc _
 have hba := heap_alloc_new w (.cells #[.int .i64 0, .int .i64 2, .int .i64 2, .int .i64 l3] 77)
 have hsa : (w.alloc (.cells #[.int .i64 0, .int .i64 2, .int .i64 2, .int .i64 l3] 77)).heap.size = w.heap.size + 1 := by simp
 have HS1 := Lib.hid (HM0.out _ hka)
 have HG1 := Lib.hid (show ¬ F.all w.heap.size ∧ w.heap.size < (w.alloc (.cells #[.int .i64 0, .int .i64 2, .int .i64 2, .int .i64 l3] 77)).heap.size from ⟨fun hf => by have := HLT.out _ hf; omega, by omega⟩)
 have HB := Lib.hid hba
 clear hka hba hsa hl3 HM0 HLT hsg hsg0 hn192
 generalize w.alloc (.cells #[.int .i64 0, .int .i64 2, .int .i64 2, .int .i64 l3] 77) = w1 at *
 obtain ⟨g, hg⟩ : ∃ g, w.heap.size = g := ⟨_, rfl⟩
 rw [hg] at HG1 HB ⊢
 clear hg
 go_loopw [20] (fun i wr => ∃ (k : Nat) (F' : Foot) (s' : SDev), k ≤ 2 ∧ i = .int .i64 (k : Int) ∧ Hid (MkSt w wr p F s n k F' s') ∧ Hid (¬ F'.all g ∧ g < wr.heap.size) ∧ Hid (wr.heap[g]? = some (.cells #[.int .i64 0, .int .i64 2, .int .i64 2, .int .i64 l3] 77 (0, 0)))) (fun i _ => 2 - (intOf i).toNat)
 case atStart => exact ⟨0, F, s, by decide, rfl, HS1, HG1, HB⟩
 case round =>
  clear HS1 HG1 HB
  obtain ⟨k, F', s', hk, rfl, HM, HG, HB⟩ := hrel
  have HN := Lib.hid (show ∀ (wn w2 : World) (F2 : Foot), Kp wr wn → Step F' F2 wn w2 → (¬ F2.all g ∧ g < w2.heap.size) ∧ w2.heap[g]? = some (.cells #[.int .i64 0, .int .i64 2, .int .i64 2, .int .i64 l3] 77 (0, 0)) from fun wn w2 F2 hk1 hst => by
   have h1 := hk1.size
   have h2 := hst.keeps.size
   have h3 := HG.out.2
   refine ⟨⟨fun hf => ?_, by omega⟩, ?_⟩
   ·rcases hst.all g hf with h4 | h4
    ·exact HG.out.1 h4
    ·omega
   ·rw [hst.keeps.block g (fun hm => HG.out.1 (.inl hm)) (by omega), hk1.block g trivial h3]; exact HB.out)
  have c0 : wr.cell? ⟨g, 0, none⟩ = some (.int .i64 0) := (cell_of_block HB.out 0).trans rfl
  have c1 : wr.cell? ⟨g, 1, none⟩ = some (.int .i64 2) := (cell_of_block HB.out 1).trans rfl
  have c2 : wr.cell? ⟨g, 2, none⟩ = some (.int .i64 2) := (cell_of_block HB.out 2).trans rfl
  have c3 : wr.cell? ⟨g, 3, none⟩ = some (.int .i64 l3) := (cell_of_block HB.out 3).trans rfl
  have hcase : k = 0 ∨ k = 1 ∨ k = 2 := by omega
  clear HB
  rcases hcase with rfl | rfl | rfl
  ·clear c2 c3 HB2 HT
   go_wp2_with fail
   have hka : Kp wr (wr.alloc (.cells #[.int .i64 0, .int .i64 2] 77)) := (Keeps.refl _ wr).alloc _
   have HMa := Lib.hid (HM.out.keep hka)
   have HKa := Lib.hid hka
   clear hka c0 c1 HM
   generalize wr.alloc (.cells #[.int .i64 0, .int .i64 2] 77) = wa at *
   refine (show Calls _ _ _ _ _ from HB1.out _ _ _ HMa.out).mono ?_
   rintro e w2 ⟨rfl, F2, s2, hm2, hst2⟩
   have HE := Lib.hid (HN.out _ _ _ HKa.out hst2)
   have HM2 := Lib.hid hm2
   clear hm2 hst2 HN HKa HMa HG
   go_wp2_with fail
   go_roundw
   case rel => exact ⟨1, F2, s2, by decide, rfl, HM2, Lib.hid HE.out.1, Lib.hid HE.out.2⟩
   case measure => decide
  ·clear c0 c1 HB1 HT
   go_wp2_with fail
   have hka : Kp wr (wr.alloc (.cells #[.int .i64 2, .int .i64 l3] 77)) := (Keeps.refl _ wr).alloc _
   have HMa := Lib.hid (HM.out.keep hka)
   have HKa := Lib.hid hka
   clear hka c2 c3 HM
   generalize wr.alloc (.cells #[.int .i64 2, .int .i64 l3] 77) = wa at *
   refine (show Calls _ _ _ _ _ from HB2.out _ _ _ HMa.out).mono ?_
   rintro e w2 ⟨rfl, F2, s2, hm2, hst2⟩
   have HE := Lib.hid (HN.out _ _ _ HKa.out hst2)
   have HM2 := Lib.hid hm2
   clear hm2 hst2 HN HKa HMa HG
   go_wp2_with fail
   go_roundw
   case rel => exact ⟨2, F2, s2, by decide, rfl, HM2, Lib.hid HE.out.1, Lib.hid HE.out.2⟩
   case measure => decide
  ·have HTT := Lib.hid (HT.out _ _ _ HM.out)
   clear c0 c1 c2 c3 HB1 HB2 HT HN HG HM
   go_wp2_with fail
   refine (show Calls _ _ _ _ _ from HTT.out).mono ?_
   rintro e w2 ⟨k, rfl, hs⟩
   have HS := Lib.hid hs
   clear hs HTT
   go_wp2_with fail
   refine (show Calls _ _ _ _ _ from HS.out).mono ?_
   rintro e w3 ⟨b, q1, q2, k', c', rfl, hat, hc', hkx⟩
   have HE := Lib.hid (And.intro hat (And.intro hc' hkx))
   clear hat hc' hkx HS
   go_wp2_with fail
   go_ret2
   exact ⟨b, q1, q2, k', c', rfl, HE.out.1, HE.out.2.1, HE.out.2.2⟩
end
section
variable {S : FlashOK} {J : JournalOK} {W w w' : World} {p b q1 q2 q3 k wh n d c : Nat} {F F' : Foot} {s : SDev} {z : Sto} {X : Nat → Prop}
set_option maxRecDepth 100000 in
set_option maxHeartbeats 1000000 in
theorem stopen_any (hT : theSup.T W) (rows : List (List UInt8)) (t : Nat) (m : M4) (h : Dv W w p F (SDev.still rows 0)) (hn : rows.length = n) (h1 : 192 ≤ n) (hw : wh ≤ 1) (ht1 : 1 ≤ t) (hm : mayB m = true) (hs : rows.getD wh [] = theSup.enc t (encM m)) (ho : Oth theSup rows ⟨p, 0, wh, t, encM m⟩) (hX : ∀ b, X b → ¬ F.all b ∧ b < w.heap.size)
  (PC : FSt → Prop) (PJ : JSt → Prop) (hJ : JOpens J p (SDev.still rows 0) PJ w) (hC : COpens S p (SDev.still rows 0) n PC w) (hb : m.boot < 1099511627776) (ht : t ≤ 300000000000) :
  Calls Tryz.prog 22 #[.pointer (some ⟨p, 0, none⟩)] w fun e w' => ∃ w0, Kp w w0 ∧ Started S J W p wh t n (SDev.still rows 0) m X PC PJ w0 e w' := by
 have HL := Lib.hid (dlen_any w p F _ h.d)
 have hn' : (SDev.still rows 0).now.length = n := hn
 rw [hn'] at HL
 have hn192 : ¬ (n : Int) < 192 := by omega
 have HO := Lib.hid (show Calls Tryz.prog 55 #[.pointer (some ⟨p, 0, none⟩), .int .i64 0] w fun e w2 => ∃ k, e = .returned (.tuple #[.pointer (some ⟨k, 0, none⟩), .int .i64 0]) ∧ Kp w w2 ∧ Calls Tryz.prog 39 #[.pointer (some ⟨p, 0, none⟩), .pointer (some ⟨k, 0, none⟩)] w2 (Started S J W p wh t n (SDev.still rows 0) m X PC PJ w2) from by
  refine (kopen_yes W w hT p F _ h 0 wh t m hm (by rw [hn']; omega) hw ht1 (by rw [Nat.zero_add]; exact hs) (fun t' x' hd => ho t' x' hd) (by omega)).mono ?_
  rintro e w2 ⟨q3, k, Fs, rfl, hK, hfs, hkk, hk⟩
  refine ⟨k, rfl, hk, sstart (X := X) hT hK ho hn' h1 (fun c hx => ?_) PC PJ (fun w1 hk1 => hJ w1 (hk.trans hk1)) (fun w1 hk1 => hC w1 (hk.trans hk1)) hb ht (Nat.zero_le _)⟩
  have h5 := (hX c hx).2
  have h6 := hk.size
  refine ⟨(hX c hx).1, fun hf => ?_, by omega⟩
  rcases kfoot_all.1 hf with hf | rfl
  ·have := hfs c hf; omega
  ·omega)
 clear h hn hn' h1 hw ht1 hm hs ho hX hJ hC hb ht hT
 go_enter Tryz.func22, Tryz.ntmps22
 go_wp2_with fail
 refine (show Calls _ _ _ _ _ from HL.out).mono ?_
 rintro e w' ⟨rfl, rfl⟩
 clear HL
 go_wp2_with fail
 refine (show Calls _ _ _ _ _ from HO.out).mono ?_
 rintro e w2 ⟨k, rfl, hk, hs⟩
 have HK := Lib.hid hk
 have HS := Lib.hid hs
 clear hk hs HO
 go_wp2_with fail
 refine (show Calls _ _ _ _ _ from HS.out).mono ?_
 rintro e w3 hs
 have hs0 := hs
 obtain ⟨b, q1, q2, q3, k', F1, Fc, Fj, Fs, c, f, j, rfl, -⟩ := hs0
 have HE := Lib.hid hs
 clear hs HS
 go_wp2_with fail
 go_ret2
 exact ⟨w2, HK.out, HE.out⟩
theorem so_openOld (hS : S.T W) (hJ : J.T W) (hT : theSup.T W) (h : StDisk S J W w p z n 2 X) (hb : z.m.boot < 1099511627776) (ht : z.t ≤ 300000000000) (hf : z.f.age ≤ 20000) (hj : z.j.age ≤ 20000) :
  Calls Tryz.prog 22 #[.pointer (some ⟨p, 0, none⟩)] w fun e w' => ∃ b q1 q2 k z', e = .returned (.tuple #[.pointer (some ⟨b, 0, none⟩), .int .i64 0]) ∧ StAt S J W w' p b q1 q2 k z' n 0 X ∧ z'.j.keys = z.j.keys ∧ z'.m = nextM z.m ∧ z'.boot = z.m.boot + 1 ∧ Keeps X w w' := by
 obtain ⟨F, rows, wh, hd, hn, h1, f1, f2, j1, j2, hw, ht1, hm, hs, ho, hod, hX⟩ := h
 have hbl : S.disk z.f rows ∧ J.disk z.j rows := by
  rcases hod with ⟨h, -⟩ | ⟨-, h⟩ | ⟨h, -⟩
  ·cases h
  ·exact h
  ·cases h
 refine (stopen_any hT rows z.t z.m hd hn h1 hw ht1 hm hs ho hX _ _ (jopens_old (J.tk hJ (Keeps.refl _ W)) hd (by show 192 ≤ rows.length; omega) z.j j1 j2 hj hbl.2) (copens_old hS hd hn h1 z.f f1 f2 hf hbl.1) hb ht).mono ?_
 rintro e w' ⟨w0, hk0, hst⟩
 obtain ⟨b, q1, q2, k, z', rfl, hat, a1, a2, a3, hkx⟩ := started_old hst
 exact ⟨b, q1, q2, k, z', rfl, hat, a1, a2, a3, (hk0.mono fun _ _ _ => trivial).trans hkx⟩
end
set_option maxRecDepth 100000 in
set_option maxHeartbeats 2000000 in
theorem lread_any (w : World) (hT : Taken w) (q : Nat) (Fs : Foot) (p i n : Nat) (ks : List Seg) (sl left nx : Nat) (tl : List UInt8) (K T : Value) (Es : List Value) (h : LogAt w q Fs p i n ks sl left nx tl K T Es) (F : Foot) (s : SDev) (hd : DAt w p F s)
  (hg : ∀ sg ∈ ks, Good s.now i n sg) (hrise : ks.Pairwise fun a b => a.end_ ≤ b.first) (hn : n ≤ 200) (hin : i + 8 * n ≤ s.now.length) (t : Nat) (ht : t < ks.length) (sg : Seg) (hsg : ks[t] = sg) (j : Nat) (hj : j < sg.recs.length) (z : Int) (hz : z = ((sg.first + j : Nat) : Int)) :
  Calls Tryz.prog 85 #[.pointer (some ⟨q, 0, none⟩), .int .i64 z] w fun e w' => ∃ v, e = .returned (.tuple #[v, .int .i64 0]) ∧ BodyV w w' v (sg.recs[j]).body ∧ Kp w w' := by
 have hsm := hd.ok.small
 have HDN := Lib.hid (down_no w q p i n h.head)
 have HBD := Lib.hid (fun (w' : World) (hk : Kp w w') (sg : Seg) (E : Value) (hm : sg ∈ ks) (hE : SegV w' Fs.M sg E) (j : Nat) (hj : j < sg.recs.length) => body_any w' (hT.keep hk) q p i n (h.head.keep hk trivial) F s (hd.keep (hk.mono fun _ _ _ => trivial)) sg E Fs.M hE (hg sg hm).ok (hg sg hm).on (by omega) (by have := (hg sg hm).slot; omega) (hg sg hm).first (by have := (hg sg hm).slot; omega) j hj)
 have HGC := Lib.hid (fun (k : Nat) (hk : k < ks.length) => (show (ks[k]).recs.length ≤ 212 ∧ (ks[k]).first ≤ 274877906943 from ⟨(hg _ (List.getElem_mem hk)).ok.count, (hg _ (List.getElem_mem hk)).first⟩))
 have HRI := Lib.hid (fun (k : Nat) (hkl : k < ks.length) (hk : k < t) => (show (ks[k]).first + (ks[k]).recs.length ≤ sg.first from by rw [← hsg]; exact List.pairwise_iff_getElem.1 hrise k t hkl ht hk))
 obtain ⟨A, c, rfl, hlc, hcm, hs⟩ := h.segs
 unfold maxLen at hcm
 have c3 := (cell_of_block h.blk 3).trans rfl
 have HSG := Lib.hid hs
 have HHT := Lib.hid ht
 obtain ⟨f, hf⟩ : ∃ f, sg.first = f := ⟨_, rfl⟩
 have HSGT := Lib.hid hsg
 have hgt1 : j < 212 := Nat.lt_of_lt_of_le hj (by rw [← hsg]; exact (HGC.out t ht).1)
 have hf2 : f ≤ 274877906943 := by rw [← hf, ← hsg]; exact (HGC.out t ht).2
 have hzf : z = (f : Int) + (j : Int) := by rw [hz, hf]; omega
 have HF := Lib.hid hf
 have HJ := Lib.hid hj
 clear h hs hT hd hg hrise hz hf hsg
 subst hzf
 go_enter Tryz.func85, Tryz.ntmps85
 go_wp2_with fail
 refine HDN.out.mono ?_
 rintro e w' ⟨rfl, rfl⟩
 go_wp2_with fail
 go_loopw [17] (fun vk wr => ∃ k : Nat, k ≤ t ∧ vk = .int .i64 k ∧ Kp w wr) (fun vk _ => ks.length - (intOf vk).toNat)
 case atStart => exact ⟨0, Nat.zero_le _, rfl, Keeps.refl _ _⟩
 case round =>
  obtain ⟨k, hk, rfl, hkp⟩ := hrel
  have hlt : k < ks.length := by omega
  obtain ⟨b, o, E, rfl, hbM, d0, d1, d2, hE⟩ := (HSG.out.keep (hkp.mono fun _ _ _ => trivial)) k hlt
  obtain ⟨AE, cE, rfl, -⟩ := hE.ex
  have HE := Lib.hid hE
  have HK := Lib.hid hkp
  have HMEM := Lib.hid (List.getElem_mem hlt)
  have HGK := Lib.hid (HGC.out k hlt)
  have HRK := Lib.hid (HRI.out k hlt)
  have HTK := Lib.hid (show ∀ e : k = t, ks[k] = sg from fun e => by subst e; exact HSGT.out)
  generalize ks[k] = sk at d0 d1 d2 HE HMEM HGK HRK HTK
  obtain ⟨m, hm⟩ : ∃ m, sk.recs.length = m := ⟨_, rfl⟩
  obtain ⟨fk, hfk⟩ : ∃ fk, sk.first = fk := ⟨_, rfl⟩
  have HM := Lib.hid hm
  have HFK := Lib.hid hfk
  have hgk1 : m ≤ 212 := by subst hm; exact HGK.out.1
  have hgk2 : fk ≤ 274877906943 := by subst hfk; exact HGK.out.2
  rw [hm] at d2
  rw [hfk] at d1
  have hcs : (k < t ∧ fk + m ≤ f) ∨ k = t := by
   rcases Nat.lt_or_ge k t with h | h
   ·left; refine ⟨h, ?_⟩
    have := HRK.out h
    rw [hm, hfk, HF.out] at this; exact this
   ·right; omega
  have HNX := Lib.hid (fun w' => snext_any w' sk.slot fk AE m cE (by omega) (by omega))
  have HK2 := Lib.hid (show Kp wr (wr.alloc (.cells #[.int .i64 (sk.slot : Int), .int .i64 (fk : Int), .slice AE m cE] 179)) from (Keeps.refl _ wr).alloc _)
  have HBX := Lib.hid (SBox.new wr sk.slot fk (.slice AE m cE))
  obtain ⟨w0, hw0⟩ : ∃ w0, wr.alloc (.cells #[.int .i64 (sk.slot : Int), .int .i64 (fk : Int), .slice AE m cE] 179) = w0 := ⟨_, rfl⟩
  have HW0 := Lib.hid hw0
  rw [hw0] at HK2 HBX
  clear hE hkp hm hfk hw0
  rcases hcs with ⟨hkt, hle⟩ | rfl
  ·have t1 : decide ((f : Int) + (j : Int) < (fk : Int)) = false := by simp; omega
   have t2 : decide ((fk : Int) + (m : Int) ≤ (f : Int) + (j : Int)) = true := by simp; omega
   generalize sk.slot = ss at d0 HNX HBX HW0
   go_wp2_with fail
   rw [HW0.out]
   refine (HNX.out w0).mono ?_
   rintro e' w1 ⟨rfl, hk1⟩
   have HK1 := Lib.hid (HK.out.trans (HK2.out.trans hk1))
   clear hk1
   go_wp2_with fail
   go_roundw
   case rel => exact ⟨k + 1, by omega, by go_num, HK1.out⟩
   case measure => simp [intOf]; omega
  ·obtain rfl : sk = sg := HTK.out rfl
   obtain rfl : fk = f := HFK.out.symm.trans HF.out
   have t1 : decide ((fk : Int) + (j : Int) < (fk : Int)) = false := by simp; omega
   have hj2 : j < m := by rw [← HM.out]; exact HJ.out
   have t2 : decide ((fk : Int) + (m : Int) ≤ (fk : Int) + (j : Int)) = false := by simp; omega
   have q1 : (fk : Int) + (j : Int) - (fk : Int) = (j : Int) := by omega
   obtain ⟨y, hy⟩ : ∃ y, (sk.recs[j]'(HJ.out)).body = y := ⟨_, rfl⟩
   have HY := Lib.hid hy
   have hb := fun w1 (hk : Kp w0 w1) => (show Calls Tryz.prog 119 #[.pointer (some ⟨q, 0, none⟩), .agg #[.int .i64 (sk.slot : Int), .int .i64 (fk : Int), .slice AE m cE], .int .i64 (j : Int)] w1 fun e w' => ∃ b, e = .returned (.tuple #[b, .bool true]) ∧ BodyV w1 w' b y ∧ Kp w1 w' from by
    have h := HBD.out w1 (HK.out.trans (HK2.out.trans hk)) sk _ HMEM.out (HE.out.keep ((HK2.out.trans hk).mono fun _ _ _ => trivial)) j HJ.out
    rw [hy] at h
    have e1 := HM.out
    have e2 := HFK.out
    subst e1 e2
    exact h)
   have HB := Lib.hid hb
   clear hy
   generalize sk.slot = ss at d0 HNX HBX HW0 HB
   clear hb
   go_wp2_with fail
   rw [HW0.out]
   refine (HNX.out w0).mono ?_
   rintro e' w1 ⟨rfl, hk1⟩
   have hbx := HBX.out.keep hk1 trivial
   have e0 := hbx.s
   have e1 := hbx.f
   have e2 := hbx.e
   have HB1 := Lib.hid (HB.out w1 hk1)
   have HK1 := Lib.hid (HK.out.trans (HK2.out.trans hk1))
   clear hk1 hbx HB
   go_wp2_with fail
   refine HB1.out.mono ?_
   rintro e' w2 ⟨v, rfl, hbv, hk2⟩
   have H1 := Lib.hid (hbv.from (w0 := w) HK1.out.size)
   have H2 := Lib.hid (HK1.out.trans hk2)
   clear hbv hk2 e0 e1 e2
   go_wp2_with fail
   go_ret2
   exact ⟨_, rfl, by rw [HY.out]; exact H1.out, H2.out⟩
end Go.Proofs.YticophaepapjoaaGreatDoor
