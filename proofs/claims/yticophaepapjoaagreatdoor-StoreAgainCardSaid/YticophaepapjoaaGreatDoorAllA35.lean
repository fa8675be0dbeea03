/-
  StStart, StOpens, StOpen, IxKeys: texts of mine, joined.
-/
import Derived.Test.YticophaepapjoaaGreatDoorAllA30
import Derived.Test.YticophaepapjoaaGreatDoorAllA34
import Derived.Test.YticophaepapjoaaGreatDoorAllA05
namespace Go.Proofs.YticophaepapjoaaGreatDoor
open Go Go.RowKit Go.Joins
theorem csegs_any (w : World) (p : Nat) (F : Foot) (s : SDev) (h : DAt w p F s) (n : Nat) (hn : s.now.length = n) (h1 : 192 ≤ n) (h2 : n ≤ 2048) :
  Calls Tryz.prog 36 #[.pointer (some ⟨p, 0, none⟩)] w fun e w' => e = .returned (.int .i64 (segsOf n : Int)) ∧ w = w' := by
 have HL := Lib.hid (dlen_any w p F s h)
 rw [hn] at HL
 clear h hn
 have hr : (segsOf n : Int) = min (((n - 162) / 8 : Nat) : Int) 200 := by unfold segsOf; omega
 rw [hr]
 go_enter Tryz.func36, Tryz.ntmps36
 go_wp2_with fail
 refine (show Calls _ _ _ _ _ from HL.out).mono ?_
 rintro e w' ⟨rfl, rfl⟩
 go_wp2_with fail
 go_ret
 exact ⟨congrArg (fun z => Ending.returned (Value.int .i64 z)) (show min (((n : Int) - 162) / 8) 200 = min (((n - 162) / 8 : Nat) : Int) 200 by omega), rfl⟩
def JOpens (J : JournalOK) (p : Nat) (s : SDev) (P : JSt → Prop) (w : World) : Prop := ∀ w1, Kp w w1 → Calls Tryz.prog 66 #[.pointer (some ⟨p, 0, none⟩), .int .i64 2, .int .i64 20] w1 fun e w' => ∃ (q : Nat) (Fj : Foot) (j : JSt), e = .returned (.tuple #[.pointer (some ⟨q, 0, none⟩), .int .i64 0]) ∧ J.rep w' p q Fj j s ∧ j.place = 2 ∧ j.segs = 20 ∧ P j ∧ (∀ b, Fj.all b → w1.heap.size ≤ b) ∧ Kp w1 w'
def COpens (S : FlashOK) (p : Nat) (s : SDev) (n : Nat) (P : FSt → Prop) (w : World) : Prop := ∀ w1, Kp w w1 → Calls Tryz.prog 67 #[.pointer (some ⟨p, 0, none⟩), .int .i64 162, .int .i64 (segsOf n : Int)] w1 fun e w' => ∃ (q : Nat) (Fc : Foot) (f : FSt), e = .returned (.tuple #[.pointer (some ⟨q, 0, none⟩), .int .i64 0]) ∧ S.rep w' p q Fc f s ∧ f.place = 162 ∧ f.segs = segsOf n ∧ P f ∧ (∀ b, Fc.all b → w1.heap.size ≤ b) ∧ Kp w1 w'
def nextM (m : M4) : M4 := ⟨m.boot + 1, m.epoch, m.ready, m.frozen⟩
theorem next_ok {m : M4} (h : mayB m = true) (hb : m.boot < 1099511627776) : (mayB (nextM m) && overB m (nextM m)) = true := by
 unfold mayB small12 at h
 simp only [Bool.and_eq_true, decide_eq_true_eq] at h
 obtain ⟨⟨h1, h2, h3, h4, h5, h6⟩, h7⟩ := h
 unfold mayB small12 overB nextM
 simp only [Bool.and_eq_true, decide_eq_true_eq]
 exact ⟨⟨⟨by omega, by omega, h3, h4, h5, h6⟩, h7⟩, by omega, by omega⟩
section
variable {S : FlashOK} {J : JournalOK} {W w w1 w2 w3 w' : World} {p b q1 q2 q3 k wh n d : Nat} {F Fc Fj Fs : Foot} {s : SDev} {z : Sto} {X : Nat → Prop} {f : FSt} {j : JSt} {m : M4} {t : Nat}
theorem StIn.made (h : Kep W w p q3 k F Fs s ⟨p, 0, wh, t, encM m⟩ m) (ho : Oth theSup s.now ⟨p, 0, wh, t, encM m⟩) (hn : s.now.length = n) (h1 : 192 ≤ n) (hX : ∀ c, X c → ¬ F.all c ∧ ¬ (kfoot k Fs).all c ∧ c < w.heap.size)
  (hw2 : Kp w w2) (hj : J.rep w2 p q2 Fj j s) (j1 : j.place = 2) (j2 : j.segs = 20) (gj : ∀ b, Fj.all b → w.heap.size ≤ b) (hw3 : Kp w2 w3) (hc : S.rep w3 p q1 Fc f s) (f1 : f.place = 162) (f2 : f.segs = segsOf n) (gc : ∀ b, Fc.all b → w2.heap.size ≤ b) (boot : Int) (c : Nat) (hcc : s.calls ≤ c) :
  StIn S J W w3 p q1 q2 q3 k wh F Fc Fj Fs s ⟨f, j, t, m, boot, c⟩ n ⟨X, fun _ => False⟩ := by
 have s1 := hw2.size
 have s2 := hw3.size
 have s0 := h.du.dv.kp.size
 have hFl : ∀ b, F.all b → b < w.heap.size := h.du.dv.d.lt
 have hkl : ∀ b, (kfoot k Fs).all b → b < w.heap.size := fun c hc => by
  rcases kfoot_all.1 hc with hc | rfl
  ·exact theSup.lt h.du.su c hc
  ·exact h.kb.lt
 have hjl : ∀ b, Fj.all b → b < w2.heap.size := J.lt hj
 have hXl : ∀ b, (⟨X, fun _ => False⟩ : Foot).all b → X b := fun b hb => hb.elim id fun h => h.elim
 refine ⟨hc, J.keep hj (hw3.mono fun _ _ _ => trivial), (h.keep hw2).keep hw3, ?_, ?_, ?_, ?_, ?_, ?_, ?_, ?_, ?_, ?_, fun b hb => ?_, fun b hb => ?_, fun b hb => ?_, hn, h1, f1, f2, j1, j2, ho, hcc⟩
 ·exact ⟨fun b hb hf => by have := hFl b (.inl hb); have := gc b hf; omega, fun b hb hf => by have := hFl b hf; have := gc b (.inl hb); omega⟩
 ·exact ⟨fun b hb hf => by have := hFl b (.inl hb); have := gj b hf; omega, fun b hb hf => by have := hFl b hf; have := gj b (.inl hb); omega⟩
 ·refine ⟨fun b hb hf => ?_, fun b hb hf => ?_⟩
  ·rcases kfoot_all.1 hf with hf | rfl
   ·exact h.du.ap.l b hb hf
   ·exact h.nf (.inl hb)
  ·rcases hb with hb | rfl
   ·exact h.du.ap.r b hb hf
   ·exact h.nf hf
 ·exact ⟨fun b hb hf => by have := hjl b hf; have := gc b (.inl hb); omega, fun b hb hf => by have := hjl b (.inl hb); have := gc b hf; omega⟩
 ·exact ⟨fun b hb hf => by have := hkl b hf; have := gc b (.inl hb); omega, fun b hb hf => by have := hkl b (.inl hb); have := gc b hf; omega⟩
 ·exact ⟨fun b hb hf => by have := hkl b hf; have := gj b (.inl hb); omega, fun b hb hf => by have := hkl b (.inl hb); have := gj b hf; omega⟩
 ·exact ⟨fun b hb hf => (hX b (hXl b hf)).1 (.inl hb), fun b hb hf => (hX b hb).1 hf⟩
 ·exact ⟨fun b hb hf => by have := (hX b (hXl b hf)).2.2; have := gc b (.inl hb); omega, fun b hb hf => by have := (hX b hb).2.2; have := gc b hf; omega⟩
 ·exact ⟨fun b hb hf => by have := (hX b (hXl b hf)).2.2; have := gj b (.inl hb); omega, fun b hb hf => by have := (hX b hb).2.2; have := gj b hf; omega⟩
 ·exact ⟨fun b hb hf => (hX b (hXl b hf)).2.1 (.inl hb), fun b hb hf => (hX b hb).2.1 hf⟩
 ·have := (hX b (hXl b hb)).2.2; omega
 ·have := gc b hb; omega
 ·have := gj b hb; omega
def Started (S : FlashOK) (J : JournalOK) (W : World) (p wh t n : Nat) (s : SDev) (m : M4) (X : Nat → Prop) (PC : FSt → Prop) (PJ : JSt → Prop) (w : World) (e : Ending) (w' : World) : Prop :=
 ∃ (b q1 q2 q3 k : Nat) (F Fc Fj Fs : Foot) (c : Nat) (f : FSt) (j : JSt), e = .returned (.tuple #[.pointer (some ⟨b, 0, none⟩), .int .i64 0]) ∧ PC f ∧ PJ j ∧
  StIn S J W w' p q1 q2 q3 k (1 - wh) F Fc Fj Fs (SDev.still (s.now.set (1 - wh) (theSup.enc (t + 1) (encM (nextM m)))) c) ⟨f, j, t + 1, nextM m, m.boot + 1, s.calls + 100⟩ n (efoot b X) ∧ StBlk w' b q1 q2 k (m.boot + 1) ∧ W.heap.size ≤ b ∧ ¬ X b ∧ Keeps X w w'
set_option maxRecDepth 100000 in
set_option maxHeartbeats 2000000 in
theorem sstart (hT : theSup.T W) (h : Kep W w p q3 k F Fs s ⟨p, 0, wh, t, encM m⟩ m) (ho : Oth theSup s.now ⟨p, 0, wh, t, encM m⟩) (hn : s.now.length = n) (h1 : 192 ≤ n) (hX : ∀ c, X c → ¬ F.all c ∧ ¬ (kfoot k Fs).all c ∧ c < w.heap.size)
  (PC : FSt → Prop) (PJ : JSt → Prop) (hJ : JOpens J p s PJ w) (hC : COpens S p s n PC w) (hb : m.boot < 1099511627776) (ht : t ≤ 300000000000) (hc : s.calls ≤ 300000000000) :
  Calls Tryz.prog 39 #[.pointer (some ⟨p, 0, none⟩), .pointer (some ⟨k, 0, none⟩)] w (Started S J W p wh t n s m X PC PJ w) := by
 have hsm : n ≤ 2048 := by rw [← hn]; exact h.du.dv.d.ok.small
 have HJ := Lib.hid hJ
 have HC := Lib.hid hC
 have HCS := Lib.hid (show ∀ w1, Kp w w1 → Calls Tryz.prog 36 #[.pointer (some ⟨p, 0, none⟩)] w1 fun e w' => e = .returned (.int .i64 (segsOf n : Int)) ∧ w1 = w' from fun w1 hk => csegs_any w1 p F s (h.keep hk).du.dv.d n hn h1 hsm)
 have HM := Lib.hid (show ∀ w1, Kp w w1 → Calls Tryz.prog 12 #[.pointer (some ⟨k, 0, none⟩)] w1 fun e w' => e = .returned (magg m) ∧ Kp w1 w' from fun w1 hk => kmeta_any w1 k q3 m (h.keep hk).kb)
 have HIN := Lib.hid (show ∀ (w2 w3 : World) (q1 q2 : Nat) (Fj Fc : Foot) (j : JSt) (f : FSt), Kp w w2 → J.rep w2 p q2 Fj j s → j.place = 2 → j.segs = 20 → (∀ b, Fj.all b → w.heap.size ≤ b) → Kp w2 w3 → S.rep w3 p q1 Fc f s → f.place = 162 → f.segs = segsOf n → (∀ b, Fc.all b → w2.heap.size ≤ b) → StIn S J W w3 p q1 q2 q3 k wh F Fc Fj Fs s ⟨f, j, t, m, m.boot + 1, s.calls⟩ n ⟨X, fun _ => False⟩ from
  fun w2 w3 q1 q2 Fj Fc j f a b c d e f' g i l o => StIn.made h ho hn h1 hX a b c d e f' g i l o (m.boot + 1) s.calls (Nat.le_refl _))
 have HSV := Lib.hid (show ∀ (w3 : World) (q1 q2 : Nat) (Fj Fc : Foot) (j : JSt) (f : FSt) (E : Foot), StIn S J W w3 p q1 q2 q3 k wh F Fc Fj Fs s ⟨f, j, t, m, m.boot + 1, s.calls⟩ n E → Calls Tryz.prog 19 #[.pointer (some ⟨k, 0, none⟩), magg (nextM m)] w3 fun e w' => e = .returned (.int .i64 0) ∧ ∃ (F' Fs' : Foot) (c : Nat),
   StIn S J W w' p q1 q2 q3 k (1 - wh) F' Fc Fj Fs' (SDev.still (s.now.set (1 - wh) (theSup.enc (t + 1) (encM (nextM m)))) c) ⟨f, j, t + 1, nextM m, m.boot + 1, s.calls + 100⟩ n E ∧ Keeps E.all w3 w' from
  fun w3 q1 q2 Fj Fc j f E hI => hI.moveK hT (nextM m) (next_ok h.may hb) (by show s.calls ≤ _; omega) (by show t ≤ _; omega))
 have HB := Lib.hid hb
 have HB0 := Lib.hid (show -9223372036854775808 ≤ m.boot by have := (may_fits h.may).b1; omega)
 clear h ho hn hX hJ hC ht hc hT
 have HNM := Lib.hid (show nextM m = ⟨m.boot + 1, m.epoch, m.ready, m.frozen⟩ from rfl)
 obtain ⟨bo, ep, re, fr⟩ := m
 have hm : magg ⟨bo, ep, re, fr⟩ = .agg #[.int .i64 bo, .int .i64 ep, .int .i64 re, .bool fr] := rfl
 have hm2 : magg (nextM ⟨bo, ep, re, fr⟩) = .agg #[.int .i64 (bo + 1), .int .i64 ep, .int .i64 re, .bool fr] := rfl
 rw [hm] at HM
 rw [hm2] at HSV
 have hb1 : bo < 1099511627776 := HB.out
 have hb2 : -9223372036854775808 ≤ bo := HB0.out
 clear hm hm2 HB HB0
 go_enter Tryz.func39, Tryz.ntmps39
 go_wp2_with fail
 refine (show Calls _ _ _ _ _ from HJ.out w (Keeps.refl _ _)).mono ?_
 rintro e w2 ⟨q2, Fj, j, rfl, hj, j1, j2, pj, gj, k2⟩
 have K2 := Lib.hid k2
 have HJR := Lib.hid (And.intro hj (And.intro j1 (And.intro j2 (And.intro pj gj))))
 clear hj j1 j2 pj gj k2 HJ
 go_wp2_with fail
 refine (show Calls _ _ _ _ _ from HCS.out w2 K2.out).mono ?_
 rintro e w3 ⟨rfl, rfl⟩
 clear HCS
 go_wp2_with fail
 refine (show Calls _ _ _ _ _ from HC.out w2 K2.out).mono ?_
 rintro e w3 ⟨q1, Fc, f, rfl, hc, f1, f2, pf, gc, k3⟩
 have K3 := Lib.hid (K2.out.trans k3)
 have HI := Lib.hid (HIN.out w2 w3 q1 q2 Fj Fc j f K2.out HJR.out.1 HJR.out.2.1 HJR.out.2.2.1 HJR.out.2.2.2.2 k3 hc f1 f2 gc)
 have HP := Lib.hid (And.intro pf HJR.out.2.2.2.1)
 clear hc f1 f2 pf gc k3 HC HJR HIN K2
 go_wp2_with fail
 refine (show Calls _ _ _ _ _ from HM.out w3 K3.out).mono ?_
 rintro e w4 ⟨rfl, k4⟩
 have K4 := Lib.hid (K3.out.trans k4)
 replace HI := Lib.hid (HI.out.keep k4)
 clear k4 HM K3
 go_wp2_with fail
 have hka : Kp w4 (w4.alloc (.cells #[.int .i64 (bo + 1), .int .i64 ep, .int .i64 re, .bool fr] 32)) := (Keeps.refl _ w4).alloc _
 have hba := heap_alloc_new w4 (.cells #[.int .i64 (bo + 1), .int .i64 ep, .int .i64 re, .bool fr] 32)
 have hsa : (w4.alloc (.cells #[.int .i64 (bo + 1), .int .i64 ep, .int .i64 re, .bool fr] 32)).heap.size = w4.heap.size + 1 := by simp
 have HI5 := Lib.hid (HI.out.more (Y := fun c => X c ∨ c = w4.heap.size) hka fun c hc => hc.imp id fun e => by omega)
 have HS5 := Lib.hid (HSV.out _ q1 q2 Fj Fc j f _ HI5.out)
 have HX4 := Lib.hid (show ∀ c, X c → c < w4.heap.size from fun c hc => HI.out.elt c (.inl hc))
 have K5 := Lib.hid (K4.out.trans hka)
 have C5 := Lib.hid ((cell_of_block hba 0).trans (show _ = some (Value.int .i64 (bo + 1)) from rfl))
 clear hka hba hsa HI HSV HI5 K4
 generalize w4.alloc (.cells #[.int .i64 (bo + 1), .int .i64 ep, .int .i64 re, .bool fr] 32) = w5 at *
 generalize w4.heap.size = g at *
 refine (show Calls _ _ _ _ _ from HS5.out).mono ?_
 rintro e w6 ⟨rfl, F', Fs', c, hI6, hk6⟩
 have c6 := hk6.cell C5.out (.inl (.inr rfl))
 have HI6 := Lib.hid (hI6.more (Y := X) (Keeps.refl _ _) fun c hc => .inl (.inl hc))
 have K6 := Lib.hid (Keeps.trans (K5.out.mono fun _ _ _ => trivial) (hk6.mono fun c _ (hc : X c) => .inl (.inl hc)))
 clear hI6 hk6 HS5 C5 K5 HX4
 go_wp2_with fail
 go_ret2
 obtain ⟨a1, a2, a3, a4⟩ := HI6.out.block (bo + 1) _ rfl
 exact ⟨_, _, _, _, _, _, _, _, _, _, _, _, rfl, HP.out.1, HP.out.2, a1, a2, a3, a4, K6.out.trans ((Keeps.refl _ w6).alloc _)⟩
end
section
variable {S : FlashOK} {J : JournalOK} {W w w' : World} {p b q1 q2 q3 k wh n d : Nat} {F F' : Foot} {s : SDev} {z : Sto} {X : Nat → Prop}
theorem jopens_new (hT : J.T W) (hd : Dv W w p F s) (hl : 192 ≤ s.now.length) (hb : ∀ i, 2 ≤ i → i < 162 → s.now.getD i [] = blank) : JOpens J p s (fun j => j = ⟨2, 20, [], 0, 32, 1⟩) w := fun w1 hk => by
 have hd1 := hd.keep hk
 refine (J.openNew w1 p F s hd1.d (J.tk hT hd1.kp) 2 20 (by decide) (by decide) (by omega) fun j h1 h2 => hb j h1 (by omega)).mono ?_
 rintro e w2 ⟨q, Fj, rfl, hr, hn, hk2⟩
 exact ⟨q, Fj, _, rfl, hr, rfl, rfl, rfl, hn, hk2⟩
theorem jopens_old (hT : J.T W) (hd : Dv W w p F s) (hl : 192 ≤ s.now.length) (st : JSt) (h1 : st.place = 2) (h2 : st.segs = 20) (ha : st.age ≤ 20000) (hb : J.disk st s.now) : JOpens J p s (fun j => j.keys = st.keys) w := fun w1 hk => by
 have hd1 := hd.keep hk
 have h := J.openOld w1 p F s st hd1.d (J.tk hT hd1.kp) hb (by rw [h1, h2]; omega) ha
 rw [h1, h2] at h
 refine h.mono ?_
 rintro e w2 ⟨q, Fj, b, rfl, hr, hn, hk2⟩
 exact ⟨q, Fj, _, rfl, hr, rfl, rfl, rfl, hn, hk2⟩
theorem copens_new (hT : S.T W) (hd : Dv W w p F s) (hn : s.now.length = n) (hl : 192 ≤ n) (hb : ∀ i, 162 ≤ i → i < 162 + 8 * segsOf n → s.now.getD i [] = blank) : COpens S p s n (fun f => f = ⟨162, segsOf n, [], 0, 1⟩) w := fun w1 hk => by
 have hd1 := hd.keep hk
 have hroom := segs_room hl
 have h3 : 3 ≤ segsOf n ∧ segsOf n ≤ 200 := by unfold segsOf; omega
 refine (S.openNew w1 p F s hd1.d (S.tk hT hd1.kp) 162 (segsOf n) h3.1 h3.2 (by rw [hn]; exact hroom) hb).mono ?_
 rintro e w2 ⟨q, Fc, rfl, hr, hn, hk2⟩
 exact ⟨q, Fc, _, rfl, hr, rfl, rfl, rfl, hn, hk2⟩
theorem copens_old (hT : S.T W) (hd : Dv W w p F s) (hn : s.now.length = n) (hl : 192 ≤ n) (st : FSt) (h1 : st.place = 162) (h2 : st.segs = segsOf n) (ha : st.age ≤ 20000) (hb : S.disk st s.now) : COpens S p s n (fun _ => True) w := fun w1 hk => by
 have hd1 := hd.keep hk
 have hroom := segs_room hl
 have h := S.openOld w1 p F s st hd1.d (S.tk hT hd1.kp) hb (by rw [h1, h2, hn]; exact hroom) ha
 rw [h1, h2] at h
 refine h.mono ?_
 rintro e w2 ⟨q, Fc, rfl, hr, hn, hk2⟩
 exact ⟨q, Fc, _, rfl, hr, rfl, rfl, trivial, hn, hk2⟩
theorem started_new {t : Nat} {m : M4} {e : Ending} {w0 : World} (hwh : wh ≤ 1) (hb : ∀ i, 2 ≤ i → i < 162 + 8 * segsOf n → s.now.getD i [] = blank)
  (h : Started S J W p wh t n s m X (fun f => f = ⟨162, segsOf n, [], 0, 1⟩) (fun j => j = ⟨2, 20, [], 0, 32, 1⟩) w0 e w') :
  ∃ b q1 q2 k, e = .returned (.tuple #[.pointer (some ⟨b, 0, none⟩), .int .i64 0]) ∧ StAt S J W w' p b q1 q2 k ⟨⟨162, segsOf n, [], 0, 1⟩, ⟨2, 20, [], 0, 32, 1⟩, t + 1, nextM m, m.boot + 1, s.calls + 100⟩ n 1 X ∧ Keeps X w0 w' := by
 obtain ⟨b, q1, q2, q3, k, F, Fc, Fj, Fs, c, f, j, rfl, rfl, rfl, h1, h2, h3, h4, hk⟩ := h
 refine ⟨b, q1, q2, k, rfl, ⟨q3, 1 - wh, F, Fc, Fj, Fs, _, h1, h2, h3, h4, fun _ => ⟨_, c, rfl, .inl ⟨rfl, rfl, rfl, fun i h5 h6 => ?_⟩⟩⟩, hk⟩
 rw [set_getD_ne _ _ _ _ (by omega)]
 exact hb i h5 h6
theorem started_old {t : Nat} {m : M4} {e : Ending} {w0 : World} {l : List ByteArray}
  (h : Started S J W p wh t n s m X (fun _ => True) (fun j => j.keys = l) w0 e w') :
  ∃ b q1 q2 k z, e = .returned (.tuple #[.pointer (some ⟨b, 0, none⟩), .int .i64 0]) ∧ StAt S J W w' p b q1 q2 k z n 0 X ∧ z.j.keys = l ∧ z.m = nextM m ∧ z.boot = m.boot + 1 ∧ Keeps X w0 w' := by
 obtain ⟨b, q1, q2, q3, k, F, Fc, Fj, Fs, c, f, j, rfl, -, hj, h1, h2, h3, h4, hk⟩ := h
 exact ⟨b, q1, q2, k, _, rfl, ⟨q3, 1 - wh, F, Fc, Fj, Fs, _, h1, h2, h3, h4, fun h => absurd h (Nat.lt_irrefl 0)⟩, hj, rfl, rfl, hk⟩
end
section
variable {S : FlashOK} {J : JournalOK} {W w w' : World} {p b q1 q2 q3 k wh n d c : Nat} {F F' : Foot} {s : SDev} {z : Sto} {X : Nat → Prop}
theorem stmake_small (h : Dv W w p F s) (hn : s.now.length = n) (h1 : n < 192) : Calls Tryz.prog 11 #[.pointer (some ⟨p, 0, none⟩)] w fun e w' => e = .returned (.tuple #[.pointer none, .int .i64 4]) ∧ w = w' := by
 have HL := Lib.hid (dlen_any w p F s h.d)
 rw [hn] at HL
 have hn192 : (n : Int) < 192 := by omega
 clear h hn h1
 go_enter Tryz.func11, Tryz.ntmps11
 go_wp2_with fail
 refine (show Calls _ _ _ _ _ from HL.out).mono ?_
 rintro e w' ⟨rfl, rfl⟩
 go_wp2_with fail
 go_ret2
 exact ⟨rfl, rfl⟩
set_option maxRecDepth 100000 in
theorem stopen_bad (hT : theSup.T W) (h : Dv W w p F s) (hn : s.now.length = n) (h1 : 192 ≤ n) (hb0 : s.now.getD 0 [] = blank) (hb1 : s.now.getD 1 [] = blank) : Calls Tryz.prog 22 #[.pointer (some ⟨p, 0, none⟩)] w fun e w' => e = .returned (.tuple #[.pointer none, .int .i64 3]) ∧ Kp w w' := by
 have HL := Lib.hid (dlen_any w p F s h.d)
 rw [hn] at HL
 have hn192 : ¬ (n : Int) < 192 := by omega
 have HO := Lib.hid (show Calls Tryz.prog 55 #[.pointer (some ⟨p, 0, none⟩), .int .i64 0] w fun e w' => (∃ v, e = .returned (.tuple #[v, .int .i64 3])) ∧ Kp w w' from kopen_bad w (theSup.tk hT h.kp) p F s h.d 0 (by rw [hn]; omega) (by rw [hb0]; exact theSup.decBlank) (by rw [hb1]; exact theSup.decBlank))
 clear h hn h1 hb0 hb1 hT
 go_enter Tryz.func22, Tryz.ntmps22
 go_wp2_with fail
 refine (show Calls _ _ _ _ _ from HL.out).mono ?_
 rintro e w' ⟨rfl, rfl⟩
 clear HL
 go_wp2_with fail
 refine (show Calls _ _ _ _ _ from HO.out).mono ?_
 rintro e w2 ⟨⟨v, rfl⟩, hk⟩
 have HK := Lib.hid hk
 clear hk HO
 go_wp2_with fail
 go_ret2
 exact ⟨rfl, HK.out⟩
set_option maxRecDepth 100000 in
set_option maxHeartbeats 1000000 in
theorem stopen_any (hT : theSup.T W) (rows : List (List UInt8)) (t : Nat) (m : M4) (h : Dv W w p F (SDev.still rows 0)) (hn : rows.length = n) (h1 : 192 ≤ n) (hw : wh ≤ 1) (ht1 : 1 ≤ t) (hm : mayB m = true) (hs : rows.getD wh [] = theSup.enc t (encM m)) (ho : Oth theSup rows ⟨p, 0, wh, t, encM m⟩) (hX : ∀ b, X b → ¬ F.all b ∧ b < w.heap.size)
  (PC : FSt → Prop) (PJ : JSt → Prop) (hJ : JOpens J p (SDev.still rows 0) PJ w) (hC : COpens S p (SDev.still rows 0) n PC w) (hb : m.boot < 1099511627776) (ht : t ≤ 300000000000) :
  Calls Tryz.prog 22 #[.pointer (some ⟨p, 0, none⟩)] w fun e w' => ∃ w0, Kp w w0 ∧ Started S J W p wh t n (SDev.still rows 0) m X PC PJ w0 e w' := by
 have HL := Lib.hid (dlen_any w p F _ h.d)
 have hn' : (SDev.still rows 0).now.length = n := hn
 rw [hn'] at HL
 have hn192 : ¬ (n : Int) < 192 := by omega
 have HO := Lib.hid (show Calls Tryz.prog 55 #[.pointer (some ⟨p, 0, none⟩), .int .i64 0] w fun e w2 => ∃ k, e = .returned (.tuple #[.pointer (some ⟨k, 0, none⟩), .int .i64 0]) ∧ Kp w w2 ∧ Calls Tryz.prog 39 #[.pointer (some ⟨p, 0, none⟩), .pointer (some ⟨k, 0, none⟩)] w2 (Started S J W p wh t n (SDev.still rows 0) m X PC PJ w2) from by
  refine (kopen_yes W w hT p F _ h 0 wh t m hm (by rw [hn']; omega) hw ht1 (by rw [Nat.zero_add]; exact hs) (fun t' x' hd => ho t' x' hd) (by omega)).mono ?_
  rintro e w2 ⟨q3, k, Fs, rfl, hK, hfs, hkk, hk⟩
  refine ⟨k, rfl, hk, sstart (X := X) hT hK ho hn' h1 (fun c hx => ?_) PC PJ (fun w1 hk1 => hJ w1 (hk.trans hk1)) (fun w1 hk1 => hC w1 (hk.trans hk1)) hb ht (Nat.zero_le _)⟩
  have h5 := (hX c hx).2
  have h6 := hk.size
  refine ⟨(hX c hx).1, fun hf => ?_, by omega⟩
  rcases kfoot_all.1 hf with hf | rfl
  ·have := hfs c hf; omega
  ·omega)
 clear h hn hn' h1 hw ht1 hm hs ho hX hJ hC hb ht hT
 go_enter Tryz.func22, Tryz.ntmps22
 go_wp2_with fail
 refine (show Calls _ _ _ _ _ from HL.out).mono ?_
 rintro e w' ⟨rfl, rfl⟩
 clear HL
 go_wp2_with fail
 refine (show Calls _ _ _ _ _ from HO.out).mono ?_
 rintro e w2 ⟨k, rfl, hk, hs⟩
 have HK := Lib.hid hk
 have HS := Lib.hid hs
 clear hk hs HO
 go_wp2_with fail
 refine (show Calls _ _ _ _ _ from HS.out).mono ?_
 rintro e w3 hs
 have hs0 := hs
 obtain ⟨b, q1, q2, q3, k', F1, Fc, Fj, Fs, c, f, j, rfl, -⟩ := hs0
 have HE := Lib.hid hs
 clear hs HS
 go_wp2_with fail
 go_ret2
 exact ⟨w2, HK.out, HE.out⟩
theorem so_openNew (hS : S.T W) (hJ : J.T W) (hT : theSup.T W) (h : StDisk S J W w p z n 1 X) (hb : z.m.boot < 1099511627776) (ht : z.t ≤ 300000000000) :
  Calls Tryz.prog 22 #[.pointer (some ⟨p, 0, none⟩)] w fun e w' => ∃ b q1 q2 k, e = .returned (.tuple #[.pointer (some ⟨b, 0, none⟩), .int .i64 0]) ∧ StAt S J W w' p b q1 q2 k ⟨⟨162, segsOf n, [], 0, 1⟩, ⟨2, 20, [], 0, 32, 1⟩, z.t + 1, nextM z.m, z.m.boot + 1, 100⟩ n 1 X ∧ Kp W w' := by
 obtain ⟨F, rows, wh, hd, hn, h1, f1, f2, j1, j2, hw, ht1, hm, hs, ho, hod, hX⟩ := h
 have hbl : ∀ i, 2 ≤ i → i < 162 + 8 * segsOf n → rows.getD i [] = blank := by
  rcases hod with ⟨-, -, -, h⟩ | ⟨h, -⟩ | ⟨h, -⟩
  ·exact h
  ·cases h
  ·cases h
 refine (stopen_any hT rows z.t z.m hd hn h1 hw ht1 hm hs ho hX _ _ (jopens_new (J.tk hJ (Keeps.refl _ W)) hd (by show 192 ≤ rows.length; omega) fun i a b => hbl i a (by unfold segsOf; omega)) (copens_new hS hd hn h1 fun i a b => hbl i (by omega) b) hb ht).mono ?_
 rintro e w' ⟨w0, hk0, hst⟩
 obtain ⟨b, q1, q2, k, rfl, hat, -⟩ := started_new hw hbl hst
 have e : (SDev.still rows 0).calls + 100 = 100 := rfl
 rw [e] at hat
 exact ⟨b, q1, q2, k, rfl, hat, hat.kp⟩
theorem so_openOld (hS : S.T W) (hJ : J.T W) (hT : theSup.T W) (h : StDisk S J W w p z n 2 X) (hb : z.m.boot < 1099511627776) (ht : z.t ≤ 300000000000) (hf : z.f.age ≤ 20000) (hj : z.j.age ≤ 20000) :
  Calls Tryz.prog 22 #[.pointer (some ⟨p, 0, none⟩)] w fun e w' => ∃ b q1 q2 k z', e = .returned (.tuple #[.pointer (some ⟨b, 0, none⟩), .int .i64 0]) ∧ StAt S J W w' p b q1 q2 k z' n 0 X ∧ z'.j.keys = z.j.keys ∧ z'.m = nextM z.m ∧ z'.boot = z.m.boot + 1 ∧ Keeps X w w' := by
 obtain ⟨F, rows, wh, hd, hn, h1, f1, f2, j1, j2, hw, ht1, hm, hs, ho, hod, hX⟩ := h
 have hbl : S.disk z.f rows ∧ J.disk z.j rows := by
  rcases hod with ⟨h, -⟩ | ⟨-, h⟩ | ⟨h, -⟩
  ·cases h
  ·exact h
  ·cases h
 refine (stopen_any hT rows z.t z.m hd hn h1 hw ht1 hm hs ho hX _ _ (jopens_old (J.tk hJ (Keeps.refl _ W)) hd (by show 192 ≤ rows.length; omega) z.j j1 j2 hj hbl.2) (copens_old hS hd hn h1 z.f f1 f2 hf hbl.1) hb ht).mono ?_
 rintro e w' ⟨w0, hk0, hst⟩
 obtain ⟨b, q1, q2, k, z', rfl, hat, a1, a2, a3, hkx⟩ := started_old hst
 exact ⟨b, q1, q2, k, z', rfl, hat, a1, a2, a3, (hk0.mono fun _ _ _ => trivial).trans hkx⟩
end
theorem string_elem : Elem Tryz.prog 30 9 (.string ⟨#[]⟩) 1 16 := ⟨Tryz.underlying30, by kernel_rfl, rfl, by decide⟩
theorem list_make0 {P : Program} {w : World} {ops : Array Oper} {rest : List Oper} {o : Oper} {a : Act} {Q : Exit → Act → World → Prop} (hg : o.guard = none) (l c : Operand) (t : TypeId) (hop : o.op = Op.makeSlice t l c)
  {e : TypeId} {z : Value} {size bytes : Nat} (E : Elem P t e z size bytes) (kl kc : IntKind) (n : Nat) (hl : a.eval l = .int kl 0) (hc : a.eval c = .int kc (n : Int)) (b2 : bytes * n ≤ 281474976710656) (b3 : n ≤ maxLen)
  (hK : ∀ w', w'.ownsRow w.heap.size e size (.slice (some ⟨w.heap.size, 0, none⟩) 0 n) 0 [] → w.grownBy w' none → wpList P ops Q rest (a.put o.dst (.slice (some ⟨w.heap.size, 0, none⟩) 0 n)) w') : wpList P ops Q (o :: rest) a w := by
 obtain ⟨i, hi, hz0, hz1, hz2⟩ := info_parts E.info
 subst hz2
 exact wpList_make_own w hg l c t hop w.heap.size e i z size E.und hi hz0 hz1 kl kc _ n hl hc rfl b2 b3 (Nat.le_refl _) hK
theorem src_text (W : World) (s : ByteArray) : Src Tryz.prog 1 30 (.slice (some ⟨W.heap.size, 0, none⟩) 1 1) 1 [.string s] (W.alloc (.cells #[.string s] 9)) :=
 src_one Tryz.underlying30 W (.string s) 9 rfl W.heap.size rfl 1
def keysC (L : List Sl) (j : Nat) : List Value := (L.take j).map fun s => Value.string s.key
set_option maxRecDepth 100000 in
set_option maxHeartbeats 1000000 in
theorem ixkeys_any (w : World) (q : Nat) (F : Foot) (st : IxSt) (hR : IxRep w q F st) (hl : st.length ≤ 32768) :
  Calls Tryz.prog 61 #[.pointer (some ⟨q, 0, none⟩)] w fun e w' => ∃ (A : Option Addr) (c : Nat) (ks : List ByteArray), e = .returned (.slice A st.length c) ∧ ks.Perm (st.map (·.1)) ∧ Rising ks ∧ st.length ≤ c ∧ c ≤ maxLen ∧
   Row w' A (fun b => w.heap.size ≤ b ∧ b < w'.heap.size) (ks.map Value.string) ∧ Keeps (fun _ => True) w w' := by
 obtain ⟨A, n, T, rfl, hR⟩ := hR
 have hn := hR.n
 have hall : ((fromL T (-9223372036854775808) n).map kv).Perm st := by
  rcases Nat.eq_zero_or_pos n with h0 | h0
  ·subst h0
   rw [tab_nil, (hR.zero rfl).1]
   exact List.Perm.refl _
  ·have h := (from_ok (hR.ok h0) (-9223372036854775808)).2.2
   rwa [below_all fun x hx => (hR.i x hx).1] at h
 have hlen : (fromL T (-9223372036854775808) n).length = st.length := by
  have := hall.length_eq
  rwa [List.length_map] at this
 have hnd := hR.nd
 have hperm : ((fromL T (-9223372036854775808) n).map Sl.key).Perm (st.map (·.1)) := by
  have := hall.map (·.1)
  rwa [List.map_map] at this
 have HFR := Lib.hid (fun (w1 : World) (h : Kp w w1) => from_any w1 q A n st.length T (hR.s.keep h) (by omega) (-9223372036854775808))
 have c1 := hR.s.blk.c1
 generalize fromL T (-9223372036854775808) n = L at *
 have HP := Lib.hid hperm
 have HL := Lib.hid hlen
 have HND := Lib.hid ((hperm.nodup_iff).2 hnd)
 obtain ⟨c, hc⟩ : ∃ c, st.length = c := ⟨_, rfl⟩
 rw [hc] at c1 hl HL ⊢
 rw [HL.out] at HFR
 clear hR hall hlen hnd hperm hc hn
 go_enter Tryz.func61, Tryz.ntmps61
 go_wp2_with (refine list_make0 rfl (.const (.int .i64 0)) (.tmp 11) 30 rfl string_elem .i64 .i64 c rfl rfl (by omega) (by unfold maxLen; omega) ?_)
 intro w1 hown hg
 have hk1 : Kp w w1 := Keeps.of_grown hg fun _ h => by cases h
 have HK1 := Lib.hid hk1
 have hsz1 : w.heap.size < w1.heap.size := (hown.lt w.heap.size rfl).2
 have HO1 := Lib.hid hown
 have HF1 := Lib.hid (HFR.out w1 hk1)
 clear hown hg hk1 HFR
 go_wp2_with fail
 refine (show Calls _ _ _ _ _ from HF1.out).mono ?_
 rintro e w2 ⟨B, k, rfl, ho, hk2⟩
 have HS2 := Lib.hid ((SlsAt.of_own ho HL.out.symm).mono (G := fun b => w1.heap.size ≤ b ∧ b < w2.heap.size) fun b _ h => h)
 have HO2 := Lib.hid (hk2.own HO1.out fun _ _ => trivial)
 have HK2 := Lib.hid (HK1.out.trans hk2)
 have hsz2 := hk2.size
 clear ho hk2 HO1 HK1 HF1
 go_wp2_with fail
 go_loopw [3, 16] (fun v i wr => ∃ (j : Nat) (A1 : Option Addr) (cc : Nat), j ≤ c ∧ i = .int .i64 (j : Int) ∧ v = .slice A1 j cc ∧ Hid (wr.ownsRow w.heap.size 9 1 v j (keysC L j)) ∧ Hid (∀ b, v.ownBlock = some b → b < w1.heap.size ∨ w2.heap.size ≤ b) ∧ Hid (Kp w wr) ∧ Hid (Keeps (fun b => w1.heap.size ≤ b ∧ b < w2.heap.size) w2 wr)) (fun _ i _ => c - (intOf i).toNat)
 case atStart => exact ⟨0, some ⟨w.heap.size, 0, none⟩, c, Nat.zero_le _, rfl, rfl, HO2, Lib.hid (fun b hb => by
  have : b = w.heap.size := by simpa [Value.ownBlock] using hb.symm
  omega), HK2, Lib.hid (Keeps.refl _ _)⟩
 case round =>
  clear HO2
  obtain ⟨j, A1, cc, hj, rfl, rfl, HO, HB, HK, HKW⟩ := hrel
  by_cases hjc : j < c
  ·have hjc' : (j : Int) < (c : Int) := by omega
   have hjl : j < L.length := by rw [HL.out]; exact hjc
   have HSr := Lib.hid (HS2.out.keep HKW.out)
   obtain ⟨b, o, rfl, hbw, t0, t1, t2, t3⟩ := HSr.out j hjl
   have HT := Lib.hid (show keysC L (j + 1) = keysC L j ++ [Value.string L[j].key] from by
    unfold keysC
    rw [List.take_succ_eq_append_getElem hjl, List.map_append]; rfl)
   generalize L[j].key = K at t0 HT
   generalize L[j].hash = Z at t1
   generalize L[j].pos = P at t2
   generalize L[j].full = U at t3
   have hblt : b < wr.heap.size := World.block_lt_of_cell? wr _ t0
   have hsrc := src_text (wr.alloc (.cells #[.string K, .int .u64 Z, .int .i64 P, .bool U] 126)) K
   rw [show (wr.alloc (.cells #[.string K, .int .u64 Z, .int .i64 P, .bool U] 126)).heap.size = wr.heap.size + 1 by simp] at hsrc
   have HSRC := Lib.hid hsrc
   have hszr := HK.out.size
   have hszw := HKW.out.size
   clear hsrc HSr
   go_wp2_with (at_builtin; refine string_elem.list_append rfl (.tmp 20) (.tmp 23) _ rfl rfl ((HO.out.alloc _).alloc _) rfl HSRC.out ?c3 ?c4 ?c5 ?_)
   case c3 => unfold maxLen; omega
   case c4 => omega
   case c5 => simp; omega
   intro v3 w3 ho3 hg3 hb3
   have HK3 := Lib.hid (show Kp w w3 from ((HK.out.alloc _).alloc _).grown hg3 fun j hj => (HO.out.lt j hj).1)
   have HKW3 := Lib.hid (show Keeps (fun b => w1.heap.size ≤ b ∧ b < w2.heap.size) w2 w3 from by
    refine ((HKW.out.alloc _).alloc _).trans (Keeps.of_grown hg3 fun b hb _ hh => ?_)
    rcases HB.out b hb with h | h <;> omega)
   have HO3 := Lib.hid (show w3.ownsRow w.heap.size 9 1 v3 (j + 1) (keysC L (j + 1)) from by rw [HT.out]; exact ho3)
   have HB3 := Lib.hid (show ∀ b, v3.ownBlock = some b → b < w1.heap.size ∨ w2.heap.size ≤ b from fun b hb => by
    rcases hb3 with h | h
    ·exact HB.out b (by rw [← h]; exact hb)
    ·rw [h] at hb
     injection hb with hb
     (try simp at hb)
     omega)
   obtain ⟨g3, c3, rfl, -, -⟩ := ho3.form (by omega)
   clear ho3 hg3 hb3 HSRC HO HB HK HKW
   go_wp2_with fail
   go_roundw
   case rel => exact ⟨j + 1, some ⟨g3, 0, none⟩, c3, hjc, by go_num, rfl, HO3, HB3, HK3, HKW3⟩
   case measure => simp [intOf]; omega
  ·obtain rfl : c = j := by omega
   have hjc' : ¬ (c : Int) < (c : Int) := by omega
   have hLt : L.take c = L := by rw [← HL.out]; exact List.take_length
   have hm : keysC L c = (L.map Sl.key).map Value.string := by unfold keysC; rw [hLt, List.map_map]; rfl
   have hll : (L.map Sl.key).length = c := by rw [List.length_map]; exact HL.out
   have hSORT := sort_any wr w.heap.size A1 cc (L.map Sl.key) HND.out (by rw [hll, ← hm]; exact HO.out) (by omega)
   rw [hll] at hSORT
   have HSORT := Lib.hid hSORT
   have hcap := own_cap HO.out
   have HCAP := Lib.hid hcap
   clear hLt hm hll hSORT hcap
   go_wp2_with fail
   refine (show Calls _ _ _ _ _ from HSORT.out).mono ?_
   rintro e w4 ⟨rfl, ks, hks, hrise, ho4, hk4⟩
   have HFIN := Lib.hid (show Kp w w4 from by
    refine ⟨hk4.os.trans HK.out.os, hk4.tape.trans HK.out.tape, hk4.output.trans HK.out.output, Nat.le_trans HK.out.size hk4.size, fun b _ hlt => ?_⟩
    refine (hk4.block b (fun o ho => ?_) (Nat.lt_of_lt_of_le hlt HK.out.size)).trans (HK.out.block b trivial hlt)
    rcases Nat.eq_zero_or_pos c with h0 | h0
    ·subst h0
     rcases HO.out.2 with ⟨h1, -⟩ | ⟨g, cap, cur, hv, hb, -⟩
     ·injection h1 with h1
      rw [h1] at ho; cases ho
     ·injection hv with hv
      rw [hv] at ho
      injection ho with ho
      injection ho with ho
      omega
    ·obtain ⟨g, cap, hv, hb, -⟩ := HO.out.form h0
     injection hv with hv
     rw [hv] at ho
     injection ho with ho
     injection ho with ho
     omega)
   have hkl : ks.length = c := by rw [hks.length_eq, List.length_map]; exact HL.out
   have HROW := Lib.hid (show Row w4 A1 (fun b => w.heap.size ≤ b ∧ b < w4.heap.size) (ks.map Value.string) from by
    have h := ho4
    have e : (ks.map Value.string).length = c := by rw [List.length_map]; exact hkl
    rw [← e] at h
    exact Row.of_own h)
   have HKS := Lib.hid (hks.trans HP.out)
   have HRI := Lib.hid hrise
   clear hks hrise ho4 hk4 hkl HSORT
   go_wp2_with fail
   go_ret
   exact ⟨A1, cc, ks, rfl, HKS.out, HRI.out, HCAP.out.1, HCAP.out.2.1, HROW.out, HFIN.out⟩
def theIndex : IndexOK where
 T := fun _ => True
 tk := fun _ _ => trivial
 rep := IxRep
 lt := fun h => h.lt
 keep := fun h hk => h.keep hk
 new := fun w _ => ixnew_any w
 put := fun _ w q F st hR _ _ _ hl k p hk hp => ixput_any w q F st hR hl k p hk hp
 get := fun w q F st hR _ hl k hk => ixget_any w q F st hR hl k hk
 drop := fun _ w q F st hR _ _ _ hl k hk => ixdrop_any w q F st hR hl k hk
 below := fun _ w q F st hR _ _ _ hl p hp => ixbelow_any w q F st hR hl p hp
 keys := fun w q F st hR _ hl => ixkeys_any w q F st hR hl
end Go.Proofs.YticophaepapjoaaGreatDoor
