/-
  StSave, StStart, StOpens: texts of mine, joined.
-/
import Derived.Test.YticophaepapjoaaGreatDoorAllB23
import Derived.Test.YticophaepapjoaaGreatDoorAllB27
open Go.Lib renaming hid → Hd
set_option maxRecDepth 100000
set_option maxHeartbeats 8000000
namespace Go.Proofs.YticophaepapjoaaGreatDoor
open Go Go.RowKit Go.Joins
section
variable {S : FlashOK} {J : JournalOK} {W w w' : World} {p b q1 q2 q3 k wh n d : Nat} {F F' Fc Fc' Fj Fj' Fs Fs' E : Foot} {s s' : SDev} {z : Sto} {X Y : Nat → Prop}
theorem kgo {st' : SSt} {m' : M4} (hK : Kep W w' p q3 k F' Fs' s' st' m') (hk : Keeps (fun b => ¬ F.M b ∧ ¬ Fs.M b ∧ b ≠ k) w w') (f1 : ∀ b, F'.M b → F.M b ∨ w.heap.size ≤ b) (f2 : ∀ b, F'.I b → F.all b ∨ w.heap.size ≤ b) (f3 : ∀ b, Fs'.M b → Fs.M b ∨ w.heap.size ≤ b) (f4 : ∀ b, Fs'.I b → Fs.all b ∨ w.heap.size ≤ b) : StGo w w' F F' (kfoot k Fs) (kfoot k Fs') := by
 refine ⟨⟨fun b hb hf => ?_, fun b hb hf => ?_⟩, hk.mono fun b _ hb => ⟨hb.1, fun hm => hb.2 (.inl hm), fun e => hb.2 (.inr e)⟩, f1, f2, fun b hb => ?_, fun b hb => ?_⟩
 ·rcases kfoot_all.1 hf with hf | rfl
  ·exact hK.du.ap.l b hb hf
  ·exact hK.nf (.inl hb)
 ·rcases hb with hb | rfl
  ·exact hK.du.ap.r b hb hf
  ·exact hK.nf hf
 ·rcases hb with hb | rfl
  ·exact (f3 b hb).imp .inl id
  ·exact .inl (.inr rfl)
 ·exact (f4 b hb).imp (fun h => kfoot_all.2 (.inl h)) id
theorem set_getD_ne (rows : List (List UInt8)) (i j : Nat) (e : List UInt8) (h : i ≠ j) : (rows.set i e).getD j [] = rows.getD j [] := by
 rw [List.getD_eq_getElem?_getD, List.getElem?_set_ne h, ← List.getD_eq_getElem?_getD]
theorem StIn.moveK (hT : theSup.T W) (h : StIn S J W w p q1 q2 q3 k wh F Fc Fj Fs s z n E) (x : M4) (hx : (mayB x && overB z.m x) = true) (hc : z.c ≤ 400000000000) (ht : z.t ≤ 400000000000) :
  Calls Tryz.prog 19 #[.pointer (some ⟨k, 0, none⟩), magg x] w fun e w' => e = .returned (.int .i64 0) ∧ ∃ (F' Fs' : Foot) (c : Nat),
   StIn S J W w' p q1 q2 q3 k (1 - wh) F' Fc Fj Fs' (SDev.still (s.now.set (1 - wh) (theSup.enc (z.t + 1) (encM x))) c) ⟨z.f, z.j, z.t + 1, x, z.boot, z.c + 100⟩ n E ∧ Keeps E.all w w' := by
 have hcc := h.c
 refine (ksave_yes W w hT p q3 k F Fs s _ z.m x h.kp (by omega) (show z.t ≤ _ by omega) hx).mono ?_
 rintro e w' ⟨rfl, F', Fs', c, hK, hcn, hkk, f1, f2, f3, f4⟩
 simp only [Nat.zero_add] at hK
 have hg := kgo hK hkk f1 f2 f3 f4
 have hw1 := h.wh1
 have hwf := theSup.wf h.kp.du.su
 have hsec := h.kp.du.sec
 obtain ⟨a1, a5, k1⟩ := hg.rest h.a1 h.a5.symm (S.lt h.fc)
 obtain ⟨a2, a6, k2⟩ := hg.rest h.a2 h.a6.symm (J.lt h.jr)
 obtain ⟨e1, e4, ke⟩ := hg.rest h.e1 h.e4 h.elt
 have hlen : (s.now.set (1 - wh) (theSup.enc (z.t + 1) (encM x))).length = s.now.length := List.length_set ..
 refine ⟨rfl, F', Fs', c, ⟨S.other (S.keep h.fc k1) hlen fun i hi => ?_, J.other (J.keep h.jr k2) hlen fun i hi => ?_, hK, a1, a2, hg.ap, h.a4, a5.symm, a6.symm, e1, h.e2, h.e3, e4, fun b hb => Nat.lt_of_lt_of_le (h.elt b hb) hkk.size, h.g1, h.g2, hlen.trans h.ln, h.n1, h.fp, h.fs, h.jp, h.js, ?_, ?_⟩, ke⟩
 ·have := hi.1; rw [h.fp] at this
  exact set_getD_ne _ _ _ _ (by omega)
 ·have := hi.1; rw [h.jp] at this
  exact set_getD_ne _ _ _ _ (by omega)
 ·have := oth_save (S := theSup) (rows := s.now) (st := ⟨p, 0, wh, z.t, encM z.m⟩) p (theSup.enc (z.t + 1) (encM x)) (encM x) hwf.1 hwf.2.1 hwf.2.2 (show z.t ≤ _ by omega) hsec
  simp only [Nat.zero_add] at this
  exact this
 ·show c ≤ z.c + 100; omega
theorem StIn.more (h : StIn S J W w p q1 q2 q3 k wh F Fc Fj Fs s z n ⟨X, fun _ => False⟩) (hk : Kp w w') (hY : ∀ c, Y c → X c ∨ (w.heap.size ≤ c ∧ c < w'.heap.size)) : StIn S J W w' p q1 q2 q3 k wh F Fc Fj Fs s z n ⟨Y, fun _ => False⟩ := by
 have h' := h.keep hk
 have hE : ∀ {R : Foot}, Apart R ⟨X, fun _ => False⟩ → (∀ c, R.all c → c < w.heap.size) → Apart R ⟨Y, fun _ => False⟩ := fun ha hlt => by
  refine ⟨fun c hc he => ?_, fun c hc hr => ?_⟩
  ·have := hlt c (.inl hc)
   rcases he with hy | hy
   ·rcases hY c hy with hx | hx
    ·exact ha.l c hc (.inl hx)
    ·omega
   ·exact hy
  ·have := hlt c hr
   rcases hY c hc with hx | hx
   ·exact ha.r c hx hr
   ·omega
 refine { h' with e1 := hE h.e1 h.dv.d.lt, e2 := hE h.e2 (S.lt h.fc), e3 := hE h.e3 (J.lt h.jr), e4 := hE h.e4 h.klt, elt := fun c hc => ?_ }
 rcases hc with hy | hy
 ·rcases hY c hy with hx | hx
  ·exact Nat.lt_of_lt_of_le (h.elt c (.inl hx)) hk.size
  ·exact hx.2
 ·exact hy.elim
theorem StIn.block (h : StIn S J W w p q1 q2 q3 k wh F Fc Fj Fs s z n ⟨X, fun _ => False⟩) (t : Int) (w' : World) (hw : w' = w.alloc (.cells #[.pointer (some ⟨q1, 0, none⟩), .pointer (some ⟨q2, 0, none⟩), .pointer (some ⟨k, 0, none⟩), .int .i64 t] 38)) :
  StIn S J W w' p q1 q2 q3 k wh F Fc Fj Fs s z n (efoot w.heap.size X) ∧ StBlk w' w.heap.size q1 q2 k t ∧ W.heap.size ≤ w.heap.size ∧ ¬ X w.heap.size := by
 subst hw
 have hk : Kp w (w.alloc (.cells #[.pointer (some ⟨q1, 0, none⟩), .pointer (some ⟨q2, 0, none⟩), .pointer (some ⟨k, 0, none⟩), .int .i64 t] 38)) := (Keeps.refl _ w).alloc _
 have h' := h.keep hk
 have hE : ∀ {R : Foot}, Apart R ⟨X, fun _ => False⟩ → (∀ c, R.all c → c < w.heap.size) → Apart R (efoot w.heap.size X) := fun ha hlt => by
  refine ⟨fun c hc he => ?_, fun c hc hr => ?_⟩
  ·have := hlt c (.inl hc)
   rcases efoot_all.1 he with rfl | hx
   ·omega
   ·exact ha.l c hc (.inl hx)
  ·have := hlt c hr
   rcases hc with rfl | hx
   ·omega
   ·exact ha.r c hx hr
 refine ⟨{ h' with e1 := hE h.e1 h.dv.d.lt, e2 := hE h.e2 (S.lt h.fc), e3 := hE h.e3 (J.lt h.jr), e4 := hE h.e4 h.klt, elt := fun c hc => ?_ }, heap_alloc_new w _, h.dv.kp.size, fun hx => ?_⟩
 ·have hs : (w.alloc (.cells #[.pointer (some ⟨q1, 0, none⟩), .pointer (some ⟨q2, 0, none⟩), .pointer (some ⟨k, 0, none⟩), .int .i64 t] 38)).heap.size = w.heap.size + 1 := by simp
  rcases efoot_all.1 hc with rfl | hx
  ·omega
  ·have := h.elt c (.inl hx); omega
 ·have := h.elt _ (.inl hx); omega
end
theorem csegs_any (w : World) (p : Nat) (F : Foot) (s : SDev) (h : DAt w p F s) (n : Nat) (hn : s.now.length = n) (h1 : 192 ≤ n) (h2 : n ≤ 2048) :
  Calls Tryz.prog 36 #[.pointer (some ⟨p, 0, none⟩)] w fun e w' => e = .returned (.int .i64 (segsOf n : Int)) ∧ w = w' := by
 have HL := Hd (dlen_any w p F s h)
 rw [hn] at HL
 clear h hn
 have hr : (segsOf n : Int) = min (((n - 162) / 8 : Nat) : Int) 200 := by unfold segsOf; omega
 rw [hr]
 go_enter Tryz.func36, Tryz.ntmps36
 go_wp2_with fail
 refine (show Calls _ _ _ _ _ from HL.out).mono ?_
 rintro e w' ⟨rfl, rfl⟩
 go_wp2_with fail
 go_ret
 exact ⟨congrArg (fun z => Ending.returned (Value.int .i64 z)) (show min (((n : Int) - 162) / 8) 200 = min (((n - 162) / 8 : Nat) : Int) 200 by omega), rfl⟩
def JOpens (J : JournalOK) (p : Nat) (s : SDev) (P : JSt → Prop) (w : World) : Prop := ∀ w1, Kp w w1 → Calls Tryz.prog 66 #[.pointer (some ⟨p, 0, none⟩), .int .i64 2, .int .i64 20] w1 fun e w' => ∃ (q : Nat) (Fj : Foot) (j : JSt), e = .returned (.tuple #[.pointer (some ⟨q, 0, none⟩), .int .i64 0]) ∧ J.rep w' p q Fj j s ∧ j.place = 2 ∧ j.segs = 20 ∧ P j ∧ (∀ b, Fj.all b → w1.heap.size ≤ b) ∧ Kp w1 w'
def COpens (S : FlashOK) (p : Nat) (s : SDev) (n : Nat) (P : FSt → Prop) (w : World) : Prop := ∀ w1, Kp w w1 → Calls Tryz.prog 67 #[.pointer (some ⟨p, 0, none⟩), .int .i64 162, .int .i64 (segsOf n : Int)] w1 fun e w' => ∃ (q : Nat) (Fc : Foot) (f : FSt), e = .returned (.tuple #[.pointer (some ⟨q, 0, none⟩), .int .i64 0]) ∧ S.rep w' p q Fc f s ∧ f.place = 162 ∧ f.segs = segsOf n ∧ P f ∧ (∀ b, Fc.all b → w1.heap.size ≤ b) ∧ Kp w1 w'
def nextM (m : M4) : M4 := ⟨m.boot + 1, m.epoch, m.ready, m.frozen⟩
theorem next_ok {m : M4} (h : mayB m = true) (hb : m.boot < 1099511627776) : (mayB (nextM m) && overB m (nextM m)) = true := by
 unfold mayB small12 at h
 simp only [Bool.and_eq_true, decide_eq_true_eq] at h
 obtain ⟨⟨h1, h2, h3, h4, h5, h6⟩, h7⟩ := h
 unfold mayB small12 overB nextM
 simp only [Bool.and_eq_true, decide_eq_true_eq]
 exact ⟨⟨⟨by omega, by omega, h3, h4, h5, h6⟩, h7⟩, by omega, by omega⟩
section
variable {S : FlashOK} {J : JournalOK} {W w w1 w2 w3 w' : World} {p b q1 q2 q3 k wh n d : Nat} {F Fc Fj Fs : Foot} {s : SDev} {z : Sto} {X : Nat → Prop} {f : FSt} {j : JSt} {m : M4} {t : Nat}
theorem StIn.made (h : Kep W w p q3 k F Fs s ⟨p, 0, wh, t, encM m⟩ m) (ho : Oth theSup s.now ⟨p, 0, wh, t, encM m⟩) (hn : s.now.length = n) (h1 : 192 ≤ n) (hX : ∀ c, X c → ¬ F.all c ∧ ¬ (kfoot k Fs).all c ∧ c < w.heap.size)
  (hw2 : Kp w w2) (hj : J.rep w2 p q2 Fj j s) (j1 : j.place = 2) (j2 : j.segs = 20) (gj : ∀ b, Fj.all b → w.heap.size ≤ b) (hw3 : Kp w2 w3) (hc : S.rep w3 p q1 Fc f s) (f1 : f.place = 162) (f2 : f.segs = segsOf n) (gc : ∀ b, Fc.all b → w2.heap.size ≤ b) (boot : Int) (c : Nat) (hcc : s.calls ≤ c) :
  StIn S J W w3 p q1 q2 q3 k wh F Fc Fj Fs s ⟨f, j, t, m, boot, c⟩ n ⟨X, fun _ => False⟩ := by
 have s1 := hw2.size
 have s2 := hw3.size
 have s0 := h.du.dv.kp.size
 have hFl : ∀ b, F.all b → b < w.heap.size := h.du.dv.d.lt
 have hkl : ∀ b, (kfoot k Fs).all b → b < w.heap.size := fun c hc => by
  rcases kfoot_all.1 hc with hc | rfl
  ·exact theSup.lt h.du.su c hc
  ·exact h.kb.lt
 have hjl : ∀ b, Fj.all b → b < w2.heap.size := J.lt hj
 have hXl : ∀ b, (⟨X, fun _ => False⟩ : Foot).all b → X b := fun b hb => hb.elim id fun h => h.elim
 refine ⟨hc, J.keep hj (hw3.mono fun _ _ _ => trivial), (h.keep hw2).keep hw3, ?_, ?_, ?_, ?_, ?_, ?_, ?_, ?_, ?_, ?_, fun b hb => ?_, fun b hb => ?_, fun b hb => ?_, hn, h1, f1, f2, j1, j2, ho, hcc⟩
 ·exact ⟨fun b hb hf => by have := hFl b (.inl hb); have := gc b hf; omega, fun b hb hf => by have := hFl b hf; have := gc b (.inl hb); omega⟩
 ·exact ⟨fun b hb hf => by have := hFl b (.inl hb); have := gj b hf; omega, fun b hb hf => by have := hFl b hf; have := gj b (.inl hb); omega⟩
 ·refine ⟨fun b hb hf => ?_, fun b hb hf => ?_⟩
  ·rcases kfoot_all.1 hf with hf | rfl
   ·exact h.du.ap.l b hb hf
   ·exact h.nf (.inl hb)
  ·rcases hb with hb | rfl
   ·exact h.du.ap.r b hb hf
   ·exact h.nf hf
 ·exact ⟨fun b hb hf => by have := hjl b hf; have := gc b (.inl hb); omega, fun b hb hf => by have := hjl b (.inl hb); have := gc b hf; omega⟩
 ·exact ⟨fun b hb hf => by have := hkl b hf; have := gc b (.inl hb); omega, fun b hb hf => by have := hkl b (.inl hb); have := gc b hf; omega⟩
 ·exact ⟨fun b hb hf => by have := hkl b hf; have := gj b (.inl hb); omega, fun b hb hf => by have := hkl b (.inl hb); have := gj b hf; omega⟩
 ·exact ⟨fun b hb hf => (hX b (hXl b hf)).1 (.inl hb), fun b hb hf => (hX b hb).1 hf⟩
 ·exact ⟨fun b hb hf => by have := (hX b (hXl b hf)).2.2; have := gc b (.inl hb); omega, fun b hb hf => by have := (hX b hb).2.2; have := gc b hf; omega⟩
 ·exact ⟨fun b hb hf => by have := (hX b (hXl b hf)).2.2; have := gj b (.inl hb); omega, fun b hb hf => by have := (hX b hb).2.2; have := gj b hf; omega⟩
 ·exact ⟨fun b hb hf => (hX b (hXl b hf)).2.1 (.inl hb), fun b hb hf => (hX b hb).2.1 hf⟩
 ·have := (hX b (hXl b hb)).2.2; omega
 ·have := gc b hb; omega
 ·have := gj b hb; omega
def Started (S : FlashOK) (J : JournalOK) (W : World) (p wh t n : Nat) (s : SDev) (m : M4) (X : Nat → Prop) (PC : FSt → Prop) (PJ : JSt → Prop) (w : World) (e : Ending) (w' : World) : Prop :=
 ∃ (b q1 q2 q3 k : Nat) (F Fc Fj Fs : Foot) (c : Nat) (f : FSt) (j : JSt), e = .returned (.tuple #[.pointer (some ⟨b, 0, none⟩), .int .i64 0]) ∧ PC f ∧ PJ j ∧
  StIn S J W w' p q1 q2 q3 k (1 - wh) F Fc Fj Fs (SDev.still (s.now.set (1 - wh) (theSup.enc (t + 1) (encM (nextM m)))) c) ⟨f, j, t + 1, nextM m, m.boot + 1, s.calls + 100⟩ n (efoot b X) ∧ StBlk w' b q1 q2 k (m.boot + 1) ∧ W.heap.size ≤ b ∧ ¬ X b ∧ Keeps X w w'
theorem sstart (hT : theSup.T W) (h : Kep W w p q3 k F Fs s ⟨p, 0, wh, t, encM m⟩ m) (ho : Oth theSup s.now ⟨p, 0, wh, t, encM m⟩) (hn : s.now.length = n) (h1 : 192 ≤ n) (hX : ∀ c, X c → ¬ F.all c ∧ ¬ (kfoot k Fs).all c ∧ c < w.heap.size)
  (PC : FSt → Prop) (PJ : JSt → Prop) (hJ : JOpens J p s PJ w) (hC : COpens S p s n PC w) (hb : m.boot < 1099511627776) (ht : t ≤ 300000000000) (hc : s.calls ≤ 300000000000) :
  Calls Tryz.prog 39 #[.pointer (some ⟨p, 0, none⟩), .pointer (some ⟨k, 0, none⟩)] w (Started S J W p wh t n s m X PC PJ w) := by
 have hsm : n ≤ 2048 := by rw [← hn]; exact h.du.dv.d.ok.small
 have HJ := Hd hJ
 have HC := Hd hC
 have HCS := Hd (show ∀ w1, Kp w w1 → Calls Tryz.prog 36 #[.pointer (some ⟨p, 0, none⟩)] w1 fun e w' => e = .returned (.int .i64 (segsOf n : Int)) ∧ w1 = w' from fun w1 hk => csegs_any w1 p F s (h.keep hk).du.dv.d n hn h1 hsm)
 have HM := Hd (show ∀ w1, Kp w w1 → Calls Tryz.prog 12 #[.pointer (some ⟨k, 0, none⟩)] w1 fun e w' => e = .returned (magg m) ∧ Kp w1 w' from fun w1 hk => kmeta_any w1 k q3 m (h.keep hk).kb)
 have HIN := Hd (show ∀ (w2 w3 : World) (q1 q2 : Nat) (Fj Fc : Foot) (j : JSt) (f : FSt), Kp w w2 → J.rep w2 p q2 Fj j s → j.place = 2 → j.segs = 20 → (∀ b, Fj.all b → w.heap.size ≤ b) → Kp w2 w3 → S.rep w3 p q1 Fc f s → f.place = 162 → f.segs = segsOf n → (∀ b, Fc.all b → w2.heap.size ≤ b) → StIn S J W w3 p q1 q2 q3 k wh F Fc Fj Fs s ⟨f, j, t, m, m.boot + 1, s.calls⟩ n ⟨X, fun _ => False⟩ from
  fun w2 w3 q1 q2 Fj Fc j f a b c d e f' g i l o => StIn.made h ho hn h1 hX a b c d e f' g i l o (m.boot + 1) s.calls (Nat.le_refl _))
 have HSV := Hd (show ∀ (w3 : World) (q1 q2 : Nat) (Fj Fc : Foot) (j : JSt) (f : FSt) (E : Foot), StIn S J W w3 p q1 q2 q3 k wh F Fc Fj Fs s ⟨f, j, t, m, m.boot + 1, s.calls⟩ n E → Calls Tryz.prog 19 #[.pointer (some ⟨k, 0, none⟩), magg (nextM m)] w3 fun e w' => e = .returned (.int .i64 0) ∧ ∃ (F' Fs' : Foot) (c : Nat),
   StIn S J W w' p q1 q2 q3 k (1 - wh) F' Fc Fj Fs' (SDev.still (s.now.set (1 - wh) (theSup.enc (t + 1) (encM (nextM m)))) c) ⟨f, j, t + 1, nextM m, m.boot + 1, s.calls + 100⟩ n E ∧ Keeps E.all w3 w' from
  fun w3 q1 q2 Fj Fc j f E hI => hI.moveK hT (nextM m) (next_ok h.may hb) (by show s.calls ≤ _; omega) (by show t ≤ _; omega))
 have HB := Hd hb
 have HB0 := Hd (show -9223372036854775808 ≤ m.boot by have := (may_fits h.may).b1; omega)
 clear h ho hn hX hJ hC ht hc hT
 have HNM := Hd (show nextM m = ⟨m.boot + 1, m.epoch, m.ready, m.frozen⟩ from rfl)
 obtain ⟨bo, ep, re, fr⟩ := m
 have hm : magg ⟨bo, ep, re, fr⟩ = .agg #[.int .i64 bo, .int .i64 ep, .int .i64 re, .bool fr] := rfl
 have hm2 : magg (nextM ⟨bo, ep, re, fr⟩) = .agg #[.int .i64 (bo + 1), .int .i64 ep, .int .i64 re, .bool fr] := rfl
 rw [hm] at HM
 rw [hm2] at HSV
 have hb1 : bo < 1099511627776 := HB.out
 have hb2 : -9223372036854775808 ≤ bo := HB0.out
 clear hm hm2 HB HB0
 go_enter Tryz.func39, Tryz.ntmps39
 go_wp2_with fail
 refine (show Calls _ _ _ _ _ from HJ.out w (Keeps.refl _ _)).mono ?_
 rintro e w2 ⟨q2, Fj, j, rfl, hj, j1, j2, pj, gj, k2⟩
 have K2 := Hd k2
 have HJR := Hd (And.intro hj (And.intro j1 (And.intro j2 (And.intro pj gj))))
 clear hj j1 j2 pj gj k2 HJ
 go_wp2_with fail
 refine (show Calls _ _ _ _ _ from HCS.out w2 K2.out).mono ?_
 rintro e w3 ⟨rfl, rfl⟩
 clear HCS
 go_wp2_with fail
 refine (show Calls _ _ _ _ _ from HC.out w2 K2.out).mono ?_
 rintro e w3 ⟨q1, Fc, f, rfl, hc, f1, f2, pf, gc, k3⟩
 have K3 := Hd (K2.out.trans k3)
 have HI := Hd (HIN.out w2 w3 q1 q2 Fj Fc j f K2.out HJR.out.1 HJR.out.2.1 HJR.out.2.2.1 HJR.out.2.2.2.2 k3 hc f1 f2 gc)
 have HP := Hd (And.intro pf HJR.out.2.2.2.1)
 clear hc f1 f2 pf gc k3 HC HJR HIN K2
 go_wp2_with fail
 refine (show Calls _ _ _ _ _ from HM.out w3 K3.out).mono ?_
 rintro e w4 ⟨rfl, k4⟩
 have K4 := Hd (K3.out.trans k4)
 replace HI := Hd (HI.out.keep k4)
 clear k4 HM K3
 go_wp2_with fail
 have hka : Kp w4 (w4.alloc (.cells #[.int .i64 (bo + 1), .int .i64 ep, .int .i64 re, .bool fr] 32)) := (Keeps.refl _ w4).alloc _
 have hba := heap_alloc_new w4 (.cells #[.int .i64 (bo + 1), .int .i64 ep, .int .i64 re, .bool fr] 32)
 have hsa : (w4.alloc (.cells #[.int .i64 (bo + 1), .int .i64 ep, .int .i64 re, .bool fr] 32)).heap.size = w4.heap.size + 1 := by simp
 have HI5 := Hd (HI.out.more (Y := fun c => X c ∨ c = w4.heap.size) hka fun c hc => hc.imp id fun e => by omega)
 have HS5 := Hd (HSV.out _ q1 q2 Fj Fc j f _ HI5.out)
 have HX4 := Hd (show ∀ c, X c → c < w4.heap.size from fun c hc => HI.out.elt c (.inl hc))
 have K5 := Hd (K4.out.trans hka)
 have C5 := Hd ((cell_of_block hba 0).trans (show _ = some (Value.int .i64 (bo + 1)) from rfl))
 clear hka hba hsa HI HSV HI5 K4
 generalize w4.alloc (.cells #[.int .i64 (bo + 1), .int .i64 ep, .int .i64 re, .bool fr] 32) = w5 at *
 generalize w4.heap.size = g at *
 refine (show Calls _ _ _ _ _ from HS5.out).mono ?_
 rintro e w6 ⟨rfl, F', Fs', c, hI6, hk6⟩
 have c6 := hk6.cell C5.out (.inl (.inr rfl))
 have HI6 := Hd (hI6.more (Y := X) (Keeps.refl _ _) fun c hc => .inl (.inl hc))
 have K6 := Hd (Keeps.trans (K5.out.mono fun _ _ _ => trivial) (hk6.mono fun c _ (hc : X c) => .inl (.inl hc)))
 clear hI6 hk6 HS5 C5 K5 HX4
 go_wp2_with fail
 go_ret2
 obtain ⟨a1, a2, a3, a4⟩ := HI6.out.block (bo + 1) _ rfl
 exact ⟨_, _, _, _, _, _, _, _, _, _, _, _, rfl, HP.out.1, HP.out.2, a1, a2, a3, a4, K6.out.trans ((Keeps.refl _ w6).alloc _)⟩
end
section
variable {S : FlashOK} {J : JournalOK} {W w w' : World} {p b q1 q2 q3 k wh n d : Nat} {F F' : Foot} {s : SDev} {z : Sto} {X : Nat → Prop}
theorem jopens_new (hT : J.T W) (hd : Dv W w p F s) (hl : 192 ≤ s.now.length) (hb : ∀ i, 2 ≤ i → i < 162 → s.now.getD i [] = blank) : JOpens J p s (fun j => j = ⟨2, 20, [], 0, 32, 1⟩) w := fun w1 hk => by
 have hd1 := hd.keep hk
 refine (J.openNew w1 p F s hd1.d (J.tk hT hd1.kp) 2 20 (by decide) (by decide) (by omega) fun j h1 h2 => hb j h1 (by omega)).mono ?_
 rintro e w2 ⟨q, Fj, rfl, hr, hn, hk2⟩
 exact ⟨q, Fj, _, rfl, hr, rfl, rfl, rfl, hn, hk2⟩
theorem jopens_old (hT : J.T W) (hd : Dv W w p F s) (hl : 192 ≤ s.now.length) (st : JSt) (h1 : st.place = 2) (h2 : st.segs = 20) (ha : st.age ≤ 20000) (hb : J.disk st s.now) : JOpens J p s (fun j => j.keys = st.keys) w := fun w1 hk => by
 have hd1 := hd.keep hk
 have h := J.openOld w1 p F s st hd1.d (J.tk hT hd1.kp) hb (by rw [h1, h2]; omega) ha
 rw [h1, h2] at h
 refine h.mono ?_
 rintro e w2 ⟨q, Fj, b, rfl, hr, hn, hk2⟩
 exact ⟨q, Fj, _, rfl, hr, rfl, rfl, rfl, hn, hk2⟩
theorem copens_new (hT : S.T W) (hd : Dv W w p F s) (hn : s.now.length = n) (hl : 192 ≤ n) (hb : ∀ i, 162 ≤ i → i < 162 + 8 * segsOf n → s.now.getD i [] = blank) : COpens S p s n (fun f => f = ⟨162, segsOf n, [], 0, 1⟩) w := fun w1 hk => by
 have hd1 := hd.keep hk
 have hroom := segs_room hl
 have h3 : 3 ≤ segsOf n ∧ segsOf n ≤ 200 := by unfold segsOf; omega
 refine (S.openNew w1 p F s hd1.d (S.tk hT hd1.kp) 162 (segsOf n) h3.1 h3.2 (by rw [hn]; exact hroom) hb).mono ?_
 rintro e w2 ⟨q, Fc, rfl, hr, hn, hk2⟩
 exact ⟨q, Fc, _, rfl, hr, rfl, rfl, rfl, hn, hk2⟩
theorem copens_old (hT : S.T W) (hd : Dv W w p F s) (hn : s.now.length = n) (hl : 192 ≤ n) (st : FSt) (h1 : st.place = 162) (h2 : st.segs = segsOf n) (ha : st.age ≤ 20000) (hb : S.disk st s.now) : COpens S p s n (fun _ => True) w := fun w1 hk => by
 have hd1 := hd.keep hk
 have hroom := segs_room hl
 have h := S.openOld w1 p F s st hd1.d (S.tk hT hd1.kp) hb (by rw [h1, h2, hn]; exact hroom) ha
 rw [h1, h2] at h
 refine h.mono ?_
 rintro e w2 ⟨q, Fc, rfl, hr, hn, hk2⟩
 exact ⟨q, Fc, _, rfl, hr, rfl, rfl, trivial, hn, hk2⟩
theorem started_new {t : Nat} {m : M4} {e : Ending} {w0 : World} (hwh : wh ≤ 1) (hb : ∀ i, 2 ≤ i → i < 162 + 8 * segsOf n → s.now.getD i [] = blank)
  (h : Started S J W p wh t n s m X (fun f => f = ⟨162, segsOf n, [], 0, 1⟩) (fun j => j = ⟨2, 20, [], 0, 32, 1⟩) w0 e w') :
  ∃ b q1 q2 k, e = .returned (.tuple #[.pointer (some ⟨b, 0, none⟩), .int .i64 0]) ∧ StAt S J W w' p b q1 q2 k ⟨⟨162, segsOf n, [], 0, 1⟩, ⟨2, 20, [], 0, 32, 1⟩, t + 1, nextM m, m.boot + 1, s.calls + 100⟩ n 1 X ∧ Keeps X w0 w' := by
 obtain ⟨b, q1, q2, q3, k, F, Fc, Fj, Fs, c, f, j, rfl, rfl, rfl, h1, h2, h3, h4, hk⟩ := h
 refine ⟨b, q1, q2, k, rfl, ⟨q3, 1 - wh, F, Fc, Fj, Fs, _, h1, h2, h3, h4, fun _ => ⟨_, c, rfl, .inl ⟨rfl, rfl, rfl, fun i h5 h6 => ?_⟩⟩⟩, hk⟩
 rw [set_getD_ne _ _ _ _ (by omega)]
 exact hb i h5 h6
theorem started_old {t : Nat} {m : M4} {e : Ending} {w0 : World} {l : List ByteArray}
  (h : Started S J W p wh t n s m X (fun _ => True) (fun j => j.keys = l) w0 e w') :
  ∃ b q1 q2 k z, e = .returned (.tuple #[.pointer (some ⟨b, 0, none⟩), .int .i64 0]) ∧ StAt S J W w' p b q1 q2 k z n 0 X ∧ z.j.keys = l ∧ z.m = nextM m ∧ z.boot = m.boot + 1 ∧ Keeps X w0 w' := by
 obtain ⟨b, q1, q2, q3, k, F, Fc, Fj, Fs, c, f, j, rfl, -, hj, h1, h2, h3, h4, hk⟩ := h
 exact ⟨b, q1, q2, k, _, rfl, ⟨q3, 1 - wh, F, Fc, Fj, Fs, _, h1, h2, h3, h4, fun h => absurd h (Nat.lt_irrefl 0)⟩, hj, rfl, rfl, hk⟩
end
end Go.Proofs.YticophaepapjoaaGreatDoor
