/-
  FlRep, FlEntry, FlSmall, FlLearn, InvPast: texts of mine, joined.
-/
import Derived.Test.YticophaepapjoaaGreatDoorAllA19
import Derived.Test.YticophaepapjoaaGreatDoorAllA14
import Derived.Test.YticophaepapjoaaGreatDoorAllA12
import Derived.Lib.SmallJoins
import Derived.Test.YticophaepapjoaaGreatDoorAllA29
import Derived.StillTailTactics
import Derived.Test.YticophaepapjoaaGreatDoorAllA06
namespace Go.Proofs.YticophaepapjoaaGreatDoor
open Go Go.RowKit Go.Joins
def cfoot (q : Nat) (Fl Fi : Foot) : Foot := ⟨fun b => b = q ∨ Fl.M b ∨ Fi.M b, fun b => Fl.I b ∨ Fi.I b⟩
theorem cfoot_all {q : Nat} {Fl Fi : Foot} {b : Nat} : (cfoot q Fl Fi).all b ↔ b = q ∨ Fl.all b ∨ Fi.all b := by
 unfold cfoot Foot.all
 constructor
 ·rintro ((h | h | h) | (h | h))
  ·exact .inl h
  ·exact .inr (.inl (.inl h))
  ·exact .inr (.inr (.inl h))
  ·exact .inr (.inl (.inr h))
  ·exact .inr (.inr (.inr h))
 ·rintro (h | (h | h) | (h | h))
  ·exact .inl (.inl h)
  ·exact .inl (.inr (.inl h))
  ·exact .inr (.inl h)
  ·exact .inl (.inr (.inr h))
  ·exact .inr (.inr h)
def CBlk (w : World) (q lq iq : Nat) (lo : Int) : Prop := w.heap[q]? = some (.cells #[.pointer (some ⟨lq, 0, none⟩), .pointer (some ⟨iq, 0, none⟩), .int .i64 lo] 92 (0, 0))
section
variable {w w' : World} {q lq iq : Nat} {lo : Int} {G : Nat → Prop}
theorem CBlk.keep (h : CBlk w q lq iq lo) (hk : Keeps G w w') (hq : G q) : CBlk w' q lq iq lo := (hk.block q hq (Array.getElem?_eq_some_iff.1 h).1).trans h
theorem CBlk.lt (h : CBlk w q lq iq lo) : q < w.heap.size := (Array.getElem?_eq_some_iff.1 h).1
theorem CBlk.c0 (h : CBlk w q lq iq lo) : w.cell? ⟨q, 0, none⟩ = some (.pointer (some ⟨lq, 0, none⟩)) := (cell_of_block h 0).trans rfl
theorem CBlk.c1 (h : CBlk w q lq iq lo) : w.cell? ⟨q, 1, none⟩ = some (.pointer (some ⟨iq, 0, none⟩)) := (cell_of_block h 1).trans rfl
theorem CBlk.c2 (h : CBlk w q lq iq lo) : w.cell? ⟨q, 2, none⟩ = some (.int .i64 lo) := (cell_of_block h 2).trans rfl
theorem CBlk.f (h : CBlk w q lq iq lo) (i : Nat) : w.frozen? ⟨q, i, none⟩ = false := unfrozen_of_block h i
theorem CBlk.set1 (h : CBlk w q lq iq lo) (iq' : Nat) : CBlk (w.setCell ⟨q, 1, none⟩ (.pointer (some ⟨iq', 0, none⟩))) q lq iq' lo := (block_setCell h _).trans rfl
theorem CBlk.set2 (h : CBlk w q lq iq lo) (lo' : Int) : CBlk (w.setCell ⟨q, 2, none⟩ (.int .i64 lo')) q lq iq lo' := (block_setCell h _).trans rfl
end
structure CAt (S : Slog2) (I : IndexOK) (w : World) (p q lq iq : Nat) (Fl Fi : Foot) (lo : Int) (lst : LSt) (ix : IxSt) (s : SDev) : Prop where
 blk : CBlk w q lq iq lo
 l : S.rep w lq Fl lst s
 i : I.rep w iq Fi ix
 on : lst.dev = p
 ap : Apart Fl Fi
 ql : ¬ Fl.all q
 qi : ¬ Fi.all q
section
variable {S : Slog2} {I : IndexOK} {w w' : World} {p q lq iq : Nat} {Fl Fi : Foot} {lo : Int} {lst : LSt} {ix : IxSt} {s : SDev}
theorem CAt.keep (h : CAt S I w p q lq iq Fl Fi lo lst ix s) (hk : Keeps (cfoot q Fl Fi).all w w') : CAt S I w' p q lq iq Fl Fi lo lst ix s :=
 ⟨h.blk.keep hk (cfoot_all.2 (.inl rfl)), S.keep h.l (hk.mono fun _b _ hb => cfoot_all.2 (.inr (.inl hb))), I.keep h.i (hk.mono fun _b _ hb => cfoot_all.2 (.inr (.inr hb))), h.on, h.ap, h.ql, h.qi⟩
theorem CAt.kp (h : CAt S I w p q lq iq Fl Fi lo lst ix s) (hk : Kp w w') : CAt S I w' p q lq iq Fl Fi lo lst ix s := h.keep (hk.mono fun _ _ _ => trivial)
theorem CAt.lt (h : CAt S I w p q lq iq Fl Fi lo lst ix s) : ∀ b, (cfoot q Fl Fi).all b → b < w.heap.size := fun b hb => by
 rcases cfoot_all.1 hb with rfl | hb | hb
 ·exact h.blk.lt
 ·exact S.lt h.l b hb
 ·exact I.lt h.i b hb
end
def flashRep (S : Slog2) (I : IndexOK) (w : World) (p q : Nat) (Fs : Foot) (st : FSt) (s : SDev) : Prop :=
 ∃ (lq iq : Nat) (Fl Fi : Foot) (lo : Int) (lst : LSt) (ix : IxSt) (hs : List FRec), Fs = cfoot q Fl Fi ∧ CAt S I w p q lq iq Fl Fi lo lst ix s ∧ FM st lst hs ∧ IxSays ix (hs.drop lst.gone) st.age
def flashDisk (S : Slog2) (st : FSt) (rows : List (List UInt8)) : Prop := ∃ (lst : LSt) (hs : List FRec), S.disk lst rows ∧ FM st lst hs
section
variable {S : Slog2} {I : IndexOK} {w w' : World} {p q : Nat} {Fs : Foot} {st : FSt} {s s' : SDev}
theorem frep_wf (h : flashRep S I w p q Fs st s) : st.Ok := by
 obtain ⟨lq, iq, Fl, Fi, lo, lst, ix, hs, rfl, hc, hm, -⟩ := h
 exact hm.ok (S.wf hc.l)
theorem frep_age (h : flashRep S I w p q Fs st s) : st.age ≤ 30000 := by
 obtain ⟨lq, iq, Fl, Fi, lo, lst, ix, hs, rfl, hc, hm, -⟩ := h
 exact hm.old
theorem frep_lt (h : flashRep S I w p q Fs st s) : ∀ b, Fs.all b → b < w.heap.size := by
 obtain ⟨lq, iq, Fl, Fi, lo, lst, ix, hs, rfl, hc, hm, -⟩ := h
 exact hc.lt
theorem frep_keep (h : flashRep S I w p q Fs st s) (hk : Keeps Fs.all w w') : flashRep S I w' p q Fs st s := by
 obtain ⟨lq, iq, Fl, Fi, lo, lst, ix, hs, rfl, hc, hm⟩ := h
 exact ⟨lq, iq, Fl, Fi, lo, lst, ix, hs, rfl, hc.keep hk, hm⟩
theorem FM.has {lst : LSt} {hs : List FRec} (hm : FM st lst hs) (i : Nat) : lst.has i ↔ st.has i := by
 unfold LSt.has FSt.has
 rw [hm.place, hm.segs]
theorem frep_other (h : flashRep S I w p q Fs st s) (hl : s'.now.length = s.now.length) (ho : ∀ i, st.has i → s'.now.getD i [] = s.now.getD i []) : flashRep S I w p q Fs st s' := by
 obtain ⟨lq, iq, Fl, Fi, lo, lst, ix, hs, rfl, hc, hm, hx⟩ := h
 exact ⟨lq, iq, Fl, Fi, lo, lst, ix, hs, rfl, { hc with l := S.other hc.l hl fun i hi => ho i ((hm.has i).1 hi) }, hm, hx⟩
theorem FGo.trans {w w1 w2 : World} {F F1 F2 Fs1 Fs2 : Foot} {s s1 s2 : SDev} {st1 : FSt} {n m : Nat} (h : FGo w w1 F F1 Fs Fs1 s s1 st n) (k : FGo w1 w2 F1 F2 Fs1 Fs2 s1 s2 st1 m) (hst : ∀ i, st1.has i ↔ st.has i) : FGo w w2 F F2 Fs Fs2 s s2 st (n + m) := by
 have hsz := h.k.size
 have all1 : ∀ b, F1.all b → F.all b ∨ w.heap.size ≤ b := fun b hb => by
  rcases hb with hb | hb
  ·rcases h.f1 b hb with h1 | h1
   ·exact .inl (.inl h1)
   ·exact .inr h1
  ·exact h.f2 b hb
 have all2 : ∀ b, Fs1.all b → Fs.all b ∨ w.heap.size ≤ b := fun b hb => by
  rcases hb with hb | hb
  ·rcases h.f3 b hb with h1 | h1
   ·exact .inl (.inl h1)
   ·exact .inr h1
  ·exact h.f4 b hb
 refine ⟨k.ap, ⟨k.k.os.trans h.k.os, k.k.tape.trans h.k.tape, k.k.output.trans h.k.output, Nat.le_trans hsz k.k.size, fun b hb hlt => ?_⟩, fun b hb => ?_, fun b hb => ?_, fun b hb => ?_, fun b hb => ?_, k.len.trans h.len, fun i hi => (k.out i fun hh => hi ((hst i).1 hh)).trans (h.out i hi), ?_⟩
 ·refine (k.k.block b ⟨fun hm => ?_, fun hm => ?_⟩ (Nat.lt_of_lt_of_le hlt hsz)).trans (h.k.block b hb hlt)
  ·rcases h.f1 b hm with h1 | h1
   ·exact hb.1 h1
   ·omega
  ·rcases h.f3 b hm with h1 | h1
   ·exact hb.2 h1
   ·omega
 ·rcases k.f1 b hb with h1 | h1
  ·exact h.f1 b h1
  ·exact .inr (Nat.le_trans hsz h1)
 ·rcases k.f2 b hb with h1 | h1
  ·exact all1 b h1
  ·exact .inr (Nat.le_trans hsz h1)
 ·rcases k.f3 b hb with h1 | h1
  ·exact h.f3 b h1
  ·exact .inr (Nat.le_trans hsz h1)
 ·rcases k.f4 b hb with h1 | h1
  ·exact all2 b h1
  ·exact .inr (Nat.le_trans hsz h1)
 ·have := h.calls; have := k.calls; omega
end
structure Cb (S : Slog2) (I : IndexOK) (W w : World) (p q : Nat) (F Fs : Foot) (s : SDev) (st : FSt) : Prop where
 d : DAt w p F s
 r : flashRep S I w p q Fs st s
 ap : Apart F Fs
 kp : Kp W w
 gf : ∀ b, F.all b → W.heap.size ≤ b
 gs : ∀ b, Fs.all b → W.heap.size ≤ b
 room : st.place + 8 * st.segs ≤ s.now.length
section
variable {S : Slog2} {I : IndexOK} {W w w' : World} {p q : Nat} {F F' Fs Fs' : Foot} {st st' : FSt} {s s' : SDev} {n : Nat}
theorem Cb.keep (h : Cb S I W w p q F Fs s st) (hk : Kp w w') : Cb S I W w' p q F Fs s st :=
 ⟨h.d.keep (hk.mono fun _ _ _ => trivial), frep_keep h.r (hk.mono fun _ _ _ => trivial), h.ap, h.kp.trans hk, h.gf, h.gs, h.room⟩
theorem Cb.moved (h : Cb S I W w p q F Fs s st) (hd : DAt w' p F' s') (hr : flashRep S I w' p q Fs' st' s') (hpl : st'.place = st.place) (hsg : st'.segs = st.segs) (hgo : FGo w w' F F' Fs Fs' s s' st n) : Cb S I W w' p q F' Fs' s' st' := by
 have hsz := h.kp.size
 refine ⟨hd, hr, hgo.ap, ?_, fun b hb => ?_, fun b hb => ?_, by rw [hpl, hsg, hgo.len]; exact h.room⟩
 ·exact ⟨hgo.k.os.trans h.kp.os, hgo.k.tape.trans h.kp.tape, hgo.k.output.trans h.kp.output, Nat.le_trans hsz hgo.k.size, fun b _ hb =>
   (hgo.k.block b ⟨fun hm => by have := h.gf b (.inl hm); omega, fun hm => by have := h.gs b (.inl hm); omega⟩ (by omega)).trans (h.kp.block b trivial hb)⟩
 ·rcases hb with hb | hb
  ·rcases hgo.f1 b hb with h1 | h1
   ·exact h.gf b (.inl h1)
   ·omega
  ·rcases hgo.f2 b hb with h1 | h1
   ·exact h.gf b h1
   ·omega
 ·rcases hb with hb | hb
  ·rcases hgo.f3 b hb with h1 | h1
   ·exact h.gs b (.inl h1)
   ·omega
  ·rcases hgo.f4 b hb with h1 | h1
   ·exact h.gs b h1
   ·omega
theorem FGo.still (h : Cb S I W w p q F Fs s st) (hk : Kp w w') : FGo w w' F F Fs Fs s s st 0 :=
 ⟨h.ap, hk.mono fun _ _ _ => trivial, fun _ hb => .inl hb, fun _ hb => .inl (.inr hb), fun _ hb => .inl hb, fun _ hb => .inl (.inr hb), rfl, fun _ _ => rfl, Nat.le_add_right _ _⟩
end
theorem dec_one (J : ItemOK) (w : World) (hT : J.T w) (A : Option Addr) (n c : Nat) (x : It) (hm : x.may = true) (hr : Row w A (fun _ => True) (bcells x.bytes)) (hn : n = x.bytes.length) (hc : n ≤ c) (hcm : c ≤ maxLen) :
  Calls Tryz.prog 120 #[.slice A n c] w fun e w' => Kp w w' ∧ ∃ (b o k : Nat), e = .returned (.tuple #[.slice (some ⟨b, o, none⟩) 1 k, .int .i64 0]) ∧ w'.cell? ⟨b, o, none⟩ = some (.string x.key) ∧ w'.cell? ⟨b, o + 1, none⟩ = some (.string x.val) ∧ w'.cell? ⟨b, o + 2, none⟩ = some (.int .i64 x.till) ∧ w'.cell? ⟨b, o + 3, none⟩ = some (.bool x.gone) := by
 subst hn
 have hl := It.bytes_len hm
 have e1 : bytesOf [x] = x.bytes := by simp [bytesOf]
 have ha : [x].all It.may = true := by simp [hm]
 refine (J.decode w A c x.bytes hT hr hc hcm (by omega)).mono ?_
 rintro e w' ⟨hk, ⟨B, k, l, rfl, hne, hall, hb, h1, h2, hi⟩ | ⟨hno, -⟩⟩
 ·obtain rfl : l = [x] := bytesOf_inj hall ha (by rw [hb, e1])
  obtain ⟨b, o, rfl, -, c0, c1, c2, c3⟩ := hi 0 (by simp)
  rw [show o + 0 * 4 = o by omega] at c0 c1 c2 c3
  exact ⟨hk, b, o, k, rfl, c0, c1, c2, c3⟩
 ·exact absurd e1 (hno [x] (by simp) ha)
set_option maxRecDepth 100000 in
set_option maxHeartbeats 1000000 in
theorem centry (J : ItemOK) (w : World) (hT : J.T w) (A : Option Addr) (n c : Nat) (x : It) (hm : x.may = true) (hr : Row w A (fun _ => True) (bcells x.bytes)) (hn : n = x.bytes.length) (hc : n ≤ c) (hcm : c ≤ maxLen) :
  Calls Tryz.prog 86 #[.slice A n c] w fun e w' => e = .returned (.tuple #[.agg #[.string x.key, .string x.val, .int .i64 x.till, .bool x.gone], .bool true]) ∧ Kp w w' := by
 obtain ⟨w0, hw0⟩ : ∃ w0, w.alloc (.cells itZ 40) = w0 := ⟨_, rfl⟩
 have HW0 := Lib.hid (show w.alloc (.cells #[.string ⟨#[]⟩, .string ⟨#[]⟩, .int .i64 0, .bool false] 40) = w0 from hw0)
 have hb0 : w0.heap[w.heap.size]? = some (.cells itZ 40 (0, 0)) := by rw [← hw0]; exact heap_alloc_new w _
 have hk0 : Kp w w0 := by rw [← hw0]; exact (Keeps.refl _ w).alloc _
 have hz0 : w.heap.size < w0.heap.size := by rw [← hw0]; simp
 have HD := Lib.hid (dec_one J w0 (J.tk hT hk0) A n c x hm (hr.keep hk0) hn hc hcm)
 have HK0 := Lib.hid hk0
 have HB0 := Lib.hid hb0
 have HZ0 := Lib.hid hz0
 clear hr hn hc hcm hm hw0 hb0 hk0 hz0
 go_enter Tryz.func86, Tryz.ntmps86
 go_wp2_with (rw [HW0.out])
 try rw [HW0.out]
 refine (show Calls _ _ _ _ _ from HD.out).mono ?_
 rintro e w1 ⟨hk, b, o, k, rfl, c0, c1, c2, c3⟩
 have hb1 := (hk.block w.heap.size trivial HZ0.out).trans HB0.out
 have HRES := res4 w w1 hb1 (HK0.out.trans hk)
 obtain ⟨f0, f1, f2, f3, r0, r1, r2, r3⟩ := res4u w w1 hb1
 clear hb1 hk
 obtain ⟨d0, d1, d2, d3, HK⟩ := HRES.out (.string x.key) (.string x.val) (.int .i64 x.till) (.bool x.gone)
 have HKK := Lib.hid HK
 clear HK
 go_wp2_with fail
 exact bodyPost_ret (v := .tuple #[.agg #[.string x.key, .string x.val, .int .i64 x.till, .bool x.gone], .bool true]) (by simp [results, Tryz.results86, go_sem, d0, d1, d2, d3]) rfl ⟨rfl, HKK.out⟩
theorem cdown (w : World) (q lq : Nat) (c0 : w.cell? ⟨q, 0, none⟩ = some (.pointer (some ⟨lq, 0, none⟩))) :
  Calls Tryz.prog 41 #[.pointer (some ⟨q, 0, none⟩)] w fun e w' => e = .returned (.bool false) ∧ w = w' := by
 go_enter Tryz.func41, Tryz.ntmps41
 go_wp2_with fail
 go_ret
 exact ⟨rfl, rfl⟩
theorem cgone (w : World) (k : ByteArray) :
  Calls Tryz.prog 76 #[.string k] w fun e w' => e = .returned (.agg #[.string k, .string ⟨#[]⟩, .int .i64 0, .bool true]) ∧ Kp w w' := by
 obtain ⟨w0, hw0⟩ : ∃ w0, w.alloc (.cells itZ 40) = w0 := ⟨_, rfl⟩
 have HW0 := Lib.hid (show w.alloc (.cells #[.string ⟨#[]⟩, .string ⟨#[]⟩, .int .i64 0, .bool false] 40) = w0 from hw0)
 have hb0 : w0.heap[w.heap.size]? = some (.cells itZ 40 (0, 0)) := by rw [← hw0]; exact heap_alloc_new w _
 have hk0 : Kp w w0 := by rw [← hw0]; exact (Keeps.refl _ w).alloc _
 have HRES := res4 w w0 hb0 hk0
 obtain ⟨f0, f1, f2, f3, r0, r1, r2, r3⟩ := res4u w w0 hb0
 clear hb0 hk0 hw0
 obtain ⟨d0, d1, d2, d3, HK⟩ := HRES.out (.string k) (.string ⟨#[]⟩) (.int .i64 0) (.bool true)
 have HKK := Lib.hid HK
 clear HK HRES
 go_enter Tryz.func76, Tryz.ntmps76
 go_wp2_with (rw [HW0.out])
 try rw [HW0.out]
 try go_wp2_with fail
 exact bodyPost_ret (v := .agg #[.string k, .string ⟨#[]⟩, .int .i64 0, .bool true]) (by simp [results, Tryz.results76, go_sem, d0, d1, d2, d3]) rfl ⟨rfl, HKK.out⟩
structure Lrn (w w' : World) (q : Nat) (Fi Fi' : Foot) : Prop where
 k : Keeps (fun b => b ≠ q ∧ ¬ Fi.M b) w w'
 m : ∀ b, Fi'.M b → Fi.M b ∨ w.heap.size ≤ b
 i : ∀ b, Fi'.I b → Fi.all b ∨ w.heap.size ≤ b
def LearnPost (S : Slog2) (I : IndexOK) (w : World) (p q lq : Nat) (Fl Fi : Foot) (lo : Int) (lst : LSt) (s : SDev) (l : List FRec) (n : Nat) (e : Ending) (w' : World) : Prop :=
 e = .returned (.tuple #[]) ∧ ∃ (iq' : Nat) (Fi' : Foot) (ix' : IxSt), CAt S I w' p q lq iq' Fl Fi' lo lst ix' s ∧ IxSays ix' l n ∧ Lrn w w' q Fi Fi'
section
variable {S : Slog2} {I : IndexOK} {w w1 w2 : World} {p q lq iq : Nat} {Fl Fi Fi' : Foot} {lo : Int} {lst : LSt} {ix ix' : IxSt} {s : SDev}
theorem CAt.learnt (h : CAt S I w1 p q lq iq Fl Fi lo lst ix s) (hk : Kp w w1) (hlt : ∀ b, (cfoot q Fl Fi).all b → b < w.heap.size) (hr : I.rep w2 iq Fi' ix') (hs : Step Fi Fi' w1 w2) : CAt S I w2 p q lq iq Fl Fi' lo lst ix' s ∧ Lrn w w2 q Fi Fi' := by
 have hq : q < w.heap.size := hlt q (cfoot_all.2 (.inl rfl))
 have hfl : ∀ b, Fl.all b → b < w.heap.size := fun b hb => hlt b (cfoot_all.2 (.inr (.inl hb)))
 have hsz := hk.size
 have all' := hs.all
 have hqi : ¬ Fi.M q := fun hm => h.qi (.inl hm)
 refine ⟨⟨h.blk.keep hs.keeps hqi, S.keep h.l (hs.keeps.mono fun b _ hb hm => h.ap.r b hm hb), hr, h.on, ⟨fun b hb hf => ?_, fun b hb hf => ?_⟩, h.ql, fun hf => ?_⟩, ⟨?_, fun b hb => ?_, fun b hb => ?_⟩⟩
 ·rcases all' b hf with h1 | h1
  ·exact h.ap.l b hb h1
  ·have := hfl b (.inl hb); omega
 ·rcases hs.m b hb with h1 | h1
  ·exact h.ap.r b h1 hf
  ·have := hfl b hf; omega
 ·rcases all' q hf with h1 | h1
  ·exact h.qi h1
  ·omega
 ·exact (hk.mono fun _ _ _ => trivial).trans (hs.keeps.mono fun b _ hb => hb.2)
 ·rcases hs.m b hb with h1 | h1
  ·exact .inl h1
  ·exact .inr (by omega)
 ·rcases hs.i b hb with h1 | h1
  ·exact .inl h1
  ·exact .inr (by omega)
end
set_option maxRecDepth 100000 in
set_option maxHeartbeats 1000000 in
theorem learn_put (S : Slog2) (I : IndexOK) (J : ItemOK) (W w : World) (hIT : I.T W) (hJT : J.T w) (p q lq iq : Nat) (Fl Fi : Foot) (lo : Int) (lst : LSt) (ix : IxSt) (s : SDev) (h : CAt S I w p q lq iq Fl Fi lo lst ix s) (hkp : Kp W w) (hgi : ∀ b, Fi.all b → W.heap.size ≤ b)
  (l : List FRec) (n : Nat) (hx : IxSays ix l n) (hn : n ≤ 32768) (x : It) (hm : x.may = true) (hg : x.gone = false) (po : Nat) (hpo : po < 9223372036854775808) (A : Option Addr) (m c : Nat) (hr : Row w A (fun _ => True) (bcells x.bytes)) (hml : m = x.bytes.length) (hmc : m ≤ c) (hcm : c ≤ maxLen) :
  Calls Tryz.prog 72 #[.pointer (some ⟨q, 0, none⟩), .int .i64 (po : Int), .slice A m c] w (LearnPost S I w p q lq Fl Fi lo lst s (l ++ [(po, some x)]) (n + 1)) := by
 have HCV := Lib.hid (hr.to_string (P := Tryz.prog) (src := 64) (dst := 9) Tryz.underlying64 Tryz.underlying5 Tryz.underlying9 m c hml)
 have hne : ((txt x.bytes).toList == [0]) = false := by
  have h4 := x.bytes_four
  refine Bool.eq_false_iff.2 fun e => ?_
  rw [Lib.toList_data, txt_list, beq_iff_eq] at e
  rw [e] at h4
  exact absurd h4 (by decide)
 have HEN := Lib.hid (centry J w hJT A m c x hm hr hml hmc hcm)
 have HLT := Lib.hid h.lt
 have HC := Lib.hid h
 have HPOST := Lib.hid (show ∀ (w1 : World) (hk : Kp w w1), Calls Tryz.prog 108 #[.pointer (some ⟨iq, 0, none⟩), .string x.key, .int .i64 (po : Int)] w1 fun e w2 => (∃ v, e = .returned (.int .i64 v)) ∧ LearnPost S I w p q lq Fl Fi lo lst s (l ++ [(po, some x)]) (n + 1) (.returned (.tuple #[])) w2 from fun w1 hk => by
  refine (I.put W w1 iq Fi ix (h.kp hk).i hIT (hkp.trans hk) hgi (Nat.le_trans hx.len hn) x.key (po : Int) (by have := It.may_is hm; omega) ⟨by omega, by omega⟩).mono ?_
  rintro e w2 ⟨rfl, Fi', hr2, hs2⟩
  have h2 := (h.kp hk).learnt hk h.lt hr2 hs2
  exact ⟨⟨_, rfl⟩, rfl, iq, Fi', _, h2.1, hx.put hg po, h2.2⟩)
 clear h hkp hgi hx hn hm hpo hr hml hmc hcm
 go_enter Tryz.func72, Tryz.ntmps72
 go_wp2_with (rw [HCV.out])
 refine (show Calls _ _ _ _ _ from HEN.out).mono ?_
 rintro e w1 ⟨rfl, hk1⟩
 have HK1 := Lib.hid hk1
 clear hk1
 go_wp2_with fail
 have hk2 : Kp w (w1.alloc (.cells #[.string x.key, .string x.val, .int .i64 x.till, .bool false] 40)) := HK1.out.alloc _
 have x0 : (w1.alloc (.cells #[.string x.key, .string x.val, .int .i64 x.till, .bool false] 40)).cell? ⟨w1.heap.size, 0, none⟩ = some (.string x.key) := (cell_of_block (heap_alloc_new w1 _) 0).trans rfl
 generalize w1.alloc (.cells #[.string x.key, .string x.val, .int .i64 x.till, .bool false] 40) = w2 at hk2 x0 ⊢
 have c1 := hk2.cell HC.out.blk.c1 trivial
 have HK2 := Lib.hid hk2
 clear hk2
 go_still_tail 7, (by kernel_rfl)
 change wpList _ _ _ _ _ w2.drew
 have HKD := Lib.hid (HK2.out.drew)
 replace x0 := ((Keeps.refl (fun _ => True) w2).drew).cell x0 trivial
 replace c1 := ((Keeps.refl (fun _ => True) w2).drew).cell c1 trivial
 generalize w2.drew = wd at HKD x0 c1 ⊢
 go_wp2_with fail
 refine (show Calls _ _ _ _ _ from HPOST.out wd HKD.out).mono ?_
 rintro e w3 ⟨⟨v, rfl⟩, hp⟩
 go_wp2_with fail
 go_end0
 exact hp
set_option maxRecDepth 100000 in
set_option maxHeartbeats 1000000 in
theorem learn_drop (S : Slog2) (I : IndexOK) (J : ItemOK) (W w : World) (hIT : I.T W) (hJT : J.T w) (p q lq iq : Nat) (Fl Fi : Foot) (lo : Int) (lst : LSt) (ix : IxSt) (s : SDev) (h : CAt S I w p q lq iq Fl Fi lo lst ix s) (hkp : Kp W w) (hgi : ∀ b, Fi.all b → W.heap.size ≤ b)
  (l : List FRec) (n : Nat) (hx : IxSays ix l n) (hn : n ≤ 32768) (x : It) (hm : x.may = true) (hg : x.gone = true) (po : Nat) (A : Option Addr) (m c : Nat) (hr : Row w A (fun _ => True) (bcells x.bytes)) (hml : m = x.bytes.length) (hmc : m ≤ c) (hcm : c ≤ maxLen) :
  Calls Tryz.prog 72 #[.pointer (some ⟨q, 0, none⟩), .int .i64 (po : Int), .slice A m c] w (LearnPost S I w p q lq Fl Fi lo lst s (l ++ [(po, some x)]) (n + 1)) := by
 have HCV := Lib.hid (hr.to_string (P := Tryz.prog) (src := 64) (dst := 9) Tryz.underlying64 Tryz.underlying5 Tryz.underlying9 m c hml)
 have hne : ((txt x.bytes).toList == [0]) = false := by
  have h4 := x.bytes_four
  refine Bool.eq_false_iff.2 fun e => ?_
  rw [Lib.toList_data, txt_list, beq_iff_eq] at e
  rw [e] at h4
  exact absurd h4 (by decide)
 have HEN := Lib.hid (centry J w hJT A m c x hm hr hml hmc hcm)
 have HLT := Lib.hid h.lt
 have HC := Lib.hid h
 have HPOST := Lib.hid (show ∀ (w1 : World) (hk : Kp w w1), Calls Tryz.prog 107 #[.pointer (some ⟨iq, 0, none⟩), .string x.key] w1 fun e w2 => (∃ v, e = .returned (.bool v)) ∧ LearnPost S I w p q lq Fl Fi lo lst s (l ++ [(po, some x)]) (n + 1) (.returned (.tuple #[])) w2 from fun w1 hk => by
  refine (I.drop W w1 iq Fi ix (h.kp hk).i hIT (hkp.trans hk) hgi (Nat.le_trans hx.len hn) x.key (by have := It.may_is hm; omega)).mono ?_
  rintro e w2 ⟨rfl, Fi', hr2, hs2⟩
  have h2 := (h.kp hk).learnt hk h.lt hr2 hs2
  exact ⟨⟨_, rfl⟩, rfl, iq, Fi', _, h2.1, hx.drop hg po, h2.2⟩)
 clear h hkp hgi hx hn hm hr hml hmc hcm
 go_enter Tryz.func72, Tryz.ntmps72
 go_wp2_with (rw [HCV.out])
 refine (show Calls _ _ _ _ _ from HEN.out).mono ?_
 rintro e w1 ⟨rfl, hk1⟩
 have HK1 := Lib.hid hk1
 clear hk1
 go_wp2_with fail
 have hk2 : Kp w (w1.alloc (.cells #[.string x.key, .string x.val, .int .i64 x.till, .bool true] 40)) := HK1.out.alloc _
 have x0 : (w1.alloc (.cells #[.string x.key, .string x.val, .int .i64 x.till, .bool true] 40)).cell? ⟨w1.heap.size, 0, none⟩ = some (.string x.key) := (cell_of_block (heap_alloc_new w1 _) 0).trans rfl
 generalize w1.alloc (.cells #[.string x.key, .string x.val, .int .i64 x.till, .bool true] 40) = w2 at hk2 x0 ⊢
 have c1 := hk2.cell HC.out.blk.c1 trivial
 have HK2 := Lib.hid hk2
 clear hk2
 go_still_tail 6, (by kernel_rfl)
 change wpList _ _ _ _ _ w2.drew
 have HKD := Lib.hid (HK2.out.drew)
 replace x0 := ((Keeps.refl (fun _ => True) w2).drew).cell x0 trivial
 replace c1 := ((Keeps.refl (fun _ => True) w2).drew).cell c1 trivial
 generalize w2.drew = wd at HKD x0 c1 ⊢
 go_wp2_with fail
 refine (show Calls _ _ _ _ _ from HPOST.out wd HKD.out).mono ?_
 rintro e w3 ⟨⟨v, rfl⟩, hp⟩
 go_wp2_with fail
 go_end0
 exact hp
set_option maxRecDepth 100000 in
set_option maxHeartbeats 1000000 in
theorem learn_wipe (S : Slog2) (I : IndexOK) (w : World) (hIT : I.T w) (p q lq iq : Nat) (Fl Fi : Foot) (lo : Int) (lst : LSt) (ix : IxSt) (s : SDev) (h : CAt S I w p q lq iq Fl Fi lo lst ix s)
  (l : List FRec) (n : Nat) (po : Nat) (A : Option Addr) (m c : Nat) (hr : Row w A (fun _ => True) (bcells [0])) (hml : m = 1) :
  Calls Tryz.prog 72 #[.pointer (some ⟨q, 0, none⟩), .int .i64 (po : Int), .slice A m c] w (LearnPost S I w p q lq Fl Fi lo lst s (l ++ [(po, none)]) (n + 1)) := by
 have HCV := Lib.hid (hr.to_string (P := Tryz.prog) (src := 64) (dst := 9) Tryz.underlying64 Tryz.underlying5 Tryz.underlying9 m c hml)
 have hne : ((txt [0]).toList == [0]) = true := by rw [Lib.toList_data, txt_list]; decide
 have HNEW := Lib.hid (I.new w hIT)
 have HC := Lib.hid h
 clear hr hml h
 go_enter Tryz.func72, Tryz.ntmps72
 go_wp2_with (rw [HCV.out])
 refine (show Calls _ _ _ _ _ from HNEW.out).mono ?_
 rintro e w1 ⟨iq', Fi', rfl, hi, hF, hk⟩
 have hc1 := HC.out.kp hk
 have c1 := hc1.blk.c1
 have f1 := hc1.blk.f 1
 have HFIN := Lib.hid (show LearnPost S I w p q lq Fl Fi lo lst s (l ++ [(po, none)]) (n + 1) (.returned (.tuple #[])) (w1.setCell ⟨q, 1, none⟩ (.pointer (some ⟨iq', 0, none⟩))) from by
  have hq := HC.out.blk.lt
  have hfl := fun b hb => S.lt HC.out.l b hb
  have hk1 : Keeps (fun b => b ≠ q) w1 (w1.setCell ⟨q, 1, none⟩ (.pointer (some ⟨iq', 0, none⟩))) := (Keeps.refl _ w1).setCell (.inr fun e => e rfl) _
  refine ⟨rfl, iq', Fi', [], ⟨hc1.blk.set1 iq', S.keep hc1.l (hk1.mono fun b _ hb e => HC.out.ql (e ▸ hb)), I.keep hi (hk1.mono fun b _ hb e => ?_), hc1.on, ⟨fun b hb hf => ?_, fun b hb hf => ?_⟩, hc1.ql, fun hf => ?_⟩, IxSays.wipe _ _ _, ⟨(hk.mono fun _ _ _ => trivial).trans (hk1.mono fun b _ hb => hb.1), fun b hb => .inr (hF b (.inl hb)), fun b hb => .inr (hF b (.inr hb))⟩⟩
  ·have := hF b hb; omega
  ·have := hF b hf; have := hfl b (.inl hb); omega
  ·have := hF b (.inl hb); have := hfl b hf; omega
  ·have := hF q hf; omega)
 clear hi hF hk hc1
 go_wp2_with fail
 go_end0
 exact HFIN.out
theorem clearn (S : Slog2) (I : IndexOK) (J : ItemOK) (W w : World) (hIT : I.T W) (hJT : J.T w) (p q lq iq : Nat) (Fl Fi : Foot) (lo : Int) (lst : LSt) (ix : IxSt) (s : SDev) (h : CAt S I w p q lq iq Fl Fi lo lst ix s) (hkp : Kp W w) (hgi : ∀ b, Fi.all b → W.heap.size ≤ b)
  (l : List FRec) (n : Nat) (hx : IxSays ix l n) (hn : n ≤ 32768) (a : FRec) (hm : ∀ x, a.2 = some x → x.may = true) (hpo : a.1 < 9223372036854775808) (A : Option Addr) (m c : Nat) (hr : Row w A (fun _ => True) (bcells (bodyO a.2))) (hml : m = (bodyO a.2).length) (hmc : m ≤ c) (hcm : c ≤ maxLen) :
  Calls Tryz.prog 72 #[.pointer (some ⟨q, 0, none⟩), .int .i64 (a.1 : Int), .slice A m c] w (LearnPost S I w p q lq Fl Fi lo lst s (l ++ [a]) (n + 1)) := by
 obtain ⟨po, y⟩ := a
 cases y with
 | none => exact learn_wipe S I w (I.tk hIT hkp) p q lq iq Fl Fi lo lst ix s h l n po A m c hr hml
 | some x =>
  cases hg : x.gone with
  | false => exact learn_put S I J W w hIT hJT p q lq iq Fl Fi lo lst ix s h hkp hgi l n hx hn x (hm x rfl) hg po hpo A m c hr hml hmc hcm
  | true => exact learn_drop S I J W w hIT hJT p q lq iq Fl Fi lo lst ix s h hkp hgi l n hx hn x (hm x rfl) hg po A m c hr hml hmc hcm
end Go.Proofs.YticophaepapjoaaGreatDoor
namespace Go.Proofs.YticophaepapjoaaGreatDoor
open Go Go.RowKit
section
variable {P : Program} {ops : Array Oper} {Q : Exit → Act → World → Prop} {R : World → World → Prop} {V : Nat → World → Value → Prop} {a0 : Act} {w0 : World} {G : Nat → Option Bool} {St : Bool → World → Prop} {Rk : World → World → Prop} {k : Nat}
theorem wp_region_past {id : Nat} {w : World} (k : Nat) (St : Bool → World → Prop) (Rk : World → World → Prop) (G : Nat → Option Bool) (hm : P.follows .mixedOrders = true)
  (hV : ∀ i w w' v, Kp w w' → V i w v → V i w' v) (hS : ∀ b w w', Kp w w' → St b w → St b w') (hVk : ∀ i, i ≠ k → (∀ js, chained ops k i js = false) → ∀ w w' v, Rk w w' → V i w v → V i w' v)
  (hfit : fitsG G ops a0.tmps.size = true) (hk : k < ops.size) (hG : ∀ g c, G g = some c → ∀ w v, V g w v → v = .bool c) (hU : ∀ (i : Nat) (o : Oper), ops[i]? = some o → wantsG G o = false → i ≠ k ∧ V i = IsV undef) (hw : St false w.drew)
  (loc : ∀ (i : Nat) (o : Oper), ops[i]? = some o → wantsG G o = true → ∀ a w, Leans (fun _ _ => True) V ops a0 w0 i a w →
   if i = k then (St false w → o.wp P a w (fun a' w' => ∃ v, a' = a.put o.dst v ∧ Rk w w' ∧ St true w' ∧ V i w' v) Q)
   else (∀ b, St b w → (∀ js, chained ops k i js = true → b = true) → (∀ js, chained ops i k js = true → b = false) → o.wp P a w (fun a' w' => ∃ v, a' = a.put o.dst v ∧ Kp w w' ∧ V i w' v) Q))
  (done : ∀ vs w, St true w → vs.length = ops.size → (∀ i d, dstOf ops i = some d → V i w (vs.getD i undef)) → Q .normal (putAll a0 (ops.toList.map (·.dst)) vs) w) :
  (Code.region id ops true).wp P Q a0 w := by
 have look : ∀ (i : Nat) (o : Oper), ops[i]? = some o → (∀ g b, o.guard = some (g, b) → waits ops i g = true ∧ (dstOf ops g).isSome = true ∧ ((G g).isSome = true ∨ ∃ o', ops[g]? = some o' ∧ wantsG G o' = false)) ∧ (∀ e ∈ o.after, Region.binds .any e = true → e.on < i) ∧ (∀ d, o.dst = some d → d < a0.tmps.size) ∧ (∀ j, i ≠ j → ∀ d, o.dst = some d → dstOf ops j ≠ some d) := by
  intro i o ho
  have hi : i < ops.size := (Array.getElem?_eq_some_iff.1 ho).1
  have h := List.all_eq_true.1 hfit i (List.mem_range.2 hi)
  simp only [ho, Option.all_some, Bool.and_eq_true] at h
  obtain ⟨⟨⟨h1, h2⟩, h3⟩, h4⟩ := h
  refine ⟨fun g b hgb => ?_, fun e he hb => ?_, fun d hd => ?_, fun j hj d hd hx => ?_⟩
  ·rw [hgb] at h1
   simp only [Bool.and_eq_true, Bool.or_eq_true] at h1
   refine ⟨h1.1.1, h1.1.2, h1.2.imp (fun hx => hx) fun hx => ?_⟩
   cases ho' : ops[g]? with
   | none => rw [ho'] at hx; cases hx
   | some o' =>
    rw [ho'] at hx
    exact ⟨o', rfl, by simpa using hx⟩
  ·have := Array.all_eq_true_iff_forall_mem.1 h2 e he
   simpa [hb] using this
  ·rw [hd] at h3; simpa using h3
  ·have hjs : j < ops.size := by
    rcases Nat.lt_or_ge j ops.size with h' | h'
    ·exact h'
    ·simp [dstOf, Array.getElem?_eq_none h'] at hx
   have := List.all_eq_true.1 h4 j (List.mem_range.2 hjs)
   rw [hd, hx] at this
   simp [hj] at this
 have some_of : ∀ i d, dstOf ops i = some d → ∃ o, ops[i]? = some o ∧ o.dst = some d := fun i d h => by
  unfold dstOf at h
  cases ho : ops[i]? with
  | none => simp [ho] at h
  | some o => exact ⟨o, rfl, by simpa [ho] using h⟩
 have hd : ∀ i j d, dstOf ops i = some d → dstOf ops j = some d → i = j := by
  intro i j d hi hj
  obtain ⟨o, ho, hd⟩ := some_of i d hi
  exact Classical.byContradiction fun hne => (look i o ho).2.2.2 j hne d hd hj
 have hb : ∀ i d, dstOf ops i = some d → d < a0.tmps.size := by
  intro i d hi
  obtain ⟨o, ho, hd⟩ := some_of i d hi
  exact (look i o ho).2.2.1 d hd
 have hac : ∀ i j, waits ops i j = true → j < i := by
  intro i j h
  obtain ⟨o, ho, e, he, hb, rfl⟩ := (waits_iff i j).1 h
  exact (look i o ho).2.1 e he hb
 have fin : ∀ (l : Array Bool) (a : Act) (w' : World), (∀ i, i < ops.size → l.getD i false = true) → StandsAt (fun _ _ => True) V ops a0 w0 l a w' → St (l.getD k false) w' → Q .normal a w' := by
  intro l a w' hall h hs
  rw [hall k hk] at hs
  have hlen : ((ops.toList.map (·.dst)).map (slotOf a)).length = ops.size := by simp
  have hq := done ((ops.toList.map (·.dst)).map (slotOf a)) w' hs hlen (fun i d hid => by
   obtain ⟨o, ho, hd⟩ := some_of i d hid
   have hi : i < ops.size := (Array.getElem?_eq_some_iff.1 ho).1
   have hv := h.val i d (hall i hi) hid
   have e : ((ops.toList.map (·.dst)).map (slotOf a)).getD i undef = a.tmps.getD d undef := by
    rw [List.getD_eq_getElem?_getD, List.getElem?_map, List.getElem?_map, Array.getElem?_toList, ho]
    simp [hd, slotOf]
   rw [e]; exact hv)
  rw [← putAll_of a _ a0 h.defers h.tmps ?_ ?_] at hq
  ·exact hq
  ·intro d hd
   obtain ⟨o, ho, hod⟩ := List.mem_map.1 hd
   obtain ⟨i, hi, rfl⟩ := List.getElem_of_mem ho
   exact (look i ops[i] (by simp at hi; simp [hi])).2.2.1 d (by simpa using hod)
  ·intro t ht
   refine h.old t fun i _ hid => ht ?_
   obtain ⟨o, ho, hd⟩ := some_of i t hid
   refine List.mem_map.2 ⟨o, ?_, hd⟩
   rw [← Array.mem_def]
   exact Array.mem_of_getElem? ho
 have go : ∀ (fuel : Nat) (l : Array Bool) (a : Act) (w : World), (leftOver ops.size l).length ≤ fuel → StandsAt (fun _ _ => True) V ops a0 w0 l a w → St (l.getD k false) w → wpAny P .any ops Q fuel l a w := by
  intro fuel
  induction fuel with
  | zero =>
   intro l a w hf h hs
   have hn : leftOver ops.size l = [] := List.eq_nil_of_length_eq_zero (by omega)
   have hnot : ∀ i, i < ops.size → l.getD i false = true := fun i hi => by
    have hm : i ∉ leftOver ops.size l := by rw [hn]; simp
    have hl' : i < l.size := by rw [h.size]; exact hi
    unfold leftOver at hm
    simp only [List.mem_filter, List.mem_range, hi, true_and, Array.getD, hl'] at hm ⊢
    simpa using hm
   refine ⟨?_, fin l a w hnot h hs⟩
   refine List.eq_nil_iff_forall_not_mem.2 fun i hi => ?_
   have hm := (mem_ready.1 hi).1
   have hx := getD_false_of hm
   rw [hnot i (by rw [← h.size]; exact hx.2)] at hx
   exact absurd hx.1 (by simp)
  | succ fuel ih =>
   intro l a w hf h hs
   refine ⟨fun hr => fin l a w (all_listed hac h.size hr) h hs, fun i hi => ?_⟩
   obtain ⟨hl, o, ho, hall⟩ := mem_ready.1 hi
   have hwt : ∀ j, waits ops i j = true → l.getD j false = true := fun j hj => by
    obtain ⟨o', ho', e, he, hb', rfl⟩ := (waits_iff i j).1 hj
    rw [ho] at ho'; cases ho'
    exact hall e he hb'
   have hdst : o.dst = dstOf ops i := by simp [dstOf, ho]
   have hleft : (leftOver ops.size (l.setIfInBounds i true)).length ≤ fuel := by
    have := leftOver_set ops.size l i (by rw [← h.size]; exact (getD_false_of hl).2) hl
    omega
   have hwant := wanted_is (h.leans hl hwt) (fun j d hj => by rw [h.tmps]; exact hb j d hj) (look i o ho).1 hG (fun i o ho hw => (hU i o ho hw).2)
   have hset : ∀ (hne : i ≠ k), (l.setIfInBounds i true).getD k false = l.getD k false := fun hne => getD_set_ne false hne
   have hloc := loc i o ho
   unfold wpOp
   cases hwo : wantsG G o
   ·rw [hwo] at hwant
    obtain ⟨hne, hu⟩ := hU i o ho hwo
    simp only [ho, hwant, Bool.false_eq_true, if_false]
    rw [hdst]
    exact ih _ _ _ hleft (h.step' trivial (fun _ => trivial) hd hb hl (fun _ _ _ hh => hh) hwt (by rw [hu]; rfl)) (by rw [hset hne]; exact hs)
   ·rw [hwo] at hwant
    simp only [ho, hwant, if_true]
    have hlc := hloc hwo a w (h.leans hl hwt)
    by_cases hik : i = k
    ·subst hik
     rw [if_pos rfl] at hlc
     have hlf := (getD_false_of hl).1
     rw [hlf] at hs
     refine .inl (Oper.wp_mono (fun a' w' hk' => ?_) (hlc hs))
     obtain ⟨v, rfl, hr, hst, hv⟩ := hk'
     rw [hdst]
     refine ih _ _ _ hleft (h.step' trivial (fun _ => trivial) hd hb hl (fun j u hj hu => ?_) hwt hv) (by
      have : (l.setIfInBounds i true).getD i false = true := by simp [(getD_false_of hl).2]
      rw [this]; exact hst)
     exact hVk j (fun e => by subst e; rw [hj] at hlf; cases hlf) (fun js => by
      cases hc : chained ops i j js with
      | false => rfl
      | true =>
       have := chained_listed (k := i) h js j (fun m hm => h.down j m hj hm) hc
       rw [hlf] at this
       cases this) w w' u hr hu
    ·rw [if_neg hik] at hlc
     refine .inl (Oper.wp_mono (fun a' w' hk' => ?_) (hlc _ hs (fun js hbh => chained_listed h js i hwt hbh) (fun js hbh => by
      cases hlk : l.getD k false with
      | false => rfl
      | true =>
       have := chained_listed (k := i) h js k (fun m hm => h.down k m hlk hm) hbh
       rw [(getD_false_of hl).1] at this
       cases this)))
     obtain ⟨v, rfl, hr, hv⟩ := hk'
     rw [hdst]
     exact ih _ _ _ hleft (h.step' trivial (fun _ => trivial) hd hb hl (fun j u _ hu => hV j w w' u hr hu) hwt hv) (by rw [hset hik]; exact hS _ _ _ hr hs)
 refine wp_region_any hm ?_
 refine go ops.size _ a0 _ ?_ ?_ ?_
 ·refine Nat.le_trans (List.length_filter_le _ _) ?_
  simp
 ·refine ⟨by simp, trivial, rfl, rfl, fun _ _ => rfl, ?_, ?_⟩
  ·intro i d h; exact absurd h (by simp [Array.getD])
  ·intro i j h; exact absurd h (by simp [Array.getD])
 ·have : (Array.replicate ops.size false).getD k false = false := by simp [Array.getD]
  rw [this]; exact hw
end
end Go.Proofs.YticophaepapjoaaGreatDoor
