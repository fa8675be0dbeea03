/-
  FlRep, ItemRef, ItemLive, ItemEnc, RefNum, ItemText, ItemEq, ItemItems, ItemEncs, ItemDec: texts of mine, joined.
-/
import Derived.Test.YticophaepapjoaaGreatDoorAllA02
import Derived.Test.YticophaepapjoaaGreatDoorAllA08
import Derived.Lib.SmallJoins
import Derived.Test.YticophaepapjoaaGreatDoorAllA01
import Derived.WalkSpells
import Derived.Test.YticophaepapjoaaGreatDoorAllA03
import Derived.Deep.RegionWith
import Derived.Deep.RegionLaw
import Derived.BigQuiet
namespace Go.Proofs.YticophaepapjoaaGreatDoor
open Go Go.RowKit Go.Joins
def cfoot (q : Nat) (Fl Fi : Foot) : Foot := ⟨fun b => b = q ∨ Fl.M b ∨ Fi.M b, fun b => Fl.I b ∨ Fi.I b⟩
theorem cfoot_all {q : Nat} {Fl Fi : Foot} {b : Nat} : (cfoot q Fl Fi).all b ↔ b = q ∨ Fl.all b ∨ Fi.all b := by
 unfold cfoot Foot.all
 constructor
 ·rintro ((h | h | h) | (h | h))
  ·exact .inl h
  ·exact .inr (.inl (.inl h))
  ·exact .inr (.inr (.inl h))
  ·exact .inr (.inl (.inr h))
  ·exact .inr (.inr (.inr h))
 ·rintro (h | (h | h) | (h | h))
  ·exact .inl (.inl h)
  ·exact .inl (.inr (.inl h))
  ·exact .inr (.inl h)
  ·exact .inl (.inr (.inr h))
  ·exact .inr (.inr h)
def CBlk (w : World) (q lq iq : Nat) (lo : Int) : Prop := w.heap[q]? = some (.cells #[.pointer (some ⟨lq, 0, none⟩), .pointer (some ⟨iq, 0, none⟩), .int .i64 lo] 92 (0, 0))
section
variable {w w' : World} {q lq iq : Nat} {lo : Int} {G : Nat → Prop}
theorem CBlk.keep (h : CBlk w q lq iq lo) (hk : Keeps G w w') (hq : G q) : CBlk w' q lq iq lo := (hk.block q hq (Array.getElem?_eq_some_iff.1 h).1).trans h
theorem CBlk.lt (h : CBlk w q lq iq lo) : q < w.heap.size := (Array.getElem?_eq_some_iff.1 h).1
theorem CBlk.c0 (h : CBlk w q lq iq lo) : w.cell? ⟨q, 0, none⟩ = some (.pointer (some ⟨lq, 0, none⟩)) := (cell_of_block h 0).trans rfl
theorem CBlk.c1 (h : CBlk w q lq iq lo) : w.cell? ⟨q, 1, none⟩ = some (.pointer (some ⟨iq, 0, none⟩)) := (cell_of_block h 1).trans rfl
theorem CBlk.c2 (h : CBlk w q lq iq lo) : w.cell? ⟨q, 2, none⟩ = some (.int .i64 lo) := (cell_of_block h 2).trans rfl
theorem CBlk.f (h : CBlk w q lq iq lo) (i : Nat) : w.frozen? ⟨q, i, none⟩ = false := unfrozen_of_block h i
theorem CBlk.set1 (h : CBlk w q lq iq lo) (iq' : Nat) : CBlk (w.setCell ⟨q, 1, none⟩ (.pointer (some ⟨iq', 0, none⟩))) q lq iq' lo := (block_setCell h _).trans rfl
theorem CBlk.set2 (h : CBlk w q lq iq lo) (lo' : Int) : CBlk (w.setCell ⟨q, 2, none⟩ (.int .i64 lo')) q lq iq lo' := (block_setCell h _).trans rfl
end
structure CAt (S : Slog2) (I : IndexOK) (w : World) (p q lq iq : Nat) (Fl Fi : Foot) (lo : Int) (lst : LSt) (ix : IxSt) (s : SDev) : Prop where
 blk : CBlk w q lq iq lo
 l : S.rep w lq Fl lst s
 i : I.rep w iq Fi ix
 on : lst.dev = p
 ap : Apart Fl Fi
 ql : ¬ Fl.all q
 qi : ¬ Fi.all q
section
variable {S : Slog2} {I : IndexOK} {w w' : World} {p q lq iq : Nat} {Fl Fi : Foot} {lo : Int} {lst : LSt} {ix : IxSt} {s : SDev}
theorem CAt.keep (h : CAt S I w p q lq iq Fl Fi lo lst ix s) (hk : Keeps (cfoot q Fl Fi).all w w') : CAt S I w' p q lq iq Fl Fi lo lst ix s :=
 ⟨h.blk.keep hk (cfoot_all.2 (.inl rfl)), S.keep h.l (hk.mono fun b _ hb => cfoot_all.2 (.inr (.inl hb))), I.keep h.i (hk.mono fun b _ hb => cfoot_all.2 (.inr (.inr hb))), h.on, h.ap, h.ql, h.qi⟩
theorem CAt.kp (h : CAt S I w p q lq iq Fl Fi lo lst ix s) (hk : Kp w w') : CAt S I w' p q lq iq Fl Fi lo lst ix s := h.keep (hk.mono fun _ _ _ => trivial)
theorem CAt.lt (h : CAt S I w p q lq iq Fl Fi lo lst ix s) : ∀ b, (cfoot q Fl Fi).all b → b < w.heap.size := fun b hb => by
 rcases cfoot_all.1 hb with rfl | hb | hb
 ·exact h.blk.lt
 ·exact S.lt h.l b hb
 ·exact I.lt h.i b hb
end
def flashRep (S : Slog2) (I : IndexOK) (w : World) (p q : Nat) (Fs : Foot) (st : FSt) (s : SDev) : Prop :=
 ∃ (lq iq : Nat) (Fl Fi : Foot) (lo : Int) (lst : LSt) (ix : IxSt) (hs : List FRec), Fs = cfoot q Fl Fi ∧ CAt S I w p q lq iq Fl Fi lo lst ix s ∧ FM st lst hs ∧ IxSays ix (hs.drop lst.gone) st.age
def flashDisk (S : Slog2) (st : FSt) (rows : List (List UInt8)) : Prop := ∃ (lst : LSt) (hs : List FRec), S.disk lst rows ∧ FM st lst hs
section
variable {S : Slog2} {I : IndexOK} {w w' : World} {p q : Nat} {Fs : Foot} {st : FSt} {s s' : SDev}
theorem frep_wf (h : flashRep S I w p q Fs st s) : st.Ok := by
 obtain ⟨lq, iq, Fl, Fi, lo, lst, ix, hs, rfl, hc, hm, -⟩ := h
 exact hm.ok (S.wf hc.l)
theorem frep_age (h : flashRep S I w p q Fs st s) : st.age ≤ 30000 := by
 obtain ⟨lq, iq, Fl, Fi, lo, lst, ix, hs, rfl, hc, hm, -⟩ := h
 exact hm.old
theorem frep_lt (h : flashRep S I w p q Fs st s) : ∀ b, Fs.all b → b < w.heap.size := by
 obtain ⟨lq, iq, Fl, Fi, lo, lst, ix, hs, rfl, hc, hm, -⟩ := h
 exact hc.lt
theorem frep_keep (h : flashRep S I w p q Fs st s) (hk : Keeps Fs.all w w') : flashRep S I w' p q Fs st s := by
 obtain ⟨lq, iq, Fl, Fi, lo, lst, ix, hs, rfl, hc, hm⟩ := h
 exact ⟨lq, iq, Fl, Fi, lo, lst, ix, hs, rfl, hc.keep hk, hm⟩
theorem FM.has {lst : LSt} {hs : List FRec} (hm : FM st lst hs) (i : Nat) : lst.has i ↔ st.has i := by
 unfold LSt.has FSt.has
 rw [hm.place, hm.segs]
theorem frep_other (h : flashRep S I w p q Fs st s) (hl : s'.now.length = s.now.length) (ho : ∀ i, st.has i → s'.now.getD i [] = s.now.getD i []) : flashRep S I w p q Fs st s' := by
 obtain ⟨lq, iq, Fl, Fi, lo, lst, ix, hs, rfl, hc, hm, hx⟩ := h
 exact ⟨lq, iq, Fl, Fi, lo, lst, ix, hs, rfl, { hc with l := S.other hc.l hl fun i hi => ho i ((hm.has i).1 hi) }, hm, hx⟩
theorem fdisk_keep {rows rows' : List (List UInt8)} (h : flashDisk S st rows) (hl : rows'.length = rows.length) (ho : ∀ i, st.has i → rows'.getD i [] = rows.getD i []) : flashDisk S st rows' := by
 obtain ⟨lst, hs, hd, hm⟩ := h
 exact ⟨lst, hs, S.diskKeep hd hl fun i hi => ho i ((hm.has i).1 hi), hm⟩
theorem FGo.trans {w w1 w2 : World} {F F1 F2 Fs1 Fs2 : Foot} {s s1 s2 : SDev} {st1 : FSt} {n m : Nat} (h : FGo w w1 F F1 Fs Fs1 s s1 st n) (k : FGo w1 w2 F1 F2 Fs1 Fs2 s1 s2 st1 m) (hst : ∀ i, st1.has i ↔ st.has i) : FGo w w2 F F2 Fs Fs2 s s2 st (n + m) := by
 have hsz := h.k.size
 have all1 : ∀ b, F1.all b → F.all b ∨ w.heap.size ≤ b := fun b hb => by
  rcases hb with hb | hb
  ·rcases h.f1 b hb with h1 | h1
   ·exact .inl (.inl h1)
   ·exact .inr h1
  ·exact h.f2 b hb
 have all2 : ∀ b, Fs1.all b → Fs.all b ∨ w.heap.size ≤ b := fun b hb => by
  rcases hb with hb | hb
  ·rcases h.f3 b hb with h1 | h1
   ·exact .inl (.inl h1)
   ·exact .inr h1
  ·exact h.f4 b hb
 refine ⟨k.ap, ⟨k.k.os.trans h.k.os, k.k.tape.trans h.k.tape, k.k.output.trans h.k.output, Nat.le_trans hsz k.k.size, fun b hb hlt => ?_⟩, fun b hb => ?_, fun b hb => ?_, fun b hb => ?_, fun b hb => ?_, k.len.trans h.len, fun i hi => (k.out i fun hh => hi ((hst i).1 hh)).trans (h.out i hi), ?_⟩
 ·refine (k.k.block b ⟨fun hm => ?_, fun hm => ?_⟩ (Nat.lt_of_lt_of_le hlt hsz)).trans (h.k.block b hb hlt)
  ·rcases h.f1 b hm with h1 | h1
   ·exact hb.1 h1
   ·omega
  ·rcases h.f3 b hm with h1 | h1
   ·exact hb.2 h1
   ·omega
 ·rcases k.f1 b hb with h1 | h1
  ·exact h.f1 b h1
  ·exact .inr (Nat.le_trans hsz h1)
 ·rcases k.f2 b hb with h1 | h1
  ·exact all1 b h1
  ·exact .inr (Nat.le_trans hsz h1)
 ·rcases k.f3 b hb with h1 | h1
  ·exact h.f3 b h1
  ·exact .inr (Nat.le_trans hsz h1)
 ·rcases k.f4 b hb with h1 | h1
  ·exact all2 b h1
  ·exact .inr (Nat.le_trans hsz h1)
 ·have := h.calls; have := k.calls; omega
end
structure Cb (S : Slog2) (I : IndexOK) (W w : World) (p q : Nat) (F Fs : Foot) (s : SDev) (st : FSt) : Prop where
 d : DAt w p F s
 r : flashRep S I w p q Fs st s
 ap : Apart F Fs
 kp : Kp W w
 gf : ∀ b, F.all b → W.heap.size ≤ b
 gs : ∀ b, Fs.all b → W.heap.size ≤ b
 room : st.place + 8 * st.segs ≤ s.now.length
section
variable {S : Slog2} {I : IndexOK} {W w w' : World} {p q : Nat} {F F' Fs Fs' : Foot} {st st' : FSt} {s s' : SDev} {n : Nat}
theorem Cb.keep (h : Cb S I W w p q F Fs s st) (hk : Kp w w') : Cb S I W w' p q F Fs s st :=
 ⟨h.d.keep (hk.mono fun _ _ _ => trivial), frep_keep h.r (hk.mono fun _ _ _ => trivial), h.ap, h.kp.trans hk, h.gf, h.gs, h.room⟩
theorem Cb.moved (h : Cb S I W w p q F Fs s st) (hd : DAt w' p F' s') (hr : flashRep S I w' p q Fs' st' s') (hpl : st'.place = st.place) (hsg : st'.segs = st.segs) (hgo : FGo w w' F F' Fs Fs' s s' st n) : Cb S I W w' p q F' Fs' s' st' := by
 have hsz := h.kp.size
 refine ⟨hd, hr, hgo.ap, ?_, fun b hb => ?_, fun b hb => ?_, by rw [hpl, hsg, hgo.len]; exact h.room⟩
 ·exact ⟨hgo.k.os.trans h.kp.os, hgo.k.tape.trans h.kp.tape, hgo.k.output.trans h.kp.output, Nat.le_trans hsz hgo.k.size, fun b _ hb =>
   (hgo.k.block b ⟨fun hm => by have := h.gf b (.inl hm); omega, fun hm => by have := h.gs b (.inl hm); omega⟩ (by omega)).trans (h.kp.block b trivial hb)⟩
 ·rcases hb with hb | hb
  ·rcases hgo.f1 b hb with h1 | h1
   ·exact h.gf b (.inl h1)
   ·omega
  ·rcases hgo.f2 b hb with h1 | h1
   ·exact h.gf b h1
   ·omega
 ·rcases hb with hb | hb
  ·rcases hgo.f3 b hb with h1 | h1
   ·exact h.gs b (.inl h1)
   ·omega
  ·rcases hgo.f4 b hb with h1 | h1
   ·exact h.gs b h1
   ·omega
theorem FGo.still (h : Cb S I W w p q F Fs s st) (hk : Kp w w') : FGo w w' F F Fs Fs s s st 0 :=
 ⟨h.ap, hk.mono fun _ _ _ => trivial, fun _ hb => .inl hb, fun _ hb => .inl (.inr hb), fun _ hb => .inl hb, fun _ hb => .inl (.inr hb), rfl, fun _ _ => rfl, Nat.le_add_right _ _⟩
end
theorem str_same (a b : ByteArray) : (a.toList == b.toList) = decide (a = b) := by
 by_cases h : a = b
 ·subst h; simp
 ·have : a.toList ≠ b.toList := fun e => h (by
   rw [Lib.toList_data, Lib.toList_data] at e
   exact data_inj e)
  simp [h, this]
theorem size_zero {s : ByteArray} : s = ⟨#[]⟩ ↔ s.size = 0 := by
 constructor
 ·rintro rfl; rfl
 ·intro h
  obtain ⟨d⟩ := s
  have : d.size = 0 := h
  rw [Array.size_eq_zero_iff] at this
  rw [this]
set_option maxHeartbeats 1000000 in
theorem imay (w : World) (x : It) (hx : x.fits) :
  Calls Tryz.prog 42 #[.agg #[.string x.key, .string x.val, .int .i64 x.till, .bool x.gone]] w fun e w' => e = .returned (.bool x.may) ∧ Keeps (fun _ => True) w w' := by
 obtain ⟨hk, hv, ht1, ht2⟩ := hx
 have cases_ : (decide ((x.key.size : Int) < 1) = true ∧ x.may = false) ∨
   (decide ((x.key.size : Int) < 1) = false ∧ decide ((40 : Int) < (x.key.size : Int)) = true ∧ x.may = false) ∨
   (decide ((x.key.size : Int) < 1) = false ∧ decide ((40 : Int) < (x.key.size : Int)) = false ∧ x.gone = true ∧ (x.val.toList == []) = false ∧ x.may = false) ∨
   (decide ((x.key.size : Int) < 1) = false ∧ decide ((40 : Int) < (x.key.size : Int)) = false ∧ x.gone = true ∧ (x.val.toList == []) = true ∧ (x.till == 0) = false ∧ x.may = false) ∨
   (decide ((x.key.size : Int) < 1) = false ∧ decide ((40 : Int) < (x.key.size : Int)) = false ∧ x.gone = true ∧ (x.val.toList == []) = true ∧ (x.till == 0) = true ∧ x.may = true) ∨
   (decide ((x.key.size : Int) < 1) = false ∧ decide ((40 : Int) < (x.key.size : Int)) = false ∧ x.gone = false ∧ decide ((x.val.size : Int) ≤ 200) = false ∧ x.may = false) ∨
   (decide ((x.key.size : Int) < 1) = false ∧ decide ((40 : Int) < (x.key.size : Int)) = false ∧ x.gone = false ∧ decide ((x.val.size : Int) ≤ 200) = true ∧ decide ((0 : Int) ≤ x.till) = false ∧ x.may = false) ∨
   (decide ((x.key.size : Int) < 1) = false ∧ decide ((40 : Int) < (x.key.size : Int)) = false ∧ x.gone = false ∧ decide ((x.val.size : Int) ≤ 200) = true ∧ decide ((0 : Int) ≤ x.till) = true ∧ decide (x.till ≤ 1099511627776) = false ∧ x.may = false) ∨
   (decide ((x.key.size : Int) < 1) = false ∧ decide ((40 : Int) < (x.key.size : Int)) = false ∧ x.gone = false ∧ decide ((x.val.size : Int) ≤ 200) = true ∧ decide ((0 : Int) ≤ x.till) = true ∧ decide (x.till ≤ 1099511627776) = true ∧ x.may = true) := by
  have e1 : decide ((x.val.size : Int) ≤ 200) = decide (x.val.size ≤ 200) := decide_eq_decide.2 (by omega)
  have e2 : (x.val.toList == []) = decide (x.val.size = 0) := by
   have h := str_same x.val ⟨#[]⟩
   rw [show ByteArray.toList ⟨#[]⟩ = [] from by rw [Lib.toList_data]] at h
   exact h.trans (decide_eq_decide.2 size_zero)
  have e3 : (x.till == 0) = decide (x.till = 0) := rfl
  have e4 : decide ((x.key.size : Int) < 1) = !decide (1 ≤ x.key.size) := by
   by_cases h : 1 ≤ x.key.size
   ·simp [h]; omega
   ·simp [h]; omega
  have e5 : decide ((40 : Int) < (x.key.size : Int)) = !decide (x.key.size ≤ 40) := by
   by_cases h : x.key.size ≤ 40
   ·simp [h]; omega
   ·simp [h]; omega
  have h6 : decide (x.val.size = 0) = true → decide (x.val.size ≤ 200) = true := by simp only [decide_eq_true_eq]; omega
  have h7 : decide (x.till = 0) = true → decide ((0 : Int) ≤ x.till) = true ∧ decide (x.till ≤ 1099511627776) = true := by simp only [decide_eq_true_eq]; omega
  rw [e1, e2, e3, e4, e5]
  unfold It.may
  generalize decide (1 ≤ x.key.size) = b0 at *
  generalize decide (x.key.size ≤ 40) = b1 at *
  generalize decide (x.val.size ≤ 200) = b2 at *
  generalize decide ((0 : Int) ≤ x.till) = b3 at *
  generalize decide (x.till ≤ 1099511627776) = b4 at *
  generalize decide (x.val.size = 0) = b5 at *
  generalize decide (x.till = 0) = b6 at *
  generalize x.gone = b7
  clear e1 e2 e3 e4 e5 hk hv ht1 ht2
  revert b0 b1 b2 b3 b4 b5 b6 b7
  decide
 obtain ⟨key, val, till, gone⟩ := x
 simp only at *
 have HM := Lib.hid (show (⟨key, val, till, gone⟩ : It).may = (⟨key, val, till, gone⟩ : It).may from rfl)
 generalize (⟨key, val, till, gone⟩ : It).may = m at *
 clear HM
 rcases cases_ with ⟨t1, rfl⟩ | ⟨t1, t2, rfl⟩ | ⟨t1, t2, rfl, t3, rfl⟩ | ⟨t1, t2, rfl, t3, t4, rfl⟩ | ⟨t1, t2, rfl, t3, t4, rfl⟩ | ⟨t1, t2, rfl, t3, rfl⟩ | ⟨t1, t2, rfl, t3, t4, rfl⟩ | ⟨t1, t2, rfl, t3, t4, t5, rfl⟩ | ⟨t1, t2, rfl, t3, t4, t5, rfl⟩
 all_goals
  go_enter Tryz.func42, Tryz.ntmps42
  go_wp2_with fail
  go_ret
  exact ⟨by first | rfl | (rw [← t5]; rfl) | (rw [← t4]; rfl), (Keeps.refl _ _).alloc _⟩
set_option maxHeartbeats 1000000 in
theorem ilive (w : World) (x : It) (hx : x.fits) (now : Int) (hn1 : -9223372036854775808 ≤ now) (hn2 : now < 9223372036854775808) :
  Calls Tryz.prog 58 #[.agg #[.string x.key, .string x.val, .int .i64 x.till, .bool x.gone], .int .i64 now] w fun e w' => e = .returned (.bool (x.live now)) ∧ Keeps (fun _ => True) w w' := by
 have RM := fun w => imay w x hx
 obtain ⟨hk, hv, ht1, ht2⟩ := hx
 have hc : (x.may = false ∧ x.live now = false) ∨ (x.may = true ∧ x.gone = true ∧ x.live now = false) ∨ (x.may = true ∧ x.gone = false ∧ (x.till == 0) = true ∧ x.live now = true) ∨
   (x.may = true ∧ x.gone = false ∧ (x.till == 0) = false ∧ decide (now < x.till) = true ∧ x.live now = true) ∨ (x.may = true ∧ x.gone = false ∧ (x.till == 0) = false ∧ decide (now < x.till) = false ∧ x.live now = false) := by
  have e3 : (x.till == 0) = decide (x.till = 0) := rfl
  rw [e3]
  unfold It.live
  generalize x.may = b1
  generalize x.gone = b2
  generalize decide (x.till = 0) = b3
  generalize decide (now < x.till) = b4
  revert b1 b2 b3 b4
  decide
 obtain ⟨key, val, till, gone⟩ := x
 simp only at *
 generalize (⟨key, val, till, gone⟩ : It).live now = m at *
 generalize (⟨key, val, till, gone⟩ : It).may = q at *
 rcases hc with ⟨rfl, rfl⟩ | ⟨rfl, rfl, rfl⟩ | ⟨rfl, rfl, t1, rfl⟩ | ⟨rfl, rfl, t1, t2, rfl⟩ | ⟨rfl, rfl, t1, t2, rfl⟩
 all_goals
  go_enter Tryz.func58, Tryz.ntmps58
  go_wp2_with fail
  refine (RM _).mono ?_
  rintro e w1 ⟨rfl, hk1⟩
  have hc2 := hk1.cell (p := ⟨w.heap.size, 2, none⟩) (v := .int .i64 till) ((cell_of_block (heap_alloc_new w _) 2).trans rfl) trivial
  have hc3 := hk1.cell (p := ⟨w.heap.size, 3, none⟩) (v := .bool _) ((cell_of_block (heap_alloc_new w _) 3).trans rfl) trivial
  have HK := Lib.hid (((Keeps.refl (fun _ => True) w).alloc _).trans hk1)
  clear hk1
  go_wp2_with fail
  go_ret
  exact ⟨by first | rfl | (rw [← t2]; rfl), HK.out⟩
section
variable {w : World} {o : Oper} {a : Act} {Q : Exit → Act → World → Prop} {x y : Operand}
theorem kp_fI (i : Nat) (hi : i < 4) {b : Nat} (ho : o.op = .fieldAddr 40 x i) (hx : a.eval x = .pointer (some ⟨b, 0, none⟩)) : o.wp Tryz.prog a w (fun a' w' => ∃ v, a' = a.put o.dst v ∧ Kp w w' ∧ IsV (.pointer (some ⟨b, i, none⟩)) w' v) Q := by
 refine kp_yield (v := .pointer (some ⟨b, i, none⟩)) ?_ (Keeps.refl _ _) rfl
 generalize a.eval = ρ at hx
 unfold execOp
 rw [ho]
 match i, hi with
 | 0, _ => go_simp
 | 1, _ => go_simp
 | 2, _ => go_simp
 | 3, _ => go_simp
theorem kp_lS {p : Addr} {s : ByteArray} (hc : w.cell? p = some (.string s)) (ho : o.op = .load 9 x) (hx : a.eval x = .pointer (some p)) : o.wp Tryz.prog a w (fun a' w' => ∃ v, a' = a.put o.dst v ∧ Kp w w' ∧ IsV (.string s) w' v) Q := by
 refine kp_yield (v := .string s) ?_ (Keeps.refl _ _) rfl
 generalize a.eval = ρ at hx
 unfold execOp
 go_simp
theorem kp_lN {p : Addr} {n : Int} (hc : w.cell? p = some (.int .i64 n)) (ho : o.op = .load 2 x) (hx : a.eval x = .pointer (some p)) : o.wp Tryz.prog a w (fun a' w' => ∃ v, a' = a.put o.dst v ∧ Kp w w' ∧ IsV (.int .i64 n) w' v) Q := by
 refine kp_yield (v := .int .i64 n) ?_ (Keeps.refl _ _) rfl
 generalize a.eval = ρ at hx
 unfold execOp
 go_simp
theorem kp_asO {V : World → Value → Prop} (ho : o.op = .assign x) (hx : V w (a.eval x)) : o.wp Tryz.prog a w (fun a' w' => ∃ v', a' = a.put o.dst v' ∧ Kp w w' ∧ V w' v') Q := by
 refine kp_yield (v := a.eval x) ?_ (Keeps.refl _ _) hx
 unfold execOp; rw [ho]; rfl
def PairV (v1 v2 : Value) : World → Value → Prop := fun w v => ∃ B, v = .slice (some ⟨B, 0, none⟩) 2 2 ∧ Row w (some ⟨B, 0, none⟩) (fun _ => True) [v1, v2]
theorem PairV.keep {v1 v2 v : Value} {w w' : World} (h : Kp w w') (hv : PairV v1 v2 w v) : PairV v1 v2 w' v := by
 obtain ⟨B, e, hr⟩ := hv
 exact ⟨B, e, hr.keep h⟩
theorem kp_twoS {s t : ByteArray} (ho : o.op = .buildSlice 30 2 #[(0, x), (1, y)]) (hx : a.eval x = .string s) (hy : a.eval y = .string t) : o.wp Tryz.prog a w (fun a' w' => ∃ v, a' = a.put o.dst v ∧ Kp w w' ∧ PairV (.string s) (.string t) w' v) Q := by
 refine kp_yield (v := .slice (some ⟨w.heap.size, 0, none⟩) 2 2) (w' := w.alloc (.cells #[.string s, .string t] 9)) ?_ ((Keeps.refl _ w).alloc _) ⟨_, rfl, Row.fresh w #[.string s, .string t] 9 (0, 0) _ rfl trivial _ rfl⟩
 generalize a.eval = ρ at hx hy
 unfold execOp
 go_simp
theorem kp_twoI {s t : Int} (ho : o.op = .buildSlice 106 2 #[(0, x), (1, y)]) (hx : a.eval x = .int .i64 s) (hy : a.eval y = .int .i64 t) : o.wp Tryz.prog a w (fun a' w' => ∃ v, a' = a.put o.dst v ∧ Kp w w' ∧ PairV (.int .i64 s) (.int .i64 t) w' v) Q := by
 refine kp_yield (v := .slice (some ⟨w.heap.size, 0, none⟩) 2 2) (w' := w.alloc (.cells #[.int .i64 s, .int .i64 t] 2)) ?_ ((Keeps.refl _ w).alloc _) ⟨_, rfl, Row.fresh w #[.int .i64 s, .int .i64 t] 2 (0, 0) _ rfl trivial _ rfl⟩
 generalize a.eval = ρ at hx hy
 unfold execOp
 go_simp
end
def MadeB (l : List UInt8) : World → Value → Prop := fun w v => ∃ A c, v = .slice A l.length c ∧ Row w A (fun _ => True) (bcells l)
theorem MadeB.keep {l : List UInt8} {v : Value} {w w' : World} (h : Kp w w') (hv : MadeB l w v) : MadeB l w' v := by
 obtain ⟨A, c, e, hr⟩ := hv
 exact ⟨A, c, e, hr.keep h⟩
def GN : Nat → Option Bool := fun _ => none
theorem GN_is {V : Nat → World → Value → Prop} (g : Nat) (c : Bool) (h : GN g = some c) (w : World) (x : Value) (_ : V g w x) : x = .bool c := by cases h
def VI (base : Nat) (b : Nat) (x : It) (l1 l2 : List UInt8) : Nat → World → Value → Prop
 | 0 => IsV (.pointer (some ⟨b, 0, none⟩))
 | 1 => IsV (.string x.key)
 | 2 => IsV (.pointer (some ⟨b, 1, none⟩))
 | 3 => IsV (.string x.val)
 | 4 => PairV (.string x.key) (.string x.val)
 | 5 => MadeB l1
 | 6 => IsV (.pointer (some ⟨b, 2, none⟩))
 | 7 => IsV (.int .i64 x.till)
 | 8 => IsV (.int .i64 x.flag)
 | 9 => PairV (.int .i64 x.till) (.int .i64 x.flag)
 | 10 => fun w v => OwnB w base v l2
 | 11 => fun w v => OwnB w base v l2
 | _ => fun _ _ => True
theorem VI_keep {base b : Nat} {x : It} {l1 l2 : List UInt8} (i : Nat) (w w' : World) (v : Value) (h : Kp w w') (hv : VI base b x l1 l2 i w v) : VI base b x l1 l2 i w' v := by
 match i, hv with
 | 0, hv => exact hv
 | 1, hv => exact hv
 | 2, hv => exact hv
 | 3, hv => exact hv
 | 4, hv => exact PairV.keep h hv
 | 5, hv => exact MadeB.keep h hv
 | 6, hv => exact hv
 | 7, hv => exact hv
 | 8, hv => exact hv
 | 9, hv => exact PairV.keep h hv
 | 10, hv => exact h.own hv fun _ _ => trivial
 | 11, hv => exact h.own hv fun _ _ => trivial
 | n + 12, _ => trivial
set_option maxRecDepth 100000 in
set_option maxHeartbeats 1000000 in
theorem iencode1 (w : World) (x : It) (hx : x.may = true) :
  Calls Tryz.prog 74 #[.agg #[.string x.key, .string x.val, .int .i64 x.till, .bool x.gone]] w fun e w' => ∃ v, e = .returned v ∧ OwnB w' w.heap.size v x.bytes ∧ Keeps (fun _ => True) w w' := by
 have hm := It.may_is hx
 have hfl := x.flag_bd
 have hgo : (x.gone = false ∧ x.flag = 0) ∨ (x.gone = true ∧ x.flag = 1) := by unfold It.flag; cases x.gone <;> simp
 have hk0 : Kp w (w.alloc (.cells #[.string x.key, .string x.val, .int .i64 x.till, .bool x.gone] 40)) := (Keeps.refl _ w).alloc _
 have b0 := heap_alloc_new w (.cells #[.string x.key, .string x.val, .int .i64 x.till, .bool x.gone] 40)
 have hlt : w.heap.size < (w.alloc (.cells #[.string x.key, .string x.val, .int .i64 x.till, .bool x.gone] 40)).heap.size := by simp
 have HPT := Lib.hid (show ∀ (w3 : World) (B : Nat), Kp w w3 → Row w3 (some ⟨B, 0, none⟩) (fun _ => True) [.string x.key, .string x.val] → Calls Tryz.prog 104 #[.slice none 0 0, .slice (some ⟨B, 0, none⟩) 2 2] w3 fun e w' => ∃ v, e = .returned v ∧ Kp w3 w' ∧ MadeB (putT x.key.data.toList ++ putT x.val.data.toList) w' v from fun w3 B _ hr => by
  refine (show Calls _ _ _ _ _ from put_text none (some ⟨B, 0, none⟩) 0 2 (fun _ => True) (fun _ => True) [] [x.key, x.val] w3 (Row.nil _ _ _) hr (by unfold total; simp; omega) (by simp) (by simp)).mono ?_
  rintro e w' ⟨v, rfl, ho, hk⟩
  have e : ([] : List UInt8) ++ putsT (strs [x.key, x.val]) = putT x.key.data.toList ++ putT x.val.data.toList := by simp [putsT, strs]
  rw [e] at ho
  obtain ⟨A, c, rfl, -, hr⟩ := own_slice ho
  exact ⟨_, rfl, hk, A, c, rfl, hr.mono fun _ _ _ => trivial⟩)
 have hl1 : (putT x.key.data.toList ++ putT x.val.data.toList).length ≤ 1000 := by
  have := It.bytes_len hx
  unfold It.bytes at this
  simp only [List.length_append] at this ⊢
  omega
 have HPN := Lib.hid (show ∀ (w3 : World) (A : Option Addr) (c B : Nat), Kp w w3 → Row w3 A (fun _ => True) (bcells (putT x.key.data.toList ++ putT x.val.data.toList)) → Row w3 (some ⟨B, 0, none⟩) (fun _ => True) [.int .i64 x.till, .int .i64 x.flag] →
   Calls Tryz.prog 79 #[.slice A (putT x.key.data.toList ++ putT x.val.data.toList).length c, .slice (some ⟨B, 0, none⟩) 2 2] w3 fun e w' => ∃ v, e = .returned v ∧ Kp w3 w' ∧ OwnB w' w.heap.size v x.bytes from fun w3 A c B hk hr hr2 => by
  refine (show Calls _ _ _ _ _ from put_any A (some ⟨B, 0, none⟩) c 2 (fun _ => True) (fun _ => True) (putT x.key.data.toList ++ putT x.val.data.toList) [x.till, x.flag] w3 hr hr2 (fun n hn => by
   simp only [List.mem_cons, List.not_mem_nil, or_false] at hn
   rcases hn with rfl | rfl <;> omega) (by omega) (by simp)).mono ?_
  rintro e w' ⟨v, rfl, ho, hk'⟩
  have e : putT x.key.data.toList ++ putT x.val.data.toList ++ putsZ [x.till, x.flag] = x.bytes := by simp [putsZ, It.bytes]
  rw [e] at ho
  exact ⟨v, rfl, hk', ownsRow_le ho hk.size⟩)
 generalize hL1 : putT x.key.data.toList ++ putT x.val.data.toList = l1 at HPT HPN hl1
 generalize hL2 : x.bytes = l2 at HPN ⊢
 clear hL1 hL2
 obtain ⟨w0, hw0⟩ : ∃ w0, w.alloc (.cells #[.string x.key, .string x.val, .int .i64 x.till, .bool x.gone] 40) = w0 := ⟨_, rfl⟩
 rw [hw0] at hk0 b0 hlt
 have HW0 := Lib.hid hw0
 have HK0 := Lib.hid hk0
 have HB0 := Lib.hid b0
 have HFL := Lib.hid hfl
 have c3 := (cell_of_block b0 3).trans rfl
 have HM := Lib.hid hm
 clear hm hw0 hk0 hfl b0
 rcases hgo with ⟨hg, hf⟩ | ⟨hg, hf⟩
 all_goals
  rw [hg] at c3
  have HG := Lib.hid hg
  have HF := Lib.hid hf
  clear hg hf
  go_enter Tryz.func74, Tryz.ntmps74
  go_wp2_with (rw [HW0.out])
  try rw [HW0.out]
  refine wp_region_guard (R := Kp) (V := VI w.heap.size w.heap.size x l1 l2) (w0 := w0) GN (by kernel_rfl) (fun w => Keeps.refl _ w) (fun _ _ _ h k => h.trans k) (fun i w w' v h hv => VI_keep i w w' v h hv) (by kernel_rfl) GN_is (fun i o ho hw => (all_wanted (by kernel_rfl) ho hw).elim) ((Keeps.refl _ w0).drew) (each_of ?_) ?_
  ·refine ⟨?_, ?_, ?_, ?_, ?_, ?_, ?_, ?_, ?_, ?_, ?_, ?_, trivial⟩ <;> intro hw a1 w3 L
   ·exact kp_fI 0 (by decide) rfl (L.old 1 (by kernel_rfl))
   ·have hb := (L.rel.block w.heap.size trivial hlt).trans HB0.out
    exact kp_lS ((cell_of_block hb 0).trans rfl) rfl (L.val 0 6 (by kernel_rfl) (by kernel_rfl))
   ·exact kp_fI 1 (by decide) rfl (L.old 1 (by kernel_rfl))
   ·have hb := (L.rel.block w.heap.size trivial hlt).trans HB0.out
    exact kp_lS ((cell_of_block hb 1).trans rfl) rfl (L.val 2 8 (by kernel_rfl) (by kernel_rfl))
   ·exact kp_twoS rfl (L.val 1 7 (by kernel_rfl) (by kernel_rfl)) (L.val 3 9 (by kernel_rfl) (by kernel_rfl))
   ·obtain ⟨B, e0, hr⟩ := (show PairV (.string x.key) (.string x.val) w3 (a1.eval (.tmp 10)) from L.val 4 10 (by kernel_rfl) (by kernel_rfl))
    have hf : a1.eval (.func 104) = .func (.func 104) #[] #[] := rfl
    have hn : a1.eval (.const (.slice none 0 0)) = .slice none 0 0 := rfl
    refine kp_enter (f := 104) (args := #[.slice none 0 0, .slice (some ⟨B, 0, none⟩) 2 2]) ?_ (HPT.out w3 B (HK0.out.trans L.rel) hr) ?_
    ·clear L
     generalize a1.eval = ρ at e0 hf hn ⊢
     unfold execOp
     go_simp
    ·rintro e w' ⟨v, rfl, hk, hv⟩
     exact ⟨v, rfl, hk, hv⟩
   ·exact kp_fI 2 (by decide) rfl (L.old 1 (by kernel_rfl))
   ·have hb := (L.rel.block w.heap.size trivial hlt).trans HB0.out
    exact kp_lN ((cell_of_block hb 2).trans rfl) rfl (L.val 6 12 (by kernel_rfl) (by kernel_rfl))
   ·exact kp_move (v := .int .i64 x.flag) rfl (by rw [HF.out]; exact L.old 3 (by kernel_rfl))
   ·exact kp_twoI rfl (L.val 7 13 (by kernel_rfl) (by kernel_rfl)) (L.val 8 14 (by kernel_rfl) (by kernel_rfl))
   ·obtain ⟨A, c, e0, hr⟩ := (show MadeB l1 w3 (a1.eval (.tmp 11)) from L.val 5 11 (by kernel_rfl) (by kernel_rfl))
    obtain ⟨B, e1, hr2⟩ := (show PairV (.int .i64 x.till) (.int .i64 x.flag) w3 (a1.eval (.tmp 15)) from L.val 9 15 (by kernel_rfl) (by kernel_rfl))
    have hf : a1.eval (.func 79) = .func (.func 79) #[] #[] := rfl
    refine kp_enter (f := 79) (args := #[.slice A l1.length c, .slice (some ⟨B, 0, none⟩) 2 2]) ?_ (HPN.out w3 A c B (HK0.out.trans L.rel) hr hr2) ?_
    ·clear L
     generalize a1.eval = ρ at e0 e1 hf ⊢
     unfold execOp
     go_simp
    ·rintro e w' ⟨v, rfl, hk, hv⟩
     exact ⟨v, rfl, hk, hv⟩
   ·have h10 : OwnB w3 w.heap.size (a1.eval (.tmp 16)) l2 := L.val 10 16 (by kernel_rfl) (by kernel_rfl)
    exact kp_asO rfl h10
  ·intro vs w4 hk4 hlen4 hv
   match vs, hlen4 with
   | [v0, v1, v2, v3, v4, v5, v6, v7, v8, v9, v10, v11], _ =>
    have hv4 : OwnB w4 w.heap.size v11 l2 := hv 11 2 (by kernel_rfl)
    have HV := Lib.hid hv4
    have HK4 := Lib.hid (HK0.out.trans hk4)
    clear hv hv4 hk4
    simp only [putAll, List.map, Act.put, List.setIfInBounds_toArray, List.set_cons_succ, List.set_cons_zero, Exit.then]
    go_wp2_with fail
    go_ret
    exact ⟨_, rfl, HV.out, HK4.out⟩
end Go.Proofs.YticophaepapjoaaGreatDoor
namespace Go.Proofs.YticophaepapjoaaGreatDoor
open Go Go.RowKit
end Go.Proofs.YticophaepapjoaaGreatDoor
namespace Go.Proofs.YticophaepapjoaaGreatDoor
open Go Go.RowKit Go.Joins
theorem src_own {w : World} {base : Nat} {v : Value} {l : List UInt8} (h : OwnB w base v l) : Src Tryz.prog 1 64 v l.length (bcells l) w := by
 obtain ⟨A, c, rfl, -, hr⟩ := own_slice h
 have := hr.src (P := Tryz.prog) (c := c) Tryz.underlying64 (bcells_one l)
 rwa [bcells_len] at this
theorem take_may (l : List It) (k : Nat) (h : k < l.length) : (l.take (k + 1)).all It.may = ((l.take k).all It.may && l[k].may) := by
 rw [List.take_succ_eq_append_getElem h, List.all_append]; simp
theorem take_bytes (l : List It) (k : Nat) (h : k < l.length) : bytesOf (l.take (k + 1)) = bytesOf (l.take k) ++ l[k].bytes := by
 rw [List.take_succ_eq_append_getElem h, bytesOf_snoc]
theorem not_may {l : List It} {k : Nat} (h : k < l.length) (hm : l[k].may = false) : encs l = [] := by
 unfold encs
 rw [if_neg]
 intro ha
 have := List.all_eq_true.1 ha l[k] (List.getElem_mem h)
 rw [hm] at this; cases this
set_option maxRecDepth 100000 in
set_option maxHeartbeats 1000000 in
theorem iencode (w : World) (A : Option Addr) (cap : Nat) (l : List It) (hA : ItsAt w A (fun _ => True) l) (hl : l.length ≤ cap) (hc : cap ≤ maxLen) (hn : l.length ≤ 1000) (hf : ∀ x ∈ l, x.fits) :
  Calls Tryz.prog 45 #[.slice A l.length cap] w fun e w' => ∃ B k, e = .returned (.slice B (encs l).length k) ∧ (encs l).length ≤ k ∧ k ≤ maxLen ∧
   Row w' B (fun b => w.heap.size ≤ b ∧ b < w'.heap.size) (bcells (encs l)) ∧ Keeps (fun _ => True) w w' := by
 have hc' := hc
 unfold maxLen at hc'
 have HFIN := Lib.hid (show ∀ (v : Value) (wr : World), OwnB wr w.heap.size v (encs l) → Keeps (fun _ => True) w wr →
   ∃ B k, Ending.returned v = .returned (.slice B (encs l).length k) ∧ (encs l).length ≤ k ∧ k ≤ maxLen ∧ Row wr B (fun b => w.heap.size ≤ b ∧ b < wr.heap.size) (bcells (encs l)) ∧ Keeps (fun _ => True) w wr from fun v wr ho hkp => by
  have h2 := ho.2
  obtain ⟨B, k, rfl, -, hr⟩ := own_slice ho
  refine ⟨B, k, rfl, ?_, ?_, hr, hkp⟩
  ·rcases h2 with ⟨e, h0⟩ | ⟨g, c, cur, e, -, -, h1, h2, -⟩
   ·omega
   ·injection e with _ _ e; omega
  ·rcases h2 with ⟨e, h0⟩ | ⟨g, c, cur, e, -, -, h1, h2, -⟩
   ·injection e with _ _ e; subst e; decide
   ·injection e with _ _ e; omega)
 have HA := Lib.hid hA
 have HF := Lib.hid hf
 clear hA hf hc
 go_enter Tryz.func45, Tryz.ntmps45
 go_wp2
 go_loopw [3, 8] (fun v i wr => ∃ k : Nat, k ≤ l.length ∧ i = .int .i64 k ∧ (l.take k).all It.may = true ∧ OwnB wr w.heap.size v (bytesOf (l.take k)) ∧ Keeps (fun _ => True) w wr) (fun _ i _ => l.length - (intOf i).toNat)
 case atStart => exact ⟨0, Nat.zero_le _, rfl, rfl, World.ownsRow_nil _ _ _ _, Keeps.refl _ _⟩
 case round =>
  obtain ⟨k, hk, rfl, hall, hown, hkp⟩ := hrel
  have hwz := hkp.size
  have hblen := bytesOf_len hall
  rw [List.length_take, Nat.min_eq_left hk] at hblen
  have HW := Lib.hid hown
  have HK := Lib.hid hkp
  have HALL := Lib.hid hall
  clear hown hkp hall
  by_cases hlt : k < l.length
  ·have t1 : decide ((k : Int) < (l.length : Int)) = true := by simp; omega
   obtain ⟨b, o, rfl, hb, d0, d1, d2, d3⟩ := HA.out k hlt
   have hfx := HF.out _ (List.getElem_mem hlt)
   have HN := Lib.hid (take_bytes l k hlt)
   have HT := Lib.hid (take_may l k hlt)
   have HNO := Lib.hid (not_may hlt)
   generalize l[k] = x at d0 d1 d2 d3 hfx HN HT HNO
   have HC := Lib.hid (show ∀ W, Keeps (fun _ => True) w W → W.cell? ⟨b, o + k * 4, none⟩ = some (.string x.key) ∧ W.cell? ⟨b, o + k * 4 + 1, none⟩ = some (.string x.val) ∧ W.cell? ⟨b, o + k * 4 + 2, none⟩ = some (.int .i64 x.till) ∧ W.cell? ⟨b, o + k * 4 + 3, none⟩ = some (.bool x.gone) from
    fun W h => ⟨h.cell d0 trivial, h.cell d1 trivial, h.cell d2 trivial, h.cell d3 trivial⟩)
   clear d0 d1 d2 d3
   obtain ⟨c0, c1, c2, c3⟩ := HC.out wr HK.out
   have RM := Lib.hid (fun W => imay W x hfx)
   have REN := Lib.hid (fun W h => iencode1 W x h)
   clear hfx
   go_wp2_with fail
   refine (RM.out _).mono ?_
   rintro e w1 ⟨rfl, hk1⟩
   have hx := hk1.block wr.heap.size trivial (by simp)
   have hx2 := hx.trans (heap_alloc_new wr (.cells #[.string x.key, .string x.val, .int .i64 x.till, .bool x.gone] 40))
   have HK1 := Lib.hid ((HK.out.alloc (.cells #[.string x.key, .string x.val, .int .i64 x.till, .bool x.gone] 40)).trans hk1)
   have HW1 := Lib.hid (((Keeps.refl (fun _ => True) wr).alloc _).trans hk1 |>.own HW.out fun _ _ => trivial)
   have e0 := (cell_of_block hx2 0).trans rfl
   have e1 := (cell_of_block hx2 1).trans rfl
   have e2 := (cell_of_block hx2 2).trans rfl
   have e3 := (cell_of_block hx2 3).trans rfl
   clear hk1 hx hx2 c0 c1 c2 c3 RM
   rcases hm : x.may with _ | _
   ·have HM := Lib.hid hm
    clear hm
    go_wp2_with fail
    go_ret
    exact HFIN.out _ _ (by rw [HNO.out HM.out]; exact World.ownsRow_nil _ _ _ _) HK1.out
   ·have hmb := It.bytes_len hm
    have HM := Lib.hid hm
    clear hm
    go_wp2_with fail
    refine (REN.out _ HM.out).mono ?_
    rintro e w2 ⟨v2, rfl, ho2, hk2⟩
    have HSRC := Lib.hid (src_own ho2)
    have HW2 := Lib.hid (hk2.own HW1.out fun _ _ => trivial)
    have HK2 := Lib.hid (HK1.out.trans hk2)
    have hz2 := HK2.out.size
    clear ho2 hk2 HW1 HK1 e0 e1 e2 e3 REN
    go_wp2_with (at_builtin; refine byte_elem.list_append rfl (.tmp 15) (.tmp 17) _ rfl rfl HW2.out rfl HSRC.out ?c3 ?c4 ?c5 ?_)
    case c3 => unfold maxLen; omega
    case c4 => omega
    case c5 => omega
    intro v3 w3 ho3 hg3 hb3
    have ho4 := OwnB.snoc ho3 (by rw [List.length_append]) rfl
    rw [← HN.out] at ho4
    have H1 := Lib.hid ho4
    have H2 := Lib.hid (HK2.out.grown hg3 fun j hj => (HW2.out.lt j hj).1)
    have H3 := Lib.hid (show (l.take (k + 1)).all It.may = true from by rw [HT.out, HALL.out, HM.out]; rfl)
    clear ho3 hg3 hb3 ho4 HW2 HK2 HSRC
    go_wp2_with fail
    go_roundw
    case rel => exact ⟨k + 1, by omega, by go_num, H3.out, H1.out, H2.out⟩
    case measure => simp [intOf]; omega
  ·have t1 : decide ((k : Int) < (l.length : Int)) = false := by simp; omega
   obtain rfl : k = l.length := by omega
   have he : OwnB wr w.heap.size u3 (encs l) := by
    have h1 := HALL.out
    have h2 := HW.out
    rw [List.take_of_length_le (Nat.le_refl _)] at h1 h2
    rw [encs_may h1]; exact h2
   have HE := Lib.hid he
   clear he
   go_wp2_with fail
   go_ret
   exact HFIN.out _ _ HE.out HK.out
theorem getT_ok {l s : List UInt8} {k : Nat} (h : getT l = (s, k, 0)) : l = putT s ++ l.drop k ∧ k = (putT s).length ∧ s.length ≤ 65536 ∧ k ≤ l.length ∧ 0 < k := by
 rcases getZ_cases l with ⟨n, k', hg, hk0, hk10, hkl, hn1, hn2⟩ | hg | hg
 ·obtain ⟨r, hr, hk, -, -⟩ := getZ_ok l n k' hg
  by_cases hf : n < 0 ∨ 65536 < n
  ·rw [getT_form hg hf] at h; cases h
  ·by_cases hm : (l.length : Int) < k' + n
   ·rw [getT_more hg hf hm] at h; cases h
   ·rw [getT_got hg hf hm] at h
    injection h with h1 h2
    injection h2 with h2 _
    obtain ⟨m, rfl⟩ := Int.eq_ofNat_of_zero_le (show 0 ≤ n by omega)
    rw [Int.toNat_natCast] at h1 h2
    have hd : l.drop k' = r := by rw [hr, hk]; exact List.drop_left
    have hlen : l.length = k' + r.length := by
     conv => lhs; rw [hr]
     rw [List.length_append, hk]
    have hsl : s.length = m := by rw [← h1, List.length_take, hd]; omega
    have hp : putT s = putZ (m : Int) ++ s := by unfold putT; rw [hsl]
    refine ⟨?_, ?_, by omega, by omega, by omega⟩
    ·rw [hp, ← h2, ← h1, hd, ← List.drop_drop, hd, List.append_assoc, List.take_append_drop]
     exact hr
    ·rw [hp, List.length_append, hsl, ← hk, h2]
 ·rw [getT_err hg (by decide)] at h; cases h
 ·rw [getT_err hg (by decide)] at h; cases h
theorem allZ2_ok {l : List UInt8} {xs : List Int} {k : Nat} (h : allZ 2 l = (xs, k, 0)) : ∃ t g r, xs = [t, g] ∧ l = putZ t ++ (putZ g ++ r) ∧ k = (putZ t).length + (putZ g).length ∧ -9223372036854775808 ≤ t ∧ t < 9223372036854775808 ∧ -9223372036854775808 ≤ g ∧ g < 9223372036854775808 := by
 rcases getZ_cases l with ⟨t, k1, hg, hk0, hk10, hkl, hn1, hn2⟩ | hg | hg
 ·obtain ⟨r, hr, hk, -, -⟩ := getZ_ok l t k1 hg
  rw [allZ_ok hg] at h
  have hd : l.drop k1 = r := by rw [hr, hk]; exact List.drop_left
  rw [hd] at h
  rcases getZ_cases r with ⟨g, k2, hg2, -, -, -, hm1, hm2⟩ | hg2 | hg2
  ·obtain ⟨r2, hr2, hk2, -, -⟩ := getZ_ok r g k2 hg2
   rw [allZ_ok hg2] at h
   simp only [allZ] at h
   injection h with h1 h2
   injection h2 with h2 _
   exact ⟨t, g, r2, h1.symm, by rw [← hr2]; exact hr, by rw [← h2, ← hk, ← hk2]; omega, hn1, hn2, hm1, hm2⟩
  ·rw [allZ_err hg2 (by decide)] at h; cases h
  ·rw [allZ_err hg2 (by decide)] at h; cases h
 ·rw [allZ_err hg (by decide)] at h; cases h
 ·rw [allZ_err hg (by decide)] at h; cases h
theorem dec_of {x : It} {b r : List UInt8} (hx : x.may = true) (hb : b = x.bytes ++ r) :
  getT b = (x.key.data.toList, (putT x.key.data.toList).length, 0) ∧ getT (b.drop (putT x.key.data.toList).length) = (x.val.data.toList, (putT x.val.data.toList).length, 0) ∧
  ∃ k, allZ 2 (b.drop ((putT x.key.data.toList).length + (putT x.val.data.toList).length)) = ([x.till, x.flag], k, 0) := by
 have m := It.may_is hx
 have f := x.flag_bd
 have kx : x.key.data.toList.length = x.key.size := by simp
 have vx : x.val.data.toList.length = x.val.size := by simp
 have e : b = putT x.key.data.toList ++ (putT x.val.data.toList ++ (putZ x.till ++ (putZ x.flag ++ r))) := by rw [hb]; unfold It.bytes; simp only [List.append_assoc]
 have e2 : b.drop (putT x.key.data.toList).length = putT x.val.data.toList ++ (putZ x.till ++ (putZ x.flag ++ r)) := by rw [e]; exact List.drop_left
 have e3 : b.drop ((putT x.key.data.toList).length + (putT x.val.data.toList).length) = putZ x.till ++ (putZ x.flag ++ r) := by rw [← List.drop_drop, e2]; exact List.drop_left
 refine ⟨by rw [e]; exact getT_put _ _ (by omega), by rw [e2]; exact getT_put _ _ (by omega), ?_⟩
 rw [e3]
 have := allZ_puts [x.till, x.flag] r (fun n hn => by
  simp only [List.mem_cons, List.not_mem_nil, or_false] at hn
  rcases hn with rfl | rfl <;> omega)
 simp only [List.flatMap_cons, List.flatMap_nil, List.append_nil, List.append_assoc, List.length_cons, List.length_nil, Nat.zero_add, Nat.reduceAdd] at this
 exact ⟨_, this⟩
theorem dec_is {b s1 s2 : List UInt8} {k1 k2 k3 : Nat} {t g : Int} (h1 : getT b = (s1, k1, 0)) (h2 : getT (b.drop k1) = (s2, k2, 0)) (h3 : allZ 2 (b.drop (k1 + k2)) = ([t, g], k3, 0)) (hg : g = 0 ∨ g = 1) (gone : Bool) (hgo : gone = decide (g = 1)) :
  ∃ r, b = (⟨txt s1, txt s2, t, gone⟩ : It).bytes ++ r ∧ (⟨txt s1, txt s2, t, gone⟩ : It).bytes.length = k1 + k2 + k3 := by
 obtain ⟨e1, l1, -, -, -⟩ := getT_ok h1
 obtain ⟨e2, l2, -, -, -⟩ := getT_ok h2
 obtain ⟨t', g', r, e3, e4, l3, -, -, -, -⟩ := allZ2_ok h3
 injection e3 with e3 e5
 injection e5 with e5 _
 subst e3 e5
 have hfl : (⟨txt s1, txt s2, t, gone⟩ : It).flag = g := by
  unfold It.flag
  rcases hg with rfl | rfl <;> subst hgo <;> rfl
 refine ⟨r, ?_, ?_⟩
 ·unfold It.bytes
  rw [hfl]
  simp only [txt_list, List.append_assoc]
  rw [← e4, ← List.drop_drop, ← e2]
  exact e1
 ·unfold It.bytes
  rw [hfl]
  simp only [txt_list, List.length_append]
  omega
theorem all_two (W : World) (A : Option Addr) (m c q B : Nat) (l : List UInt8) (hr : Row W A (fun b => b ≠ q ∧ b ≠ q + 1) (bcells l)) (hB : Row W (some ⟨B, 0, none⟩) (fun b => b ≠ q ∧ b ≠ q + 1) [.pointer (some ⟨q, 0, none⟩), .pointer (some ⟨q + 1, 0, none⟩)])
  (h1 : Place W ⟨q, 0, none⟩) (h2 : Place W ⟨q + 1, 0, none⟩) (hm : m = l.length) (hl : l.length ≤ 1000000) (hc : l.length ≤ c) :
  Calls Tryz.prog 117 #[.slice A m c, .slice (some ⟨B, 0, none⟩) 2 2] W fun e w' => Keeps (fun b => b ≠ q ∧ b ≠ q + 1) W w' ∧
   ((∃ (er : Nat) (xs : List Int) (k : Nat), er ≠ 0 ∧ er ≤ 2 ∧ allZ 2 l = (xs, k, er) ∧ e = .returned (.tuple #[.int .i64 0, .int .i64 (er : Int)])) ∨
    (∃ (t g : Int) (k : Nat), allZ 2 l = ([t, g], k, 0) ∧ e = .returned (.tuple #[.int .i64 (k : Int), .int .i64 0]) ∧ w'.cell? ⟨q, 0, none⟩ = some (.int .i64 t) ∧ w'.cell? ⟨q + 1, 0, none⟩ = some (.int .i64 g))) := by
 subst hm
 refine (show Calls _ _ _ _ _ from all_any A (some ⟨B, 0, none⟩) c 2 (fun b => b ≠ q ∧ b ≠ q + 1) l [some ⟨q, 0, none⟩, some ⟨q + 1, 0, none⟩] W hr hB (fun a ha => by
  simp only [List.mem_cons, Option.some.injEq, List.not_mem_nil, or_false] at ha
  rcases ha with rfl | rfl
  ·exact ⟨h1, fun h => h.1 rfl⟩
  ·exact ⟨h2, fun h => h.2 rfl⟩) (by omega) hc (by simp)).mono ?_
 rintro e w' ⟨rfl, rfl⟩
 have hst : Keeps (fun b => b ≠ q ∧ b ≠ q + 1) W (stores W [some ⟨q, 0, none⟩, some ⟨q + 1, 0, none⟩] (allZ [some (⟨q, 0, none⟩ : Addr), some ⟨q + 1, 0, none⟩].length l).1) := stores_keeps _ _ _ W W (fun a ha => by
  simp only [List.mem_cons, Option.some.injEq, List.not_mem_nil, or_false] at ha
  rcases ha with rfl | rfl
  ·exact fun h => h.1 rfl
  ·exact fun h => h.2 rfl) (Keeps.refl _ W)
 refine ⟨hst, ?_⟩
 clear hst
 rw [show [some (⟨q, 0, none⟩ : Addr), some ⟨q + 1, 0, none⟩].length = 2 from rfl]
 obtain ⟨xs, k, er, hz⟩ : ∃ xs k er, allZ 2 l = (xs, k, er) := ⟨_, _, _, rfl⟩
 rw [hz]
 by_cases h0 : er = 0
 ·subst h0
  obtain ⟨t, g, r, rfl, -⟩ := allZ2_ok hz
  refine .inr ⟨t, g, k, rfl, by simp, ?_, ?_⟩
  ·obtain ⟨⟨u, hu⟩, -⟩ := h1
   have hne : (⟨q + 1, 0, none⟩ : Addr) ≠ ⟨q, 0, none⟩ := fun e => by injection e with e; omega
   show ((W.setCell ⟨q, 0, none⟩ (.int .i64 t)).setCell ⟨q + 1, 0, none⟩ (.int .i64 g)).cell? _ = _
   rw [World.cell?_setCell_other _ _ _ _ hne]
   exact World.cell?_setCell_same W _ _ hu
  ·obtain ⟨⟨u, hu⟩, -⟩ := h2.setCell (b := ⟨q, 0, none⟩) (v := .int .i64 t)
   exact World.cell?_setCell_same _ _ _ hu
 ·refine .inl ⟨er, xs, k, h0, ?_, rfl, by simp [h0]⟩
  have : ∀ n (l : List UInt8), (allZ n l).2.2 ≤ 2 := fun n => by
   induction n with
   | zero => intro l; simp [allZ]
   | succ n ih =>
    intro l
    rcases getZ_cases l with ⟨t, k1, hg, -⟩ | hg | hg
    ·rw [allZ_ok hg]; exact ih _
    ·rw [allZ_err hg (by decide)]; decide
    ·rw [allZ_err hg (by decide)]; decide
  have h3 := this 2 l
  rw [hz] at h3
  exact h3
end Go.Proofs.YticophaepapjoaaGreatDoor
