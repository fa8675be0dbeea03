/-
  FlFlush, FlWipe, FlPut, FlDrop, FlFind, FlGet, FlKeys, Math, Mix, Of: texts of mine, joined.
-/
import Derived.Test.YticophaepapjoaaGreatDoorAllA10
import Derived.Lib.SlBytesConst
import Derived.Deep.RegionWith
import Derived.Test.YticophaepapjoaaGreatDoorRows
import Derived.WalkKit
import Derived.Laws.Bits64
import Derived.Lib.Hide
namespace Go.Proofs.YticophaepapjoaaGreatDoor
open Go Go.RowKit Go.Joins
def aged (st : FSt) (a : Nat) : FSt := ⟨st.place, st.segs, st.ents, st.gone, a⟩
theorem FM.aged {st : FSt} {lst : LSt} {hs : List FRec} (h : FM st lst hs) {a : Nat} (ha : st.age ≤ a) (ho : a ≤ 30000) : FM (aged st a) lst hs :=
 ⟨h.key, h.may, h.cut, h.place, h.segs, Nat.le_trans h.age ha, by have h1 := h.next; show lst.next ≤ 1048576 * a; omega, ho⟩
def FlushPost (S : Slog2) (I : IndexOK) (w : World) (p q : Nat) (F Fs : Foot) (s : SDev) (st : FSt) (e : Ending) (w' : World) : Prop :=
 e = .returned (.int .i64 0) ∧ ∃ (F' Fs' : Foot) (rows : List (List UInt8)) (k : Nat), DAt w' p F' (SDev.still rows k) ∧ (∀ a, st.age ≤ a → a ≤ 30000 → flashRep S I w' p q Fs' (aged st a) (SDev.still rows k) ∧ flashDisk S (aged st a) rows) ∧ FGo w w' F F' Fs Fs' s (SDev.still rows k) st 1
set_option maxRecDepth 100000 in
set_option maxHeartbeats 1000000 in
theorem cflush (S : Slog2) (I : IndexOK) (W w : World) (hT : S.T W) (p q : Nat) (F Fs : Foot) (s : SDev) (st : FSt) (hb : Cb S I W w p q F Fs s st) (hcl : s.calls ≤ 549755813888) :
  Calls Tryz.prog 20 #[.pointer (some ⟨q, 0, none⟩)] w (FlushPost S I w p q F Fs s st) := by
 obtain ⟨d, r, ap, kp, gf, gs, room⟩ := hb
 obtain ⟨lq, iq, Fl, Fi, lo, lst, ix, hs, rfl, hc, hm, hx⟩ := r
 have gl : ∀ b, Fl.all b → W.heap.size ≤ b := fun b hb => gs b (cfoot_all.2 (.inr (.inl hb)))
 have c0 := hc.blk.c0
 have HDN := Lib.hid (cdown w q lq c0)
 have HFL := Lib.hid (S.flush W w p lq F Fl s lst d hc.l hc.on (apart_log ap) hT kp gf gl (by rw [hm.place, hm.segs]; exact room) hcl)
 have HL := Lib.hid (show ∀ (w1 : World) (F' Fl' : Foot) (rows : List (List UInt8)) (k : Nat), DAt w1 p F' (SDev.still rows k) → S.rep w1 lq Fl' lst (SDev.still rows k) → S.disk lst rows → rows.length = s.now.length → (∀ i, ¬ lst.has i → rows.getD i [] = s.now.getD i []) → k ≤ s.calls + 1000 → Apart F' Fl' → Keeps (fun b => ¬ F.M b ∧ ¬ Fl.M b) w w1 →
   (∀ b, F'.M b → F.M b ∨ w.heap.size ≤ b) → (∀ b, F'.I b → F.all b ∨ w.heap.size ≤ b) → (∀ b, Fl'.M b → Fl.M b ∨ w.heap.size ≤ b) → (∀ b, Fl'.I b → Fl.all b ∨ w.heap.size ≤ b) →
   w1.cell? ⟨q, 0, none⟩ = some (.pointer (some ⟨lq, 0, none⟩)) ∧ w1.cell? ⟨q, 2, none⟩ = some (.int .i64 lo) ∧ w1.frozen? ⟨q, 2, none⟩ = false ∧ Calls Tryz.prog 52 #[.pointer (some ⟨lq, 0, none⟩)] w1 (fun e w' => e = .returned (.int .i64 (lst.next : Int)) ∧ w' = w1) ∧ FlushPost S I w p q F (cfoot q Fl Fi) s st (.returned (.int .i64 0)) (w1.setCell ⟨q, 2, none⟩ (.int .i64 (lst.next : Int))) from by
  intro w1 F' Fl' rows k hd' hrep' hdk hlen hout hcalls hap' hk' f1 f2 f3 f4
  have hmid := Mid.of hc d ap hd' hrep' hc.on hap' hk' f1 f2 f3 f4
  refine ⟨hmid.c.blk.c0, hmid.c.blk.c2, hmid.c.blk.f 2, S.next2 _ _ _ _ _ hrep', ?_⟩
  have hk1 : Keeps (fun b => b ≠ q) w1 (w1.setCell ⟨q, 2, none⟩ (.int .i64 (lst.next : Int))) := (Keeps.refl _ w1).setCell (.inr fun e => e rfl) _
  have hc2 : CAt S I (w1.setCell ⟨q, 2, none⟩ (.int .i64 (lst.next : Int))) p q lq iq Fl' Fi (lst.next : Int) lst ix (SDev.still rows k) :=
   ⟨hmid.c.blk.set2 _, S.keep hmid.c.l (hk1.mono fun b _ hb e => hmid.c.ql (e ▸ hb)), I.keep hmid.c.i (hk1.mono fun b _ hb e => hmid.c.qi (e ▸ hb)), hmid.c.on, hmid.c.ap, hmid.c.ql, hmid.c.qi⟩
  obtain ⟨hD, hG⟩ := hmid.go hc d ap hc2 ⟨hk1.mono fun b _ hb => hb.1, fun b hb => .inl hb, fun b hb => .inl (.inr hb)⟩ (st := st) (n := 1) hlen (fun i hi => hout i fun hh => hi ((hm.has i).1 hh)) hcalls
  exact ⟨rfl, F', _, rows, k, hD, fun a ha ho => ⟨⟨lq, iq, Fl', Fi, _, lst, ix, hs, rfl, hc2, hm.aged ha ho, hx.more ha⟩, ⟨lst, hs, hdk, hm.aged ha ho⟩⟩, hG⟩)
 clear hc hm hx d ap gf gs gl room kp hcl
 generalize lst.next = nx at HL
 go_enter Tryz.func20, Tryz.ntmps20
 go_wp2_with fail
 refine (show Calls _ _ _ _ _ from HDN.out).mono ?_
 rintro e w' ⟨rfl, rfl⟩
 go_wp2_with fail
 refine (show Calls _ _ _ _ _ from HFL.out).mono ?_
 rintro e w1 ⟨rfl, F', Fl', rows, k, hd', hrep', hdk, hlen, hout, hcalls, hap', hk', f1, f2, f3, f4⟩
 obtain ⟨x0, x2, xf, hnext, hpost⟩ := HL.out w1 F' Fl' rows k hd' hrep' hdk hlen hout hcalls hap' hk' f1 f2 f3 f4
 have HN := Lib.hid hnext
 have HP := Lib.hid hpost
 clear hnext hpost hd' hrep' hdk hlen hout hcalls hap' hk' f1 f2 f3 f4 c0
 go_wp2_with fail
 refine (show Calls _ _ _ _ _ from HN.out).mono ?_
 rintro e w2 ⟨rfl, rfl⟩
 go_wp2_with fail
 go_ret
 exact HP.out
theorem Cb.next {S : Slog2} {I : IndexOK} {W w w' : World} {p q : Nat} {F F' Fs Fs' : Foot} {s s' : SDev} {st : FSt} {y : Option It} {g n : Nat} (h : Cb S I W w p q F Fs s st) (hd : DAt w' p F' s') (hr : flashRep S I w' p q Fs' (nextF st y g) s') (hgo : FGo w w' F F' Fs Fs' s s' st n) : Cb S I W w' p q F' Fs' s' (nextF st y g) :=
 h.moved hd hr (by cases y <;> rfl) (by cases y <;> rfl) hgo
theorem FGo.more {w w' : World} {F F' Fs Fs' : Foot} {s s' : SDev} {st : FSt} {n m : Nat} (h : FGo w w' F F' Fs Fs' s s' st n) (hm : n ≤ m) : FGo w w' F F' Fs Fs' s s' st m :=
 ⟨h.ap, h.k, h.f1, h.f2, h.f3, h.f4, h.len, h.out, by have := h.calls; omega⟩
theorem cadd2 (S : Slog2) (I : IndexOK) (J : ItemOK) (W w : World) (hT : S.T W ∧ I.T W ∧ J.T W) (p q : Nat) (F Fs : Foot) (s : SDev) (st : FSt) (hb : Cb S I W w p q F Fs s st) (hage : st.age ≤ 25000) (hcl : s.calls ≤ 549755813888) (y : Option It) (hy : ∀ x, y = some x → x.may = true) (w1 : World) (hk : Kp w w1)
  (A : Option Addr) (n c : Nat) (hrow : Row w1 A (fun b => w.heap.size ≤ b) (bcells (bodyO y))) (hn : n = (bodyO y).length) (hlc : n ≤ c) (hcm : c ≤ maxLen) :
  Calls Tryz.prog 44 #[.pointer (some ⟨q, 0, none⟩), .slice A n c] w1 (AddPost S I w p q F Fs s st y) := by
 refine (cadd S I J W w1 hT p q F Fs s st (hb.keep hk) hage hcl y hy A n c (hrow.mono fun b _ hb2 => ⟨fun h => ?_, fun h => ?_⟩) hn hlc hcm).mono ?_
 ·have := hb.d.lt b h; omega
 ·have := frep_lt hb.r b h; omega
 ·rintro e w2 ⟨rfl, F', Fs', s', g, hg, hd, hr, hgo⟩
  exact ⟨rfl, F', Fs', s', g, hg, hd, hr, by simpa using (FGo.still hb hk).trans hgo fun _ => Iff.rfl⟩
def LFlushPost (S : Slog2) (I : IndexOK) (w : World) (p q : Nat) (F Fs : Foot) (s : SDev) (st : FSt) (e : Ending) (w' : World) : Prop :=
 e = .returned (.int .i64 0) ∧ ∃ (F' Fs' : Foot) (s' : SDev), DAt w' p F' s' ∧ flashRep S I w' p q Fs' st s' ∧ FGo w w' F F' Fs Fs' s s' st 1
theorem clflush (S : Slog2) (I : IndexOK) (W w : World) (hT : S.T W) (p q : Nat) (F Fs : Foot) (s : SDev) (st : FSt) (hb : Cb S I W w p q F Fs s st) (hcl : s.calls ≤ 549755813888) :
  ∃ (lq : Nat) (lo : Int), w.cell? ⟨q, 0, none⟩ = some (.pointer (some ⟨lq, 0, none⟩)) ∧ w.cell? ⟨q, 2, none⟩ = some (.int .i64 lo) ∧ Calls Tryz.prog 46 #[.pointer (some ⟨lq, 0, none⟩)] w (LFlushPost S I w p q F Fs s st) := by
 obtain ⟨d, r, ap, kp, gf, gs, room⟩ := hb
 obtain ⟨lq, iq, Fl, Fi, lo, lst, ix, hs, rfl, hc, hm, hx⟩ := r
 have gl : ∀ b, Fl.all b → W.heap.size ≤ b := fun b hb => gs b (cfoot_all.2 (.inr (.inl hb)))
 refine ⟨lq, lo, hc.blk.c0, hc.blk.c2, (S.flush W w p lq F Fl s lst d hc.l hc.on (apart_log ap) hT kp gf gl (by rw [hm.place, hm.segs]; exact room) hcl).mono ?_⟩
 rintro e w1 ⟨rfl, F', Fl', rows, k, hd', hrep', hdk, hlen, hout, hcalls, hap', hk', f1, f2, f3, f4⟩
 have hmid := Mid.of hc d ap hd' hrep' hc.on hap' hk' f1 f2 f3 f4
 obtain ⟨hD, hG⟩ := hmid.go hc d ap hmid.c ⟨Keeps.refl _ _, fun b hb => .inl hb, fun b hb => .inl (.inr hb)⟩ (st := st) (n := 1) hlen (fun i hi => hout i fun hh => hi ((hm.has i).1 hh)) hcalls
 exact ⟨rfl, F', _, _, hD, ⟨lq, iq, Fl', Fi, lo, lst, ix, hs, rfl, hmid.c, hm, hx⟩, hG⟩
def PutPost (S : Slog2) (I : IndexOK) (w : World) (p q : Nat) (F Fs : Foot) (s : SDev) (st : FSt) (x : It) (e : Ending) (w' : World) : Prop :=
 e = .returned (.int .i64 0) ∧ ∃ (F' Fs' : Foot) (s' : SDev) (g : Nat), DAt w' p F' s' ∧ flashRep S I w' p q Fs' ⟨st.place, st.segs, st.ents ++ [fput x], g, st.age + 1⟩ s' ∧ st.gone ≤ g ∧ FGo w w' F F' Fs Fs' s s' st 2
theorem cplace (S : Slog2) (I : IndexOK) {w : World} {p q : Nat} {F Fs : Foot} {s : SDev} {st : FSt} (hIT : I.T w) (r : flashRep S I w p q Fs st s) (ap : Apart F Fs) (hage : st.age ≤ 30000) (k : ByteArray) (hk : k.size ≤ 1000000) :
  ∃ (lq iq : Nat) (Fl : Foot) (lst : LSt) (hs : List FRec) (v : Int) (b : Bool), w.cell? ⟨q, 0, none⟩ = some (.pointer (some ⟨lq, 0, none⟩)) ∧ w.cell? ⟨q, 1, none⟩ = some (.pointer (some ⟨iq, 0, none⟩)) ∧ S.rep w lq Fl lst s ∧ lst.dev = p ∧ Apart F Fl ∧ lst.place = st.place ∧ lst.segs = st.segs ∧ lst.recs = (hs.drop lst.gone).map frk ∧ st.at_ k = (sp (hs.drop lst.gone) k).map (·.2) ∧ (∀ p x, (p, some x) ∈ hs → x.may = true) ∧
   v = ((sp (hs.drop lst.gone) k).map fun a => (a.1 : Int)).getD 0 ∧ b = (sp (hs.drop lst.gone) k).isSome ∧ ∀ w1, Kp w w1 → Calls Tryz.prog 43 #[.pointer (some ⟨iq, 0, none⟩), .string k] w1 fun e w' => e = .returned (.tuple #[.int .i64 v, .bool b]) ∧ Kp w1 w' := by
 obtain ⟨lq, iq, Fl, Fi, lo, lst, ix, hs, rfl, hc, hm, hx⟩ := r
 refine ⟨lq, iq, Fl, lst, hs, _, _, hc.blk.c0, hc.blk.c1, hc.l, hc.on, apart_log ap, hm.place, hm.segs, hm.recs, hm.at_ k, hm.may, rfl, rfl, fun w1 hk1 => ?_⟩
 refine (I.get w1 iq Fi ix (hc.kp hk1).i (I.tk hIT hk1) (Nat.le_trans hx.len (by omega)) k hk).mono ?_
 rintro e w2 ⟨rfl, hk2⟩
 refine ⟨?_, hk2⟩
 rw [hx.is k]
 cases sp (hs.drop lst.gone) k <;> rfl
theorem put_end (S : Slog2) (I : IndexOK) (J : ItemOK) (W w : World) (hT : S.T W) (p q : Nat) (F Fs : Foot) (s : SDev) (st : FSt) (hb : Cb S I W w p q F Fs s st) (hcl : s.calls ≤ 500000000000) (x : It) (w1 : World) (h : AddPost S I w p q F Fs s st (some x) (.returned (.int .i64 0)) w1) :
  PutPost S I w p q F Fs s st x (.returned (.int .i64 0)) w1 ∧ ∃ (lq : Nat) (lo : Int), w1.cell? ⟨q, 0, none⟩ = some (.pointer (some ⟨lq, 0, none⟩)) ∧ w1.cell? ⟨q, 2, none⟩ = some (.int .i64 lo) ∧ Calls Tryz.prog 46 #[.pointer (some ⟨lq, 0, none⟩)] w1 fun e w2 => e = .returned (.int .i64 0) ∧ PutPost S I w p q F Fs s st x (.returned (.int .i64 0)) w2 := by
 obtain ⟨-, F', Fs', s', g, hg, hd, hr, hgo⟩ := h
 have hc := hgo.calls
 obtain ⟨lq, lo, c0, c2, hfl⟩ := clflush S I W w1 hT p q F' Fs' s' _ (hb.next hd hr hgo) (by omega)
 refine ⟨⟨rfl, F', Fs', s', g, hd, hr, hg, hgo.more (by omega)⟩, lq, lo, c0, c2, hfl.mono ?_⟩
 rintro e w2 ⟨rfl, F2, Fs2, s2, hd2, hr2, hgo2⟩
 exact ⟨rfl, rfl, F2, Fs2, s2, g, hd2, hr2, hg, hgo.trans hgo2 fun i => nextF_has st (some x) g i⟩
theorem enc_one (J : ItemOK) (w : World) (hT : J.T w) (x : It) (hm : x.may = true) (b : Nat) (hA : ItsAt w (some ⟨b, 0, none⟩) (fun _ => True) [x]) :
  Calls Tryz.prog 45 #[.slice (some ⟨b, 0, none⟩) 1 1] w fun e w' => ∃ (B : Option Addr) (n k : Nat), e = .returned (.slice B n k) ∧ n = (bodyO (some x)).length ∧ n ≤ k ∧ k ≤ maxLen ∧ Row w' B (fun b => w.heap.size ≤ b) (bcells (bodyO (some x))) ∧ Kp w w' := by
 have ha : [x].all It.may = true := by simp [hm]
 have e1 : encs [x] = bodyO (some x) := by rw [encs_may ha]; simp [bytesOf, bodyO]
 refine (J.encode w (some ⟨b, 0, none⟩) 1 [x] hT hA (Nat.le_refl _) (by unfold maxLen; decide) (by show 1 ≤ 1000; decide) (fun y hy => by rw [List.mem_singleton.1 hy]; exact It.may_fits hm)).mono ?_
 rintro e w' ⟨B, k, rfl, h1, h2, h3, h4⟩
 rw [e1] at h1 h3 ⊢
 exact ⟨B, _, k, rfl, rfl, h1, h2, h3.mono fun b _ hb => hb.1, h4⟩
set_option maxRecDepth 100000 in
set_option maxHeartbeats 2000000 in
theorem cput (S : Slog2) (I : IndexOK) (J : ItemOK) (W w : World) (hT : S.T W ∧ I.T W ∧ J.T W) (p q : Nat) (F Fs : Foot) (s : SDev) (st : FSt) (hb : Cb S I W w p q F Fs s st) (hage : st.age ≤ 20000) (hcl : s.calls ≤ 500000000000) (x : It) (hm : x.may = true) (hg : x.gone = false) :
  Calls Tryz.prog 14 #[.pointer (some ⟨q, 0, none⟩), .agg #[.string x.key, .string x.val, .int .i64 x.till, .bool x.gone]] w (PutPost S I w p q F Fs s st x) := by
 obtain ⟨lq, iq, Fl, lst, hs, v, b, c0, c1, -, -, -, -, -, -, -, -, -, -, hget⟩ := cplace S I (I.tk hT.2.1 hb.kp) hb.r hb.ap (by omega) x.key (by have := It.may_is hm; omega)
 obtain ⟨w0, hw0⟩ : ∃ w0, w.alloc (.cells #[.string x.key, .string x.val, .int .i64 x.till, .bool x.gone] 40) = w0 := ⟨_, rfl⟩
 have HW0 := Lib.hid hw0
 have hb0 : w0.heap[w.heap.size]? = some (.cells #[.string x.key, .string x.val, .int .i64 x.till, .bool x.gone] 40 (0, 0)) := by rw [← hw0]; exact heap_alloc_new w _
 have hk0 : Kp w w0 := by rw [← hw0]; exact (Keeps.refl _ w).alloc _
 have r0 : w0.cell? ⟨w.heap.size, 0, none⟩ = some (.string x.key) := (cell_of_block hb0 0).trans rfl
 have r1 : w0.cell? ⟨w.heap.size, 1, none⟩ = some (.string x.val) := (cell_of_block hb0 1).trans rfl
 have r2 : w0.cell? ⟨w.heap.size, 2, none⟩ = some (.int .i64 x.till) := (cell_of_block hb0 2).trans rfl
 have r3 : w0.cell? ⟨w.heap.size, 3, none⟩ = some (.bool false) := (cell_of_block hb0 3).trans (by rw [← hg]; rfl)
 have d0 := hk0.cell c0 trivial
 have d1 := hk0.cell c1 trivial
 have HDN := Lib.hid (cdown w0 q lq d0)
 have HMY := Lib.hid (show Calls Tryz.prog 42 #[.agg #[.string x.key, .string x.val, .int .i64 x.till, .bool false]] w0 fun e w' => e = .returned (.bool true) ∧ Kp w0 w' from by
  have h := J.may w0 x (J.tk hT.2.2 (hb.kp.trans hk0)) (It.may_fits hm)
  rw [hm, hg] at h
  exact h)
 have HGT := Lib.hid hget
 have HEN := Lib.hid (show ∀ w1, Kp w w1 → ∀ b, ItsAt w1 (some ⟨b, 0, none⟩) (fun _ => True) [x] → _ from fun w1 (hk : Kp w w1) b hA => enc_one J w1 (J.tk hT.2.2 (hb.kp.trans hk)) x hm b hA)
 have HAD := Lib.hid (show ∀ w1, Kp w w1 → ∀ (A : Option Addr) (n c : Nat), Row w1 A (fun b => w.heap.size ≤ b) (bcells (bodyO (some x))) → n = (bodyO (some x)).length → n ≤ c → c ≤ maxLen → _ from cadd2 S I J W w hT p q F Fs s st hb (by omega) (by omega) (some x) (fun y h => by cases h; exact hm))
 have HPE := Lib.hid (put_end S I J W w hT.1 p q F Fs s st hb hcl x)
 have HK0 := Lib.hid hk0
 have HG := Lib.hid hg
 clear hb hage hcl hm hget hw0 hb0 hk0 c0 c1
 rw [hg]
 rw [hg] at HW0
 clear hg
 go_enter Tryz.func14, Tryz.ntmps14
 go_wp2_with (rw [HW0.out])
 try rw [HW0.out]
 refine (show Calls _ _ _ _ _ from HDN.out).mono ?_
 rintro e w' ⟨rfl, rfl⟩
 go_wp2_with fail
 refine (show Calls _ _ _ _ _ from HMY.out).mono ?_
 rintro e w1 ⟨rfl, hk1⟩
 replace r0 := hk1.cell r0 trivial
 replace r1 := hk1.cell r1 trivial
 replace r2 := hk1.cell r2 trivial
 replace r3 := hk1.cell r3 trivial
 replace d0 := hk1.cell d0 trivial
 replace d1 := hk1.cell d1 trivial
 have HK1 := Lib.hid (HK0.out.trans hk1)
 clear hk1
 go_wp2_with fail
 have hgd := HGT.out w1.drew HK1.out.drew
 go_region_with (go_at_call 43; ((with_reducible refine hgd.mono ?_); rintro e w2 ⟨rfl, hk2⟩))
 all_goals
  have hk2' := ((Keeps.refl (fun _ => True) w1).drew).trans hk2
  replace r0 := hk2'.cell r0 trivial
  replace r1 := hk2'.cell r1 trivial
  replace r2 := hk2'.cell r2 trivial
  replace r3 := hk2'.cell r3 trivial
  have HK3 := Lib.hid (HK1.out.trans hk2')
  clear hk2 hk2' HK1 d0 d1 hgd
  go_wp2_with fail
  have hit := ItsAt.fresh w2 #[.string x.key, .string x.val, .int .i64 x.till, .bool false] 40 (0, 0) w2.heap.size rfl (F := fun _ => True) trivial [x] (by simp [itCells, It.cells, HG.out])
  have hka : Kp w (w2.alloc (.cells #[.string x.key, .string x.val, .int .i64 x.till, .bool false] 40)) := HK3.out.alloc _
  refine (show Calls _ _ _ _ _ from HEN.out _ hka _ hit).mono ?_
  rintro e w3 ⟨B, n, k, rfl, hn, hnk, hkm, hrow, hk3⟩
  have HA3 := Lib.hid (HAD.out w3 (hka.trans hk3) B n k (hrow.mono fun b _ hb => Nat.le_trans hka.size hb) hn hnk hkm)
  clear hit hka hn hnk hkm hrow hk3 r0 r1 r2 r3
  go_wp2_with fail
  refine (show Calls _ _ _ _ _ from HA3.out).mono ?_
  rintro e w4 hp
  obtain ⟨hok, lq2, lo, x0, x2, hfl⟩ := HPE.out w4 ⟨rfl, hp.2⟩
  obtain rfl := hp.1
  have HOK := Lib.hid hok
  have HFL := Lib.hid hfl
  clear hok hfl hp
  cases t1 : decide (lo ≤ v)
  ·go_wp2_with fail
   go_ret
   exact HOK.out
  ·go_wp2_with fail
   refine (show Calls _ _ _ _ _ from HFL.out).mono ?_
   rintro e w5 ⟨rfl, hp⟩
   go_wp2_with fail
   go_ret
   exact hp
set_option maxRecDepth 100000 in
set_option maxHeartbeats 1000000 in
theorem cputNo (S : Slog2) (I : IndexOK) (J : ItemOK) (w : World) (hT : J.T w) (p q : Nat) (Fs : Foot) (s : SDev) (st : FSt) (hr : flashRep S I w p q Fs st s) (x : It) (hf : x.fits) (hno : x.may = false ∨ x.gone = true) :
  Calls Tryz.prog 14 #[.pointer (some ⟨q, 0, none⟩), .agg #[.string x.key, .string x.val, .int .i64 x.till, .bool x.gone]] w fun e w' => e = .returned (.int .i64 1) ∧ Kp w w' := by
 obtain ⟨lq, iq, Fl, Fi, lo, lst, ix, hs, rfl, hc, -⟩ := hr
 obtain ⟨w0, hw0⟩ : ∃ w0, w.alloc (.cells #[.string x.key, .string x.val, .int .i64 x.till, .bool x.gone] 40) = w0 := ⟨_, rfl⟩
 have HW0 := Lib.hid hw0
 have hb0 : w0.heap[w.heap.size]? = some (.cells #[.string x.key, .string x.val, .int .i64 x.till, .bool x.gone] 40 (0, 0)) := by rw [← hw0]; exact heap_alloc_new w _
 have hk0 : Kp w w0 := by rw [← hw0]; exact (Keeps.refl _ w).alloc _
 have r0 : w0.cell? ⟨w.heap.size, 0, none⟩ = some (.string x.key) := (cell_of_block hb0 0).trans rfl
 have r1 : w0.cell? ⟨w.heap.size, 1, none⟩ = some (.string x.val) := (cell_of_block hb0 1).trans rfl
 have r2 : w0.cell? ⟨w.heap.size, 2, none⟩ = some (.int .i64 x.till) := (cell_of_block hb0 2).trans rfl
 have r3 : w0.cell? ⟨w.heap.size, 3, none⟩ = some (.bool x.gone) := (cell_of_block hb0 3).trans rfl
 have d0 := hk0.cell hc.blk.c0 trivial
 have HDN := Lib.hid (cdown w0 q lq d0)
 have HMY := Lib.hid (J.may w0 x (J.tk hT hk0) hf)
 have HK0 := Lib.hid hk0
 clear hf hw0 hb0 hk0 hc
 go_enter Tryz.func14, Tryz.ntmps14
 go_wp2_with (rw [HW0.out])
 try rw [HW0.out]
 refine (show Calls _ _ _ _ _ from HDN.out).mono ?_
 rintro e w' ⟨rfl, rfl⟩
 go_wp2_with fail
 refine (show Calls _ _ _ _ _ from HMY.out).mono ?_
 rintro e w1 ⟨rfl, hk1⟩
 replace r3 := hk1.cell r3 trivial
 have HK1 := Lib.hid (HK0.out.trans hk1)
 clear hk1
 cases hm : x.may with
 | false =>
  go_wp2_with fail
  go_ret
  exact ⟨rfl, HK1.out⟩
 | true =>
  have hg : x.gone = true := by
   rcases hno with h | h
   ·rw [hm] at h; cases h
   ·exact h
  rw [hg] at r3
  go_wp2_with fail
  go_ret
  exact ⟨rfl, HK1.out⟩
def graveIt (k : ByteArray) : It := ⟨k, ⟨#[]⟩, 0, true⟩
theorem grave_may (k : ByteArray) : (graveIt k).may = true ↔ keyOk k := by
 unfold graveIt It.may keyOk
 simp
 exact ⟨fun h => h.1.1, fun h => ⟨⟨h, by show 0 ≤ 200; decide⟩, rfl⟩⟩
theorem grave_fits {k : ByteArray} (hk : k.size ≤ 1000000) : (graveIt k).fits := ⟨hk, by show 0 ≤ 1000000; decide, by show -9223372036854775808 ≤ (0 : Int); decide, by show (0 : Int) < 9223372036854775808; decide⟩
theorem may_grave (J : ItemOK) (w : World) (hT : J.T w) (k : ByteArray) (hk : k.size ≤ 1000000) (b : Bool) (hb : (graveIt k).may = b) :
  Calls Tryz.prog 42 #[.agg #[.string k, .string ⟨#[]⟩, .int .i64 0, .bool true]] w fun e w' => e = .returned (.bool b) ∧ Kp w w' := by
 have h := J.may w (graveIt k) hT (grave_fits hk)
 rw [hb] at h
 exact h
def DropAt (S : Slog2) (I : IndexOK) (W w : World) (p q : Nat) (F Fs : Foot) (s : SDev) (st : FSt) (ks : List ByteArray) (k : Nat) (w' : World) : Prop :=
 ∃ (F' Fs' : Foot) (s' : SDev) (g : Nat), Cb S I W w' p q F' Fs' s' ⟨st.place, st.segs, st.ents ++ (ks.take k).map grave, g, st.age + k⟩ ∧ st.gone ≤ g ∧ FGo w w' F F' Fs Fs' s s' st k
def DropPost (S : Slog2) (I : IndexOK) (w : World) (p q : Nat) (F Fs : Foot) (s : SDev) (st : FSt) (ks : List ByteArray) (e : Ending) (w' : World) : Prop :=
 e = .returned (.int .i64 0) ∧ ∃ (F' Fs' : Foot) (rows : List (List UInt8)) (k g : Nat), DAt w' p F' (SDev.still rows k) ∧ flashRep S I w' p q Fs' ⟨st.place, st.segs, st.ents ++ ks.map grave, g, st.age + ks.length + 1⟩ (SDev.still rows k) ∧ flashDisk S ⟨st.place, st.segs, st.ents ++ ks.map grave, g, st.age + ks.length + 1⟩ rows ∧ st.gone ≤ g ∧ FGo w w' F F' Fs Fs' s (SDev.still rows k) st (ks.length + 1)
section
variable {S : Slog2} {I : IndexOK} {W w w1 : World} {p q : Nat} {F Fs : Foot} {s : SDev} {st : FSt} {ks : List ByteArray}
theorem DropAt.start (hb : Cb S I W w p q F Fs s st) (hk : Kp w w1) : DropAt S I W w p q F Fs s st ks 0 w1 :=
 ⟨F, Fs, s, st.gone, by simpa using hb.keep hk, Nat.le_refl _, FGo.still hb hk⟩
theorem DropAt.row {k : Nat} (h : DropAt S I W w p q F Fs s st ks k w1) {A : Option Addr} {xs : List Value} (hr : Row w A (fun b => ¬ F.all b ∧ ¬ Fs.all b) xs) : Row w1 A (fun b => ¬ F.all b ∧ ¬ Fs.all b) xs := by
 obtain ⟨F', Fs', s', g, hb, hg, hgo⟩ := h
 exact hr.keep (hgo.k.mono fun b _ hb => ⟨fun hm => hb.1 (.inl hm), fun hm => hb.2 (.inl hm)⟩)
theorem DropAt.kp {k : Nat} (h : DropAt S I W w p q F Fs s st ks k w1) : Kp W w1 := by
 obtain ⟨F', Fs', s', g, hb, hg, hgo⟩ := h
 exact hb.kp
theorem DropAt.step (J : ItemOK) (hT : S.T W ∧ I.T W ∧ J.T W) {k : Nat} (h : DropAt S I W w p q F Fs s st ks k w1) (hk : k < ks.length) (hl : ks.length ≤ 1000) (hage : st.age ≤ 20000) (hcl : s.calls ≤ 500000000000) (hok : keyOk ks[k]) {w2 : World} (hk2 : Kp w1 w2)
  (A : Option Addr) (n c : Nat) (hrow : Row w2 A (fun b => w1.heap.size ≤ b) (bcells (bodyO (some (graveIt ks[k]))))) (hn : n = (bodyO (some (graveIt ks[k]))).length) (hlc : n ≤ c) (hcm : c ≤ maxLen) :
  Calls Tryz.prog 44 #[.pointer (some ⟨q, 0, none⟩), .slice A n c] w2 fun e w3 => e = .returned (.int .i64 0) ∧ DropAt S I W w p q F Fs s st ks (k + 1) w3 := by
 obtain ⟨F', Fs', s', g, hb, hg, hgo⟩ := h
 have hc := hgo.calls
 refine (cadd2 S I J W w1 hT p q F' Fs' s' _ hb (by show st.age + k ≤ 25000; omega) (by omega) (some (graveIt ks[k])) (fun x hx => by cases hx; exact (grave_may _).2 hok) w2 hk2 A n c hrow hn hlc hcm).mono ?_
 rintro e w3 ⟨rfl, F2, Fs2, s2, g2, hg2, hd2, hr2, hgo2⟩
 refine ⟨rfl, F2, Fs2, s2, g2, ?_, Nat.le_trans hg hg2, hgo.trans hgo2 fun _ => Iff.rfl⟩
 have hb2 := hb.next hd2 hr2 hgo2
 have e : nextF ⟨st.place, st.segs, st.ents ++ (ks.take k).map grave, g, st.age + k⟩ (some (graveIt ks[k])) g2 = ⟨st.place, st.segs, st.ents ++ (ks.take (k + 1)).map grave, g2, st.age + (k + 1)⟩ := by
  rw [List.take_succ_eq_append_getElem hk, List.map_append, ← List.append_assoc]
  rfl
 rw [e] at hb2
 exact hb2
theorem DropAt.done (hT : S.T W) (h : DropAt S I W w p q F Fs s st ks ks.length w1) (hl : ks.length ≤ 1000) (hage : st.age ≤ 20000) (hcl : s.calls ≤ 500000000000) :
  Calls Tryz.prog 20 #[.pointer (some ⟨q, 0, none⟩)] w1 fun e w2 => e = .returned (.int .i64 0) ∧ DropPost S I w p q F Fs s st ks (.returned (.int .i64 0)) w2 := by
 obtain ⟨F', Fs', s', g, hb, hg, hgo⟩ := h
 have hc := hgo.calls
 refine (cflush S I W w1 hT p q F' Fs' s' _ hb (by omega)).mono ?_
 rintro e w2 ⟨rfl, F2, Fs2, rows, k, hd2, hr2, hgo2⟩
 obtain ⟨h1, h2⟩ := hr2 (st.age + ks.length + 1) (Nat.le_succ _) (by omega)
 rw [List.take_length] at h1 h2 hb
 exact ⟨rfl, rfl, F2, Fs2, rows, k, g, hd2, h1, h2, hg, hgo.trans hgo2 fun _ => Iff.rfl⟩
end
set_option maxRecDepth 100000 in
set_option maxHeartbeats 2000000 in
theorem cdrop (S : Slog2) (I : IndexOK) (J : ItemOK) (W w : World) (hT : S.T W ∧ I.T W ∧ J.T W) (p q : Nat) (F Fs : Foot) (s : SDev) (st : FSt) (hb : Cb S I W w p q F Fs s st) (hage : st.age ≤ 20000) (hcl : s.calls ≤ 500000000000)
  (A : Option Addr) (c : Nat) (ks : List ByteArray) (hrow : Row w A (fun b => ¬ F.all b ∧ ¬ Fs.all b) (ks.map Value.string)) (hlc : ks.length ≤ c) (hcm : c ≤ maxLen) (hl : ks.length ≤ 1000) (hok : ∀ k ∈ ks, keyOk k) :
  Calls Tryz.prog 47 #[.pointer (some ⟨q, 0, none⟩), .slice A ks.length c] w (DropPost S I w p q F Fs s st ks) := by
 have HDN := Lib.hid (show Calls Tryz.prog 41 #[.pointer (some ⟨q, 0, none⟩)] w (fun e w' => e = .returned (.bool false) ∧ w = w') from by
  obtain ⟨lq, iq, Fl, Fi, lo, lst, ix, hs, rfl, hc, -⟩ := hb.r
  exact cdown w q lq hc.blk.c0)
 have HROW := Lib.hid hrow
 have HJ := Lib.hid (show ∀ w1, Kp w w1 → J.T w1 from fun w1 hk => J.tk hT.2.2 (hb.kp.trans hk))
 have HJW := Lib.hid hT.2.2
 have HOK := Lib.hid hok
 have HST := Lib.hid (show ∀ w1, Kp w w1 → DropAt S I W w p q F Fs s st ks 0 w1 from fun w1 hk => DropAt.start hb hk)
 have HSP := Lib.hid (show ∀ k w1, DropAt S I W w p q F Fs s st ks k w1 → ∀ (hk : k < ks.length) w2, Kp w1 w2 → ∀ (A : Option Addr) (n c : Nat), Row w2 A (fun b => w1.heap.size ≤ b) (bcells (bodyO (some (graveIt ks[k])))) → n = (bodyO (some (graveIt ks[k]))).length → n ≤ c → c ≤ maxLen → _ from fun k w1 h hk w2 hk2 A n c hr hn h1 h2 => h.step J hT hk hl hage hcl (hok _ (List.getElem_mem hk)) hk2 A n c hr hn h1 h2)
 have HFL := Lib.hid (show ∀ w1, DropAt S I W w p q F Fs s st ks ks.length w1 → _ from fun w1 h => h.done hT.1 hl hage hcl)
 have hlm : ks.length ≤ 1000 := hl
 clear hb hage hcl hrow hok hl
 unfold maxLen at hcm
 go_enter Tryz.func47, Tryz.ntmps47
 go_wp2_with fail
 refine (show Calls _ _ _ _ _ from HDN.out).mono ?_
 rintro e w' ⟨rfl, rfl⟩
 go_wp2_with fail
 go_loopw [14] (fun i wr => ∃ k, k ≤ ks.length ∧ i = .int .i64 k ∧ RowKit.Hid (Kp w wr)) (fun i _ => ks.length - (intOf i).toNat)
 case atStart => exact ⟨0, Nat.zero_le _, rfl, Lib.hid (Keeps.refl _ _)⟩
 case round =>
  obtain ⟨k, hk, rfl, hkp⟩ := hrel
  by_cases hlt : k < ks.length
  ·have t1 : decide ((k : Int) < (ks.length : Int)) = true := by simp; omega
   obtain ⟨b, o, rfl, -, hcell⟩ := (HROW.out.keep (hkp.out.mono fun _ _ _ => trivial)).at_ (k := k) (by simpa using hlt)
   rw [List.getElem_map] at hcell
   have hkok := HOK.out _ (List.getElem_mem hlt)
   have HKB := Lib.hid hkok
   have HGN := Lib.hid (cgone wr ks[k])
   have HMY := Lib.hid (show ∀ w1, Kp wr w1 → _ from fun w1 (hk1 : Kp wr w1) => may_grave J w1 (HJ.out w1 (hkp.out.trans hk1)) ks[k] (by have := hkok.2; omega) true ((grave_may _).2 hkok))
   clear hkok
   generalize ks[k] = key at hcell HGN HMY HKB
   go_wp2_with fail
   refine (show Calls _ _ _ _ _ from HGN.out).mono ?_
   rintro e w1 ⟨rfl, hk1⟩
   have HK1 := Lib.hid hk1
   clear hk1
   go_wp2_with fail
   refine (show Calls _ _ _ _ _ from HMY.out w1 HK1.out).mono ?_
   rintro e w2 ⟨rfl, hk2⟩
   have HK2 := Lib.hid (hkp.out.trans (HK1.out.trans hk2))
   clear hk2 hcell
   go_wp2_with fail
   go_roundw
   case rel => exact ⟨k + 1, by omega, by go_num, HK2⟩
   case measure => simp [intOf]; omega
  ·have t1 : decide ((k : Int) < (ks.length : Int)) = false := by simp; omega
   have t2 : decide (k < ks.length) = false := by simp; omega
   clear hlt
   have HD0 := Lib.hid (HST.out wr hkp.out)
   go_wp2_with fail
   go_loopw [25] (fun i wr => ∃ k, k ≤ ks.length ∧ i = .int .i64 k ∧ RowKit.Hid (DropAt S I W w p q F Fs s st ks k wr)) (fun i _ => ks.length - (intOf i).toNat)
   case atStart => exact ⟨0, Nat.zero_le _, rfl, HD0⟩
   case round =>
    obtain ⟨k, hk, rfl, hd⟩ := hrel
    by_cases hlt : k < ks.length
    ·have t1 : decide ((k : Int) < (ks.length : Int)) = true := by simp; omega
     obtain ⟨b, o, rfl, -, hcell⟩ := (hd.out.row HROW.out).at_ (k := k) (by simpa using hlt)
     rw [List.getElem_map] at hcell
     have hkok := HOK.out _ (List.getElem_mem hlt)
     have HGN := Lib.hid (cgone wr ks[k])
     have HEN := Lib.hid (show ∀ w1, Kp wr w1 → ∀ b, ItsAt w1 (some ⟨b, 0, none⟩) (fun _ => True) [graveIt ks[k]] → _ from fun w1 (hk1 : Kp wr w1) b hA => enc_one J w1 (J.tk HJW.out (hd.out.kp.trans hk1)) (graveIt ks[k]) ((grave_may _).2 hkok) b hA)
     have HAD := Lib.hid (HSP.out k wr hd.out hlt)
     clear hkok
     generalize ks[k] = key at hcell HGN HEN HAD
     go_wp2_with fail
     refine (show Calls _ _ _ _ _ from HGN.out).mono ?_
     rintro e w1 ⟨rfl, hk1⟩
     have hit := ItsAt.fresh w1 #[.string key, .string ⟨#[]⟩, .int .i64 0, .bool true] 40 (0, 0) w1.heap.size rfl (F := fun _ => True) trivial [graveIt key] rfl
     have hka : Kp wr (w1.alloc (.cells #[.string key, .string ⟨#[]⟩, .int .i64 0, .bool true] 40)) := hk1.alloc _
     have HIT := Lib.hid hit
     have HKA := Lib.hid hka
     clear hit hka hk1 hcell
     go_wp2_with fail
     refine (show Calls _ _ _ _ _ from HEN.out _ HKA.out _ HIT.out).mono ?_
     rintro e w3 ⟨B, n, kk, rfl, hn, hnk, hkm, hrow, hk3⟩
     have HA3 := Lib.hid (HAD.out w3 (HKA.out.trans hk3) B n kk (hrow.mono fun b _ hb => Nat.le_trans HKA.out.size hb) hn hnk hkm)
     clear hn hnk hkm hrow hk3 HKA HIT HEN HAD HGN
     go_wp2_with fail
     refine (show Calls _ _ _ _ _ from HA3.out).mono ?_
     rintro e w4 ⟨rfl, hd4⟩
     have HD4 := Lib.hid hd4
     clear hd4 HA3
     go_wp2_with fail
     go_roundw
     case rel => exact ⟨k + 1, by omega, by go_num, HD4⟩
     case measure => simp [intOf]; omega
    ·have t1 : decide ((k : Int) < (ks.length : Int)) = false := by simp; omega
     have t2 : decide (k < ks.length) = false := by simp; omega
     obtain rfl : k = ks.length := by omega
     have HF := Lib.hid (HFL.out wr hd.out)
     clear hlt
     go_wp2_with fail
     refine (show Calls _ _ _ _ _ from HF.out).mono ?_
     rintro e w2 ⟨rfl, hp⟩
     go_wp2_with fail
     go_ret
     exact hp
def findE (st : FSt) (k : ByteArray) : Ending :=
 match st.at_ k with
 | some x => .returned (.tuple #[.agg #[.string x.key, .string x.val, .int .i64 x.till, .bool x.gone], .bool true])
 | none => .returned (.tuple #[.agg #[.string ⟨#[]⟩, .string ⟨#[]⟩, .int .i64 0, .bool false], .bool false])
set_option maxRecDepth 100000 in
set_option maxHeartbeats 2000000 in
theorem cfind (S : Slog2) (I : IndexOK) (J : ItemOK) (w : World) (hT : S.T w ∧ I.T w ∧ J.T w) (p q : Nat) (F Fs : Foot) (s : SDev) (st : FSt) (hd : DAt w p F s) (hr : flashRep S I w p q Fs st s) (ha : Apart F Fs) (hroom : st.place + 8 * st.segs ≤ s.now.length) (hage : st.age ≤ 30000) (k : ByteArray) (hk : k.size ≤ 1000000) :
  Calls Tryz.prog 57 #[.pointer (some ⟨q, 0, none⟩), .string k] w fun e w' => e = findE st k ∧ Kp w w' := by
 obtain ⟨lq, iq, Fl, lst, hs, v, b, c0, c1, hl, hon, hal, hpl, hsg, hrecs, hat, hmay, hv, hbb, hget⟩ := cplace S I hT.2.1 hr ha hage k hk
 obtain ⟨w0, hw0⟩ : ∃ w0, w.alloc (.cells itZ 40) = w0 := ⟨_, rfl⟩
 have HW0 := Lib.hid (show w.alloc (.cells #[.string ⟨#[]⟩, .string ⟨#[]⟩, .int .i64 0, .bool false] 40) = w0 from hw0)
 have hb0 : w0.heap[w.heap.size]? = some (.cells itZ 40 (0, 0)) := by rw [← hw0]; exact heap_alloc_new w _
 have hk0 : Kp w w0 := by rw [← hw0]; exact (Keeps.refl _ w).alloc _
 have hz0 : w.heap.size < w0.heap.size := by rw [← hw0]; simp
 have HB0 := Lib.hid hb0
 have HK0 := Lib.hid hk0
 have HZ0 := Lib.hid hz0
 have d0 := hk0.cell c0 trivial
 have d1 := hk0.cell c1 trivial
 have HDN := Lib.hid (cdown w0 q lq d0)
 have HGT := Lib.hid (hget w0 hk0)
 cases hsp : sp (hs.drop lst.gone) k with
 | none =>
  have he : findE st k = .returned (.tuple #[.agg #[.string ⟨#[]⟩, .string ⟨#[]⟩, .int .i64 0, .bool false], .bool false]) := by
   unfold findE
   rw [hat, hsp]
   rfl
  have hb2 : b = false := by rw [hbb, hsp]; rfl
  subst hb2
  rw [he]
  clear hat hsp hbb hv hrecs hmay hl hon hal hpl hsg hget hd hr ha hroom hk0 hb0 hz0 hw0 he
  go_enter Tryz.func57, Tryz.ntmps57
  go_wp2_with (rw [HW0.out])
  try rw [HW0.out]
  refine (show Calls _ _ _ _ _ from HDN.out).mono ?_
  rintro e w' ⟨rfl, rfl⟩
  go_wp2_with fail
  refine (show Calls _ _ _ _ _ from HGT.out).mono ?_
  rintro e w1 ⟨rfl, hk1⟩
  have hb1 := (hk1.block w.heap.size trivial HZ0.out).trans HB0.out
  have HRES := res4 w w1 hb1 (HK0.out.trans hk1)
  obtain ⟨f0, f1, f2, f3, r0, r1, r2, r3⟩ := res4u w w1 hb1
  clear hb1 hk1
  obtain ⟨e0, e1, e2, e3, HK⟩ := HRES.out (.string ⟨#[]⟩) (.string ⟨#[]⟩) (.int .i64 0) (.bool false)
  have HKK := Lib.hid HK
  clear HK
  go_wp2_with fail
  exact bodyPost_ret (v := .tuple #[.agg #[.string ⟨#[]⟩, .string ⟨#[]⟩, .int .i64 0, .bool false], .bool false]) (by simp [results, Tryz.results57, go_sem, e0, e1, e2, e3]) rfl ⟨rfl, HKK.out⟩
 | some y =>
  obtain ⟨po, x⟩ := y
  obtain ⟨hmem, hkey, hgone⟩ := sp_mem hsp
  have hxm := hmay po x (List.mem_of_mem_drop hmem)
  have he : findE st k = .returned (.tuple #[.agg #[.string x.key, .string x.val, .int .i64 x.till, .bool x.gone], .bool true]) := by
   unfold findE
   rw [hat, hsp]
   rfl
  have hb2 : b = true := by rw [hbb, hsp]; rfl
  have hv2 : v = (po : Int) := by rw [hv, hsp]; rfl
  subst hb2
  subst hv2
  rw [he]
  have hrec : (po, x.bytes) ∈ lst.recs := by rw [hrecs]; exact List.mem_map.2 ⟨_, hmem, rfl⟩
  have HRD := Lib.hid (show ∀ w1, Kp w w1 → Calls Tryz.prog 85 #[.pointer (some ⟨lq, 0, none⟩), .int .i64 (po : Int)] w1 fun e w' => ∃ A n c, e = .returned (.tuple #[.slice A n c, .int .i64 0]) ∧ n = x.bytes.length ∧ n ≤ c ∧ c ≤ maxLen ∧ Row w' A (fun _ => True) (bcells x.bytes) ∧ Kp w1 w' from fun w1 hk1 => by
   refine (S.read w1 p lq F Fl s lst (hd.keep (hk1.mono fun _ _ _ => trivial)) (S.keep hl (hk1.mono fun _ _ _ => trivial)) hon hal (S.tk hT.1 hk1) (by rw [hpl, hsg]; exact hroom) po x.bytes hrec).mono ?_
   rintro e w' ⟨A, c, rfl, h1, h2, h3, -, h4⟩
   exact ⟨A, _, c, rfl, rfl, h1, h2, h3.mono fun _ _ _ => trivial, h4⟩)
  have HEN := Lib.hid (show ∀ w1, Kp w w1 → ∀ (A : Option Addr) (n c : Nat), Row w1 A (fun _ => True) (bcells x.bytes) → n = x.bytes.length → n ≤ c → c ≤ maxLen → _ from fun w1 (hk1 : Kp w w1) A n c hr hn h1 h2 => centry J w1 (J.tk hT.2.2 hk1) A n c x hxm hr hn h1 h2)
  clear hat hsp hbb hv hrecs hmay hl hon hal hpl hsg hget hd hr ha hroom hk0 hb0 hz0 hw0 he hmem hkey hxm hrec hgone
  go_enter Tryz.func57, Tryz.ntmps57
  go_wp2_with (rw [HW0.out])
  try rw [HW0.out]
  refine (show Calls _ _ _ _ _ from HDN.out).mono ?_
  rintro e w' ⟨rfl, rfl⟩
  go_wp2_with fail
  refine (show Calls _ _ _ _ _ from HGT.out).mono ?_
  rintro e w1 ⟨rfl, hk1⟩
  replace d0 := hk1.cell d0 trivial
  have HK1 := Lib.hid hk1
  clear hk1 d1
  go_wp2_with fail
  refine (show Calls _ _ _ _ _ from HRD.out w1 (HK0.out.trans HK1.out)).mono ?_
  rintro e w2 ⟨A, n, c, rfl, hn, h1, h2, h3, hk2⟩
  have HK2 := Lib.hid (HK1.out.trans hk2)
  have HE2 := Lib.hid (HEN.out w2 (HK0.out.trans HK2.out) A n c h3 hn h1 h2)
  clear hk2 hn h1 h2 h3 d0
  go_wp2_with fail
  refine (show Calls _ _ _ _ _ from HE2.out).mono ?_
  rintro e w3 ⟨rfl, hk3⟩
  have hk30 := HK2.out.trans hk3
  have hb1 := (hk30.block w.heap.size trivial HZ0.out).trans HB0.out
  have HRES := res4 w w3 hb1 (HK0.out.trans hk30)
  obtain ⟨f0, f1, f2, f3, r0, r1, r2, r3⟩ := res4u w w3 hb1
  clear hb1 hk3 hk30
  obtain ⟨e0, e1, e2, e3, HK⟩ := HRES.out (.string x.key) (.string x.val) (.int .i64 x.till) (.bool x.gone)
  have HKK := Lib.hid HK
  clear HK
  go_wp2_with fail
  exact bodyPost_ret (v := .tuple #[.agg #[.string x.key, .string x.val, .int .i64 x.till, .bool x.gone], .bool true]) (by simp [results, Tryz.results57, go_sem, e0, e1, e2, e3]) rfl ⟨rfl, HKK.out⟩
set_option maxRecDepth 100000 in
set_option maxHeartbeats 2000000 in
theorem cget (S : Slog2) (I : IndexOK) (J : ItemOK) (w : World) (hT : S.T w ∧ I.T w ∧ J.T w) (p q : Nat) (F Fs : Foot) (s : SDev) (st : FSt) (hd : DAt w p F s) (hr : flashRep S I w p q Fs st s) (ha : Apart F Fs) (hroom : st.place + 8 * st.segs ≤ s.now.length) (hage : st.age ≤ 30000) (k : ByteArray) (now : Int) (hk : k.size ≤ 1000000) (hn1 : -9223372036854775808 ≤ now) (hn2 : now < 9223372036854775808) :
  Calls Tryz.prog 25 #[.pointer (some ⟨q, 0, none⟩), .string k, .int .i64 now] w fun e w' => e = getE st k now ∧ Kp w w' := by
 have hmay : ∀ x, st.at_ k = some x → x.may = true := fun x hx => by
  obtain ⟨lq, iq, Fl, Fi, lo, lst, ix, hs, rfl, hc, hm, -⟩ := hr
  rw [hm.at_ k] at hx
  cases hsp : sp (hs.drop lst.gone) k with
  | none => rw [hsp] at hx; cases hx
  | some y =>
   obtain ⟨po, z⟩ := y
   rw [hsp] at hx
   cases hx
   exact hm.may po z (List.mem_of_mem_drop (sp_mem hsp).1)
 obtain ⟨w0, hw0⟩ : ∃ w0, w.alloc (.cells itZ 40) = w0 := ⟨_, rfl⟩
 have HW0 := Lib.hid (show w.alloc (.cells #[.string ⟨#[]⟩, .string ⟨#[]⟩, .int .i64 0, .bool false] 40) = w0 from hw0)
 have hb0 : w0.heap[w.heap.size]? = some (.cells itZ 40 (0, 0)) := by rw [← hw0]; exact heap_alloc_new w _
 have hk0 : Kp w w0 := by rw [← hw0]; exact (Keeps.refl _ w).alloc _
 have hz0 : w.heap.size < w0.heap.size := by rw [← hw0]; simp
 have HB0 := Lib.hid hb0
 have HK0 := Lib.hid hk0
 have HZ0 := Lib.hid hz0
 have hf := cfind S I J w0 ⟨S.tk hT.1 hk0, I.tk hT.2.1 hk0, J.tk hT.2.2 hk0⟩ p q F Fs s st (hd.keep (hk0.mono fun _ _ _ => trivial)) (frep_keep hr (hk0.mono fun _ _ _ => trivial)) ha hroom hage k hk
 have HJ := Lib.hid hT.2.2
 have HMAY := Lib.hid hmay
 unfold getE
 unfold findE at hf
 clear hd hr ha hroom hage hT hmay hw0 hb0 hk0 hz0
 cases hat : st.at_ k with
 | none =>
  rw [hat] at hf
  obtain ⟨z, hz⟩ : ∃ z : It, z = ⟨⟨#[]⟩, ⟨#[]⟩, 0, false⟩ := ⟨_, rfl⟩
  have HF := Lib.hid (show Calls Tryz.prog 57 #[.pointer (some ⟨q, 0, none⟩), .string k] w0 (fun e w' => e = .returned (.tuple #[.agg #[.string z.key, .string z.val, .int .i64 z.till, .bool z.gone], .bool false]) ∧ Kp w0 w') from by
   subst hz
   exact hf)
  clear hf hat hz
  simp only
  go_enter Tryz.func25, Tryz.ntmps25
  go_wp2_with (rw [HW0.out])
  try rw [HW0.out]
  refine (show Calls _ _ _ _ _ from HF.out).mono ?_
  rintro e w1 ⟨rfl, hk1⟩
  obtain ⟨w2, hw2⟩ : ∃ w2, w1.alloc (.cells #[.string z.key, .string z.val, .int .i64 z.till, .bool z.gone] 40) = w2 := ⟨_, rfl⟩
  have hk2 : Kp w1 w2 := by rw [← hw2]; exact (Keeps.refl _ w1).alloc _
  have hk12 := hk1.trans hk2
  have hb1 := (hk12.block w.heap.size trivial HZ0.out).trans HB0.out
  have HRES := res4 w w2 hb1 (HK0.out.trans hk12)
  obtain ⟨f0, f1, f2, f3, r0, r1, r2, r3⟩ := res4u w w2 hb1
  have HW2 := Lib.hid hw2
  clear hb1 hk1 hk2 hk12 hw2
  obtain ⟨e0, e1, e2, e3, HK⟩ := HRES.out (.string ⟨#[]⟩) (.string ⟨#[]⟩) (.int .i64 0) (.bool false)
  have HKK := Lib.hid HK
  clear HK
  go_wp2_with (rw [HW2.out])
  try rw [HW2.out]
  all_goals exact bodyPost_ret (v := .tuple #[.agg #[.string ⟨#[]⟩, .string ⟨#[]⟩, .int .i64 0, .bool false], .bool false]) (by simp [results, Tryz.results25, go_sem, e0, e1, e2, e3]) rfl ⟨rfl, HKK.out⟩
 | some x =>
  rw [hat] at hf
  have HF := Lib.hid hf
  have hxm := HMAY.out x hat
  have HLV := Lib.hid (show ∀ w1, Kp w w1 → _ from fun w1 (hk1 : Kp w w1) => J.live w1 x now (J.tk HJ.out hk1) (It.may_fits hxm) hn1 hn2)
  clear hf hat hxm
  simp only
  simp only at HF
  go_enter Tryz.func25, Tryz.ntmps25
  go_wp2_with (rw [HW0.out])
  try rw [HW0.out]
  refine (show Calls _ _ _ _ _ from HF.out).mono ?_
  rintro e w1 ⟨rfl, hk1⟩
  obtain ⟨w2, hw2⟩ : ∃ w2, w1.alloc (.cells #[.string x.key, .string x.val, .int .i64 x.till, .bool x.gone] 40) = w2 := ⟨_, rfl⟩
  have hk2 : Kp w1 w2 := by rw [← hw2]; exact (Keeps.refl _ w1).alloc _
  have hb2 : w2.heap[w1.heap.size]? = some (.cells #[.string x.key, .string x.val, .int .i64 x.till, .bool x.gone] 40 (0, 0)) := by rw [← hw2]; exact heap_alloc_new w1 _
  have HB2 := Lib.hid hb2
  have HK12 := Lib.hid (hk1.trans hk2)
  have x0 : w2.cell? ⟨w1.heap.size, 0, none⟩ = some (.string x.key) := (cell_of_block hb2 0).trans rfl
  have x1 : w2.cell? ⟨w1.heap.size, 1, none⟩ = some (.string x.val) := (cell_of_block hb2 1).trans rfl
  have x2 : w2.cell? ⟨w1.heap.size, 2, none⟩ = some (.int .i64 x.till) := (cell_of_block hb2 2).trans rfl
  have x3 : w2.cell? ⟨w1.heap.size, 3, none⟩ = some (.bool x.gone) := (cell_of_block hb2 3).trans rfl
  have HW2 := Lib.hid hw2
  have HLV2 := Lib.hid (HLV.out w2 (HK0.out.trans HK12.out))
  clear hk1 hk2 hw2 hb2
  go_wp2_with (rw [HW2.out])
  try rw [HW2.out]
  refine (show Calls _ _ _ _ _ from HLV2.out).mono ?_
  rintro e w3 ⟨rfl, hk3⟩
  have hk13 := HK12.out.trans hk3
  have hb1 := (hk13.block w.heap.size trivial HZ0.out).trans HB0.out
  have HRES := res4 w w3 hb1 (HK0.out.trans hk13)
  obtain ⟨f0, f1, f2, f3, r0, r1, r2, r3⟩ := res4u w w3 hb1
  replace x0 := hk3.cell x0 trivial
  replace x1 := hk3.cell x1 trivial
  replace x2 := hk3.cell x2 trivial
  replace x3 := hk3.cell x3 trivial
  clear hb1 hk3 hk13
  cases hlv : x.live now with
  | true =>
   obtain ⟨e0, e1, e2, e3, HK⟩ := HRES.out (.string x.key) (.string x.val) (.int .i64 x.till) (.bool x.gone)
   have HKK := Lib.hid HK
   clear HK
   go_wp2_with fail
   all_goals exact bodyPost_ret (v := .tuple #[.agg #[.string x.key, .string x.val, .int .i64 x.till, .bool x.gone], .bool true]) (by simp [results, Tryz.results25, go_sem, e0, e1, e2, e3]) rfl ⟨rfl, HKK.out⟩
  | false =>
   obtain ⟨e0, e1, e2, e3, HK⟩ := HRES.out (.string ⟨#[]⟩) (.string ⟨#[]⟩) (.int .i64 0) (.bool false)
   have HKK := Lib.hid HK
   clear HK
   go_wp2_with fail
   all_goals exact bodyPost_ret (v := .tuple #[.agg #[.string ⟨#[]⟩, .string ⟨#[]⟩, .int .i64 0, .bool false], .bool false]) (by simp [results, Tryz.results25, go_sem, e0, e1, e2, e3]) rfl ⟨rfl, HKK.out⟩
set_option maxRecDepth 100000 in
set_option maxHeartbeats 1000000 in
theorem ckeys (S : Slog2) (I : IndexOK) (w : World) (hT : I.T w) (p q : Nat) (Fs : Foot) (s : SDev) (st : FSt) (hr : flashRep S I w p q Fs st s) (hage : st.age ≤ 30000) :
  Calls Tryz.prog 30 #[.pointer (some ⟨q, 0, none⟩)] w fun e w' => ∃ (A : Option Addr) (c : Nat) (ks : List ByteArray), e = .returned (.slice A ks.length c) ∧ Rising ks ∧ (∀ k, k ∈ ks ↔ (st.at_ k).isSome = true) ∧ ks.length ≤ c ∧ c ≤ maxLen ∧ TextsAt w' A (fun b => w.heap.size ≤ b ∧ b < w'.heap.size) ks ∧ Kp w w' := by
 obtain ⟨lq, iq, Fl, Fi, lo, lst, ix, hs, rfl, hc, hm, hx⟩ := hr
 have c0 := hc.blk.c0
 have c1 := hc.blk.c1
 have HDN := Lib.hid (cdown w q lq c0)
 have HMEM := Lib.hid (show ∀ k, k ∈ ix.map (·.1) ↔ (st.at_ k).isSome = true from fun k => by
  rw [hm.at_ k]
  have h := hx.is k
  constructor
  ·intro hk
   obtain ⟨a, ha, rfl⟩ := List.mem_map.1 hk
   have h2 := ixGet_of hx.nd (k := a.1) (p := a.2) ha
   rw [h2] at h
   cases hsp : sp (hs.drop lst.gone) a.1 with
   | none => rw [hsp] at h; cases h
   | some y => rfl
  ·intro hk
   cases hsp : sp (hs.drop lst.gone) k with
   | none => rw [hsp] at hk; cases hk
   | some y =>
    rw [hsp] at h
    exact List.mem_map.2 ⟨_, ixGet_mem h, rfl⟩)
 have HKS := Lib.hid (I.keys w iq Fi ix hc.i hT (Nat.le_trans hx.len (by omega)))
 clear hc hm hx
 go_enter Tryz.func30, Tryz.ntmps30
 go_wp2_with fail
 refine (show Calls _ _ _ _ _ from HDN.out).mono ?_
 rintro e w' ⟨rfl, rfl⟩
 go_wp2_with fail
 refine (show Calls _ _ _ _ _ from HKS.out).mono ?_
 rintro e w1 ⟨A, c, ks, rfl, hp, hri, h1, h2, h3, h4⟩
 have hl : ix.length = ks.length := by have := hp.length_eq; rw [List.length_map] at this; exact this.symm
 rw [hl] at h1 ⊢
 have HFIN := Lib.hid (show ∃ (A' : Option Addr) (c' : Nat) (ks' : List ByteArray), Ending.returned (.slice A ks.length c) = .returned (.slice A' ks'.length c') ∧ Rising ks' ∧ (∀ k, k ∈ ks' ↔ (st.at_ k).isSome = true) ∧ ks'.length ≤ c' ∧ c' ≤ maxLen ∧ TextsAt w1 A' (fun b => w.heap.size ≤ b ∧ b < w1.heap.size) ks' ∧ Kp w w1 from
  ⟨A, c, ks, rfl, hri, fun k => by rw [hp.mem_iff]; exact HMEM.out k, h1, h2, h3, h4⟩)
 clear hl h1 h2 h3 h4 hp hri
 generalize ks.length = n at HFIN
 go_wp2_with fail
 go_ret
 exact HFIN.out
end Go.Proofs.YticophaepapjoaaGreatDoor
namespace Go.Proofs.YticophaepapjoaaGreatDoor
def foN (k x : Nat) : Nat := x ^^^ x / 2 ^ k
def stN (x : Nat) : Nat :=
 foN 31 (foN 27 (foN 30 x * 13787848793156543929 % 18446744073709551616) * 10723151780598845931 % 18446744073709551616)
theorem foN_lt (k x : Nat) (h : x < 18446744073709551616) : foN k x < 18446744073709551616 :=
 Nat.xor_lt_two_pow (n := 64) h (Nat.lt_of_le_of_lt (Nat.div_le_self _ _) h)
theorem stN_lt (x : Nat) : stN x < 18446744073709551616 := foN_lt 31 _ (Nat.mod_lt _ (by decide))
end Go.Proofs.YticophaepapjoaaGreatDoor
namespace Go.Proofs.YticophaepapjoaaGreatDoor
open Go.RowKit
theorem fo_shift (k n : Nat) (h : n < 18446744073709551616) : bits .xor .u64 (n : Int) ((n : Int) / ((2 ^ k : Nat) : Int)) = ((foN k n : Nat) : Int) :=
 xorShift_u64 n (2 ^ k) h
theorem fo_step (k n C : Nat) (h : n < 18446744073709551616) :
  IntKind.u64.wrap (bits .xor .u64 (n : Int) ((n : Int) / ((2 ^ k : Nat) : Int)) * (C : Int)) = ((foN k n * C % 18446744073709551616 : Nat) : Int) :=
 mixStep_u64 n (2 ^ k) C h
theorem st_shift (x : Nat) (h : x < 18446744073709551616) (A B : Int)
  (hA : A = IntKind.u64.wrap (bits .xor .u64 (x : Int) ((x : Int) / 1073741824) * 13787848793156543929))
  (hB : B = IntKind.u64.wrap (bits .xor .u64 A (A / 134217728) * 10723151780598845931)) :
  bits .xor .u64 B (B / 2147483648) = ((stN x : Nat) : Int) := by
 have e1 : A = ((foN 30 x * 13787848793156543929 % 18446744073709551616 : Nat) : Int) := hA.trans (fo_step 30 x 13787848793156543929 h)
 have e2 : B = ((foN 27 (foN 30 x * 13787848793156543929 % 18446744073709551616) * 10723151780598845931 % 18446744073709551616 : Nat) : Int) := by
  rw [hB, e1]; exact fo_step 27 _ 10723151780598845931 (Nat.mod_lt _ (by decide))
 rw [e2]
 exact fo_shift 31 _ (Nat.mod_lt _ (by decide))
theorem ret_u64 {a b : Int} (h : a = b) : Ending.returned (.int .u64 a) = .returned (.int .u64 b) := by rw [h]
theorem stir_nat (x : Nat) (hx : x < 18446744073709551616) (w : World) :
  Calls Tryz.prog 130 #[.int .u64 (x : Int)] w fun e w' => e = .returned (.int .u64 ((stN x : Nat) : Int)) ∧ w = w' := by
 go_enter Tryz.func130, Tryz.ntmps130
 go_wp2
 go_ret
 exact ⟨ret_u64 (st_shift x hx _ _ rfl rfl), rfl⟩
def stZ (x : Int) : Int := ((stN x.toNat : Nat) : Int)
theorem stZ_nonneg (x : Int) : 0 ≤ stZ x := Int.natCast_nonneg _
theorem stZ_lt (x : Int) : stZ x < 18446744073709551616 := by have := stN_lt x.toNat; unfold stZ; omega
theorem stir_any (x : Int) (hx : 0 ≤ x) (lx : x < 18446744073709551616) (w : World) :
  Calls Tryz.prog 130 #[.int .u64 x] w fun e w' => e = .returned (.int .u64 (stZ x)) ∧ w = w' := by
 have h := stir_nat x.toNat (by omega) w
 rw [Int.toNat_of_nonneg hx] at h
 exact h
theorem xor_nonneg (a b : Int) : 0 ≤ bits .xor .u64 a b := by
 show 0 ≤ IntKind.u64.wrap _
 rw [IntKind.wrap_u64]; omega
theorem xor_lt (a b : Int) : bits .xor .u64 a b < 18446744073709551616 := by
 show IntKind.u64.wrap _ < _
 rw [IntKind.wrap_u64]; omega
def stepZ (h c : Int) : Int := IntKind.u64.wrap (stZ (bits .xor .u64 h (IntKind.u64.wrap c)) + 1)
def bytesZ (h : Int) (l : List UInt8) : Int := l.foldl (fun h c => stepZ h (c.toNat : Int)) h
def endZ (h : Int) (n : Nat) : Int := stZ (bits .xor .u64 h (256 + (n : Int)))
def partZ (h : Int) (s : ByteArray) : Int := endZ (bytesZ h s.data.toList) s.size
def partsZ (ss : List ByteArray) : Int := ss.foldl partZ 11400714819323198485
theorem take_snoc (s : ByteArray) (k : Nat) (h : k < s.size) : s.data.toList.take (k + 1) = s.data.toList.take k ++ [s[k]] := by
 rw [List.take_succ_eq_append_getElem (by simpa using h)]; rfl
theorem bytesZ_snoc (h : Int) (l : List UInt8) (c : UInt8) : bytesZ h (l ++ [c]) = stepZ (bytesZ h l) (c.toNat : Int) := by
 unfold bytesZ; rw [List.foldl_append]; rfl
theorem bytesZ_next (h : Int) (s : ByteArray) (k : Nat) (hk : k < s.size) :
  bytesZ h (s.data.toList.take (k + 1)) = IntKind.u64.wrap (stZ (bits .xor .u64 (bytesZ h (s.data.toList.take k)) (IntKind.u64.wrap (s[k].toNat : Int))) + 1) := by
 rw [take_snoc s k hk, bytesZ_snoc]; rfl
theorem bytesZ_all (h : Int) (s : ByteArray) (k : Nat) (h1 : k ≤ s.size) (h2 : ¬ k < s.size) : bytesZ h (s.data.toList.take k) = bytesZ h s.data.toList := by
 rw [List.take_of_length_le]
 have : s.data.toList.length = s.size := by simp
 omega
theorem getD_at (ss : List ByteArray) (k : Nat) (h : k < ss.length) : ss.getD k ByteArray.empty = ss[k] := by
 rw [List.getD_eq_getElem?_getD, List.getElem?_eq_getElem h]; rfl
theorem partsZ_next (ss : List ByteArray) (k : Nat) (h : k < ss.length) : partsZ (ss.take (k + 1)) = partZ (partsZ (ss.take k)) (ss.getD k ByteArray.empty) := by
 unfold partsZ
 rw [List.take_succ_eq_append_getElem h, List.foldl_append, getD_at ss k h]; rfl
theorem partsZ_all (ss : List ByteArray) (k : Nat) (h1 : k ≤ ss.length) (h2 : ¬ k < ss.length) : partsZ (ss.take k) = partsZ ss := by
 rw [List.take_of_length_le (by omega)]
theorem part_any (h : Int) (s : ByteArray) (hs : s.size ≤ maxLen) (w : World) :
  Calls Tryz.prog 102 #[.int .u64 h, .string s] w fun e w' => e = .returned (.int .u64 (partZ h s)) ∧ w = w' := by
 unfold maxLen at hs
 go_enter Tryz.func102, Tryz.ntmps102
 go_wp2
 go_loop [0, 5] (fun t i => ∃ k : Nat, k ≤ s.size ∧ i = .int .i64 k ∧ t = .int .u64 (bytesZ h (s.data.toList.take k))) (fun _ i => s.size - (intOf i).toNat)
 case atStart => exact ⟨0, Nat.zero_le _, rfl, rfl⟩
 case round =>
  obtain ⟨k, hk, rfl, rfl⟩ := hrel
  by_cases hlt : k < s.size
  ·have H := Lib.hid (bytesZ_next h s k hlt)
   go_wp2_with (go_at_call 130; refine (stir_any _ (xor_nonneg _ _) (xor_lt _ _) _).mono ?_; rintro e w' ⟨rfl, rfl⟩)
   go_round
   case rel => exact ⟨k + 1, by omega, by go_num, by rw [H.out]⟩
   case measure => simp [intOf]; omega
  ·go_wp2_with (go_at_call 130; refine (stir_any _ (xor_nonneg _ _) (xor_lt _ _) _).mono ?_; rintro e w' ⟨rfl, rfl⟩)
   go_ret
   exact ⟨ret_u64 (by unfold partZ endZ; rw [← bytesZ_all h s k hk hlt]), rfl⟩
theorem of_any (ss : List ByteArray) (b o cap : Nat) (w : World) (hn : ss.length ≤ maxLen) (hs : ∀ s ∈ ss, s.size ≤ maxLen)
  (hc : ∀ i, i < ss.length → w.cell? ⟨b, o + i, none⟩ = some (.string (ss.getD i ByteArray.empty))) :
  Calls Tryz.prog 69 #[.slice (some ⟨b, o, none⟩) ss.length cap] w fun e w' => e = .returned (.int .u64 (partsZ ss)) ∧ w = w' := by
 unfold maxLen at hn
 go_enter Tryz.func69, Tryz.ntmps69
 go_wp2
 go_loop [3, 8] (fun t i => ∃ k : Nat, k ≤ ss.length ∧ i = .int .i64 k ∧ t = .int .u64 (partsZ (ss.take k))) (fun _ i => ss.length - (intOf i).toNat)
 case atStart => exact ⟨0, Nat.zero_le _, rfl, rfl⟩
 case round =>
  obtain ⟨k, hk, rfl, rfl⟩ := hrel
  by_cases hlt : k < ss.length
  ·have H := Lib.hid (partsZ_next ss k hlt)
   have hcell := hc k hlt
   have hsz : (ss.getD k ByteArray.empty).size ≤ maxLen := by
    rw [getD_at ss k hlt]; exact hs _ (List.getElem_mem hlt)
   clear hc
   generalize ss.getD k ByteArray.empty = s at hcell hsz H
   go_wp2_with (go_at_call 102; refine (part_any _ _ hsz _).mono ?_; rintro e w' ⟨rfl, rfl⟩)
   go_round
   case rel => exact ⟨k + 1, by omega, by go_num, by rw [H.out]⟩
   case measure => simp [intOf]; omega
  ·go_wp2
   go_ret
   exact ⟨ret_u64 (partsZ_all ss k hk hlt), rfl⟩
end Go.Proofs.YticophaepapjoaaGreatDoor
