/-
  StOps: texts of mine, joined.
-/
import Derived.Test.YticophaepapjoaaGreatDoorAllB22
namespace Go.Proofs.YticophaepapjoaaGreatDoor
open Go Go.RowKit Go.Joins
section
variable {S : FlashOK} {J : JournalOK} {W w w' : World} {p b q1 q2 q3 k wh n d : Nat} {F F' Fc Fc' Fj Fj' Fs Fs' E : Foot} {s s' : SDev} {z : Sto} {X Y : Nat → Prop}
theorem StBlk.lt {t : Int} (h : StBlk w b q1 q2 k t) : b < w.heap.size := (Array.getElem?_eq_some_iff.1 h).1
theorem StBlk.keep {t : Int} {G : Nat → Prop} (h : StBlk w b q1 q2 k t) (hk : Keeps G w w') (hG : G b) : StBlk w' b q1 q2 k t := (hk.block b hG h.lt).trans h
theorem StBlk.c0 {t : Int} (h : StBlk w b q1 q2 k t) : w.cell? ⟨b, 0, none⟩ = some (.pointer (some ⟨q1, 0, none⟩)) := cell_of_block h 0
theorem StBlk.c1 {t : Int} (h : StBlk w b q1 q2 k t) : w.cell? ⟨b, 1, none⟩ = some (.pointer (some ⟨q2, 0, none⟩)) := cell_of_block h 1
theorem StBlk.c2 {t : Int} (h : StBlk w b q1 q2 k t) : w.cell? ⟨b, 2, none⟩ = some (.pointer (some ⟨k, 0, none⟩)) := cell_of_block h 2
theorem StBlk.c3 {t : Int} (h : StBlk w b q1 q2 k t) : w.cell? ⟨b, 3, none⟩ = some (.int .i64 t) := cell_of_block h 3
theorem StAt.blk (h : StAt S J W w p b q1 q2 k z n d X) : StBlk w b q1 q2 k z.boot := by
 obtain ⟨q3, wh, F, Fc, Fj, Fs, s, h1, h2, -⟩ := h
 exact h2
theorem StAt.kp (h : StAt S J W w p b q1 q2 k z n d X) : Kp W w := by
 obtain ⟨q3, wh, F, Fc, Fj, Fs, s, h1, h2, -⟩ := h
 exact h1.dv.kp
theorem StAt.wf (h : StAt S J W w p b q1 q2 k z n d X) : z.f.Ok ∧ z.j.Ok ∧ z.f.segs = segsOf n ∧ 192 ≤ n := by
 obtain ⟨q3, wh, F, Fc, Fj, Fs, s, h1, h2, -⟩ := h
 exact ⟨S.wf h1.fc, J.wf h1.jr, h1.fs, h1.n1⟩
theorem StAt.loose (h : StAt S J W w p b q1 q2 k z n d X) : StAt S J W w p b q1 q2 k z n 0 X := by
 obtain ⟨q3, wh, F, Fc, Fj, Fs, s, h1, h2, h3, h4, h5⟩ := h
 exact ⟨q3, wh, F, Fc, Fj, Fs, s, h1, h2, h3, h4, fun h => absurd h (Nat.lt_irrefl 0)⟩
theorem efoot_more {R : Foot} (h : Apart R (efoot b X)) (hR : ∀ c, R.all c → c < w.heap.size) (hY : ∀ c, Y c → X c ∨ w.heap.size ≤ c) : Apart R (efoot b Y) := by
 refine ⟨fun c hc he => ?_, fun c hc hr => ?_⟩
 ·have := hR c (.inl hc)
  rcases efoot_all.1 he with rfl | hy
  ·exact h.l c hc (efoot_all.2 (.inl rfl))
  ·rcases hY c hy with hx | hx
   ·exact h.l c hc (efoot_all.2 (.inr hx))
   ·omega
 ·have := hR c hr
  rcases hc with rfl | hy
  ·exact h.r c (.inl rfl) hr
  ·rcases hY c hy with hx | hx
   ·exact h.r c (.inr hx) hr
   ·omega
theorem StAt.more (h : StAt S J W w p b q1 q2 k z n d X) (hk : Kp w w') (hY : ∀ c, Y c → X c ∨ (w.heap.size ≤ c ∧ c < w'.heap.size)) : StAt S J W w' p b q1 q2 k z n d Y := by
 obtain ⟨q3, wh, F, Fc, Fj, Fs, s, h1, h2, h3, h4, h5⟩ := h
 have hY2 : ∀ c, Y c → X c ∨ w.heap.size ≤ c := fun c hc => (hY c hc).imp id (·.1)
 have h1' := h1.keep hk
 refine ⟨q3, wh, F, Fc, Fj, Fs, s, { h1' with e1 := efoot_more h1.e1 h1.dv.d.lt hY2, e2 := efoot_more h1.e2 (S.lt h1.fc) hY2, e3 := efoot_more h1.e3 (J.lt h1.jr) hY2, e4 := efoot_more h1.e4 h1.klt hY2, elt := fun c hc => ?_ }, h2.keep hk trivial, h3, fun hb => ?_, h5⟩
 ·rcases efoot_all.1 hc with rfl | hy
  ·exact Nat.lt_of_lt_of_le h2.lt hk.size
  ·rcases hY c hy with hx | hx
   ·exact Nat.lt_of_lt_of_le (h1.elt c (efoot_all.2 (.inr hx))) hk.size
   ·exact hx.2
 ·rcases hY2 b hb with hx | hx
  ·exact h4 hx
  ·have := h2.lt; omega
theorem StAt.keep (h : StAt S J W w p b q1 q2 k z n d X) (hk : Kp w w') : StAt S J W w' p b q1 q2 k z n d X := h.more hk fun _ hb => .inl hb
theorem StAt.less (h : StAt S J W w p b q1 q2 k z n d X) (hY : ∀ c, Y c → X c) : StAt S J W w p b q1 q2 k z n d Y := h.more (Keeps.refl _ _) fun c hc => .inl (hY c hc)
theorem StAt.own {G : Nat → Prop} (h : StAt S J W w p b q1 q2 k z n d X) (hk : Keeps G w w') (hG : ∀ c, c < w.heap.size → ¬ G c → X c ∧ W.heap.size ≤ c) : StAt S J W w' p b q1 q2 k z n d X := by
 classical
 obtain ⟨q3, wh, F, Fc, Fj, Fs, s, h1, h2, h3, h4, h5⟩ := h
 have hR : ∀ {R : Foot}, Apart R (efoot b X) → (∀ c, R.all c → c < w.heap.size) → ∀ c, R.all c → G c := fun ha hlt c hc => Classical.byContradiction fun hn => ha.r c (.inr (hG c (hlt c hc) hn).1) hc
 have hF := hR h1.e1 h1.dv.d.lt
 have hFk := hR h1.e4 h1.klt
 have hb : G b := Classical.byContradiction fun hn => h4 (hG b h2.lt hn).1
 have hkW : Kp W w' := ⟨hk.os.trans h1.dv.kp.os, hk.tape.trans h1.dv.kp.tape, hk.output.trans h1.dv.kp.output, Nat.le_trans h1.dv.kp.size hk.size, fun c _ hc =>
  (hk.block c (Classical.byContradiction fun hn => by have := (hG c (Nat.lt_of_lt_of_le hc h1.dv.kp.size) hn).2; omega) (Nat.lt_of_lt_of_le hc h1.dv.kp.size)).trans (h1.dv.kp.block c trivial hc)⟩
 refine ⟨q3, wh, F, Fc, Fj, Fs, s, { h1 with fc := S.keep h1.fc (hk.mono fun c _ hc => hR h1.e2 (S.lt h1.fc) c hc), jr := J.keep h1.jr (hk.mono fun c _ hc => hR h1.e3 (J.lt h1.jr) c hc), kp := ?_, elt := fun c hc => Nat.lt_of_lt_of_le (h1.elt c hc) hk.size }, h2.keep hk hb, h3, h4, h5⟩
 exact h1.kp.over rfl ⟨h1.dv.d.keep (hk.mono fun c _ hc => hF c hc), h1.dv.gd, hkW⟩ h1.a3 (hk.mono fun c _ hc => hFk c hc) rfl fun _ _ => rfl
theorem efoot_keeps (h : Keeps (efoot b X).all w w') : Keeps X w w' := h.mono fun _c _ hc => efoot_all.2 (.inr hc)
theorem so_c (h1 : StIn S J W w p q1 q2 q3 k wh F Fc Fj Fs s z n (efoot b X)) (h2 : StBlk w b q1 q2 k z.boot) (h3 : W.heap.size ≤ b) (h4 : ¬ X b) {f : FSt} {m : Nat} (hd' : DAt w' p F' s') (hr' : S.rep w' p q1 Fc' f s') (hpl : f.place = z.f.place) (hsg : f.segs = z.f.segs) (hgo : FGo w w' F F' Fc Fc' s s' z.f m) (d : Nat) (hd : 0 < d → ∃ rows c, s' = SDev.still rows c ∧ StOnD S J d ⟨f, z.j, z.t, z.m, z.boot, z.c + 1000 * m⟩ n rows) :
  StAt S J W w' p b q1 q2 k ⟨f, z.j, z.t, z.m, z.boot, z.c + 1000 * m⟩ n d X ∧ Keeps X w w' := by
 obtain ⟨h1', ke⟩ := h1.moveC hd' hr' hpl hsg hgo
 exact ⟨⟨q3, wh, F', Fc', Fj, Fs, s', h1', h2.keep ke (efoot_all.2 (.inl rfl)), h3, h4, hd⟩, efoot_keeps ke⟩
theorem so_j (h1 : StIn S J W w p q1 q2 q3 k wh F Fc Fj Fs s z n (efoot b X)) (h2 : StBlk w b q1 q2 k z.boot) (h3 : W.heap.size ≤ b) (h4 : ¬ X b) {f : JSt} {m : Nat} (hd' : DAt w' p F' s') (hr' : J.rep w' p q2 Fj' f s') (hpl : f.place = z.j.place) (hsg : f.segs = z.j.segs) (hgo : JGo w w' F F' Fj Fj' s s' z.j m) (d : Nat) (hd : 0 < d → ∃ rows c, s' = SDev.still rows c ∧ StOnD S J d ⟨z.f, f, z.t, z.m, z.boot, z.c + 1000 * m⟩ n rows) :
  StAt S J W w' p b q1 q2 k ⟨z.f, f, z.t, z.m, z.boot, z.c + 1000 * m⟩ n d X ∧ Keeps X w w' := by
 obtain ⟨h1', ke⟩ := h1.moveJ hd' hr' hpl hsg hgo
 exact ⟨⟨q3, wh, F', Fc, Fj', Fs, s', h1', h2.keep ke (efoot_all.2 (.inl rfl)), h3, h4, hd⟩, efoot_keeps ke⟩
theorem so_put (hT : S.T W) (h : StAt S J W w p b q1 q2 k z n d X) (hage : z.f.age ≤ 20000) (hc : z.c ≤ 400000000000) (x : It) (hm : x.may = true) (hg : x.gone = false) :
  Calls Tryz.prog 14 #[.pointer (some ⟨q1, 0, none⟩), .agg #[.string x.key, .string x.val, .int .i64 x.till, .bool x.gone]] w fun e w' => e = .returned (.int .i64 0) ∧ ∃ g, z.f.gone ≤ g ∧ StAt S J W w' p b q1 q2 k ⟨⟨z.f.place, z.f.segs, z.f.ents ++ [fput x], g, z.f.age + 1⟩, z.j, z.t, z.m, z.boot, z.c + 2000⟩ n 0 X ∧ Keeps X w w' := by
 obtain ⟨q3, wh, F, Fc, Fj, Fs, s, h1, h2, h3, h4, h5⟩ := h
 refine (S.put W w p q1 F Fc s z.f h1.dv.d h1.fc h1.a1 hT h1.dv.kp h1.dv.gd h1.g1 h1.roomF hage (by have := h1.c; omega) x hm hg).mono ?_
 rintro e w' ⟨rfl, F', Fc', s', g, hd', hr', hgg, hgo⟩
 exact ⟨rfl, g, hgg, so_c h1 h2 h3 h4 hd' hr' rfl rfl hgo 0 fun h => absurd h (Nat.lt_irrefl 0)⟩
theorem so_putNo (hT : S.T W) (h : StAt S J W w p b q1 q2 k z n d X) (x : It) (hf : x.fits) (hm : x.may = false ∨ x.gone = true) :
  Calls Tryz.prog 14 #[.pointer (some ⟨q1, 0, none⟩), .agg #[.string x.key, .string x.val, .int .i64 x.till, .bool x.gone]] w fun e w' => e = .returned (.int .i64 1) ∧ Kp w w' ∧ StAt S J W w' p b q1 q2 k z n d X := by
 have h0 := h
 obtain ⟨q3, wh, F, Fc, Fj, Fs, s, h1, h2, h3, h4, h5⟩ := h
 refine (S.putNo w p q1 F Fc s z.f h1.dv.d h1.fc h1.a1 (S.tk hT h1.dv.kp) h1.roomF x hf hm).mono ?_
 rintro e w' ⟨rfl, hk⟩
 exact ⟨rfl, hk, h0.keep hk⟩
theorem so_get (hT : S.T W) (h : StAt S J W w p b q1 q2 k z n d X) (key : ByteArray) (now : Int) (hk : key.size ≤ 1000000) (h8 : -9223372036854775808 ≤ now) (h9 : now < 9223372036854775808) (e0 : Ending) (he : e0 = getE z.f key now) :
  Calls Tryz.prog 25 #[.pointer (some ⟨q1, 0, none⟩), .string key, .int .i64 now] w fun e w' => e = e0 ∧ Kp w w' ∧ StAt S J W w' p b q1 q2 k z n d X := by
 subst he
 have h0 := h
 obtain ⟨q3, wh, F, Fc, Fj, Fs, s, h1, h2, h3, h4, h5⟩ := h
 refine (S.get w p q1 F Fc s z.f h1.dv.d h1.fc h1.a1 (S.tk hT h1.dv.kp) h1.roomF key now hk h8 h9).mono ?_
 rintro e w' ⟨rfl, hk⟩
 exact ⟨rfl, hk, h0.keep hk⟩
theorem so_keys (hT : S.T W) (h : StAt S J W w p b q1 q2 k z n d X) :
  Calls Tryz.prog 30 #[.pointer (some ⟨q1, 0, none⟩)] w fun e w' => ∃ (A : Option Addr) (c : Nat) (ks : List ByteArray), e = .returned (.slice A ks.length c) ∧ Rising ks ∧ (∀ k, k ∈ ks ↔ (z.f.at_ k).isSome = true) ∧ ks.length ≤ c ∧ c ≤ maxLen ∧ TextsAt w' A (fun b => w.heap.size ≤ b ∧ b < w'.heap.size) ks ∧ Kp w w' ∧ StAt S J W w' p b q1 q2 k z n d X := by
 have h0 := h
 obtain ⟨q3, wh, F, Fc, Fj, Fs, s, h1, h2, h3, h4, h5⟩ := h
 refine (S.keys w p q1 F Fc s z.f h1.dv.d h1.fc h1.a1 (S.tk hT h1.dv.kp) h1.roomF).mono ?_
 rintro e w' ⟨A, c, ks, rfl, hr, hm, hl, hc, ht, hk⟩
 exact ⟨A, c, ks, rfl, hr, hm, hl, hc, ht, hk, h0.keep hk⟩
theorem so_drop (hT : S.T W) (h : StAt S J W w p b q1 q2 k z n 3 X) (hage : z.f.age ≤ 20000) (hc : z.c ≤ 400000000000) (A : Option Addr) (ks : List ByteArray) (hrow : Row w A X (ks.map Value.string)) (c m : Nat) (hn : m = ks.length) (hcc : m ≤ c) (hcm : c ≤ maxLen) (hl : m ≤ 1000) (hok : ∀ k ∈ ks, keyOk k) :
  Calls Tryz.prog 47 #[.pointer (some ⟨q1, 0, none⟩), .slice A m c] w fun e w' => e = .returned (.int .i64 0) ∧ ∃ g, z.f.gone ≤ g ∧ StAt S J W w' p b q1 q2 k ⟨⟨z.f.place, z.f.segs, z.f.ents ++ ks.map grave, g, z.f.age + ks.length + 1⟩, z.j, z.t, z.m, z.boot, z.c + 1000 * (ks.length + 1)⟩ n 2 X ∧ Keeps X w w' := by
 subst hn
 obtain ⟨q3, wh, F, Fc, Fj, Fs, s, h1, h2, h3, h4, h5⟩ := h
 obtain ⟨rows0, c0, rfl, hod⟩ := h5 (by decide)
 have hj : J.disk z.j rows0 := by
  rcases hod with ⟨h, -⟩ | ⟨h, -⟩ | ⟨-, h⟩
  ·cases h
  ·cases h
  ·exact h
 refine (S.drop W w p q1 F Fc _ z.f h1.dv.d h1.fc h1.a1 hT h1.dv.kp h1.dv.gd h1.g1 h1.roomF hage (by have := h1.c; omega) A c ks (hrow.mono fun c _ hc => ⟨h1.e1.r c (.inr hc), h1.e2.r c (.inr hc)⟩) hcc hcm hl hok).mono ?_
 rintro e w' ⟨rfl, F', Fc', rows, k1, g, hd', hr', hdk, hgg, hgo⟩
 refine ⟨rfl, g, hgg, so_c h1 h2 h3 h4 hd' hr' rfl rfl hgo 2 fun _ => ⟨rows, k1, rfl, .inr (.inl ⟨rfl, hdk, ?_⟩)⟩⟩
 refine J.diskKeep hj hgo.len fun i hi => hgo.out i fun hh => ?_
 have := hh.1; have := hi.2; rw [h1.fp] at *; rw [h1.jp, h1.js] at *; omega
theorem so_add (hT : J.T W) (h : StAt S J W w p b q1 q2 k z n d X) (hage : z.j.age ≤ 20000) (hc : z.c ≤ 400000000000) (A : Option Addr) (ks : List ByteArray) (hrow : Row w A X (ks.map Value.string)) (c m : Nat) (hn : m = ks.length) (hcc : m ≤ c) (hcm : c ≤ maxLen) (hl : m ≤ 1000) (hok : ∀ k ∈ ks, keyOk k) (y : Int) (hy : y = ((z.j.keys.length + ks.length : Nat) : Int)) :
  Calls Tryz.prog 26 #[.pointer (some ⟨q2, 0, none⟩), .slice A m c] w fun e w' => e = .returned (.tuple #[.int .i64 y, .int .i64 0]) ∧ ∃ g, z.j.base ≤ g ∧ StAt S J W w' p b q1 q2 k ⟨z.f, jadd z.j ks g, z.t, z.m, z.boot, z.c + 1000 * (ks.length + 1)⟩ n 3 X ∧ Keeps X w w' := by
 subst hn hy
 obtain ⟨q3, wh, F, Fc, Fj, Fs, s, h1, h2, h3, h4, h5⟩ := h
 refine (J.add W w p q2 F Fj s z.j h1.dv.d h1.jr h1.a2 hT h1.dv.kp h1.dv.gd h1.g2 h1.roomJ hage (by have := h1.c; omega) A c ks (hrow.mono fun c _ hc => ⟨h1.e1.r c (.inr hc), h1.e3.r c (.inr hc)⟩) hcc hcm hl hok).mono ?_
 rintro e w' ⟨rfl, F', Fj', rows, k1, g, hd', hr', hdk, hgg, hgo⟩
 exact ⟨rfl, g, hgg, so_j h1 h2 h3 h4 hd' hr' rfl rfl hgo 3 fun _ => ⟨rows, k1, rfl, .inr (.inr ⟨rfl, hdk⟩)⟩⟩
theorem so_addNo (hT : J.T W) (h : StAt S J W w p b q1 q2 k z n d X) (A : Option Addr) (ks : List ByteArray) (hr : Row w A (fun _ => True) (ks.map Value.string)) (c m : Nat) (hn : m = ks.length) (hc : m ≤ c) (hcm : c ≤ maxLen) (hl : m ≤ 1000) (hs : ∀ k ∈ ks, k.size ≤ 1000000) (hno : ∃ k ∈ ks, ¬ keyOk k) :
  Calls Tryz.prog 26 #[.pointer (some ⟨q2, 0, none⟩), .slice A m c] w fun e w' => e = .returned (.tuple #[.int .i64 0, .int .i64 1]) ∧ Kp w w' ∧ StAt S J W w' p b q1 q2 k z n d X := by
 subst hn
 have h0 := h
 obtain ⟨q3, wh, F, Fc, Fj, Fs, s, h1, h2, h3, h4, h5⟩ := h
 refine (J.addNo w p q2 F Fj s z.j h1.dv.d h1.jr h1.a2 (J.tk hT h1.dv.kp) h1.roomJ A c ks hr hc hcm hl hs hno).mono ?_
 rintro e w' ⟨rfl, hk⟩
 exact ⟨rfl, hk, h0.keep hk⟩
theorem so_seq (hT : J.T W) (h : StAt S J W w p b q1 q2 k z n d X) (m : Int) (hm : m = (z.j.keys.length : Int)) :
  Calls Tryz.prog 24 #[.pointer (some ⟨q2, 0, none⟩)] w fun e w' => e = .returned (.int .i64 m) ∧ Kp w w' ∧ StAt S J W w' p b q1 q2 k z n d X := by
 subst hm
 have h0 := h
 obtain ⟨q3, wh, F, Fc, Fj, Fs, s, h1, h2, h3, h4, h5⟩ := h
 refine (J.seqIs w p q2 Fj s z.j h1.jr (J.tk hT h1.dv.kp)).mono ?_
 rintro e w' ⟨rfl, hk⟩
 exact ⟨rfl, hk, h0.keep hk⟩
theorem so_base (hT : J.T W) (h : StAt S J W w p b q1 q2 k z n d X) (m : Int) (hm : m = (z.j.base : Int)) :
  Calls Tryz.prog 31 #[.pointer (some ⟨q2, 0, none⟩)] w fun e w' => e = .returned (.int .i64 m) ∧ Kp w w' ∧ StAt S J W w' p b q1 q2 k z n d X := by
 subst hm
 have h0 := h
 obtain ⟨q3, wh, F, Fc, Fj, Fs, s, h1, h2, h3, h4, h5⟩ := h
 refine (J.baseIs w p q2 Fj s z.j h1.jr (J.tk hT h1.dv.kp)).mono ?_
 rintro e w' ⟨rfl, hk⟩
 exact ⟨rfl, hk, h0.keep hk⟩
theorem so_meta (h : StAt S J W w p b q1 q2 k z n d X) :
  Calls Tryz.prog 12 #[.pointer (some ⟨k, 0, none⟩)] w fun e w' => e = .returned (magg z.m) ∧ Kp w w' ∧ StAt S J W w' p b q1 q2 k z n d X := by
 have h0 := h
 obtain ⟨q3, wh, F, Fc, Fj, Fs, s, h1, h2, h3, h4, h5⟩ := h
 refine (kmeta_any w k q3 z.m h1.kp.kb).mono ?_
 rintro e w' ⟨rfl, hk⟩
 exact ⟨rfl, hk, h0.keep hk⟩
theorem so_crash (h : StAt S J W w p b q1 q2 k z n d X) (hd : 0 < d) (K : Option Addr) (kc : Nat) (G : Nat → Prop) (keep : List Bool) (m : Nat) (hm : m = keep.length) (hK : Row w K G (keep.map Value.bool)) (hkl : keep.length ≤ maxLen) :
  Calls Tryz.prog 21 #[.pointer (some ⟨p, 0, none⟩), .slice K m kc] w fun e w' => ∃ r, e = .returned (.pointer (some ⟨r, 0, none⟩)) ∧ StDisk S J W w' r z n d (fun c => c = b ∨ X c) ∧ Kp w w' ∧ StAt S J W w' p b q1 q2 k z n d X := by
 have h0 := h
 subst hm
 obtain ⟨q3, wh, F, Fc, Fj, Fs, s, h1, h2, h3, h4, h5⟩ := h
 obtain ⟨rows, c, rfl, hdk⟩ := h5 hd
 refine (dcrash_any w p F _ h1.dv.d K kc G keep hK hkl).mono ?_
 rintro e w' ⟨r, F', rfl, hD, hn1, hn2, hk⟩
 rw [still_crash] at hD
 have hw := theSup.wf h1.kp.du.su
 have hsec := h1.kp.du.sec
 simp only [Nat.zero_add] at hsec
 refine ⟨r, rfl, ⟨F', rows, wh, ⟨hD, fun b hb => ?_, h1.dv.kp.trans hk⟩, h1.ln, h1.n1, h1.fp, h1.fs, h1.jp, h1.js, hw.1, hw.2.1, h1.kp.may, hsec, fun t' x' hh => h1.oth t' x' hh, hdk, fun c hc => ?_⟩, hk, h0.keep hk⟩
 ·rcases hb with hb | hb
  ·exact Nat.le_trans h1.dv.kp.size (hn1 b hb)
  ·rcases hn2 b hb with hb | hb
   ·exact h1.dv.gd b (.inr hb)
   ·exact Nat.le_trans h1.dv.kp.size hb
 ·have hlt := h1.elt c (efoot_all.2 hc)
  refine ⟨fun hf => ?_, Nat.lt_of_lt_of_le hlt hk.size⟩
  rcases hf with hf | hf
  ·have := hn1 c hf; omega
  ·rcases hn2 c hf with hf | hf
   ·exact h1.e1.r c hc (.inr hf)
   ·omega
end
end Go.Proofs.YticophaepapjoaaGreatDoor
