/-
  StOps, StSave, StStart, StBlank, StOpens, StMake, StOpen: texts of mine, joined.
-/
import Derived.Test.YticophaepapjoaaGreatDoorAllA06
namespace Go.Proofs.YticophaepapjoaaGreatDoor
open Go Go.RowKit Go.Joins
section
variable {S : FlashOK} {J : JournalOK} {W w w' : World} {p b q1 q2 q3 k wh n d : Nat} {F F' Fc Fc' Fj Fj' Fs Fs' E : Foot} {s s' : SDev} {z : Sto} {X Y : Nat → Prop}
theorem StBlk.lt {t : Int} (h : StBlk w b q1 q2 k t) : b < w.heap.size := (Array.getElem?_eq_some_iff.1 h).1
theorem StBlk.keep {t : Int} {G : Nat → Prop} (h : StBlk w b q1 q2 k t) (hk : Keeps G w w') (hG : G b) : StBlk w' b q1 q2 k t := (hk.block b hG h.lt).trans h
theorem StBlk.c0 {t : Int} (h : StBlk w b q1 q2 k t) : w.cell? ⟨b, 0, none⟩ = some (.pointer (some ⟨q1, 0, none⟩)) := cell_of_block h 0
theorem StBlk.c1 {t : Int} (h : StBlk w b q1 q2 k t) : w.cell? ⟨b, 1, none⟩ = some (.pointer (some ⟨q2, 0, none⟩)) := cell_of_block h 1
theorem StBlk.c2 {t : Int} (h : StBlk w b q1 q2 k t) : w.cell? ⟨b, 2, none⟩ = some (.pointer (some ⟨k, 0, none⟩)) := cell_of_block h 2
theorem StBlk.c3 {t : Int} (h : StBlk w b q1 q2 k t) : w.cell? ⟨b, 3, none⟩ = some (.int .i64 t) := cell_of_block h 3
theorem StAt.blk (h : StAt S J W w p b q1 q2 k z n d X) : StBlk w b q1 q2 k z.boot := by
 obtain ⟨q3, wh, F, Fc, Fj, Fs, s, h1, h2, -⟩ := h
 exact h2
theorem StAt.kp (h : StAt S J W w p b q1 q2 k z n d X) : Kp W w := by
 obtain ⟨q3, wh, F, Fc, Fj, Fs, s, h1, h2, -⟩ := h
 exact h1.dv.kp
theorem StAt.wf (h : StAt S J W w p b q1 q2 k z n d X) : z.f.Ok ∧ z.j.Ok ∧ z.f.segs = segsOf n ∧ 192 ≤ n := by
 obtain ⟨q3, wh, F, Fc, Fj, Fs, s, h1, h2, -⟩ := h
 exact ⟨S.wf h1.fc, J.wf h1.jr, h1.fs, h1.n1⟩
theorem efoot_more {R : Foot} (h : Apart R (efoot b X)) (hR : ∀ c, R.all c → c < w.heap.size) (hY : ∀ c, Y c → X c ∨ w.heap.size ≤ c) : Apart R (efoot b Y) := by
 refine ⟨fun c hc he => ?_, fun c hc hr => ?_⟩
 ·have := hR c (.inl hc)
  rcases efoot_all.1 he with rfl | hy
  ·exact h.l c hc (efoot_all.2 (.inl rfl))
  ·rcases hY c hy with hx | hx
   ·exact h.l c hc (efoot_all.2 (.inr hx))
   ·omega
 ·have := hR c hr
  rcases hc with rfl | hy
  ·exact h.r c (.inl rfl) hr
  ·rcases hY c hy with hx | hx
   ·exact h.r c (.inr hx) hr
   ·omega
theorem StAt.more (h : StAt S J W w p b q1 q2 k z n d X) (hk : Kp w w') (hY : ∀ c, Y c → X c ∨ (w.heap.size ≤ c ∧ c < w'.heap.size)) : StAt S J W w' p b q1 q2 k z n d Y := by
 obtain ⟨q3, wh, F, Fc, Fj, Fs, s, h1, h2, h3, h4, h5⟩ := h
 have hY2 : ∀ c, Y c → X c ∨ w.heap.size ≤ c := fun c hc => (hY c hc).imp id (·.1)
 have h1' := h1.keep hk
 refine ⟨q3, wh, F, Fc, Fj, Fs, s, { h1' with e1 := efoot_more h1.e1 h1.dv.d.lt hY2, e2 := efoot_more h1.e2 (S.lt h1.fc) hY2, e3 := efoot_more h1.e3 (J.lt h1.jr) hY2, e4 := efoot_more h1.e4 h1.klt hY2, elt := fun c hc => ?_ }, h2.keep hk trivial, h3, fun hb => ?_, h5⟩
 ·rcases efoot_all.1 hc with rfl | hy
  ·exact Nat.lt_of_lt_of_le h2.lt hk.size
  ·rcases hY c hy with hx | hx
   ·exact Nat.lt_of_lt_of_le (h1.elt c (efoot_all.2 (.inr hx))) hk.size
   ·exact hx.2
 ·rcases hY2 b hb with hx | hx
  ·exact h4 hx
  ·have := h2.lt; omega
theorem StAt.keep (h : StAt S J W w p b q1 q2 k z n d X) (hk : Kp w w') : StAt S J W w' p b q1 q2 k z n d X := h.more hk fun _ hb => .inl hb
theorem StAt.less (h : StAt S J W w p b q1 q2 k z n d X) (hY : ∀ c, Y c → X c) : StAt S J W w p b q1 q2 k z n d Y := h.more (Keeps.refl _ _) fun c hc => .inl (hY c hc)
theorem efoot_keeps (h : Keeps (efoot b X).all w w') : Keeps X w w' := h.mono fun c _ hc => efoot_all.2 (.inr hc)
theorem so_c (h1 : StIn S J W w p q1 q2 q3 k wh F Fc Fj Fs s z n (efoot b X)) (h2 : StBlk w b q1 q2 k z.boot) (h3 : W.heap.size ≤ b) (h4 : ¬ X b) {f : FSt} {m : Nat} (hd' : DAt w' p F' s') (hr' : S.rep w' p q1 Fc' f s') (hpl : f.place = z.f.place) (hsg : f.segs = z.f.segs) (hgo : FGo w w' F F' Fc Fc' s s' z.f m) (d : Nat) (hd : 0 < d → ∃ rows c, s' = SDev.still rows c ∧ StOnD S J d ⟨f, z.j, z.t, z.m, z.boot, z.c + 1000 * m⟩ n rows) :
  StAt S J W w' p b q1 q2 k ⟨f, z.j, z.t, z.m, z.boot, z.c + 1000 * m⟩ n d X ∧ Keeps X w w' := by
 obtain ⟨h1', ke⟩ := h1.moveC hd' hr' hpl hsg hgo
 exact ⟨⟨q3, wh, F', Fc', Fj, Fs, s', h1', h2.keep ke (efoot_all.2 (.inl rfl)), h3, h4, hd⟩, efoot_keeps ke⟩
theorem so_j (h1 : StIn S J W w p q1 q2 q3 k wh F Fc Fj Fs s z n (efoot b X)) (h2 : StBlk w b q1 q2 k z.boot) (h3 : W.heap.size ≤ b) (h4 : ¬ X b) {f : JSt} {m : Nat} (hd' : DAt w' p F' s') (hr' : J.rep w' p q2 Fj' f s') (hpl : f.place = z.j.place) (hsg : f.segs = z.j.segs) (hgo : JGo w w' F F' Fj Fj' s s' z.j m) (d : Nat) (hd : 0 < d → ∃ rows c, s' = SDev.still rows c ∧ StOnD S J d ⟨z.f, f, z.t, z.m, z.boot, z.c + 1000 * m⟩ n rows) :
  StAt S J W w' p b q1 q2 k ⟨z.f, f, z.t, z.m, z.boot, z.c + 1000 * m⟩ n d X ∧ Keeps X w w' := by
 obtain ⟨h1', ke⟩ := h1.moveJ hd' hr' hpl hsg hgo
 exact ⟨⟨q3, wh, F', Fc, Fj', Fs, s', h1', h2.keep ke (efoot_all.2 (.inl rfl)), h3, h4, hd⟩, efoot_keeps ke⟩
theorem so_put (hT : S.T W) (h : StAt S J W w p b q1 q2 k z n d X) (hage : z.f.age ≤ 20000) (hc : z.c ≤ 400000000000) (x : It) (hm : x.may = true) (hg : x.gone = false) :
  Calls Tryz.prog 14 #[.pointer (some ⟨q1, 0, none⟩), .agg #[.string x.key, .string x.val, .int .i64 x.till, .bool x.gone]] w fun e w' => e = .returned (.int .i64 0) ∧ ∃ g, z.f.gone ≤ g ∧ StAt S J W w' p b q1 q2 k ⟨⟨z.f.place, z.f.segs, z.f.ents ++ [fput x], g, z.f.age + 1⟩, z.j, z.t, z.m, z.boot, z.c + 2000⟩ n 0 X ∧ Keeps X w w' := by
 obtain ⟨q3, wh, F, Fc, Fj, Fs, s, h1, h2, h3, h4, h5⟩ := h
 refine (S.put W w p q1 F Fc s z.f h1.dv.d h1.fc h1.a1 hT h1.dv.kp h1.dv.gd h1.g1 h1.roomF hage (by have := h1.c; omega) x hm hg).mono ?_
 rintro e w' ⟨rfl, F', Fc', s', g, hd', hr', hgg, hgo⟩
 exact ⟨rfl, g, hgg, so_c h1 h2 h3 h4 hd' hr' rfl rfl hgo 0 fun h => absurd h (Nat.lt_irrefl 0)⟩
theorem so_get (hT : S.T W) (h : StAt S J W w p b q1 q2 k z n d X) (key : ByteArray) (now : Int) (hk : key.size ≤ 1000000) (h8 : -9223372036854775808 ≤ now) (h9 : now < 9223372036854775808) (e0 : Ending) (he : e0 = getE z.f key now) :
  Calls Tryz.prog 25 #[.pointer (some ⟨q1, 0, none⟩), .string key, .int .i64 now] w fun e w' => e = e0 ∧ Kp w w' ∧ StAt S J W w' p b q1 q2 k z n d X := by
 subst he
 have h0 := h
 obtain ⟨q3, wh, F, Fc, Fj, Fs, s, h1, h2, h3, h4, h5⟩ := h
 refine (S.get w p q1 F Fc s z.f h1.dv.d h1.fc h1.a1 (S.tk hT h1.dv.kp) h1.roomF key now hk h8 h9).mono ?_
 rintro e w' ⟨rfl, hk⟩
 exact ⟨rfl, hk, h0.keep hk⟩
theorem so_keys (hT : S.T W) (h : StAt S J W w p b q1 q2 k z n d X) :
  Calls Tryz.prog 30 #[.pointer (some ⟨q1, 0, none⟩)] w fun e w' => ∃ (A : Option Addr) (c : Nat) (ks : List ByteArray), e = .returned (.slice A ks.length c) ∧ Rising ks ∧ (∀ k, k ∈ ks ↔ (z.f.at_ k).isSome = true) ∧ ks.length ≤ c ∧ c ≤ maxLen ∧ TextsAt w' A (fun b => w.heap.size ≤ b ∧ b < w'.heap.size) ks ∧ Kp w w' ∧ StAt S J W w' p b q1 q2 k z n d X := by
 have h0 := h
 obtain ⟨q3, wh, F, Fc, Fj, Fs, s, h1, h2, h3, h4, h5⟩ := h
 refine (S.keys w p q1 F Fc s z.f h1.dv.d h1.fc h1.a1 (S.tk hT h1.dv.kp) h1.roomF).mono ?_
 rintro e w' ⟨A, c, ks, rfl, hr, hm, hl, hc, ht, hk⟩
 exact ⟨A, c, ks, rfl, hr, hm, hl, hc, ht, hk, h0.keep hk⟩
theorem so_flush (hT : S.T W) (h : StAt S J W w p b q1 q2 k z n d X) (hage : z.f.age ≤ 20000) (hc : z.c ≤ 400000000000) :
  Calls Tryz.prog 20 #[.pointer (some ⟨q1, 0, none⟩)] w fun e w' => e = .returned (.int .i64 0) ∧ StAt S J W w' p b q1 q2 k ⟨⟨z.f.place, z.f.segs, z.f.ents, z.f.gone, z.f.age + 1⟩, z.j, z.t, z.m, z.boot, z.c + 1000⟩ n 0 X ∧ Keeps X w w' := by
 obtain ⟨q3, wh, F, Fc, Fj, Fs, s, h1, h2, h3, h4, h5⟩ := h
 refine (S.flush W w p q1 F Fc s z.f h1.dv.d h1.fc h1.a1 hT h1.dv.kp h1.dv.gd h1.g1 h1.roomF hage (by have := h1.c; omega)).mono ?_
 rintro e w' ⟨rfl, F', Fc', rows, c, hd', hr', hdk, hgo⟩
 exact ⟨rfl, so_c h1 h2 h3 h4 hd' hr' rfl rfl hgo 0 fun h => absurd h (Nat.lt_irrefl 0)⟩
theorem so_drop (hT : S.T W) (h : StAt S J W w p b q1 q2 k z n 3 X) (hage : z.f.age ≤ 20000) (hc : z.c ≤ 400000000000) (A : Option Addr) (ks : List ByteArray) (hrow : Row w A X (ks.map Value.string)) (c m : Nat) (hn : m = ks.length) (hcc : m ≤ c) (hcm : c ≤ maxLen) (hl : m ≤ 1000) (hok : ∀ k ∈ ks, keyOk k) :
  Calls Tryz.prog 47 #[.pointer (some ⟨q1, 0, none⟩), .slice A m c] w fun e w' => e = .returned (.int .i64 0) ∧ ∃ g, z.f.gone ≤ g ∧ StAt S J W w' p b q1 q2 k ⟨⟨z.f.place, z.f.segs, z.f.ents ++ ks.map grave, g, z.f.age + ks.length + 1⟩, z.j, z.t, z.m, z.boot, z.c + 1000 * (ks.length + 1)⟩ n 2 X ∧ Keeps X w w' := by
 subst hn
 obtain ⟨q3, wh, F, Fc, Fj, Fs, s, h1, h2, h3, h4, h5⟩ := h
 obtain ⟨rows0, c0, rfl, hod⟩ := h5 (by decide)
 have hj : J.disk z.j rows0 := by
  rcases hod with ⟨h, -⟩ | ⟨h, -⟩ | ⟨-, h⟩
  ·cases h
  ·cases h
  ·exact h
 refine (S.drop W w p q1 F Fc _ z.f h1.dv.d h1.fc h1.a1 hT h1.dv.kp h1.dv.gd h1.g1 h1.roomF hage (by have := h1.c; omega) A c ks (hrow.mono fun c _ hc => ⟨h1.e1.r c (.inr hc), h1.e2.r c (.inr hc)⟩) hcc hcm hl hok).mono ?_
 rintro e w' ⟨rfl, F', Fc', rows, k1, g, hd', hr', hdk, hgg, hgo⟩
 refine ⟨rfl, g, hgg, so_c h1 h2 h3 h4 hd' hr' rfl rfl hgo 2 fun _ => ⟨rows, k1, rfl, .inr (.inl ⟨rfl, hdk, ?_⟩)⟩⟩
 refine J.diskKeep hj hgo.len fun i hi => hgo.out i fun hh => ?_
 have := hh.1; have := hi.2; rw [h1.fp] at *; rw [h1.jp, h1.js] at *; omega
theorem so_add (hT : J.T W) (h : StAt S J W w p b q1 q2 k z n d X) (hage : z.j.age ≤ 20000) (hc : z.c ≤ 400000000000) (A : Option Addr) (ks : List ByteArray) (hrow : Row w A X (ks.map Value.string)) (c m : Nat) (hn : m = ks.length) (hcc : m ≤ c) (hcm : c ≤ maxLen) (hl : m ≤ 1000) (hok : ∀ k ∈ ks, keyOk k) (y : Int) (hy : y = ((z.j.keys.length + ks.length : Nat) : Int)) :
  Calls Tryz.prog 26 #[.pointer (some ⟨q2, 0, none⟩), .slice A m c] w fun e w' => e = .returned (.tuple #[.int .i64 y, .int .i64 0]) ∧ ∃ g, z.j.base ≤ g ∧ StAt S J W w' p b q1 q2 k ⟨z.f, jadd z.j ks g, z.t, z.m, z.boot, z.c + 1000 * (ks.length + 1)⟩ n 3 X ∧ Keeps X w w' := by
 subst hn hy
 obtain ⟨q3, wh, F, Fc, Fj, Fs, s, h1, h2, h3, h4, h5⟩ := h
 refine (J.add W w p q2 F Fj s z.j h1.dv.d h1.jr h1.a2 hT h1.dv.kp h1.dv.gd h1.g2 h1.roomJ hage (by have := h1.c; omega) A c ks (hrow.mono fun c _ hc => ⟨h1.e1.r c (.inr hc), h1.e3.r c (.inr hc)⟩) hcc hcm hl hok).mono ?_
 rintro e w' ⟨rfl, F', Fj', rows, k1, g, hd', hr', hdk, hgg, hgo⟩
 exact ⟨rfl, g, hgg, so_j h1 h2 h3 h4 hd' hr' rfl rfl hgo 3 fun _ => ⟨rows, k1, rfl, .inr (.inr ⟨rfl, hdk⟩)⟩⟩
theorem so_seq (hT : J.T W) (h : StAt S J W w p b q1 q2 k z n d X) (m : Int) (hm : m = (z.j.keys.length : Int)) :
  Calls Tryz.prog 24 #[.pointer (some ⟨q2, 0, none⟩)] w fun e w' => e = .returned (.int .i64 m) ∧ Kp w w' ∧ StAt S J W w' p b q1 q2 k z n d X := by
 subst hm
 have h0 := h
 obtain ⟨q3, wh, F, Fc, Fj, Fs, s, h1, h2, h3, h4, h5⟩ := h
 refine (J.seqIs w p q2 Fj s z.j h1.jr (J.tk hT h1.dv.kp)).mono ?_
 rintro e w' ⟨rfl, hk⟩
 exact ⟨rfl, hk, h0.keep hk⟩
theorem so_meta (h : StAt S J W w p b q1 q2 k z n d X) :
  Calls Tryz.prog 12 #[.pointer (some ⟨k, 0, none⟩)] w fun e w' => e = .returned (magg z.m) ∧ Kp w w' ∧ StAt S J W w' p b q1 q2 k z n d X := by
 have h0 := h
 obtain ⟨q3, wh, F, Fc, Fj, Fs, s, h1, h2, h3, h4, h5⟩ := h
 refine (kmeta_any w k q3 z.m h1.kp.kb).mono ?_
 rintro e w' ⟨rfl, hk⟩
 exact ⟨rfl, hk, h0.keep hk⟩
theorem StAt.dev (h : StAt S J W w p b q1 q2 k z n d X) : StDev W w p n z.c X := by
 obtain ⟨q3, wh, F, Fc, Fj, Fs, s, h1, h2, h3, h4, h5⟩ := h
 exact ⟨F, s, h1.dv, h1.ln, h1.c, fun c hc => ⟨h1.e1.r c (.inr hc), h1.elt c (efoot_all.2 (.inr hc))⟩⟩
theorem so_crash (h : StAt S J W w p b q1 q2 k z n d X) (hd : 0 < d) (K : Option Addr) (kc : Nat) (G : Nat → Prop) (keep : List Bool) (m : Nat) (hm : m = keep.length) (hK : Row w K G (keep.map Value.bool)) (hkl : keep.length ≤ maxLen) :
  Calls Tryz.prog 21 #[.pointer (some ⟨p, 0, none⟩), .slice K m kc] w fun e w' => ∃ r, e = .returned (.pointer (some ⟨r, 0, none⟩)) ∧ StDisk S J W w' r z n d (fun c => c = b ∨ X c) ∧ Kp w w' ∧ StAt S J W w' p b q1 q2 k z n d X := by
 have h0 := h
 subst hm
 obtain ⟨q3, wh, F, Fc, Fj, Fs, s, h1, h2, h3, h4, h5⟩ := h
 obtain ⟨rows, c, rfl, hdk⟩ := h5 hd
 refine (dcrash_any w p F _ h1.dv.d K kc G keep hK hkl).mono ?_
 rintro e w' ⟨r, F', rfl, hD, hn1, hn2, hk⟩
 rw [still_crash] at hD
 have hw := theSup.wf h1.kp.du.su
 have hsec := h1.kp.du.sec
 simp only [Nat.zero_add] at hsec
 refine ⟨r, rfl, ⟨F', rows, wh, ⟨hD, fun b hb => ?_, h1.dv.kp.trans hk⟩, h1.ln, h1.n1, h1.fp, h1.fs, h1.jp, h1.js, hw.1, hw.2.1, h1.kp.may, hsec, fun t' x' hh => h1.oth t' x' hh, hdk, fun c hc => ?_⟩, hk, h0.keep hk⟩
 ·rcases hb with hb | hb
  ·exact Nat.le_trans h1.dv.kp.size (hn1 b hb)
  ·rcases hn2 b hb with hb | hb
   ·exact h1.dv.gd b (.inr hb)
   ·exact Nat.le_trans h1.dv.kp.size hb
 ·have hlt := h1.elt c (efoot_all.2 hc)
  refine ⟨fun hf => ?_, Nat.lt_of_lt_of_le hlt hk.size⟩
  rcases hf with hf | hf
  ·have := hn1 c hf; omega
  ·rcases hn2 c hf with hf | hf
   ·exact h1.e1.r c hc (.inr hf)
   ·omega
end
section
variable {S : FlashOK} {J : JournalOK} {W w w' : World} {p b q1 q2 q3 k wh n d : Nat} {F F' Fc Fc' Fj Fj' Fs Fs' E : Foot} {s s' : SDev} {z : Sto} {X Y : Nat → Prop}
theorem kgo {st' : SSt} {m' : M4} (hK : Kep W w' p q3 k F' Fs' s' st' m') (hk : Keeps (fun b => ¬ F.M b ∧ ¬ Fs.M b ∧ b ≠ k) w w') (f1 : ∀ b, F'.M b → F.M b ∨ w.heap.size ≤ b) (f2 : ∀ b, F'.I b → F.all b ∨ w.heap.size ≤ b) (f3 : ∀ b, Fs'.M b → Fs.M b ∨ w.heap.size ≤ b) (f4 : ∀ b, Fs'.I b → Fs.all b ∨ w.heap.size ≤ b) : StGo w w' F F' (kfoot k Fs) (kfoot k Fs') := by
 refine ⟨⟨fun b hb hf => ?_, fun b hb hf => ?_⟩, hk.mono fun b _ hb => ⟨hb.1, fun hm => hb.2 (.inl hm), fun e => hb.2 (.inr e)⟩, f1, f2, fun b hb => ?_, fun b hb => ?_⟩
 ·rcases kfoot_all.1 hf with hf | rfl
  ·exact hK.du.ap.l b hb hf
  ·exact hK.nf (.inl hb)
 ·rcases hb with hb | rfl
  ·exact hK.du.ap.r b hb hf
  ·exact hK.nf hf
 ·rcases hb with hb | rfl
  ·exact (f3 b hb).imp .inl id
  ·exact .inl (.inr rfl)
 ·exact (f4 b hb).imp (fun h => kfoot_all.2 (.inl h)) id
theorem set_getD_ne (rows : List (List UInt8)) (i j : Nat) (e : List UInt8) (h : i ≠ j) : (rows.set i e).getD j [] = rows.getD j [] := by
 rw [List.getD_eq_getElem?_getD, List.getElem?_set_ne h, ← List.getD_eq_getElem?_getD]
theorem StIn.moveK (hT : theSup.T W) (h : StIn S J W w p q1 q2 q3 k wh F Fc Fj Fs s z n E) (x : M4) (hx : (mayB x && overB z.m x) = true) (hc : z.c ≤ 400000000000) (ht : z.t ≤ 400000000000) :
  Calls Tryz.prog 19 #[.pointer (some ⟨k, 0, none⟩), magg x] w fun e w' => e = .returned (.int .i64 0) ∧ ∃ (F' Fs' : Foot) (c : Nat),
   StIn S J W w' p q1 q2 q3 k (1 - wh) F' Fc Fj Fs' (SDev.still (s.now.set (1 - wh) (theSup.enc (z.t + 1) (encM x))) c) ⟨z.f, z.j, z.t + 1, x, z.boot, z.c + 100⟩ n E ∧ Keeps E.all w w' := by
 have hcc := h.c
 refine (ksave_yes W w hT p q3 k F Fs s _ z.m x h.kp (by omega) (show z.t ≤ _ by omega) hx).mono ?_
 rintro e w' ⟨rfl, F', Fs', c, hK, hcn, hkk, f1, f2, f3, f4⟩
 simp only [Nat.zero_add] at hK
 have hg := kgo hK hkk f1 f2 f3 f4
 have hw1 := h.wh1
 have hwf := theSup.wf h.kp.du.su
 have hsec := h.kp.du.sec
 obtain ⟨a1, a5, k1⟩ := hg.rest h.a1 h.a5.symm (S.lt h.fc)
 obtain ⟨a2, a6, k2⟩ := hg.rest h.a2 h.a6.symm (J.lt h.jr)
 obtain ⟨e1, e4, ke⟩ := hg.rest h.e1 h.e4 h.elt
 have hlen : (s.now.set (1 - wh) (theSup.enc (z.t + 1) (encM x))).length = s.now.length := List.length_set ..
 refine ⟨rfl, F', Fs', c, ⟨S.other (S.keep h.fc k1) hlen fun i hi => ?_, J.other (J.keep h.jr k2) hlen fun i hi => ?_, hK, a1, a2, hg.ap, h.a4, a5.symm, a6.symm, e1, h.e2, h.e3, e4, fun b hb => Nat.lt_of_lt_of_le (h.elt b hb) hkk.size, h.g1, h.g2, hlen.trans h.ln, h.n1, h.fp, h.fs, h.jp, h.js, ?_, ?_⟩, ke⟩
 ·have := hi.1; rw [h.fp] at this
  exact set_getD_ne _ _ _ _ (by omega)
 ·have := hi.1; rw [h.jp] at this
  exact set_getD_ne _ _ _ _ (by omega)
 ·have := oth_save (S := theSup) (rows := s.now) (st := ⟨p, 0, wh, z.t, encM z.m⟩) p (theSup.enc (z.t + 1) (encM x)) (encM x) hwf.1 hwf.2.1 hwf.2.2 (show z.t ≤ _ by omega) hsec
  simp only [Nat.zero_add] at this
  exact this
 ·show c ≤ z.c + 100; omega
theorem StIn.more (h : StIn S J W w p q1 q2 q3 k wh F Fc Fj Fs s z n ⟨X, fun _ => False⟩) (hk : Kp w w') (hY : ∀ c, Y c → X c ∨ (w.heap.size ≤ c ∧ c < w'.heap.size)) : StIn S J W w' p q1 q2 q3 k wh F Fc Fj Fs s z n ⟨Y, fun _ => False⟩ := by
 have h' := h.keep hk
 have hE : ∀ {R : Foot}, Apart R ⟨X, fun _ => False⟩ → (∀ c, R.all c → c < w.heap.size) → Apart R ⟨Y, fun _ => False⟩ := fun ha hlt => by
  refine ⟨fun c hc he => ?_, fun c hc hr => ?_⟩
  ·have := hlt c (.inl hc)
   rcases he with hy | hy
   ·rcases hY c hy with hx | hx
    ·exact ha.l c hc (.inl hx)
    ·omega
   ·exact hy
  ·have := hlt c hr
   rcases hY c hc with hx | hx
   ·exact ha.r c hx hr
   ·omega
 refine { h' with e1 := hE h.e1 h.dv.d.lt, e2 := hE h.e2 (S.lt h.fc), e3 := hE h.e3 (J.lt h.jr), e4 := hE h.e4 h.klt, elt := fun c hc => ?_ }
 rcases hc with hy | hy
 ·rcases hY c hy with hx | hx
  ·exact Nat.lt_of_lt_of_le (h.elt c (.inl hx)) hk.size
  ·exact hx.2
 ·exact hy.elim
theorem StIn.block (h : StIn S J W w p q1 q2 q3 k wh F Fc Fj Fs s z n ⟨X, fun _ => False⟩) (t : Int) (w' : World) (hw : w' = w.alloc (.cells #[.pointer (some ⟨q1, 0, none⟩), .pointer (some ⟨q2, 0, none⟩), .pointer (some ⟨k, 0, none⟩), .int .i64 t] 38)) :
  StIn S J W w' p q1 q2 q3 k wh F Fc Fj Fs s z n (efoot w.heap.size X) ∧ StBlk w' w.heap.size q1 q2 k t ∧ W.heap.size ≤ w.heap.size ∧ ¬ X w.heap.size := by
 subst hw
 have hk : Kp w (w.alloc (.cells #[.pointer (some ⟨q1, 0, none⟩), .pointer (some ⟨q2, 0, none⟩), .pointer (some ⟨k, 0, none⟩), .int .i64 t] 38)) := (Keeps.refl _ w).alloc _
 have h' := h.keep hk
 have hE : ∀ {R : Foot}, Apart R ⟨X, fun _ => False⟩ → (∀ c, R.all c → c < w.heap.size) → Apart R (efoot w.heap.size X) := fun ha hlt => by
  refine ⟨fun c hc he => ?_, fun c hc hr => ?_⟩
  ·have := hlt c (.inl hc)
   rcases efoot_all.1 he with rfl | hx
   ·omega
   ·exact ha.l c hc (.inl hx)
  ·have := hlt c hr
   rcases hc with rfl | hx
   ·omega
   ·exact ha.r c hx hr
 refine ⟨{ h' with e1 := hE h.e1 h.dv.d.lt, e2 := hE h.e2 (S.lt h.fc), e3 := hE h.e3 (J.lt h.jr), e4 := hE h.e4 h.klt, elt := fun c hc => ?_ }, heap_alloc_new w _, h.dv.kp.size, fun hx => ?_⟩
 ·have hs : (w.alloc (.cells #[.pointer (some ⟨q1, 0, none⟩), .pointer (some ⟨q2, 0, none⟩), .pointer (some ⟨k, 0, none⟩), .int .i64 t] 38)).heap.size = w.heap.size + 1 := by simp
  rcases efoot_all.1 hc with rfl | hx
  ·omega
  ·have := h.elt c (.inl hx); omega
 ·have := h.elt _ (.inl hx); omega
end
theorem csegs_any (w : World) (p : Nat) (F : Foot) (s : SDev) (h : DAt w p F s) (n : Nat) (hn : s.now.length = n) (h1 : 192 ≤ n) (h2 : n ≤ 2048) :
  Calls Tryz.prog 36 #[.pointer (some ⟨p, 0, none⟩)] w fun e w' => e = .returned (.int .i64 (segsOf n : Int)) ∧ w = w' := by
 have HL := Lib.hid (dlen_any w p F s h)
 rw [hn] at HL
 clear h hn
 have hr : (segsOf n : Int) = min (((n - 162) / 8 : Nat) : Int) 200 := by unfold segsOf; omega
 rw [hr]
 go_enter Tryz.func36, Tryz.ntmps36
 go_wp2_with fail
 refine (show Calls _ _ _ _ _ from HL.out).mono ?_
 rintro e w' ⟨rfl, rfl⟩
 go_wp2_with fail
 go_ret
 exact ⟨congrArg (fun z => Ending.returned (Value.int .i64 z)) (show min (((n : Int) - 162) / 8) 200 = min (((n - 162) / 8 : Nat) : Int) 200 by omega), rfl⟩
def JOpens (J : JournalOK) (p : Nat) (s : SDev) (P : JSt → Prop) (w : World) : Prop := ∀ w1, Kp w w1 → Calls Tryz.prog 66 #[.pointer (some ⟨p, 0, none⟩), .int .i64 2, .int .i64 20] w1 fun e w' => ∃ (q : Nat) (Fj : Foot) (j : JSt), e = .returned (.tuple #[.pointer (some ⟨q, 0, none⟩), .int .i64 0]) ∧ J.rep w' p q Fj j s ∧ j.place = 2 ∧ j.segs = 20 ∧ P j ∧ (∀ b, Fj.all b → w1.heap.size ≤ b) ∧ Kp w1 w'
def COpens (S : FlashOK) (p : Nat) (s : SDev) (n : Nat) (P : FSt → Prop) (w : World) : Prop := ∀ w1, Kp w w1 → Calls Tryz.prog 67 #[.pointer (some ⟨p, 0, none⟩), .int .i64 162, .int .i64 (segsOf n : Int)] w1 fun e w' => ∃ (q : Nat) (Fc : Foot) (f : FSt), e = .returned (.tuple #[.pointer (some ⟨q, 0, none⟩), .int .i64 0]) ∧ S.rep w' p q Fc f s ∧ f.place = 162 ∧ f.segs = segsOf n ∧ P f ∧ (∀ b, Fc.all b → w1.heap.size ≤ b) ∧ Kp w1 w'
def nextM (m : M4) : M4 := ⟨m.boot + 1, m.epoch, m.ready, m.frozen⟩
theorem next_ok {m : M4} (h : mayB m = true) (hb : m.boot < 1099511627776) : (mayB (nextM m) && overB m (nextM m)) = true := by
 unfold mayB small12 at h
 simp only [Bool.and_eq_true, decide_eq_true_eq] at h
 obtain ⟨⟨h1, h2, h3, h4, h5, h6⟩, h7⟩ := h
 unfold mayB small12 overB nextM
 simp only [Bool.and_eq_true, decide_eq_true_eq]
 exact ⟨⟨⟨by omega, by omega, h3, h4, h5, h6⟩, h7⟩, by omega, by omega⟩
section
variable {S : FlashOK} {J : JournalOK} {W w w1 w2 w3 w' : World} {p b q1 q2 q3 k wh n d : Nat} {F Fc Fj Fs : Foot} {s : SDev} {z : Sto} {X : Nat → Prop} {f : FSt} {j : JSt} {m : M4} {t : Nat}
theorem StIn.made (h : Kep W w p q3 k F Fs s ⟨p, 0, wh, t, encM m⟩ m) (ho : Oth theSup s.now ⟨p, 0, wh, t, encM m⟩) (hn : s.now.length = n) (h1 : 192 ≤ n) (hX : ∀ c, X c → ¬ F.all c ∧ ¬ (kfoot k Fs).all c ∧ c < w.heap.size)
  (hw2 : Kp w w2) (hj : J.rep w2 p q2 Fj j s) (j1 : j.place = 2) (j2 : j.segs = 20) (gj : ∀ b, Fj.all b → w.heap.size ≤ b) (hw3 : Kp w2 w3) (hc : S.rep w3 p q1 Fc f s) (f1 : f.place = 162) (f2 : f.segs = segsOf n) (gc : ∀ b, Fc.all b → w2.heap.size ≤ b) (boot : Int) (c : Nat) (hcc : s.calls ≤ c) :
  StIn S J W w3 p q1 q2 q3 k wh F Fc Fj Fs s ⟨f, j, t, m, boot, c⟩ n ⟨X, fun _ => False⟩ := by
 have s1 := hw2.size
 have s2 := hw3.size
 have s0 := h.du.dv.kp.size
 have hFl : ∀ b, F.all b → b < w.heap.size := h.du.dv.d.lt
 have hkl : ∀ b, (kfoot k Fs).all b → b < w.heap.size := fun c hc => by
  rcases kfoot_all.1 hc with hc | rfl
  ·exact theSup.lt h.du.su c hc
  ·exact h.kb.lt
 have hjl : ∀ b, Fj.all b → b < w2.heap.size := J.lt hj
 have hXl : ∀ b, (⟨X, fun _ => False⟩ : Foot).all b → X b := fun b hb => hb.elim id fun h => h.elim
 refine ⟨hc, J.keep hj (hw3.mono fun _ _ _ => trivial), (h.keep hw2).keep hw3, ?_, ?_, ?_, ?_, ?_, ?_, ?_, ?_, ?_, ?_, fun b hb => ?_, fun b hb => ?_, fun b hb => ?_, hn, h1, f1, f2, j1, j2, ho, hcc⟩
 ·exact ⟨fun b hb hf => by have := hFl b (.inl hb); have := gc b hf; omega, fun b hb hf => by have := hFl b hf; have := gc b (.inl hb); omega⟩
 ·exact ⟨fun b hb hf => by have := hFl b (.inl hb); have := gj b hf; omega, fun b hb hf => by have := hFl b hf; have := gj b (.inl hb); omega⟩
 ·refine ⟨fun b hb hf => ?_, fun b hb hf => ?_⟩
  ·rcases kfoot_all.1 hf with hf | rfl
   ·exact h.du.ap.l b hb hf
   ·exact h.nf (.inl hb)
  ·rcases hb with hb | rfl
   ·exact h.du.ap.r b hb hf
   ·exact h.nf hf
 ·exact ⟨fun b hb hf => by have := hjl b hf; have := gc b (.inl hb); omega, fun b hb hf => by have := hjl b (.inl hb); have := gc b hf; omega⟩
 ·exact ⟨fun b hb hf => by have := hkl b hf; have := gc b (.inl hb); omega, fun b hb hf => by have := hkl b (.inl hb); have := gc b hf; omega⟩
 ·exact ⟨fun b hb hf => by have := hkl b hf; have := gj b (.inl hb); omega, fun b hb hf => by have := hkl b (.inl hb); have := gj b hf; omega⟩
 ·exact ⟨fun b hb hf => (hX b (hXl b hf)).1 (.inl hb), fun b hb hf => (hX b hb).1 hf⟩
 ·exact ⟨fun b hb hf => by have := (hX b (hXl b hf)).2.2; have := gc b (.inl hb); omega, fun b hb hf => by have := (hX b hb).2.2; have := gc b hf; omega⟩
 ·exact ⟨fun b hb hf => by have := (hX b (hXl b hf)).2.2; have := gj b (.inl hb); omega, fun b hb hf => by have := (hX b hb).2.2; have := gj b hf; omega⟩
 ·exact ⟨fun b hb hf => (hX b (hXl b hf)).2.1 (.inl hb), fun b hb hf => (hX b hb).2.1 hf⟩
 ·have := (hX b (hXl b hb)).2.2; omega
 ·have := gc b hb; omega
 ·have := gj b hb; omega
def Started (S : FlashOK) (J : JournalOK) (W : World) (p wh t n : Nat) (s : SDev) (m : M4) (X : Nat → Prop) (PC : FSt → Prop) (PJ : JSt → Prop) (w : World) (e : Ending) (w' : World) : Prop :=
 ∃ (b q1 q2 q3 k : Nat) (F Fc Fj Fs : Foot) (c : Nat) (f : FSt) (j : JSt), e = .returned (.tuple #[.pointer (some ⟨b, 0, none⟩), .int .i64 0]) ∧ PC f ∧ PJ j ∧
  StIn S J W w' p q1 q2 q3 k (1 - wh) F Fc Fj Fs (SDev.still (s.now.set (1 - wh) (theSup.enc (t + 1) (encM (nextM m)))) c) ⟨f, j, t + 1, nextM m, m.boot + 1, s.calls + 100⟩ n (efoot b X) ∧ StBlk w' b q1 q2 k (m.boot + 1) ∧ W.heap.size ≤ b ∧ ¬ X b ∧ Keeps X w w'
set_option maxRecDepth 100000 in
set_option maxHeartbeats 2000000 in
theorem sstart (hT : theSup.T W) (h : Kep W w p q3 k F Fs s ⟨p, 0, wh, t, encM m⟩ m) (ho : Oth theSup s.now ⟨p, 0, wh, t, encM m⟩) (hn : s.now.length = n) (h1 : 192 ≤ n) (hX : ∀ c, X c → ¬ F.all c ∧ ¬ (kfoot k Fs).all c ∧ c < w.heap.size)
  (PC : FSt → Prop) (PJ : JSt → Prop) (hJ : JOpens J p s PJ w) (hC : COpens S p s n PC w) (hb : m.boot < 1099511627776) (ht : t ≤ 300000000000) (hc : s.calls ≤ 300000000000) :
  Calls Tryz.prog 39 #[.pointer (some ⟨p, 0, none⟩), .pointer (some ⟨k, 0, none⟩)] w (Started S J W p wh t n s m X PC PJ w) := by
 have hsm : n ≤ 2048 := by rw [← hn]; exact h.du.dv.d.ok.small
 have HJ := Lib.hid hJ
 have HC := Lib.hid hC
 have HCS := Lib.hid (show ∀ w1, Kp w w1 → Calls Tryz.prog 36 #[.pointer (some ⟨p, 0, none⟩)] w1 fun e w' => e = .returned (.int .i64 (segsOf n : Int)) ∧ w1 = w' from fun w1 hk => csegs_any w1 p F s (h.keep hk).du.dv.d n hn h1 hsm)
 have HM := Lib.hid (show ∀ w1, Kp w w1 → Calls Tryz.prog 12 #[.pointer (some ⟨k, 0, none⟩)] w1 fun e w' => e = .returned (magg m) ∧ Kp w1 w' from fun w1 hk => kmeta_any w1 k q3 m (h.keep hk).kb)
 have HIN := Lib.hid (show ∀ (w2 w3 : World) (q1 q2 : Nat) (Fj Fc : Foot) (j : JSt) (f : FSt), Kp w w2 → J.rep w2 p q2 Fj j s → j.place = 2 → j.segs = 20 → (∀ b, Fj.all b → w.heap.size ≤ b) → Kp w2 w3 → S.rep w3 p q1 Fc f s → f.place = 162 → f.segs = segsOf n → (∀ b, Fc.all b → w2.heap.size ≤ b) → StIn S J W w3 p q1 q2 q3 k wh F Fc Fj Fs s ⟨f, j, t, m, m.boot + 1, s.calls⟩ n ⟨X, fun _ => False⟩ from
  fun w2 w3 q1 q2 Fj Fc j f a b c d e f' g i l o => StIn.made h ho hn h1 hX a b c d e f' g i l o (m.boot + 1) s.calls (Nat.le_refl _))
 have HSV := Lib.hid (show ∀ (w3 : World) (q1 q2 : Nat) (Fj Fc : Foot) (j : JSt) (f : FSt) (E : Foot), StIn S J W w3 p q1 q2 q3 k wh F Fc Fj Fs s ⟨f, j, t, m, m.boot + 1, s.calls⟩ n E → Calls Tryz.prog 19 #[.pointer (some ⟨k, 0, none⟩), magg (nextM m)] w3 fun e w' => e = .returned (.int .i64 0) ∧ ∃ (F' Fs' : Foot) (c : Nat),
   StIn S J W w' p q1 q2 q3 k (1 - wh) F' Fc Fj Fs' (SDev.still (s.now.set (1 - wh) (theSup.enc (t + 1) (encM (nextM m)))) c) ⟨f, j, t + 1, nextM m, m.boot + 1, s.calls + 100⟩ n E ∧ Keeps E.all w3 w' from
  fun w3 q1 q2 Fj Fc j f E hI => hI.moveK hT (nextM m) (next_ok h.may hb) (by show s.calls ≤ _; omega) (by show t ≤ _; omega))
 have HB := Lib.hid hb
 have HB0 := Lib.hid (show -9223372036854775808 ≤ m.boot by have := (may_fits h.may).b1; omega)
 clear h ho hn hX hJ hC ht hc hT
 have HNM := Lib.hid (show nextM m = ⟨m.boot + 1, m.epoch, m.ready, m.frozen⟩ from rfl)
 obtain ⟨bo, ep, re, fr⟩ := m
 have hm : magg ⟨bo, ep, re, fr⟩ = .agg #[.int .i64 bo, .int .i64 ep, .int .i64 re, .bool fr] := rfl
 have hm2 : magg (nextM ⟨bo, ep, re, fr⟩) = .agg #[.int .i64 (bo + 1), .int .i64 ep, .int .i64 re, .bool fr] := rfl
 rw [hm] at HM
 rw [hm2] at HSV
 have hb1 : bo < 1099511627776 := HB.out
 have hb2 : -9223372036854775808 ≤ bo := HB0.out
 clear hm hm2 HB HB0
 go_enter Tryz.func39, Tryz.ntmps39
 go_wp2_with fail
 refine (show Calls _ _ _ _ _ from HJ.out w (Keeps.refl _ _)).mono ?_
 rintro e w2 ⟨q2, Fj, j, rfl, hj, j1, j2, pj, gj, k2⟩
 have K2 := Lib.hid k2
 have HJR := Lib.hid (And.intro hj (And.intro j1 (And.intro j2 (And.intro pj gj))))
 clear hj j1 j2 pj gj k2 HJ
 go_wp2_with fail
 refine (show Calls _ _ _ _ _ from HCS.out w2 K2.out).mono ?_
 rintro e w3 ⟨rfl, rfl⟩
 clear HCS
 go_wp2_with fail
 refine (show Calls _ _ _ _ _ from HC.out w2 K2.out).mono ?_
 rintro e w3 ⟨q1, Fc, f, rfl, hc, f1, f2, pf, gc, k3⟩
 have K3 := Lib.hid (K2.out.trans k3)
 have HI := Lib.hid (HIN.out w2 w3 q1 q2 Fj Fc j f K2.out HJR.out.1 HJR.out.2.1 HJR.out.2.2.1 HJR.out.2.2.2.2 k3 hc f1 f2 gc)
 have HP := Lib.hid (And.intro pf HJR.out.2.2.2.1)
 clear hc f1 f2 pf gc k3 HC HJR HIN K2
 go_wp2_with fail
 refine (show Calls _ _ _ _ _ from HM.out w3 K3.out).mono ?_
 rintro e w4 ⟨rfl, k4⟩
 have K4 := Lib.hid (K3.out.trans k4)
 replace HI := Lib.hid (HI.out.keep k4)
 clear k4 HM K3
 go_wp2_with fail
 have hka : Kp w4 (w4.alloc (.cells #[.int .i64 (bo + 1), .int .i64 ep, .int .i64 re, .bool fr] 32)) := (Keeps.refl _ w4).alloc _
 have hba := heap_alloc_new w4 (.cells #[.int .i64 (bo + 1), .int .i64 ep, .int .i64 re, .bool fr] 32)
 have hsa : (w4.alloc (.cells #[.int .i64 (bo + 1), .int .i64 ep, .int .i64 re, .bool fr] 32)).heap.size = w4.heap.size + 1 := by simp
 have HI5 := Lib.hid (HI.out.more (Y := fun c => X c ∨ c = w4.heap.size) hka fun c hc => hc.imp id fun e => by omega)
 have HS5 := Lib.hid (HSV.out _ q1 q2 Fj Fc j f _ HI5.out)
 have HX4 := Lib.hid (show ∀ c, X c → c < w4.heap.size from fun c hc => HI.out.elt c (.inl hc))
 have K5 := Lib.hid (K4.out.trans hka)
 have C5 := Lib.hid ((cell_of_block hba 0).trans (show _ = some (Value.int .i64 (bo + 1)) from rfl))
 clear hka hba hsa HI HSV HI5 K4
 generalize w4.alloc (.cells #[.int .i64 (bo + 1), .int .i64 ep, .int .i64 re, .bool fr] 32) = w5 at *
 generalize w4.heap.size = g at *
 refine (show Calls _ _ _ _ _ from HS5.out).mono ?_
 rintro e w6 ⟨rfl, F', Fs', c, hI6, hk6⟩
 have c6 := hk6.cell C5.out (.inl (.inr rfl))
 have HI6 := Lib.hid (hI6.more (Y := X) (Keeps.refl _ _) fun c hc => .inl (.inl hc))
 have K6 := Lib.hid (Keeps.trans (K5.out.mono fun _ _ _ => trivial) (hk6.mono fun c _ (hc : X c) => .inl (.inl hc)))
 clear hI6 hk6 HS5 C5 K5 HX4
 go_wp2_with fail
 go_ret2
 obtain ⟨a1, a2, a3, a4⟩ := HI6.out.block (bo + 1) _ rfl
 exact ⟨_, _, _, _, _, _, _, _, _, _, _, _, rfl, HP.out.1, HP.out.2, a1, a2, a3, a4, K6.out.trans ((Keeps.refl _ w6).alloc _)⟩
end
structure SBl (rows rows' : List (List UInt8)) (a j : Nat) : Prop where
 len : rows'.length = rows.length
 yes : ∀ i, a ≤ i → i < j → rows'.getD i [] = blank
 no : ∀ i, (i < a ∨ j ≤ i) → rows'.getD i [] = rows.getD i []
theorem SBl.start (rows : List (List UInt8)) (a : Nat) : SBl rows rows a a := ⟨rfl, fun i h1 h2 => by omega, fun _ _ => rfl⟩
theorem SBl.next {rows rows' : List (List UInt8)} {a j : Nat} (h : SBl rows rows' a j) (ha : a ≤ j) (hj : j < rows.length) : SBl rows (rows'.set j blank) a (j + 1) := by
 refine ⟨by rw [List.length_set]; exact h.len, fun i h1 h2 => ?_, fun i hi => ?_⟩
 ·by_cases e : j = i
  ·subst e
   rw [List.getD_eq_getElem?_getD, List.getElem?_set_self (by rw [h.len]; exact hj)]; rfl
  ·rw [List.getD_eq_getElem?_getD, List.getElem?_set_ne e, ← List.getD_eq_getElem?_getD]
   exact h.yes i h1 (by omega)
 ·rw [List.getD_eq_getElem?_getD, List.getElem?_set_ne (by omega), ← List.getD_eq_getElem?_getD]
  exact h.no i (by omega)
def StMid (w2 : World) (p : Nat) (F : Foot) (s : SDev) (a j : Nat) (w : World) : Prop := ∃ (F' : Foot) (s' : SDev), DAt w p F' s' ∧ SBl s.now s'.now a j ∧ s'.calls + a = s.calls + j ∧ Step F F' w2 w
set_option maxHeartbeats 1000000 in
theorem sblank_any (w : World) (p : Nat) (F : Foot) (s : SDev) (h : DAt w p F s) (a b : Nat) (hab : a ≤ b) (hb : b ≤ s.now.length) (hcalls : s.calls ≤ 549755813888) (za zb : Int) (hza : za = (a : Int)) (hzb : zb = (b : Int)) :
  Calls Tryz.prog 37 #[.pointer (some ⟨p, 0, none⟩), .int .i64 za, .int .i64 zb] w fun e w' => e = .returned (.int .i64 0) ∧ ∃ (F' : Foot) (rows : List (List UInt8)) (c : Nat), DAt w' p F' (SDev.still rows c) ∧ SBl s.now rows a b ∧ c ≤ s.calls + 3000 ∧ Step F F' w w' := by
 subst hza hzb
 have hsm := h.ok.small
 have HD := Lib.hid h
 have HI := Lib.hid hb
 have hi1 : b ≤ 2048 := by omega
 clear h hb
 go_enter Tryz.func37, Tryz.ntmps37
 go_wp2_with (refine list_make rfl (.const (.int .i64 64)) (.const (.int .i64 64)) 64 rfl byte_elem .i64 .i64 64 rfl rfl (by decide) (by decide) (bcells blank) made64 ?_)
 intro w2 hown hg2
 have hk2 : Keeps (fun _ => True) w w2 := Keeps.of_grown hg2 (fun _ h => by cases h)
 have HR := Lib.hid (own_row hown)
 have HD2 := Lib.hid (HD.out.keep (hk2.mono fun _ _ _ => trivial))
 have hgF : ∀ b, b = w.heap.size → ¬ F.all b := fun b e hf => by have := HD.out.lt b hf; omega
 have hlt2 := (hown.lt _ rfl).2
 have HG := Lib.hid hgF
 have HL2 := Lib.hid hlt2
 have HK := Lib.hid hk2
 clear hown hg2 hk2 hgF hlt2
 go_wp2_with fail
 go_loopw [8] (fun i9 wr => ∃ k : Nat, a ≤ k ∧ k ≤ b ∧ i9 = .int .i64 k ∧ StMid w2 p F s a k wr) (fun i9 _ => b - (intOf i9).toNat)
 case atStart => exact ⟨a, Nat.le_refl _, hab, rfl, F, s, HD2.out, SBl.start _ _, rfl, Step.refl _ _⟩
 case round =>
  obtain ⟨k, hka, hk, rfl, F', s', hd, hn, hc, hst⟩ := hrel
  by_cases hlt : k < b
  ·have hlt' : (k : Int) < (b : Int) := by omega
   have hkl : k < s'.now.length := by rw [hn.len]; have := HI.out; omega
   have hw := dwrite_yes wr p F' s' hd k (some ⟨w.heap.size, 0, none⟩) 64 (fun b => b = w.heap.size) blank (HR.out.keep (hst.keeps.mono fun b _ e hm => HG.out b e (.inl hm))) (fun b e hf => by
     rcases hst.all b hf with h1 | h1
     ·exact HG.out b e h1
     ·have := HL2.out; subst e; omega) hkl (Nat.le_refl _) (by omega)
   rw [show blank.length = 64 from rfl] at hw
   have HW := Lib.hid hw
   have hn2 : SBl s.now (s'.write k blank).now a (k + 1) := by
    rw [write64_now s' k blank rfl (row64 hd _ hkl)]
    exact hn.next hka (by rw [← hn.len]; exact hkl)
   have HN := Lib.hid hn2
   have HC := Lib.hid hc
   have HS := Lib.hid hst
   clear hd hn hc hst hw hn2
   go_wp2_with fail
   refine (show Calls _ _ _ _ _ from HW.out).mono ?_
   rintro e w3 ⟨rfl, F3, hd3, hst3⟩
   have H3 := Lib.hid (show StMid w2 p F s a (k + 1) w3 from ⟨F3, _, hd3, HN.out, by show s'.calls + 1 + a = _; have := HC.out; omega, HS.out.trans hst3⟩)
   clear hd3 hst3 HW HN HC HS
   go_wp2_with fail
   go_roundw
   case rel => exact ⟨k + 1, by omega, by omega, by go_num, H3.out⟩
   case measure => simp [intOf]; omega
  ·obtain rfl : k = b := by omega
   have hf := dflush_any wr p F' s' hd (by omega)
   rw [flush_is] at hf
   have HF := Lib.hid hf
   have HS := Lib.hid hst
   have HN := Lib.hid hn
   have HC := Lib.hid (show s'.calls + 1 ≤ s.calls + 3000 by omega)
   clear hf hst hn hc hd
   go_wp2_with fail
   refine (show Calls _ _ _ _ _ from HF.out).mono ?_
   rintro e w3 ⟨rfl, F3, hd3, hst3⟩
   have H3 := Lib.hid (show ∃ (F' : Foot) (rows : List (List UInt8)) (c : Nat), DAt w3 p F' (SDev.still rows c) ∧ SBl s.now rows a k ∧ c ≤ s.calls + 3000 ∧ Step F F' w w3 from ⟨F3, _, _, hd3, HN.out, HC.out, by
    have h := HS.out.trans hst3
    have hk2 := HK.out
    exact ⟨(hk2.mono fun _ _ _ => trivial).trans h.keeps, fun b hb => (h.m b hb).imp id fun h1 => Nat.le_trans hk2.size h1, fun b hb => (h.i b hb).imp id fun h1 => Nat.le_trans hk2.size h1⟩⟩)
   clear hd3 hst3 HF HS HN HC
   go_wp2_with fail
   go_ret
   exact ⟨rfl, H3.out⟩
section
variable {S : FlashOK} {J : JournalOK} {W w w' : World} {p b q1 q2 q3 k wh n d : Nat} {F F' : Foot} {s : SDev} {z : Sto} {X : Nat → Prop}
theorem jopens_new (hT : J.T W) (hd : Dv W w p F s) (hl : 192 ≤ s.now.length) (hb : ∀ i, 2 ≤ i → i < 162 → s.now.getD i [] = blank) : JOpens J p s (fun j => j = ⟨2, 20, [], 0, 32, 1⟩) w := fun w1 hk => by
 have hd1 := hd.keep hk
 refine (J.openNew w1 p F s hd1.d (J.tk hT hd1.kp) 2 20 (by decide) (by decide) (by omega) fun j h1 h2 => hb j h1 (by omega)).mono ?_
 rintro e w2 ⟨q, Fj, rfl, hr, hn, hk2⟩
 exact ⟨q, Fj, _, rfl, hr, rfl, rfl, rfl, hn, hk2⟩
theorem jopens_old (hT : J.T W) (hd : Dv W w p F s) (hl : 192 ≤ s.now.length) (st : JSt) (h1 : st.place = 2) (h2 : st.segs = 20) (ha : st.age ≤ 20000) (hb : J.disk st s.now) : JOpens J p s (fun j => j.keys = st.keys) w := fun w1 hk => by
 have hd1 := hd.keep hk
 have h := J.openOld w1 p F s st hd1.d (J.tk hT hd1.kp) hb (by rw [h1, h2]; omega) ha
 rw [h1, h2] at h
 refine h.mono ?_
 rintro e w2 ⟨q, Fj, b, rfl, hr, hn, hk2⟩
 exact ⟨q, Fj, _, rfl, hr, rfl, rfl, rfl, hn, hk2⟩
theorem copens_new (hT : S.T W) (hd : Dv W w p F s) (hn : s.now.length = n) (hl : 192 ≤ n) (hb : ∀ i, 162 ≤ i → i < 162 + 8 * segsOf n → s.now.getD i [] = blank) : COpens S p s n (fun f => f = ⟨162, segsOf n, [], 0, 1⟩) w := fun w1 hk => by
 have hd1 := hd.keep hk
 have hroom := segs_room hl
 have h3 : 3 ≤ segsOf n ∧ segsOf n ≤ 200 := by unfold segsOf; omega
 refine (S.openNew w1 p F s hd1.d (S.tk hT hd1.kp) 162 (segsOf n) h3.1 h3.2 (by rw [hn]; exact hroom) hb).mono ?_
 rintro e w2 ⟨q, Fc, rfl, hr, hn, hk2⟩
 exact ⟨q, Fc, _, rfl, hr, rfl, rfl, rfl, hn, hk2⟩
theorem copens_old (hT : S.T W) (hd : Dv W w p F s) (hn : s.now.length = n) (hl : 192 ≤ n) (st : FSt) (h1 : st.place = 162) (h2 : st.segs = segsOf n) (ha : st.age ≤ 20000) (hb : S.disk st s.now) : COpens S p s n (fun _ => True) w := fun w1 hk => by
 have hd1 := hd.keep hk
 have hroom := segs_room hl
 have h := S.openOld w1 p F s st hd1.d (S.tk hT hd1.kp) hb (by rw [h1, h2, hn]; exact hroom) ha
 rw [h1, h2] at h
 refine h.mono ?_
 rintro e w2 ⟨q, Fc, rfl, hr, hn, hk2⟩
 exact ⟨q, Fc, _, rfl, hr, rfl, rfl, trivial, hn, hk2⟩
theorem started_new {t : Nat} {m : M4} {e : Ending} {w0 : World} (hwh : wh ≤ 1) (hb : ∀ i, 2 ≤ i → i < 162 + 8 * segsOf n → s.now.getD i [] = blank)
  (h : Started S J W p wh t n s m X (fun f => f = ⟨162, segsOf n, [], 0, 1⟩) (fun j => j = ⟨2, 20, [], 0, 32, 1⟩) w0 e w') :
  ∃ b q1 q2 k, e = .returned (.tuple #[.pointer (some ⟨b, 0, none⟩), .int .i64 0]) ∧ StAt S J W w' p b q1 q2 k ⟨⟨162, segsOf n, [], 0, 1⟩, ⟨2, 20, [], 0, 32, 1⟩, t + 1, nextM m, m.boot + 1, s.calls + 100⟩ n 1 X ∧ Keeps X w0 w' := by
 obtain ⟨b, q1, q2, q3, k, F, Fc, Fj, Fs, c, f, j, rfl, rfl, rfl, h1, h2, h3, h4, hk⟩ := h
 refine ⟨b, q1, q2, k, rfl, ⟨q3, 1 - wh, F, Fc, Fj, Fs, _, h1, h2, h3, h4, fun _ => ⟨_, c, rfl, .inl ⟨rfl, rfl, rfl, fun i h5 h6 => ?_⟩⟩⟩, hk⟩
 rw [set_getD_ne _ _ _ _ (by omega)]
 exact hb i h5 h6
theorem started_old {t : Nat} {m : M4} {e : Ending} {w0 : World} {l : List ByteArray}
  (h : Started S J W p wh t n s m X (fun _ => True) (fun j => j.keys = l) w0 e w') :
  ∃ b q1 q2 k z, e = .returned (.tuple #[.pointer (some ⟨b, 0, none⟩), .int .i64 0]) ∧ StAt S J W w' p b q1 q2 k z n 0 X ∧ z.j.keys = l ∧ z.m = nextM m ∧ z.boot = m.boot + 1 ∧ Keeps X w0 w' := by
 obtain ⟨b, q1, q2, q3, k, F, Fc, Fj, Fs, c, f, j, rfl, -, hj, h1, h2, h3, h4, hk⟩ := h
 exact ⟨b, q1, q2, k, _, rfl, ⟨q3, 1 - wh, F, Fc, Fj, Fs, _, h1, h2, h3, h4, fun h => absurd h (Nat.lt_irrefl 0)⟩, hj, rfl, rfl, hk⟩
end
section
variable {S : FlashOK} {J : JournalOK} {W w w' : World} {p b q1 q2 q3 k wh n d c : Nat} {F F' : Foot} {s : SDev} {z : Sto} {X : Nat → Prop}
structure MkSt (w wr : World) (p : Nat) (F : Foot) (s : SDev) (n i : Nat) (F' : Foot) (s' : SDev) : Prop where
 d : DAt wr p F' s'
 st : Step F F' w wr
 len : s'.now.length = n
 one : 1 ≤ i → ∀ j, j < 2 → s'.now.getD j [] = blank
 two : 2 ≤ i → ∀ j, j < 162 + 8 * segsOf n → s'.now.getD j [] = blank
 calls : s'.calls ≤ s.calls + 3000 * i
theorem MkSt.keep {wr w2 : World} {i : Nat} {s' : SDev} (h : MkSt w wr p F s n i F' s') (hk : Kp wr w2) : MkSt w w2 p F s n i F' s' :=
 { h with d := h.d.keep (hk.mono fun _ _ _ => trivial), st := h.st.trans (Step.of_keeps hk F') }
theorem MkSt.first {wr w2 : World} {F2 : Foot} {s' : SDev} {rows : List (List UInt8)} {c : Nat} (h : MkSt w wr p F s n 0 F' s') (hd : DAt w2 p F2 (SDev.still rows c)) (hb : SBl s'.now rows 0 2) (hc : c ≤ s'.calls + 3000) (hs : Step F' F2 wr w2) : MkSt w w2 p F s n 1 F2 (SDev.still rows c) := by
 refine ⟨hd, h.st.trans hs, hb.len.trans h.len, fun _ j hj => hb.yes j (Nat.zero_le _) hj, fun h => by omega, ?_⟩
 have := h.calls
 show c ≤ _; omega
theorem MkSt.second {wr w2 : World} {F2 : Foot} {s' : SDev} {rows : List (List UInt8)} {c : Nat} (h : MkSt w wr p F s n 1 F' s') (hd : DAt w2 p F2 (SDev.still rows c)) (hb : SBl s'.now rows 2 (162 + 8 * segsOf n)) (hc : c ≤ s'.calls + 3000) (hs : Step F' F2 wr w2) : MkSt w w2 p F s n 2 F2 (SDev.still rows c) := by
 refine ⟨hd, h.st.trans hs, hb.len.trans h.len, fun _ j hj => ?_, fun _ j hj => ?_, ?_⟩
 ·exact (hb.no j (.inl hj)).trans (h.one (Nat.le_refl _) j hj)
 ·by_cases h2 : j < 2
  ·exact (hb.no j (.inl h2)).trans (h.one (Nat.le_refl _) j h2)
  ·exact hb.yes j (by omega) hj
 ·have := h.calls
  show c ≤ _; omega
def MadePost (S : FlashOK) (J : JournalOK) (W w : World) (p n c : Nat) (X : Nat → Prop) (e : Ending) (w' : World) : Prop :=
 ∃ b q1 q2 k c', e = .returned (.tuple #[.pointer (some ⟨b, 0, none⟩), .int .i64 0]) ∧ StAt S J W w' p b q1 q2 k ⟨⟨162, segsOf n, [], 0, 1⟩, ⟨2, 20, [], 0, 32, 1⟩, 2, ⟨1, 0, 0, false⟩, 1, c'⟩ n 1 X ∧ c' ≤ c + 10000 ∧ Keeps X w w'
theorem made_tail (hS : S.T W) (hJ : J.T W) (hT : theSup.T W) {wr : World} {s' : SDev} (h : Dv W w p F s) (hX : ∀ b, X b → ¬ F.all b ∧ b < w.heap.size) (h1 : 192 ≤ n) (hc : s.calls ≤ 200000000000) (hm : MkSt w wr p F s n 2 F' s') :
  Calls Tryz.prog 38 #[.pointer (some ⟨p, 0, none⟩), .int .i64 0] wr fun e w2 => ∃ k, e = .returned (.tuple #[.pointer (some ⟨k, 0, none⟩), .int .i64 0]) ∧
   Calls Tryz.prog 39 #[.pointer (some ⟨p, 0, none⟩), .pointer (some ⟨k, 0, none⟩)] w2 (MadePost S J W w p n s.calls X) := by
 have hdv := h.step hm.d hm.st
 have hroom := segs_room h1
 have hlen := hm.len
 have hcl := hm.calls
 refine (kmake_yes W wr hT p F' s' hdv 0 (by rw [hm.len]; omega) (by omega)).mono ?_
 rintro e w2 ⟨q3, k, F2, Fs, c2, rfl, hK, hc2, hst, hfs, hk⟩
 refine ⟨k, rfl, ?_⟩
 have hst2 := hm.st.trans hst
 have hs1 := hm.st.keeps.size
 have hs2 := hst.keeps.size
 have hrow : ∀ i, 2 ≤ i → i < 162 + 8 * segsOf n → (SDev.still ((s'.now.set 0 (theSup.enc 1 (encM m0))).set (0 + 1) blank) c2).now.getD i [] = blank := fun i h2 h3 => by
  show ((s'.now.set 0 _).set 1 blank).getD i [] = _
  rw [set_getD_ne _ _ _ _ (by omega), set_getD_ne _ _ _ _ (by omega)]
  exact hm.two (Nat.le_refl _) i h3
 have hln : (SDev.still ((s'.now.set 0 (theSup.enc 1 (encM m0))).set (0 + 1) blank) c2).now.length = n := by
  show ((s'.now.set 0 _).set 1 blank).length = n
  rw [List.length_set, List.length_set]; exact hm.len
 have hXX : ∀ c, X c → ¬ F2.all c ∧ ¬ (kfoot k Fs).all c ∧ c < w2.heap.size := fun c hx => by
  have h5 := (hX c hx).2
  refine ⟨fun hf => ?_, fun hf => ?_, by omega⟩
  ·rcases hst2.all c hf with h6 | h6
   ·exact (hX c hx).1 h6
   ·omega
  ·rcases kfoot_all.1 hf with hf | rfl
   ·have := hfs c hf; omega
   ·omega
 have ho : Oth theSup (SDev.still ((s'.now.set 0 (theSup.enc 1 (encM m0))).set (0 + 1) blank) c2).now ⟨p, 0, 0, 1, encM m0⟩ := oth_make (S := theSup) (rows := s'.now) p 0 _ _ (by rw [hm.len]; omega)
 have hkW := hK.du.dv
 refine (sstart (X := X) hT hK ho hln h1 hXX _ _ (jopens_new (J.tk hJ (Keeps.refl _ W)) hkW (by rw [hln]; exact h1) fun i a b => hrow i a (by unfold segsOf; omega)) (copens_new hS hkW hln h1 fun i a b => hrow i (by omega) b) (by show (0 : Int) < _; decide) (by decide) (by show c2 ≤ _; omega)).mono ?_
 intro e w3 hs
 obtain ⟨b, q1, q2, k', rfl, hat, hkx⟩ := started_new (by decide) hrow hs
 refine ⟨b, q1, q2, k', _, rfl, hat, ?_, Keeps.trans (hst2.keeps.mono fun c _ hc hm => (hX c hc).1 (.inl hm)) hkx⟩
 show c2 + 100 ≤ _
 omega
set_option maxRecDepth 100000 in
set_option maxHeartbeats 2000000 in
theorem stmake_any (hS : S.T W) (hJ : J.T W) (hT : theSup.T W) (h : Dv W w p F s) (hn : s.now.length = n) (hX : ∀ b, X b → ¬ F.all b ∧ b < w.heap.size) (h1 : 192 ≤ n) (hc : s.calls ≤ 200000000000) :
  Calls Tryz.prog 11 #[.pointer (some ⟨p, 0, none⟩)] w (MadePost S J W w p n s.calls X) := by
 have hsm : n ≤ 2048 := by rw [← hn]; exact h.d.ok.small
 have hroom := segs_room h1
 have HL := Lib.hid (dlen_any w p F s h.d)
 have HCS := Lib.hid (csegs_any w p F s h.d n hn h1 hsm)
 have HLT := Lib.hid h.d.lt
 have HT := Lib.hid (show ∀ (wr : World) (F' : Foot) (s' : SDev), MkSt w wr p F s n 2 F' s' → _ from fun wr F' s' hm => made_tail (X := X) hS hJ hT h hX h1 hc hm)
 have HB1 := Lib.hid (show ∀ (wr : World) (F' : Foot) (s' : SDev), MkSt w wr p F s n 0 F' s' → Calls Tryz.prog 37 #[.pointer (some ⟨p, 0, none⟩), .int .i64 0, .int .i64 2] wr fun e w' => e = .returned (.int .i64 0) ∧ ∃ (F2 : Foot) (s2 : SDev), MkSt w w' p F s n 1 F2 s2 ∧ Step F' F2 wr w' from fun wr F' s' hm =>
  (sblank_any wr p F' s' hm.d 0 2 (by decide) (by rw [hm.len]; omega) (by have := hm.calls; omega) 0 2 rfl rfl).mono fun e w' ⟨he, F2, rows, c, a1, a2, a3, a4⟩ => ⟨he, F2, _, hm.first a1 a2 a3 a4, a4⟩)
 have HB2 := Lib.hid (show ∀ (wr : World) (F' : Foot) (s' : SDev), MkSt w wr p F s n 1 F' s' → Calls Tryz.prog 37 #[.pointer (some ⟨p, 0, none⟩), .int .i64 2, .int .i64 (162 + (segsOf n : Int) * 8)] wr fun e w' => e = .returned (.int .i64 0) ∧ ∃ (F2 : Foot) (s2 : SDev), MkSt w w' p F s n 2 F2 s2 ∧ Step F' F2 wr w' from fun wr F' s' hm =>
  (sblank_any wr p F' s' hm.d 2 (162 + 8 * segsOf n) (by omega) (by rw [hm.len]; omega) (by have := hm.calls; omega) 2 (162 + (segsOf n : Int) * 8) rfl (by omega)).mono fun e w' ⟨he, F2, rows, c, a1, a2, a3, a4⟩ => ⟨he, F2, _, hm.second a1 a2 a3 a4, a4⟩)
 have HM0 := Lib.hid (show ∀ wr, Kp w wr → MkSt w wr p F s n 0 F s from fun wr hk => ⟨h.d.keep (hk.mono fun _ _ _ => trivial), Step.of_keeps hk F, hn, fun h => by omega, fun h => by omega, by omega⟩)
 have hsg : (segsOf n : Int) ≤ 200 := by unfold segsOf; omega
 have hsg0 : (0 : Int) ≤ (segsOf n : Int) := by omega
 have hn192 : ¬ ((n : Int) < 192) := by omega
 rw [hn] at HL
 clear h hn hX hc hS hJ hT h1 hsm hroom
 go_enter Tryz.func11, Tryz.ntmps11
 go_wp2_with fail
 refine (show Calls _ _ _ _ _ from HL.out).mono ?_
 rintro e w' ⟨rfl, rfl⟩
 clear HL
 go_wp2_with fail
 refine (show Calls _ _ _ _ _ from HCS.out).mono ?_
 rintro e w' ⟨rfl, rfl⟩
 clear HCS
 go_wp2_with fail
 obtain ⟨l3, hl3⟩ : ∃ l3 : Int, 162 + (segsOf n : Int) * 8 = l3 := ⟨_, rfl⟩
 rw [hl3] at HB2 ⊢
 have hka : Kp w (w.alloc (.cells #[.int .i64 0, .int .i64 2, .int .i64 2, .int .i64 l3] 77)) := (Keeps.refl _ w).alloc _
 have hba := heap_alloc_new w (.cells #[.int .i64 0, .int .i64 2, .int .i64 2, .int .i64 l3] 77)
 have hsa : (w.alloc (.cells #[.int .i64 0, .int .i64 2, .int .i64 2, .int .i64 l3] 77)).heap.size = w.heap.size + 1 := by simp
 have HS1 := Lib.hid (HM0.out _ hka)
 have HG1 := Lib.hid (show ¬ F.all w.heap.size ∧ w.heap.size < (w.alloc (.cells #[.int .i64 0, .int .i64 2, .int .i64 2, .int .i64 l3] 77)).heap.size from ⟨fun hf => by have := HLT.out _ hf; omega, by omega⟩)
 have HB := Lib.hid hba
 clear hka hba hsa hl3 HM0 HLT hsg hsg0 hn192
 generalize w.alloc (.cells #[.int .i64 0, .int .i64 2, .int .i64 2, .int .i64 l3] 77) = w1 at *
 obtain ⟨g, hg⟩ : ∃ g, w.heap.size = g := ⟨_, rfl⟩
 rw [hg] at HG1 HB ⊢
 clear hg
 go_loopw [20] (fun i wr => ∃ (k : Nat) (F' : Foot) (s' : SDev), k ≤ 2 ∧ i = .int .i64 (k : Int) ∧ Hid (MkSt w wr p F s n k F' s') ∧ Hid (¬ F'.all g ∧ g < wr.heap.size) ∧ Hid (wr.heap[g]? = some (.cells #[.int .i64 0, .int .i64 2, .int .i64 2, .int .i64 l3] 77 (0, 0)))) (fun i _ => 2 - (intOf i).toNat)
 case atStart => exact ⟨0, F, s, by decide, rfl, HS1, HG1, HB⟩
 case round =>
  clear HS1 HG1 HB
  obtain ⟨k, F', s', hk, rfl, HM, HG, HB⟩ := hrel
  have HN := Lib.hid (show ∀ (wn w2 : World) (F2 : Foot), Kp wr wn → Step F' F2 wn w2 → (¬ F2.all g ∧ g < w2.heap.size) ∧ w2.heap[g]? = some (.cells #[.int .i64 0, .int .i64 2, .int .i64 2, .int .i64 l3] 77 (0, 0)) from fun wn w2 F2 hk1 hst => by
   have h1 := hk1.size
   have h2 := hst.keeps.size
   have h3 := HG.out.2
   refine ⟨⟨fun hf => ?_, by omega⟩, ?_⟩
   ·rcases hst.all g hf with h4 | h4
    ·exact HG.out.1 h4
    ·omega
   ·rw [hst.keeps.block g (fun hm => HG.out.1 (.inl hm)) (by omega), hk1.block g trivial h3]; exact HB.out)
  have c0 : wr.cell? ⟨g, 0, none⟩ = some (.int .i64 0) := (cell_of_block HB.out 0).trans rfl
  have c1 : wr.cell? ⟨g, 1, none⟩ = some (.int .i64 2) := (cell_of_block HB.out 1).trans rfl
  have c2 : wr.cell? ⟨g, 2, none⟩ = some (.int .i64 2) := (cell_of_block HB.out 2).trans rfl
  have c3 : wr.cell? ⟨g, 3, none⟩ = some (.int .i64 l3) := (cell_of_block HB.out 3).trans rfl
  have hcase : k = 0 ∨ k = 1 ∨ k = 2 := by omega
  clear HB
  rcases hcase with rfl | rfl | rfl
  ·clear c2 c3 HB2 HT
   go_wp2_with fail
   have hka : Kp wr (wr.alloc (.cells #[.int .i64 0, .int .i64 2] 77)) := (Keeps.refl _ wr).alloc _
   have HMa := Lib.hid (HM.out.keep hka)
   have HKa := Lib.hid hka
   clear hka c0 c1 HM
   generalize wr.alloc (.cells #[.int .i64 0, .int .i64 2] 77) = wa at *
   refine (show Calls _ _ _ _ _ from HB1.out _ _ _ HMa.out).mono ?_
   rintro e w2 ⟨rfl, F2, s2, hm2, hst2⟩
   have HE := Lib.hid (HN.out _ _ _ HKa.out hst2)
   have HM2 := Lib.hid hm2
   clear hm2 hst2 HN HKa HMa HG
   go_wp2_with fail
   go_roundw
   case rel => exact ⟨1, F2, s2, by decide, rfl, HM2, Lib.hid HE.out.1, Lib.hid HE.out.2⟩
   case measure => decide
  ·clear c0 c1 HB1 HT
   go_wp2_with fail
   have hka : Kp wr (wr.alloc (.cells #[.int .i64 2, .int .i64 l3] 77)) := (Keeps.refl _ wr).alloc _
   have HMa := Lib.hid (HM.out.keep hka)
   have HKa := Lib.hid hka
   clear hka c2 c3 HM
   generalize wr.alloc (.cells #[.int .i64 2, .int .i64 l3] 77) = wa at *
   refine (show Calls _ _ _ _ _ from HB2.out _ _ _ HMa.out).mono ?_
   rintro e w2 ⟨rfl, F2, s2, hm2, hst2⟩
   have HE := Lib.hid (HN.out _ _ _ HKa.out hst2)
   have HM2 := Lib.hid hm2
   clear hm2 hst2 HN HKa HMa HG
   go_wp2_with fail
   go_roundw
   case rel => exact ⟨2, F2, s2, by decide, rfl, HM2, Lib.hid HE.out.1, Lib.hid HE.out.2⟩
   case measure => decide
  ·have HTT := Lib.hid (HT.out _ _ _ HM.out)
   clear c0 c1 c2 c3 HB1 HB2 HT HN HG HM
   go_wp2_with fail
   refine (show Calls _ _ _ _ _ from HTT.out).mono ?_
   rintro e w2 ⟨k, rfl, hs⟩
   have HS := Lib.hid hs
   clear hs HTT
   go_wp2_with fail
   refine (show Calls _ _ _ _ _ from HS.out).mono ?_
   rintro e w3 ⟨b, q1, q2, k', c', rfl, hat, hc', hkx⟩
   have HE := Lib.hid (And.intro hat (And.intro hc' hkx))
   clear hat hc' hkx HS
   go_wp2_with fail
   go_ret2
   exact ⟨b, q1, q2, k', c', rfl, HE.out.1, HE.out.2.1, HE.out.2.2⟩
end
section
variable {S : FlashOK} {J : JournalOK} {W w w' : World} {p b q1 q2 q3 k wh n d c : Nat} {F F' : Foot} {s : SDev} {z : Sto} {X : Nat → Prop}
theorem stmake_small (h : Dv W w p F s) (hn : s.now.length = n) (h1 : n < 192) : Calls Tryz.prog 11 #[.pointer (some ⟨p, 0, none⟩)] w fun e w' => e = .returned (.tuple #[.pointer none, .int .i64 4]) ∧ w = w' := by
 have HL := Lib.hid (dlen_any w p F s h.d)
 rw [hn] at HL
 have hn192 : (n : Int) < 192 := by omega
 clear h hn h1
 go_enter Tryz.func11, Tryz.ntmps11
 go_wp2_with fail
 refine (show Calls _ _ _ _ _ from HL.out).mono ?_
 rintro e w' ⟨rfl, rfl⟩
 go_wp2_with fail
 go_ret2
 exact ⟨rfl, rfl⟩
set_option maxRecDepth 100000 in
theorem stopen_bad (hT : theSup.T W) (h : Dv W w p F s) (hn : s.now.length = n) (h1 : 192 ≤ n) (hb0 : s.now.getD 0 [] = blank) (hb1 : s.now.getD 1 [] = blank) : Calls Tryz.prog 22 #[.pointer (some ⟨p, 0, none⟩)] w fun e w' => e = .returned (.tuple #[.pointer none, .int .i64 3]) ∧ Kp w w' := by
 have HL := Lib.hid (dlen_any w p F s h.d)
 rw [hn] at HL
 have hn192 : ¬ (n : Int) < 192 := by omega
 have HO := Lib.hid (show Calls Tryz.prog 55 #[.pointer (some ⟨p, 0, none⟩), .int .i64 0] w fun e w' => (∃ v, e = .returned (.tuple #[v, .int .i64 3])) ∧ Kp w w' from kopen_bad w (theSup.tk hT h.kp) p F s h.d 0 (by rw [hn]; omega) (by rw [hb0]; exact theSup.decBlank) (by rw [hb1]; exact theSup.decBlank))
 clear h hn h1 hb0 hb1 hT
 go_enter Tryz.func22, Tryz.ntmps22
 go_wp2_with fail
 refine (show Calls _ _ _ _ _ from HL.out).mono ?_
 rintro e w' ⟨rfl, rfl⟩
 clear HL
 go_wp2_with fail
 refine (show Calls _ _ _ _ _ from HO.out).mono ?_
 rintro e w2 ⟨⟨v, rfl⟩, hk⟩
 have HK := Lib.hid hk
 clear hk HO
 go_wp2_with fail
 go_ret2
 exact ⟨rfl, HK.out⟩
set_option maxRecDepth 100000 in
set_option maxHeartbeats 1000000 in
theorem stopen_any (hT : theSup.T W) (rows : List (List UInt8)) (t : Nat) (m : M4) (h : Dv W w p F (SDev.still rows 0)) (hn : rows.length = n) (h1 : 192 ≤ n) (hw : wh ≤ 1) (ht1 : 1 ≤ t) (hm : mayB m = true) (hs : rows.getD wh [] = theSup.enc t (encM m)) (ho : Oth theSup rows ⟨p, 0, wh, t, encM m⟩) (hX : ∀ b, X b → ¬ F.all b ∧ b < w.heap.size)
  (PC : FSt → Prop) (PJ : JSt → Prop) (hJ : JOpens J p (SDev.still rows 0) PJ w) (hC : COpens S p (SDev.still rows 0) n PC w) (hb : m.boot < 1099511627776) (ht : t ≤ 300000000000) :
  Calls Tryz.prog 22 #[.pointer (some ⟨p, 0, none⟩)] w fun e w' => ∃ w0, Kp w w0 ∧ Started S J W p wh t n (SDev.still rows 0) m X PC PJ w0 e w' := by
 have HL := Lib.hid (dlen_any w p F _ h.d)
 have hn' : (SDev.still rows 0).now.length = n := hn
 rw [hn'] at HL
 have hn192 : ¬ (n : Int) < 192 := by omega
 have HO := Lib.hid (show Calls Tryz.prog 55 #[.pointer (some ⟨p, 0, none⟩), .int .i64 0] w fun e w2 => ∃ k, e = .returned (.tuple #[.pointer (some ⟨k, 0, none⟩), .int .i64 0]) ∧ Kp w w2 ∧ Calls Tryz.prog 39 #[.pointer (some ⟨p, 0, none⟩), .pointer (some ⟨k, 0, none⟩)] w2 (Started S J W p wh t n (SDev.still rows 0) m X PC PJ w2) from by
  refine (kopen_yes W w hT p F _ h 0 wh t m hm (by rw [hn']; omega) hw ht1 (by rw [Nat.zero_add]; exact hs) (fun t' x' hd => ho t' x' hd) (by omega)).mono ?_
  rintro e w2 ⟨q3, k, Fs, rfl, hK, hfs, hkk, hk⟩
  refine ⟨k, rfl, hk, sstart (X := X) hT hK ho hn' h1 (fun c hx => ?_) PC PJ (fun w1 hk1 => hJ w1 (hk.trans hk1)) (fun w1 hk1 => hC w1 (hk.trans hk1)) hb ht (Nat.zero_le _)⟩
  have h5 := (hX c hx).2
  have h6 := hk.size
  refine ⟨(hX c hx).1, fun hf => ?_, by omega⟩
  rcases kfoot_all.1 hf with hf | rfl
  ·have := hfs c hf; omega
  ·omega)
 clear h hn hn' h1 hw ht1 hm hs ho hX hJ hC hb ht hT
 go_enter Tryz.func22, Tryz.ntmps22
 go_wp2_with fail
 refine (show Calls _ _ _ _ _ from HL.out).mono ?_
 rintro e w' ⟨rfl, rfl⟩
 clear HL
 go_wp2_with fail
 refine (show Calls _ _ _ _ _ from HO.out).mono ?_
 rintro e w2 ⟨k, rfl, hk, hs⟩
 have HK := Lib.hid hk
 have HS := Lib.hid hs
 clear hk hs HO
 go_wp2_with fail
 refine (show Calls _ _ _ _ _ from HS.out).mono ?_
 rintro e w3 hs
 have hs0 := hs
 obtain ⟨b, q1, q2, q3, k', F1, Fc, Fj, Fs, c, f, j, rfl, -⟩ := hs0
 have HE := Lib.hid hs
 clear hs HS
 go_wp2_with fail
 go_ret2
 exact ⟨w2, HK.out, HE.out⟩
theorem so_openNew (hS : S.T W) (hJ : J.T W) (hT : theSup.T W) (h : StDisk S J W w p z n 1 X) (hb : z.m.boot < 1099511627776) (ht : z.t ≤ 300000000000) :
  Calls Tryz.prog 22 #[.pointer (some ⟨p, 0, none⟩)] w fun e w' => ∃ b q1 q2 k, e = .returned (.tuple #[.pointer (some ⟨b, 0, none⟩), .int .i64 0]) ∧ StAt S J W w' p b q1 q2 k ⟨⟨162, segsOf n, [], 0, 1⟩, ⟨2, 20, [], 0, 32, 1⟩, z.t + 1, nextM z.m, z.m.boot + 1, 100⟩ n 1 X ∧ Kp W w' := by
 obtain ⟨F, rows, wh, hd, hn, h1, f1, f2, j1, j2, hw, ht1, hm, hs, ho, hod, hX⟩ := h
 have hbl : ∀ i, 2 ≤ i → i < 162 + 8 * segsOf n → rows.getD i [] = blank := by
  rcases hod with ⟨-, -, -, h⟩ | ⟨h, -⟩ | ⟨h, -⟩
  ·exact h
  ·cases h
  ·cases h
 refine (stopen_any hT rows z.t z.m hd hn h1 hw ht1 hm hs ho hX _ _ (jopens_new (J.tk hJ (Keeps.refl _ W)) hd (by show 192 ≤ rows.length; omega) fun i a b => hbl i a (by unfold segsOf; omega)) (copens_new hS hd hn h1 fun i a b => hbl i (by omega) b) hb ht).mono ?_
 rintro e w' ⟨w0, hk0, hst⟩
 obtain ⟨b, q1, q2, k, rfl, hat, -⟩ := started_new hw hbl hst
 have e : (SDev.still rows 0).calls + 100 = 100 := rfl
 rw [e] at hat
 exact ⟨b, q1, q2, k, rfl, hat, hat.kp⟩
theorem so_openOld (hS : S.T W) (hJ : J.T W) (hT : theSup.T W) (h : StDisk S J W w p z n 2 X) (hb : z.m.boot < 1099511627776) (ht : z.t ≤ 300000000000) (hf : z.f.age ≤ 20000) (hj : z.j.age ≤ 20000) :
  Calls Tryz.prog 22 #[.pointer (some ⟨p, 0, none⟩)] w fun e w' => ∃ b q1 q2 k z', e = .returned (.tuple #[.pointer (some ⟨b, 0, none⟩), .int .i64 0]) ∧ StAt S J W w' p b q1 q2 k z' n 0 X ∧ z'.j.keys = z.j.keys ∧ z'.m = nextM z.m ∧ z'.boot = z.m.boot + 1 ∧ Keeps X w w' := by
 obtain ⟨F, rows, wh, hd, hn, h1, f1, f2, j1, j2, hw, ht1, hm, hs, ho, hod, hX⟩ := h
 have hbl : S.disk z.f rows ∧ J.disk z.j rows := by
  rcases hod with ⟨h, -⟩ | ⟨-, h⟩ | ⟨h, -⟩
  ·cases h
  ·exact h
  ·cases h
 refine (stopen_any hT rows z.t z.m hd hn h1 hw ht1 hm hs ho hX _ _ (jopens_old (J.tk hJ (Keeps.refl _ W)) hd (by show 192 ≤ rows.length; omega) z.j j1 j2 hj hbl.2) (copens_old hS hd hn h1 z.f f1 f2 hf hbl.1) hb ht).mono ?_
 rintro e w' ⟨w0, hk0, hst⟩
 obtain ⟨b, q1, q2, k, z', rfl, hat, a1, a2, a3, hkx⟩ := started_old hst
 exact ⟨b, q1, q2, k, z', rfl, hat, a1, a2, a3, (hk0.mono fun _ _ _ => trivial).trans hkx⟩
end
end Go.Proofs.YticophaepapjoaaGreatDoor
