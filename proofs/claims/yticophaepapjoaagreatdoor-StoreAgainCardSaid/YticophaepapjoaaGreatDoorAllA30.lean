/-
  StOps, StSave, StBlank, ItemMade, JnFind, JnNo, TabLaid: texts of mine, joined.
-/
import Derived.Test.YticophaepapjoaaGreatDoorAllA25
import Derived.Test.YticophaepapjoaaGreatDoorAllA26
import Derived.Test.YticophaepapjoaaGreatDoorAllA28
import Derived.Test.YticophaepapjoaaGreatDoorAllA11
import Derived.Test.YticophaepapjoaaGreatDoorAllA29
import Derived.Test.YticophaepapjoaaGreatDoorAllA05
import Derived.Test.YticophaepapjoaaGreatDoorRows
import Derived.Test.YticophaepapjoaaGreatDoorTie
namespace Go.Proofs.YticophaepapjoaaGreatDoor
open Go Go.RowKit Go.Joins
section
variable {S : FlashOK} {J : JournalOK} {W w w' : World} {p b q1 q2 q3 k wh n d : Nat} {F F' Fc Fc' Fj Fj' Fs Fs' E : Foot} {s s' : SDev} {z : Sto} {X Y : Nat → Prop}
theorem StBlk.lt {t : Int} (h : StBlk w b q1 q2 k t) : b < w.heap.size := (Array.getElem?_eq_some_iff.1 h).1
theorem StBlk.keep {t : Int} {G : Nat → Prop} (h : StBlk w b q1 q2 k t) (hk : Keeps G w w') (hG : G b) : StBlk w' b q1 q2 k t := (hk.block b hG h.lt).trans h
theorem StBlk.c0 {t : Int} (h : StBlk w b q1 q2 k t) : w.cell? ⟨b, 0, none⟩ = some (.pointer (some ⟨q1, 0, none⟩)) := cell_of_block h 0
theorem StBlk.c1 {t : Int} (h : StBlk w b q1 q2 k t) : w.cell? ⟨b, 1, none⟩ = some (.pointer (some ⟨q2, 0, none⟩)) := cell_of_block h 1
theorem StBlk.c2 {t : Int} (h : StBlk w b q1 q2 k t) : w.cell? ⟨b, 2, none⟩ = some (.pointer (some ⟨k, 0, none⟩)) := cell_of_block h 2
theorem StBlk.c3 {t : Int} (h : StBlk w b q1 q2 k t) : w.cell? ⟨b, 3, none⟩ = some (.int .i64 t) := cell_of_block h 3
theorem StAt.blk (h : StAt S J W w p b q1 q2 k z n d X) : StBlk w b q1 q2 k z.boot := by
 obtain ⟨q3, wh, F, Fc, Fj, Fs, s, h1, h2, -⟩ := h
 exact h2
theorem StAt.kp (h : StAt S J W w p b q1 q2 k z n d X) : Kp W w := by
 obtain ⟨q3, wh, F, Fc, Fj, Fs, s, h1, h2, -⟩ := h
 exact h1.dv.kp
theorem StAt.wf (h : StAt S J W w p b q1 q2 k z n d X) : z.f.Ok ∧ z.j.Ok ∧ z.f.segs = segsOf n ∧ 192 ≤ n := by
 obtain ⟨q3, wh, F, Fc, Fj, Fs, s, h1, h2, -⟩ := h
 exact ⟨S.wf h1.fc, J.wf h1.jr, h1.fs, h1.n1⟩
theorem efoot_more {R : Foot} (h : Apart R (efoot b X)) (hR : ∀ c, R.all c → c < w.heap.size) (hY : ∀ c, Y c → X c ∨ w.heap.size ≤ c) : Apart R (efoot b Y) := by
 refine ⟨fun c hc he => ?_, fun c hc hr => ?_⟩
 ·have := hR c (.inl hc)
  rcases efoot_all.1 he with rfl | hy
  ·exact h.l c hc (efoot_all.2 (.inl rfl))
  ·rcases hY c hy with hx | hx
   ·exact h.l c hc (efoot_all.2 (.inr hx))
   ·omega
 ·have := hR c hr
  rcases hc with rfl | hy
  ·exact h.r c (.inl rfl) hr
  ·rcases hY c hy with hx | hx
   ·exact h.r c (.inr hx) hr
   ·omega
theorem StAt.more (h : StAt S J W w p b q1 q2 k z n d X) (hk : Kp w w') (hY : ∀ c, Y c → X c ∨ (w.heap.size ≤ c ∧ c < w'.heap.size)) : StAt S J W w' p b q1 q2 k z n d Y := by
 obtain ⟨q3, wh, F, Fc, Fj, Fs, s, h1, h2, h3, h4, h5⟩ := h
 have hY2 : ∀ c, Y c → X c ∨ w.heap.size ≤ c := fun c hc => (hY c hc).imp id (·.1)
 have h1' := h1.keep hk
 refine ⟨q3, wh, F, Fc, Fj, Fs, s, { h1' with e1 := efoot_more h1.e1 h1.dv.d.lt hY2, e2 := efoot_more h1.e2 (S.lt h1.fc) hY2, e3 := efoot_more h1.e3 (J.lt h1.jr) hY2, e4 := efoot_more h1.e4 h1.klt hY2, elt := fun c hc => ?_ }, h2.keep hk trivial, h3, fun hb => ?_, h5⟩
 ·rcases efoot_all.1 hc with rfl | hy
  ·exact Nat.lt_of_lt_of_le h2.lt hk.size
  ·rcases hY c hy with hx | hx
   ·exact Nat.lt_of_lt_of_le (h1.elt c (efoot_all.2 (.inr hx))) hk.size
   ·exact hx.2
 ·rcases hY2 b hb with hx | hx
  ·exact h4 hx
  ·have := h2.lt; omega
theorem StAt.keep (h : StAt S J W w p b q1 q2 k z n d X) (hk : Kp w w') : StAt S J W w' p b q1 q2 k z n d X := h.more hk fun _ hb => .inl hb
theorem StAt.less (h : StAt S J W w p b q1 q2 k z n d X) (hY : ∀ c, Y c → X c) : StAt S J W w p b q1 q2 k z n d Y := h.more (Keeps.refl _ _) fun c hc => .inl (hY c hc)
theorem efoot_keeps (h : Keeps (efoot b X).all w w') : Keeps X w w' := h.mono fun _c _ hc => efoot_all.2 (.inr hc)
theorem so_c (h1 : StIn S J W w p q1 q2 q3 k wh F Fc Fj Fs s z n (efoot b X)) (h2 : StBlk w b q1 q2 k z.boot) (h3 : W.heap.size ≤ b) (h4 : ¬ X b) {f : FSt} {m : Nat} (hd' : DAt w' p F' s') (hr' : S.rep w' p q1 Fc' f s') (hpl : f.place = z.f.place) (hsg : f.segs = z.f.segs) (hgo : FGo w w' F F' Fc Fc' s s' z.f m) (d : Nat) (hd : 0 < d → ∃ rows c, s' = SDev.still rows c ∧ StOnD S J d ⟨f, z.j, z.t, z.m, z.boot, z.c + 1000 * m⟩ n rows) :
  StAt S J W w' p b q1 q2 k ⟨f, z.j, z.t, z.m, z.boot, z.c + 1000 * m⟩ n d X ∧ Keeps X w w' := by
 obtain ⟨h1', ke⟩ := h1.moveC hd' hr' hpl hsg hgo
 exact ⟨⟨q3, wh, F', Fc', Fj, Fs, s', h1', h2.keep ke (efoot_all.2 (.inl rfl)), h3, h4, hd⟩, efoot_keeps ke⟩
theorem so_j (h1 : StIn S J W w p q1 q2 q3 k wh F Fc Fj Fs s z n (efoot b X)) (h2 : StBlk w b q1 q2 k z.boot) (h3 : W.heap.size ≤ b) (h4 : ¬ X b) {f : JSt} {m : Nat} (hd' : DAt w' p F' s') (hr' : J.rep w' p q2 Fj' f s') (hpl : f.place = z.j.place) (hsg : f.segs = z.j.segs) (hgo : JGo w w' F F' Fj Fj' s s' z.j m) (d : Nat) (hd : 0 < d → ∃ rows c, s' = SDev.still rows c ∧ StOnD S J d ⟨z.f, f, z.t, z.m, z.boot, z.c + 1000 * m⟩ n rows) :
  StAt S J W w' p b q1 q2 k ⟨z.f, f, z.t, z.m, z.boot, z.c + 1000 * m⟩ n d X ∧ Keeps X w w' := by
 obtain ⟨h1', ke⟩ := h1.moveJ hd' hr' hpl hsg hgo
 exact ⟨⟨q3, wh, F', Fc, Fj', Fs, s', h1', h2.keep ke (efoot_all.2 (.inl rfl)), h3, h4, hd⟩, efoot_keeps ke⟩
theorem so_put (hT : S.T W) (h : StAt S J W w p b q1 q2 k z n d X) (hage : z.f.age ≤ 20000) (hc : z.c ≤ 400000000000) (x : It) (hm : x.may = true) (hg : x.gone = false) :
  Calls Tryz.prog 14 #[.pointer (some ⟨q1, 0, none⟩), .agg #[.string x.key, .string x.val, .int .i64 x.till, .bool x.gone]] w fun e w' => e = .returned (.int .i64 0) ∧ ∃ g, z.f.gone ≤ g ∧ StAt S J W w' p b q1 q2 k ⟨⟨z.f.place, z.f.segs, z.f.ents ++ [fput x], g, z.f.age + 1⟩, z.j, z.t, z.m, z.boot, z.c + 2000⟩ n 0 X ∧ Keeps X w w' := by
 obtain ⟨q3, wh, F, Fc, Fj, Fs, s, h1, h2, h3, h4, h5⟩ := h
 refine (S.put W w p q1 F Fc s z.f h1.dv.d h1.fc h1.a1 hT h1.dv.kp h1.dv.gd h1.g1 h1.roomF hage (by have := h1.c; omega) x hm hg).mono ?_
 rintro e w' ⟨rfl, F', Fc', s', g, hd', hr', hgg, hgo⟩
 exact ⟨rfl, g, hgg, so_c h1 h2 h3 h4 hd' hr' rfl rfl hgo 0 fun h => absurd h (Nat.lt_irrefl 0)⟩
theorem so_get (hT : S.T W) (h : StAt S J W w p b q1 q2 k z n d X) (key : ByteArray) (now : Int) (hk : key.size ≤ 1000000) (h8 : -9223372036854775808 ≤ now) (h9 : now < 9223372036854775808) (e0 : Ending) (he : e0 = getE z.f key now) :
  Calls Tryz.prog 25 #[.pointer (some ⟨q1, 0, none⟩), .string key, .int .i64 now] w fun e w' => e = e0 ∧ Kp w w' ∧ StAt S J W w' p b q1 q2 k z n d X := by
 subst he
 have h0 := h
 obtain ⟨q3, wh, F, Fc, Fj, Fs, s, h1, h2, h3, h4, h5⟩ := h
 refine (S.get w p q1 F Fc s z.f h1.dv.d h1.fc h1.a1 (S.tk hT h1.dv.kp) h1.roomF key now hk h8 h9).mono ?_
 rintro e w' ⟨rfl, hk⟩
 exact ⟨rfl, hk, h0.keep hk⟩
theorem so_keys (hT : S.T W) (h : StAt S J W w p b q1 q2 k z n d X) :
  Calls Tryz.prog 30 #[.pointer (some ⟨q1, 0, none⟩)] w fun e w' => ∃ (A : Option Addr) (c : Nat) (ks : List ByteArray), e = .returned (.slice A ks.length c) ∧ Rising ks ∧ (∀ k, k ∈ ks ↔ (z.f.at_ k).isSome = true) ∧ ks.length ≤ c ∧ c ≤ maxLen ∧ TextsAt w' A (fun b => w.heap.size ≤ b ∧ b < w'.heap.size) ks ∧ Kp w w' ∧ StAt S J W w' p b q1 q2 k z n d X := by
 have h0 := h
 obtain ⟨q3, wh, F, Fc, Fj, Fs, s, h1, h2, h3, h4, h5⟩ := h
 refine (S.keys w p q1 F Fc s z.f h1.dv.d h1.fc h1.a1 (S.tk hT h1.dv.kp) h1.roomF).mono ?_
 rintro e w' ⟨A, c, ks, rfl, hr, hm, hl, hc, ht, hk⟩
 exact ⟨A, c, ks, rfl, hr, hm, hl, hc, ht, hk, h0.keep hk⟩
theorem so_flush (hT : S.T W) (h : StAt S J W w p b q1 q2 k z n d X) (hage : z.f.age ≤ 20000) (hc : z.c ≤ 400000000000) :
  Calls Tryz.prog 20 #[.pointer (some ⟨q1, 0, none⟩)] w fun e w' => e = .returned (.int .i64 0) ∧ StAt S J W w' p b q1 q2 k ⟨⟨z.f.place, z.f.segs, z.f.ents, z.f.gone, z.f.age + 1⟩, z.j, z.t, z.m, z.boot, z.c + 1000⟩ n 0 X ∧ Keeps X w w' := by
 obtain ⟨q3, wh, F, Fc, Fj, Fs, s, h1, h2, h3, h4, h5⟩ := h
 refine (S.flush W w p q1 F Fc s z.f h1.dv.d h1.fc h1.a1 hT h1.dv.kp h1.dv.gd h1.g1 h1.roomF hage (by have := h1.c; omega)).mono ?_
 rintro e w' ⟨rfl, F', Fc', rows, c, hd', hr', hdk, hgo⟩
 exact ⟨rfl, so_c h1 h2 h3 h4 hd' hr' rfl rfl hgo 0 fun h => absurd h (Nat.lt_irrefl 0)⟩
theorem so_drop (hT : S.T W) (h : StAt S J W w p b q1 q2 k z n 3 X) (hage : z.f.age ≤ 20000) (hc : z.c ≤ 400000000000) (A : Option Addr) (ks : List ByteArray) (hrow : Row w A X (ks.map Value.string)) (c m : Nat) (hn : m = ks.length) (hcc : m ≤ c) (hcm : c ≤ maxLen) (hl : m ≤ 1000) (hok : ∀ k ∈ ks, keyOk k) :
  Calls Tryz.prog 47 #[.pointer (some ⟨q1, 0, none⟩), .slice A m c] w fun e w' => e = .returned (.int .i64 0) ∧ ∃ g, z.f.gone ≤ g ∧ StAt S J W w' p b q1 q2 k ⟨⟨z.f.place, z.f.segs, z.f.ents ++ ks.map grave, g, z.f.age + ks.length + 1⟩, z.j, z.t, z.m, z.boot, z.c + 1000 * (ks.length + 1)⟩ n 2 X ∧ Keeps X w w' := by
 subst hn
 obtain ⟨q3, wh, F, Fc, Fj, Fs, s, h1, h2, h3, h4, h5⟩ := h
 obtain ⟨rows0, c0, rfl, hod⟩ := h5 (by decide)
 have hj : J.disk z.j rows0 := by
  rcases hod with ⟨h, -⟩ | ⟨h, -⟩ | ⟨-, h⟩
  ·cases h
  ·cases h
  ·exact h
 refine (S.drop W w p q1 F Fc _ z.f h1.dv.d h1.fc h1.a1 hT h1.dv.kp h1.dv.gd h1.g1 h1.roomF hage (by have := h1.c; omega) A c ks (hrow.mono fun c _ hc => ⟨h1.e1.r c (.inr hc), h1.e2.r c (.inr hc)⟩) hcc hcm hl hok).mono ?_
 rintro e w' ⟨rfl, F', Fc', rows, k1, g, hd', hr', hdk, hgg, hgo⟩
 refine ⟨rfl, g, hgg, so_c h1 h2 h3 h4 hd' hr' rfl rfl hgo 2 fun _ => ⟨rows, k1, rfl, .inr (.inl ⟨rfl, hdk, ?_⟩)⟩⟩
 refine J.diskKeep hj hgo.len fun i hi => hgo.out i fun hh => ?_
 have := hh.1; have := hi.2; rw [h1.fp] at *; rw [h1.jp, h1.js] at *; omega
theorem so_add (hT : J.T W) (h : StAt S J W w p b q1 q2 k z n d X) (hage : z.j.age ≤ 20000) (hc : z.c ≤ 400000000000) (A : Option Addr) (ks : List ByteArray) (hrow : Row w A X (ks.map Value.string)) (c m : Nat) (hn : m = ks.length) (hcc : m ≤ c) (hcm : c ≤ maxLen) (hl : m ≤ 1000) (hok : ∀ k ∈ ks, keyOk k) (y : Int) (hy : y = ((z.j.keys.length + ks.length : Nat) : Int)) :
  Calls Tryz.prog 26 #[.pointer (some ⟨q2, 0, none⟩), .slice A m c] w fun e w' => e = .returned (.tuple #[.int .i64 y, .int .i64 0]) ∧ ∃ g, z.j.base ≤ g ∧ StAt S J W w' p b q1 q2 k ⟨z.f, jadd z.j ks g, z.t, z.m, z.boot, z.c + 1000 * (ks.length + 1)⟩ n 3 X ∧ Keeps X w w' := by
 subst hn hy
 obtain ⟨q3, wh, F, Fc, Fj, Fs, s, h1, h2, h3, h4, h5⟩ := h
 refine (J.add W w p q2 F Fj s z.j h1.dv.d h1.jr h1.a2 hT h1.dv.kp h1.dv.gd h1.g2 h1.roomJ hage (by have := h1.c; omega) A c ks (hrow.mono fun c _ hc => ⟨h1.e1.r c (.inr hc), h1.e3.r c (.inr hc)⟩) hcc hcm hl hok).mono ?_
 rintro e w' ⟨rfl, F', Fj', rows, k1, g, hd', hr', hdk, hgg, hgo⟩
 exact ⟨rfl, g, hgg, so_j h1 h2 h3 h4 hd' hr' rfl rfl hgo 3 fun _ => ⟨rows, k1, rfl, .inr (.inr ⟨rfl, hdk⟩)⟩⟩
theorem so_seq (hT : J.T W) (h : StAt S J W w p b q1 q2 k z n d X) (m : Int) (hm : m = (z.j.keys.length : Int)) :
  Calls Tryz.prog 24 #[.pointer (some ⟨q2, 0, none⟩)] w fun e w' => e = .returned (.int .i64 m) ∧ Kp w w' ∧ StAt S J W w' p b q1 q2 k z n d X := by
 subst hm
 have h0 := h
 obtain ⟨q3, wh, F, Fc, Fj, Fs, s, h1, h2, h3, h4, h5⟩ := h
 refine (J.seqIs w p q2 Fj s z.j h1.jr (J.tk hT h1.dv.kp)).mono ?_
 rintro e w' ⟨rfl, hk⟩
 exact ⟨rfl, hk, h0.keep hk⟩
theorem so_meta (h : StAt S J W w p b q1 q2 k z n d X) :
  Calls Tryz.prog 12 #[.pointer (some ⟨k, 0, none⟩)] w fun e w' => e = .returned (magg z.m) ∧ Kp w w' ∧ StAt S J W w' p b q1 q2 k z n d X := by
 have h0 := h
 obtain ⟨q3, wh, F, Fc, Fj, Fs, s, h1, h2, h3, h4, h5⟩ := h
 refine (kmeta_any w k q3 z.m h1.kp.kb).mono ?_
 rintro e w' ⟨rfl, hk⟩
 exact ⟨rfl, hk, h0.keep hk⟩
theorem StAt.dev (h : StAt S J W w p b q1 q2 k z n d X) : StDev W w p n z.c X := by
 obtain ⟨q3, wh, F, Fc, Fj, Fs, s, h1, h2, h3, h4, h5⟩ := h
 exact ⟨F, s, h1.dv, h1.ln, h1.c, fun c hc => ⟨h1.e1.r c (.inr hc), h1.elt c (efoot_all.2 (.inr hc))⟩⟩
theorem so_crash (h : StAt S J W w p b q1 q2 k z n d X) (hd : 0 < d) (K : Option Addr) (kc : Nat) (G : Nat → Prop) (keep : List Bool) (m : Nat) (hm : m = keep.length) (hK : Row w K G (keep.map Value.bool)) (hkl : keep.length ≤ maxLen) :
  Calls Tryz.prog 21 #[.pointer (some ⟨p, 0, none⟩), .slice K m kc] w fun e w' => ∃ r, e = .returned (.pointer (some ⟨r, 0, none⟩)) ∧ StDisk S J W w' r z n d (fun c => c = b ∨ X c) ∧ Kp w w' ∧ StAt S J W w' p b q1 q2 k z n d X := by
 have h0 := h
 subst hm
 obtain ⟨q3, wh, F, Fc, Fj, Fs, s, h1, h2, h3, h4, h5⟩ := h
 obtain ⟨rows, c, rfl, hdk⟩ := h5 hd
 refine (dcrash_any w p F _ h1.dv.d K kc G keep hK hkl).mono ?_
 rintro e w' ⟨r, F', rfl, hD, hn1, hn2, hk⟩
 rw [still_crash] at hD
 have hw := theSup.wf h1.kp.du.su
 have hsec := h1.kp.du.sec
 simp only [Nat.zero_add] at hsec
 refine ⟨r, rfl, ⟨F', rows, wh, ⟨hD, fun b hb => ?_, h1.dv.kp.trans hk⟩, h1.ln, h1.n1, h1.fp, h1.fs, h1.jp, h1.js, hw.1, hw.2.1, h1.kp.may, hsec, fun t' x' hh => h1.oth t' x' hh, hdk, fun c hc => ?_⟩, hk, h0.keep hk⟩
 ·rcases hb with hb | hb
  ·exact Nat.le_trans h1.dv.kp.size (hn1 b hb)
  ·rcases hn2 b hb with hb | hb
   ·exact h1.dv.gd b (.inr hb)
   ·exact Nat.le_trans h1.dv.kp.size hb
 ·have hlt := h1.elt c (efoot_all.2 hc)
  refine ⟨fun hf => ?_, Nat.lt_of_lt_of_le hlt hk.size⟩
  rcases hf with hf | hf
  ·have := hn1 c hf; omega
  ·rcases hn2 c hf with hf | hf
   ·exact h1.e1.r c hc (.inr hf)
   ·omega
end
section
variable {S : FlashOK} {J : JournalOK} {W w w' : World} {p b q1 q2 q3 k wh n d : Nat} {F F' Fc Fc' Fj Fj' Fs Fs' E : Foot} {s s' : SDev} {z : Sto} {X Y : Nat → Prop}
theorem kgo {st' : SSt} {m' : M4} (hK : Kep W w' p q3 k F' Fs' s' st' m') (hk : Keeps (fun b => ¬ F.M b ∧ ¬ Fs.M b ∧ b ≠ k) w w') (f1 : ∀ b, F'.M b → F.M b ∨ w.heap.size ≤ b) (f2 : ∀ b, F'.I b → F.all b ∨ w.heap.size ≤ b) (f3 : ∀ b, Fs'.M b → Fs.M b ∨ w.heap.size ≤ b) (f4 : ∀ b, Fs'.I b → Fs.all b ∨ w.heap.size ≤ b) : StGo w w' F F' (kfoot k Fs) (kfoot k Fs') := by
 refine ⟨⟨fun b hb hf => ?_, fun b hb hf => ?_⟩, hk.mono fun b _ hb => ⟨hb.1, fun hm => hb.2 (.inl hm), fun e => hb.2 (.inr e)⟩, f1, f2, fun b hb => ?_, fun b hb => ?_⟩
 ·rcases kfoot_all.1 hf with hf | rfl
  ·exact hK.du.ap.l b hb hf
  ·exact hK.nf (.inl hb)
 ·rcases hb with hb | rfl
  ·exact hK.du.ap.r b hb hf
  ·exact hK.nf hf
 ·rcases hb with hb | rfl
  ·exact (f3 b hb).imp .inl id
  ·exact .inl (.inr rfl)
 ·exact (f4 b hb).imp (fun h => kfoot_all.2 (.inl h)) id
theorem set_getD_ne (rows : List (List UInt8)) (i j : Nat) (e : List UInt8) (h : i ≠ j) : (rows.set i e).getD j [] = rows.getD j [] := by
 rw [List.getD_eq_getElem?_getD, List.getElem?_set_ne h, ← List.getD_eq_getElem?_getD]
theorem StIn.moveK (hT : theSup.T W) (h : StIn S J W w p q1 q2 q3 k wh F Fc Fj Fs s z n E) (x : M4) (hx : (mayB x && overB z.m x) = true) (hc : z.c ≤ 400000000000) (ht : z.t ≤ 400000000000) :
  Calls Tryz.prog 19 #[.pointer (some ⟨k, 0, none⟩), magg x] w fun e w' => e = .returned (.int .i64 0) ∧ ∃ (F' Fs' : Foot) (c : Nat),
   StIn S J W w' p q1 q2 q3 k (1 - wh) F' Fc Fj Fs' (SDev.still (s.now.set (1 - wh) (theSup.enc (z.t + 1) (encM x))) c) ⟨z.f, z.j, z.t + 1, x, z.boot, z.c + 100⟩ n E ∧ Keeps E.all w w' := by
 have hcc := h.c
 refine (ksave_yes W w hT p q3 k F Fs s _ z.m x h.kp (by omega) (show z.t ≤ _ by omega) hx).mono ?_
 rintro e w' ⟨rfl, F', Fs', c, hK, hcn, hkk, f1, f2, f3, f4⟩
 simp only [Nat.zero_add] at hK
 have hg := kgo hK hkk f1 f2 f3 f4
 have hw1 := h.wh1
 have hwf := theSup.wf h.kp.du.su
 have hsec := h.kp.du.sec
 obtain ⟨a1, a5, k1⟩ := hg.rest h.a1 h.a5.symm (S.lt h.fc)
 obtain ⟨a2, a6, k2⟩ := hg.rest h.a2 h.a6.symm (J.lt h.jr)
 obtain ⟨e1, e4, ke⟩ := hg.rest h.e1 h.e4 h.elt
 have hlen : (s.now.set (1 - wh) (theSup.enc (z.t + 1) (encM x))).length = s.now.length := List.length_set ..
 refine ⟨rfl, F', Fs', c, ⟨S.other (S.keep h.fc k1) hlen fun i hi => ?_, J.other (J.keep h.jr k2) hlen fun i hi => ?_, hK, a1, a2, hg.ap, h.a4, a5.symm, a6.symm, e1, h.e2, h.e3, e4, fun b hb => Nat.lt_of_lt_of_le (h.elt b hb) hkk.size, h.g1, h.g2, hlen.trans h.ln, h.n1, h.fp, h.fs, h.jp, h.js, ?_, ?_⟩, ke⟩
 ·have := hi.1; rw [h.fp] at this
  exact set_getD_ne _ _ _ _ (by omega)
 ·have := hi.1; rw [h.jp] at this
  exact set_getD_ne _ _ _ _ (by omega)
 ·have := oth_save (S := theSup) (rows := s.now) (st := ⟨p, 0, wh, z.t, encM z.m⟩) p (theSup.enc (z.t + 1) (encM x)) (encM x) hwf.1 hwf.2.1 hwf.2.2 (show z.t ≤ _ by omega) hsec
  simp only [Nat.zero_add] at this
  exact this
 ·show c ≤ z.c + 100; omega
theorem StIn.more (h : StIn S J W w p q1 q2 q3 k wh F Fc Fj Fs s z n ⟨X, fun _ => False⟩) (hk : Kp w w') (hY : ∀ c, Y c → X c ∨ (w.heap.size ≤ c ∧ c < w'.heap.size)) : StIn S J W w' p q1 q2 q3 k wh F Fc Fj Fs s z n ⟨Y, fun _ => False⟩ := by
 have h' := h.keep hk
 have hE : ∀ {R : Foot}, Apart R ⟨X, fun _ => False⟩ → (∀ c, R.all c → c < w.heap.size) → Apart R ⟨Y, fun _ => False⟩ := fun ha hlt => by
  refine ⟨fun c hc he => ?_, fun c hc hr => ?_⟩
  ·have := hlt c (.inl hc)
   rcases he with hy | hy
   ·rcases hY c hy with hx | hx
    ·exact ha.l c hc (.inl hx)
    ·omega
   ·exact hy
  ·have := hlt c hr
   rcases hY c hc with hx | hx
   ·exact ha.r c hx hr
   ·omega
 refine { h' with e1 := hE h.e1 h.dv.d.lt, e2 := hE h.e2 (S.lt h.fc), e3 := hE h.e3 (J.lt h.jr), e4 := hE h.e4 h.klt, elt := fun c hc => ?_ }
 rcases hc with hy | hy
 ·rcases hY c hy with hx | hx
  ·exact Nat.lt_of_lt_of_le (h.elt c (.inl hx)) hk.size
  ·exact hx.2
 ·exact hy.elim
theorem StIn.block (h : StIn S J W w p q1 q2 q3 k wh F Fc Fj Fs s z n ⟨X, fun _ => False⟩) (t : Int) (w' : World) (hw : w' = w.alloc (.cells #[.pointer (some ⟨q1, 0, none⟩), .pointer (some ⟨q2, 0, none⟩), .pointer (some ⟨k, 0, none⟩), .int .i64 t] 38)) :
  StIn S J W w' p q1 q2 q3 k wh F Fc Fj Fs s z n (efoot w.heap.size X) ∧ StBlk w' w.heap.size q1 q2 k t ∧ W.heap.size ≤ w.heap.size ∧ ¬ X w.heap.size := by
 subst hw
 have hk : Kp w (w.alloc (.cells #[.pointer (some ⟨q1, 0, none⟩), .pointer (some ⟨q2, 0, none⟩), .pointer (some ⟨k, 0, none⟩), .int .i64 t] 38)) := (Keeps.refl _ w).alloc _
 have h' := h.keep hk
 have hE : ∀ {R : Foot}, Apart R ⟨X, fun _ => False⟩ → (∀ c, R.all c → c < w.heap.size) → Apart R (efoot w.heap.size X) := fun ha hlt => by
  refine ⟨fun c hc he => ?_, fun c hc hr => ?_⟩
  ·have := hlt c (.inl hc)
   rcases efoot_all.1 he with rfl | hx
   ·omega
   ·exact ha.l c hc (.inl hx)
  ·have := hlt c hr
   rcases hc with rfl | hx
   ·omega
   ·exact ha.r c hx hr
 refine ⟨{ h' with e1 := hE h.e1 h.dv.d.lt, e2 := hE h.e2 (S.lt h.fc), e3 := hE h.e3 (J.lt h.jr), e4 := hE h.e4 h.klt, elt := fun c hc => ?_ }, heap_alloc_new w _, h.dv.kp.size, fun hx => ?_⟩
 ·have hs : (w.alloc (.cells #[.pointer (some ⟨q1, 0, none⟩), .pointer (some ⟨q2, 0, none⟩), .pointer (some ⟨k, 0, none⟩), .int .i64 t] 38)).heap.size = w.heap.size + 1 := by simp
  rcases efoot_all.1 hc with rfl | hx
  ·omega
  ·have := h.elt c (.inl hx); omega
 ·have := h.elt _ (.inl hx); omega
end
structure SBl (rows rows' : List (List UInt8)) (a j : Nat) : Prop where
 len : rows'.length = rows.length
 yes : ∀ i, a ≤ i → i < j → rows'.getD i [] = blank
 no : ∀ i, (i < a ∨ j ≤ i) → rows'.getD i [] = rows.getD i []
theorem SBl.start (rows : List (List UInt8)) (a : Nat) : SBl rows rows a a := ⟨rfl, fun i h1 h2 => by omega, fun _ _ => rfl⟩
theorem SBl.next {rows rows' : List (List UInt8)} {a j : Nat} (h : SBl rows rows' a j) (ha : a ≤ j) (hj : j < rows.length) : SBl rows (rows'.set j blank) a (j + 1) := by
 refine ⟨by rw [List.length_set]; exact h.len, fun i h1 h2 => ?_, fun i hi => ?_⟩
 ·by_cases e : j = i
  ·subst e
   rw [List.getD_eq_getElem?_getD, List.getElem?_set_self (by rw [h.len]; exact hj)]; rfl
  ·rw [List.getD_eq_getElem?_getD, List.getElem?_set_ne e, ← List.getD_eq_getElem?_getD]
   exact h.yes i h1 (by omega)
 ·rw [List.getD_eq_getElem?_getD, List.getElem?_set_ne (by omega), ← List.getD_eq_getElem?_getD]
  exact h.no i (by omega)
def StMid (w2 : World) (p : Nat) (F : Foot) (s : SDev) (a j : Nat) (w : World) : Prop := ∃ (F' : Foot) (s' : SDev), DAt w p F' s' ∧ SBl s.now s'.now a j ∧ s'.calls + a = s.calls + j ∧ Step F F' w2 w
set_option maxHeartbeats 1000000 in
theorem sblank_any (w : World) (p : Nat) (F : Foot) (s : SDev) (h : DAt w p F s) (a b : Nat) (hab : a ≤ b) (hb : b ≤ s.now.length) (hcalls : s.calls ≤ 549755813888) (za zb : Int) (hza : za = (a : Int)) (hzb : zb = (b : Int)) :
  Calls Tryz.prog 37 #[.pointer (some ⟨p, 0, none⟩), .int .i64 za, .int .i64 zb] w fun e w' => e = .returned (.int .i64 0) ∧ ∃ (F' : Foot) (rows : List (List UInt8)) (c : Nat), DAt w' p F' (SDev.still rows c) ∧ SBl s.now rows a b ∧ c ≤ s.calls + 3000 ∧ Step F F' w w' := by
 subst hza hzb
 have hsm := h.ok.small
 have HD := Lib.hid h
 have HI := Lib.hid hb
 have hi1 : b ≤ 2048 := by omega
 clear h hb
 go_enter Tryz.func37, Tryz.ntmps37
 go_wp2_with (refine list_make rfl (.const (.int .i64 64)) (.const (.int .i64 64)) 64 rfl byte_elem .i64 .i64 64 rfl rfl (by decide) (by decide) (bcells blank) made64 ?_)
 intro w2 hown hg2
 have hk2 : Keeps (fun _ => True) w w2 := Keeps.of_grown hg2 (fun _ h => by cases h)
 have HR := Lib.hid (own_row hown)
 have HD2 := Lib.hid (HD.out.keep (hk2.mono fun _ _ _ => trivial))
 have hgF : ∀ b, b = w.heap.size → ¬ F.all b := fun b e hf => by have := HD.out.lt b hf; omega
 have hlt2 := (hown.lt _ rfl).2
 have HG := Lib.hid hgF
 have HL2 := Lib.hid hlt2
 have HK := Lib.hid hk2
 clear hown hg2 hk2 hgF hlt2
 go_wp2_with fail
 go_loopw [8] (fun i9 wr => ∃ k : Nat, a ≤ k ∧ k ≤ b ∧ i9 = .int .i64 k ∧ StMid w2 p F s a k wr) (fun i9 _ => b - (intOf i9).toNat)
 case atStart => exact ⟨a, Nat.le_refl _, hab, rfl, F, s, HD2.out, SBl.start _ _, rfl, Step.refl _ _⟩
 case round =>
  obtain ⟨k, hka, hk, rfl, F', s', hd, hn, hc, hst⟩ := hrel
  by_cases hlt : k < b
  ·have hlt' : (k : Int) < (b : Int) := by omega
   have hkl : k < s'.now.length := by rw [hn.len]; have := HI.out; omega
   have hw := dwrite_yes wr p F' s' hd k (some ⟨w.heap.size, 0, none⟩) 64 (fun b => b = w.heap.size) blank (HR.out.keep (hst.keeps.mono fun b _ e hm => HG.out b e (.inl hm))) (fun b e hf => by
     rcases hst.all b hf with h1 | h1
     ·exact HG.out b e h1
     ·have := HL2.out; subst e; omega) hkl (Nat.le_refl _) (by omega)
   rw [show blank.length = 64 from rfl] at hw
   have HW := Lib.hid hw
   have hn2 : SBl s.now (s'.write k blank).now a (k + 1) := by
    rw [write64_now s' k blank rfl (row64 hd _ hkl)]
    exact hn.next hka (by rw [← hn.len]; exact hkl)
   have HN := Lib.hid hn2
   have HC := Lib.hid hc
   have HS := Lib.hid hst
   clear hd hn hc hst hw hn2
   go_wp2_with fail
   refine (show Calls _ _ _ _ _ from HW.out).mono ?_
   rintro e w3 ⟨rfl, F3, hd3, hst3⟩
   have H3 := Lib.hid (show StMid w2 p F s a (k + 1) w3 from ⟨F3, _, hd3, HN.out, by show s'.calls + 1 + a = _; have := HC.out; omega, HS.out.trans hst3⟩)
   clear hd3 hst3 HW HN HC HS
   go_wp2_with fail
   go_roundw
   case rel => exact ⟨k + 1, by omega, by omega, by go_num, H3.out⟩
   case measure => simp [intOf]; omega
  ·obtain rfl : k = b := by omega
   have hf := dflush_any wr p F' s' hd (by omega)
   rw [flush_is] at hf
   have HF := Lib.hid hf
   have HS := Lib.hid hst
   have HN := Lib.hid hn
   have HC := Lib.hid (show s'.calls + 1 ≤ s.calls + 3000 by omega)
   clear hf hst hn hc hd
   go_wp2_with fail
   refine (show Calls _ _ _ _ _ from HF.out).mono ?_
   rintro e w3 ⟨rfl, F3, hd3, hst3⟩
   have H3 := Lib.hid (show ∃ (F' : Foot) (rows : List (List UInt8)) (c : Nat), DAt w3 p F' (SDev.still rows c) ∧ SBl s.now rows a k ∧ c ≤ s.calls + 3000 ∧ Step F F' w w3 from ⟨F3, _, _, hd3, HN.out, HC.out, by
    have h := HS.out.trans hst3
    have hk2 := HK.out
    exact ⟨(hk2.mono fun _ _ _ => trivial).trans h.keeps, fun b hb => (h.m b hb).imp id fun h1 => Nat.le_trans hk2.size h1, fun b hb => (h.i b hb).imp id fun h1 => Nat.le_trans hk2.size h1⟩⟩)
   clear hd3 hst3 HF HS HN HC
   go_wp2_with fail
   go_ret
   exact ⟨rfl, H3.out⟩
theorem bytes_ahead {l m : List It} {r : List UInt8} (hl : l.all It.may = true) (hm : m.all It.may = true) (h : bytesOf m = bytesOf l ++ r) : ∃ n, m = l ++ n ∧ r = bytesOf n ∧ n.all It.may = true := by
 induction l generalizing m with
 | nil => exact ⟨m, rfl, by simpa [bytesOf] using h.symm, hm⟩
 | cons x l ih =>
  cases m with
  | nil =>
   have := x.bytes_pos
   rw [bytesOf_cons] at h
   have h2 := congrArg List.length h
   simp only [List.length_append, bytesOf, List.flatMap_nil, List.length_nil] at h2
   omega
  | cons y m =>
   rw [List.all_cons, Bool.and_eq_true] at hl hm
   rw [bytesOf_cons, bytesOf_cons, List.append_assoc] at h
   obtain ⟨rfl, e⟩ := It.bytes_inj hm.1 hl.1 h
   obtain ⟨n, rfl, e2, e3⟩ := ih hl.2 hm.2 e
   exact ⟨n, rfl, e2, e3⟩
theorem own_form4 {w : World} {base n size : Nat} {e : TypeId} {v : Value} {xs : List Value} (h : w.ownsRow base e size v n xs) : ∃ A c, v = .slice A n c := by
 rcases h.2 with ⟨rfl, h0⟩ | ⟨g, cap, cur, rfl, r⟩
 ·exact ⟨none, 0, by rw [h0]⟩
 ·exact ⟨_, _, rfl⟩
set_option maxRecDepth 100000 in
set_option maxHeartbeats 1600000 in
theorem idecode (w : World) (A : Option Addr) (c : Nat) (b : List UInt8) (h : Row w A (fun _ => True) (bcells b)) (hlc : b.length ≤ c) (hcm : c ≤ maxLen) (hl : b.length ≤ 1000000) :
  Calls Tryz.prog 120 #[.slice A b.length c] w fun e w' => Keeps (fun _ => True) w w' ∧
   ((∃ B k l, e = .returned (.tuple #[.slice B l.length k, .int .i64 0]) ∧ l ≠ [] ∧ l.all It.may = true ∧ bytesOf l = b ∧ l.length ≤ k ∧ k ≤ maxLen ∧ ItsAt w' B (fun b => w.heap.size ≤ b ∧ b < w'.heap.size) l ∧ Unfr w' B l.length) ∨
    ((∀ l : List It, l ≠ [] → l.all It.may = true → bytesOf l ≠ b) ∧ ∃ B k, e = .returned (.tuple #[.slice B 0 k, .int .i64 1]))) := by
 unfold maxLen at hcm
 have HH := Lib.hid h
 obtain ⟨n, hn⟩ : ∃ n, b.length = n := ⟨_, rfl⟩
 have HN := Lib.hid hn
 rw [hn] at hlc hl ⊢
 clear hn h
 go_enter Tryz.func120, Tryz.ntmps120
 go_wp2_with fail
 go_loopw [0, 4] (fun s v wr => ∃ (A1 : Option Addr) (m c1 : Nat) (l : List It) (r : List UInt8), s = .slice A1 m c1 ∧ RowKit.Hid (r.length = m) ∧ m ≤ c1 ∧ c1 ≤ c ∧ m ≤ n ∧ RowKit.Hid (b = bytesOf l ++ r) ∧ RowKit.Hid (l.all It.may = true) ∧ RowKit.Hid (Row w A1 (fun _ => True) (bcells r)) ∧
   RowKit.Hid (wr.ownsRow w.heap.size 40 4 v l.length (itCells l)) ∧ RowKit.Hid (Kp w wr)) (fun s _ _ => match s with | .slice _ m _ => m | _ => 0)
 case atStart => exact ⟨A, n, c, [], b, rfl, HN, hlc, Nat.le_refl _, Nat.le_refl _, Lib.hid rfl, Lib.hid rfl, HH, Lib.hid (World.ownsRow_nil _ _ _ _), Lib.hid (Keeps.refl _ _)⟩
 case round =>
  obtain ⟨A1, m, c1, l, r, rfl, hm, hmc, hcc, hmn, hbr, hall, hrow, hown, hkp⟩ := hrel
  have hll : l.length ≤ 1000000 := by
   have h1 := bytesOf_four l
   have h2 := congrArg List.length hbr.out
   rw [List.length_append, HN.out] at h2
   omega
  by_cases hpos : 0 < m
  ·have HD := Lib.hid (show Calls Tryz.prog 152 #[.slice A1 m c1] wr fun e w' => Kp wr w' ∧ DecPost r e from by
    have := idecode1 wr A1 c1 r (hrow.out.keep hkp.out) (by rw [hm.out]; exact hmc) (by unfold maxLen; omega) (by rw [hm.out]; omega)
    rw [hm.out] at this
    exact this)
   have t1 : decide ((0 : Int) < (m : Int)) = true := by simp; omega
   go_wp2_with fail
   refine HD.out.mono ?_
   rintro e w1 ⟨hk1, (⟨x, r2, rfl, hx, hr2⟩ | ⟨er, he0, her, rfl, hno⟩)⟩
   ·have HX := Lib.hid hx
    have HR2 := Lib.hid hr2
    have hbl := It.bytes_len hx
    have hbp := x.bytes_pos
    have hxm := hm.out
    rw [hr2, List.length_append] at hxm
    obtain ⟨z, hz⟩ : ∃ z, x.bytes.length = z := ⟨_, rfl⟩
    have HZ := Lib.hid hz
    rw [hz] at hbl hbp hxm
    obtain ⟨z2, hz2⟩ : ∃ z2, r2.length = z2 := ⟨_, rfl⟩
    have HZ2 := Lib.hid hz2
    rw [hz2] at hxm
    rw [hz]
    have hzm : z ≤ m := by omega
    have hz2m : m - z = z2 := by omega
    have HK1 := Lib.hid (hkp.out.trans hk1)
    have HOWN := Lib.hid (hk1.own hown.out fun _ _ => trivial)
    have hsrc := src_item (w1.alloc (.cells #[.string x.key, .string x.val, .int .i64 x.till, .bool x.gone] 40)) x
    rw [show (w1.alloc (.cells #[.string x.key, .string x.val, .int .i64 x.till, .bool x.gone] 40)).heap.size = w1.heap.size + 1 by simp] at hsrc
    have HSRC := Lib.hid hsrc
    clear hsrc
    obtain ⟨g, o, rfl, -, -⟩ := hrow.out.at_ (k := 0) (by rw [bcells_len, hm.out]; omega)
    have hsz := HK1.out.size
    have hl1 : l.length + 1 ≤ 1000001 := by omega
    obtain ⟨q, hq⟩ : ∃ q, l.length = q := ⟨_, rfl⟩
    have HQ := Lib.hid hq
    rw [hq] at hl1 HOWN
    clear hz hz2 hx hr2 hk1 HD hq hll hown hkp
    go_wp2_with (at_builtin; refine item_elem.list_append rfl (.tmp 19) (.tmp 21) _ rfl rfl ((HOWN.out.alloc _).alloc _) rfl HSRC.out ?c3 ?c4 ?c5 ?_)
    case c3 => unfold maxLen; omega
    case c4 => omega
    case c5 => simp; omega
    intro v3 w3 ho3 hg3 hb3
    have hk3 : Kp w w3 := ((HK1.out.alloc _).alloc _).grown hg3 fun j hj => (HOWN.out.lt j hj).1
    have HK3 := Lib.hid hk3
    have HO3 := Lib.hid (show w3.ownsRow w.heap.size 40 4 v3 (l ++ [x]).length (itCells (l ++ [x])) from by
     rw [itCells_snoc, List.length_append, HQ.out]
     exact ho3)
    have HA3 := Lib.hid (show (l ++ [x]).all It.may = true from by simp [hall.out, HX.out])
    have HB3 := Lib.hid (show b = bytesOf (l ++ [x]) ++ r2 from by rw [bytesOf_snoc, List.append_assoc, ← HR2.out]; exact hbr.out)
    have HD2 := Lib.hid (show r.drop z = r2 from by rw [HR2.out, ← HZ.out]; exact List.drop_left)
    clear hk3 ho3 hg3 hb3 HSRC HOWN HK1
    by_cases hcz : c1 = z
    ·have hmz : m = z := by omega
     subst hcz
     have HMZ := Lib.hid hmz
     clear hmz
     go_wp2_with fail
     go_roundw
     case rel => exact ⟨_, _, _, l ++ [x], r2, rfl, Lib.hid (by have := HZ2.out; have := HMZ.out; omega), by omega, by omega, by omega, HB3, HA3, Lib.hid (by rw [List.eq_nil_of_length_eq_zero (show r2.length = 0 by have := HZ2.out; have := HMZ.out; omega)]; exact Row.nil _ _ _), HO3, HK3⟩
     case measure => have := HMZ.out; simp; omega
    ·have HROW := Lib.hid (cut_row hrow.out hm.out hzm hmc hcz)
     rw [HD2.out] at HROW
     have hnz : ¬ c1 = z := hcz
     have hzc : z ≤ c1 := by omega
     go_wp2_with fail
     go_roundw
     case rel => exact ⟨_, _, _, l ++ [x], r2, rfl, Lib.hid (by have := HZ2.out; omega), by omega, by omega, by omega, HB3, HA3, HROW, HO3, HK3⟩
     case measure => simp; omega
   ·have HNO := Lib.hid hno
    have t2 : ((er : Int) != 0) = true := by simp; omega
    have HK1 := Lib.hid (hkp.out.trans hk1)
    clear hno hk1 HD
    go_wp2_with fail
    go_ret2
    refine ⟨HK1.out.alloc _, .inr ⟨fun l' hne hall' hb' => ?_, none, 0, rfl⟩⟩
    obtain ⟨n', rfl, hr', hn'⟩ := bytes_ahead hall.out hall' (hb'.trans hbr.out)
    cases n' with
    | nil =>
     have := hm.out
     rw [hr'] at this
     simp [bytesOf] at this
     omega
    | cons y n' =>
     rw [List.all_cons, Bool.and_eq_true] at hn'
     exact HNO.out y _ hn'.1 (hr'.trans (bytesOf_cons _ _))
  ·obtain rfl : m = 0 := by omega
   have hr0 : r = [] := List.eq_nil_of_length_eq_zero hm.out
   by_cases hl0 : l = []
   ·have HL0 := Lib.hid hl0
    subst hl0
    obtain ⟨A2, c2, rfl⟩ := own_form4 hown.out
    go_wp2_with fail
    go_ret2
    refine ⟨hkp.out, .inr ⟨fun l' hne hall' hb' => ?_, none, 0, rfl⟩⟩
    have := bytesOf_pos hne
    rw [hb', hbr.out, hr0] at this
    simp [bytesOf] at this
   ·have hlp := List.length_pos_iff.2 hl0
    obtain ⟨g2, c2, rfl, -, -⟩ := hown.out.form hlp
    have HOWN := hown.out
    have t2 : ((l.length : Int) == 0) = false := by simp; omega
    have HL := Lib.hid (own_room HOWN)
    have HI := Lib.hid (ItsAt.of_own HOWN rfl)
    have HU := Lib.hid (Unfr.own HOWN)
    have HL0 := Lib.hid hl0
    have HR0 := Lib.hid hr0
    clear hl0 HOWN hr0
    go_wp2_with fail
    go_ret2
    exact ⟨hkp.out, .inl ⟨_, c2, l, rfl, HL0.out, hall.out, by rw [hbr.out, HR0.out, List.append_nil], HL.out.1, HL.out.2, HI.out, HU.out⟩⟩
def theItems : ItemOK where
 T := fun _ => True
 tk := fun _ _ => trivial
 may := fun w x _ hx => imay w x hx
 live := fun w x now _ hx h1 h2 => ilive w x hx now h1 h2
 encode := fun w A c l _ hA hl hc hn hf => iencode w A c l hA hl hc hn hf
 decode := fun w A c b _ h h1 h2 h3 => (idecode w A c b h h1 h2 h3).mono fun _e _w' hh => ⟨hh.1, hh.2.imp (fun ⟨B, k, l, e1, e2, e3, e4, e5, e6, e7, _⟩ => ⟨B, k, l, e1, e2, e3, e4, e5, e6, e7⟩) id⟩
def mkC (sq : Nat) : List ByteArray → List Value
 | [] => []
 | k :: l => .int .i64 ((sq + 1 : Nat) : Int) :: .string k :: mkC (sq + 1) l
theorem mkC_snoc (sq : Nat) (l : List ByteArray) (k : ByteArray) : mkC sq (l ++ [k]) = mkC sq l ++ [.int .i64 ((sq + l.length + 1 : Nat) : Int), .string k] := by
 induction l generalizing sq with
 | nil => rfl
 | cons a l ih =>
  show _ :: _ :: mkC (sq + 1) (l ++ [k]) = _ :: _ :: (mkC (sq + 1) l ++ _)
  rw [ih, List.length_cons, show sq + 1 + l.length + 1 = sq + (l.length + 1) + 1 by omega]
theorem mkC_at (sq : Nat) (l : List ByteArray) (j : Nat) (hj : j < l.length) : (mkC sq l)[j * 2]? = some (.int .i64 ((sq + j + 1 : Nat) : Int)) ∧ (mkC sq l)[j * 2 + 1]? = some (.string l[j]) := by
 induction l generalizing sq j with
 | nil => simp at hj
 | cons a l ih =>
  cases j with
  | zero => exact ⟨rfl, rfl⟩
  | succ j =>
   have h := ih (sq + 1) j (by simpa using hj)
   rw [show sq + (j + 1) + 1 = sq + 1 + j + 1 by omega, show (j + 1) * 2 = j * 2 + 2 by omega]
   exact h
theorem mark_elem : Elem Tryz.prog 68 72 (.agg #[.int .i64 0, .string ⟨#[]⟩]) 2 24 := ⟨Tryz.underlying68, by kernel_rfl, rfl, by decide⟩
theorem MarksAt.of_own {w : World} {A : Option Addr} {base n c sq : Nat} {l : List ByteArray} {e : TypeId} (h : w.ownsRow base e 2 (.slice A n c) n (mkC sq l)) (hn : n = l.length) : MarksAt w A (fun b => base ≤ b ∧ b < w.heap.size) sq l := fun i hi => by
 obtain ⟨g, cap, e, hb, -⟩ := h.form (by omega : 0 < n)
 injection e with e1 e2 e3
 subst e1
 have hc := h.cells (g := g) rfl
 have c0 := hc (i * 2) _ (mkC_at sq l i hi).1
 have c1 := hc (i * 2 + 1) _ (mkC_at sq l i hi).2
 rw [WideShapes.add_plain] at c0 c1
 exact ⟨g, 0, rfl, h.lt g rfl, c0, c1⟩
theorem src_mark (w : World) (n : Int) (k : ByteArray) (b : Nat) (hb : b = w.heap.size) (c : Nat) (t : TypeId) : Src Tryz.prog 2 68 (.slice (some ⟨b, 0, none⟩) 1 c) 1 [.int .i64 n, .string k] (w.alloc (.cells #[.int .i64 n, .string k] t)) := by
 subst hb
 refine Src.ofSlice _ Tryz.underlying68 _ 1 c _ rfl (fun j u hu => ?_) (fun u hu => ?_)
 ·have hb := heap_alloc_new w (.cells #[.int .i64 n, .string k] t)
  rw [WideShapes.add_plain]
  match j, hu with
  | 0, hu => cases hu; exact (cell_of_block hb 0).trans rfl
  | 1, hu => cases hu; exact (cell_of_block hb 1).trans rfl
  | j + 2, hu => simp at hu
 ·rcases List.mem_cons.1 hu with rfl | hu
  ·rfl
  ·rw [List.mem_singleton.1 hu]; rfl
theorem own_form2 {w : World} {base n : Nat} {e : TypeId} {v : Value} {xs : List Value} (h : w.ownsRow base e 2 v n xs) : ∃ A c, v = .slice A n c ∧ n ≤ c ∧ c ≤ maxLen := by
 rcases h.2 with ⟨rfl, h0⟩ | ⟨g, cap, cur, rfl, hb, hg, h1, h2, r⟩
 ·exact ⟨none, 0, by rw [h0], by omega, Nat.zero_le _⟩
 ·exact ⟨_, _, rfl, h1, h2⟩
set_option maxRecDepth 100000 in
set_option maxHeartbeats 1000000 in
theorem jfind (S : Slog2) (w : World) (hT : S.T w) (p q lq : Nat) (F Fl : Foot) (s : SDev) (lst : LSt) (hd : DAt w p F s) (hl : S.rep w lq Fl lst s) (hon : lst.dev = p) (hal : Apart F Fl) (hroom : lst.place + 8 * lst.segs ≤ s.now.length)
  (c0 : w.cell? ⟨q, 0, none⟩ = some (.pointer (some ⟨lq, 0, none⟩))) (x n : Nat) (k : ByteArray) (hrec : (x, markB n k) ∈ lst.recs) (hn1 : 1 ≤ n) (hn : n ≤ 40000) (hk : keyOk k) :
  Calls Tryz.prog 62 #[.pointer (some ⟨q, 0, none⟩), .int .i64 (x : Int)] w fun e w' => e = .returned (.tuple #[.agg #[.int .i64 (n : Int), .string k], .bool true]) ∧ Kp w w' := by
 obtain ⟨w0, hw0⟩ : ∃ w0, w.alloc (.cells #[.int .i64 0, .string ⟨#[]⟩] 72) = w0 := ⟨_, rfl⟩
 have HW0 := Lib.hid hw0
 have hb0 : w0.heap[w.heap.size]? = some (.cells #[.int .i64 0, .string ⟨#[]⟩] 72 (0, 0)) := by rw [← hw0]; exact heap_alloc_new w _
 have hk0 : Kp w w0 := by rw [← hw0]; exact (Keeps.refl _ w).alloc _
 have hz0 : w.heap.size < w0.heap.size := by rw [← hw0]; simp
 have HB0 := Lib.hid hb0
 have HK0 := Lib.hid hk0
 have HZ0 := Lib.hid hz0
 have d0 := hk0.cell c0 trivial
 have HRD := Lib.hid (show Calls Tryz.prog 85 #[.pointer (some ⟨lq, 0, none⟩), .int .i64 (x : Int)] w0 fun e w' => ∃ A m c, e = .returned (.tuple #[.slice A m c, .int .i64 0]) ∧ m = (markB n k).length ∧ m ≤ c ∧ c ≤ maxLen ∧ Row w' A (fun _ => True) (bcells (markB n k)) ∧ Kp w0 w' from by
  refine (S.read w0 p lq F Fl s lst (hd.keep (hk0.mono fun _ _ _ => trivial)) (S.keep hl (hk0.mono fun _ _ _ => trivial)) hon hal (S.tk hT hk0) hroom x (markB n k) hrec).mono ?_
  rintro e w' ⟨A, c, rfl, h1, h2, h3, -, h4⟩
  exact ⟨A, _, c, rfl, rfl, h1, h2, h3.mono fun _ _ _ => trivial, h4⟩)
 have HDE := Lib.hid (show ∀ w1 (A : Option Addr) (m c : Nat), Row w1 A (fun _ => True) (bcells (markB n k)) → m = (markB n k).length → m ≤ c → c ≤ maxLen → _ from fun w1 A m c hr hm h1 h2 => jdecode w1 A m c n k hr hm h1 h2 hn1 hn hk)
 clear hd hl hon hal hroom c0 hrec hk0 hb0 hz0 hw0 hT
 go_enter Tryz.func62, Tryz.ntmps62
 go_wp2_with (rw [HW0.out])
 try rw [HW0.out]
 refine (show Calls _ _ _ _ _ from HRD.out).mono ?_
 rintro e w2 ⟨A, m, c, rfl, hm, h1, h2, h3, hk2⟩
 have HK2 := Lib.hid hk2
 have HE2 := Lib.hid (HDE.out w2 A m c h3 hm h1 h2)
 clear hk2 hm h1 h2 h3 d0 HRD HDE
 go_wp2_with fail
 refine (show Calls _ _ _ _ _ from HE2.out).mono ?_
 rintro e w3 ⟨rfl, hk3⟩
 have hk30 := HK2.out.trans hk3
 have hb1 := (hk30.block w.heap.size trivial HZ0.out).trans HB0.out
 have HRES := res2 w w3 hb1 (HK0.out.trans hk30)
 obtain ⟨f0, f1, r0, r1⟩ := res2u w w3 hb1
 clear hb1 hk3 hk30
 obtain ⟨e0, e1, HK⟩ := HRES.out (.int .i64 (n : Int)) (.string k)
 have HKK := Lib.hid HK
 clear HK
 go_wp2_with fail
 exact bodyPost_ret (v := .tuple #[.agg #[.int .i64 (n : Int), .string k], .bool true]) (by simp [results, Tryz.results62, go_sem, e0, e1]) rfl ⟨rfl, HKK.out⟩
end Go.Proofs.YticophaepapjoaaGreatDoor
namespace Go.Proofs.YticophaepapjoaaGreatDoor
open Go Go.ChangeShapes Go.WideShapes Go.ChangeAt Go.RowKit
theorem own : ownKnob Tryz.prog.godebug = none := by kernel_rfl
set_option maxRecDepth 100000 in
theorem laidOut : laidOutB Tryz.prog = true := by kernel_rfl
theorem gTaken : Tryz.prog.globalNamed "icehouse/crc.taken" = some 0 := by kernel_rfl
theorem tTaken : (Tryz.prog.globals[0]?).map (·.type) = some 266 := by kernel_rfl
abbrev listed : List (String × DataW Unit) := [("icehouse/crc.taken", Rows.laid_icehouse_crc_taken)]
set_option maxRecDepth 100000 in
theorem door_met (os : Os) (args : Array Value) : laidMetH Tryz.prog listed ((World.doorLaid Tryz.prog 400 os).forCall (fun _ _ => 0) ⟨#[], args, []⟩).memory :=
 laidMetH_of_parts3 (fuel := 8) (laidMet_of_run' 8 (by kernel_rfl) (by kernel_rfl)) (by kernel_rfl) (by kernel_rfl)
def tab : List (DataW Unit) := (List.range 16).map fun i => .lit (.int .u32 ((tbits 4 i : Nat) : Int))
theorem tab_is : (Rows.laid_icehouse_crc_taken : DataW Unit) = .agg tab := by kernel_rfl
set_option maxRecDepth 100000 in
theorem taken_of {W : World} (h : laidMetH Tryz.prog listed W) : Taken W := by
 rw [MakeChecks.laidMetH_plain _ _ _ (by kernel_rfl)] at h
 obtain ⟨ps, ⟨g0, t0, cs0, f0, p0, q0, hg0, ht0, hv0, hd0, _⟩, _⟩ := h
 obtain rfl := Option.some.inj (gTaken.symm.trans hg0)
 obtain rfl := Option.some.inj (tTaken.symm.trans ht0)
 rw [tab_is] at hd0
 obtain ⟨xs, m, rfl, hx, hlen, hn, hel⟩ := DataW.trod_array Tryz.underlying266 hd0
 have c1 : Tryz.prog.cellsOf 217 = 1 := by kernel_rfl
 simp only [Prod.mk.injEq, DataW.agg.injEq] at hx
 intro i hi
 have he := hel i hi
 rw [c1, Nat.mul_one] at he
 have hxi : i < xs.length := by omega
 rw [List.getElem?_eq_getElem hxi] at he
 obtain ⟨n, e1, e2, _⟩ := DataW.trod_int Tryz.underlying217 he
 have e3 : (xs.map (·.1))[i]? = some (.lit (.int .u32 n)) := by rw [List.getElem?_map, List.getElem?_eq_getElem hxi, e2]; rfl
 rw [← hx.1] at e3
 have e4 : tab[i]? = some (.lit (.int .u32 ((tbits 4 i : Nat) : Int))) := by unfold tab; simp [hi]
 rw [e4] at e3
 have hk : n = ((tbits 4 i : Nat) : Int) := by injection e3 with e; injection e with e; injection e with _ e; exact e.symm
 have hc := World.var?_cell hg0 hv0 i
 rw [hc]
 have e5 : cs0.toList[i]? = some (.int .u32 n) := by
  have := congrArg (·[0]?) e1
  simpa [List.getElem?_take, List.getElem?_drop] using this
 rw [← Array.getElem?_toList, e5, hk]
end Go.Proofs.YticophaepapjoaaGreatDoor
