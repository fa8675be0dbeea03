/-
  WHAT A LOG OF THE PROGRAM KEEPS (the face of layer 6), however it lies on its segments: what was appended, how much of it is gone.
-/
import Derived.Test.YtpijdefadmfahaaGreatDoorAllMade
import Derived.Test.YtpijdefadmfahaaGreatDoorAllBase
import Derived.Test.YtpijdefadmfahaaGreatDoorAllCalc
namespace Go.Proofs.YtpijdefadmfahaaGreatDoor
open Go Go.RowKit Go.Joins
def RecsAt (w : World) (A : Option Addr) (G : Nat → Prop) (l : List (Nat × List UInt8)) : Prop :=
  l ≠ [] → ∃ b o, A = some ⟨b, o, none⟩ ∧ G b ∧ ∀ i (hi : i < l.length), w.cell? ⟨b, o + i * 2, none⟩ = some (.int .i64 ((l[i].1 : Nat) : Int)) ∧
    ∃ B c, w.cell? ⟨b, o + i * 2 + 1, none⟩ = some (.slice B l[i].2.length c) ∧ Row w B G (bcells l[i].2)
structure SlogOK where
  T : World → Prop
  tk : ∀ {w w' : World}, T w → Keeps (fun _ => True) w w' → T w'
  rep : World → Nat → Foot → LSt → SDev → Prop
  disk : LSt → List (List UInt8) → Prop
  wf : ∀ {w q F st s}, rep w q F st s → st.Ok
  lt : ∀ {w q F st s}, rep w q F st s → ∀ b, F.all b → b < w.heap.size
  keep : ∀ {w w' q F st s}, rep w q F st s → Keeps F.all w w' → rep w' q F st s
  other : ∀ {w q F st s s'}, rep w q F st s → s'.now.length = s.now.length → (∀ i, st.has i → s'.now.getD i [] = s.now.getD i []) → rep w q F st s'
  diskKeep : ∀ {st rows rows'}, disk st rows → rows'.length = rows.length → (∀ i, st.has i → rows'.getD i [] = rows.getD i []) → disk st rows'
  openNew : ∀ (w : World) (p : Nat) (F : Foot) (s : SDev), DAt w p F s → T w → ∀ (i n : Nat), 3 ≤ n → n ≤ 200 → i + 8 * n ≤ s.now.length → (∀ j, i ≤ j → j < i + 8 * n → s.now.getD j [] = blank) →
    Calls Tryz.prog 18 #[.pointer (some ⟨p, 0, none⟩), .int .i64 i, .int .i64 n] w fun e w' => ∃ (q : Nat) (Fs : Foot) (f x : Nat), e = .returned (.tuple #[.pointer (some ⟨q, 0, none⟩), .int .i64 0]) ∧
      rep w' q Fs ⟨p, i, n, [], 0, f, x⟩ s ∧ x ≤ 1048576 ∧ (∀ b, Fs.all b → w.heap.size ≤ b) ∧ Keeps (fun _ => True) w w'
  openOld : ∀ (w : World) (p : Nat) (F : Foot) (s : SDev) (st : LSt), DAt w p F s → T w → disk st s.now → st.place + 8 * st.segs ≤ s.now.length → st.next ≤ 137438953472 →
    Calls Tryz.prog 18 #[.pointer (some ⟨p, 0, none⟩), .int .i64 st.place, .int .i64 st.segs] w fun e w' => ∃ (q : Nat) (Fs : Foot) (f x : Nat), e = .returned (.tuple #[.pointer (some ⟨q, 0, none⟩), .int .i64 0]) ∧
      rep w' q Fs ⟨p, st.place, st.segs, opened st.hist, st.gone, f, x⟩ s ∧ x ≤ st.next + 1048576 ∧ (∀ b, Fs.all b → w.heap.size ≤ b) ∧ Keeps (fun _ => True) w w'
  openNo : ∀ (w : World) (p : Nat) (F : Foot) (s : SDev), DAt w p F s → T w → ∀ (i n : Int), -9223372036854775808 ≤ i → i < 9223372036854775808 → -9223372036854775808 ≤ n → n < 9223372036854775808 → (i < 0 ∨ n < 3 ∨ 200 < n ∨ (s.now.length : Int) < i + 8 * n) →
    Calls Tryz.prog 18 #[.pointer (some ⟨p, 0, none⟩), .int .i64 i, .int .i64 n] w fun e w' => (∃ v, e = .returned (.tuple #[v, .int .i64 4])) ∧ Keeps (fun _ => True) w w'
  append : ∀ (W w : World) (p q : Nat) (F Fs : Foot) (s : SDev) (st : LSt), DAt w p F s → rep w q Fs st s → st.dev = p → Apart F Fs → T W → Keeps (fun _ => True) W w → (∀ b, F.all b → W.heap.size ≤ b) → (∀ b, Fs.all b → W.heap.size ≤ b) → st.place + 8 * st.segs ≤ s.now.length → s.calls ≤ 549755813888 → st.next ≤ 137438953472 →
    ∀ (A : Option Addr) (c : Nat) (G : Nat → Prop) (l : List UInt8), Row w A G (bcells l) → (∀ b, G b → ¬ F.all b) → (∀ b, G b → ¬ Fs.all b) → l.length ≤ c → c ≤ maxLen → 1 ≤ l.length → l.length ≤ 300 →
    Calls Tryz.prog 36 #[.pointer (some ⟨q, 0, none⟩), .slice A l.length c] w fun e w' => ∃ (x : Nat) (F' Fs' : Foot) (s' : SDev) (g f n : Nat), e = .returned (.tuple #[.int .i64 (x : Int), .int .i64 0]) ∧ DAt w' p F' s' ∧ rep w' q Fs' ⟨p, st.place, st.segs, st.hist ++ [⟨x, l, 0⟩], g, f, n⟩ s' ∧ st.gone ≤ g ∧ st.next ≤ x ∧ n ≤ st.next + 1048576 ∧
      s'.now.length = s.now.length ∧ (∀ i, ¬ st.has i → s'.now.getD i [] = s.now.getD i []) ∧ s'.calls ≤ s.calls + 1000 ∧
      Apart F' Fs' ∧ Keeps (fun b => ¬ F.M b ∧ ¬ Fs.M b) w w' ∧ (∀ b, F'.M b → F.M b ∨ w.heap.size ≤ b) ∧ (∀ b, F'.I b → F.all b ∨ w.heap.size ≤ b) ∧ (∀ b, Fs'.M b → Fs.M b ∨ w.heap.size ≤ b) ∧ (∀ b, Fs'.I b → Fs.all b ∨ w.heap.size ≤ b)
  appendNo : ∀ (w : World) (q : Nat) (Fs : Foot) (s : SDev) (st : LSt), rep w q Fs st s → ∀ (A : Option Addr) (c : Nat) (G : Nat → Prop) (l : List UInt8), Row w A G (bcells l) → l.length ≤ c → c ≤ maxLen → (l.length < 1 ∨ 300 < l.length) →
    Calls Tryz.prog 36 #[.pointer (some ⟨q, 0, none⟩), .slice A l.length c] w fun e w' => e = .returned (.tuple #[.int .i64 0, .int .i64 1]) ∧ Keeps (fun _ => True) w w'
  flush : ∀ (W w : World) (p q : Nat) (F Fs : Foot) (s : SDev) (st : LSt), DAt w p F s → rep w q Fs st s → st.dev = p → Apart F Fs → T W → Keeps (fun _ => True) W w → (∀ b, F.all b → W.heap.size ≤ b) → (∀ b, Fs.all b → W.heap.size ≤ b) → st.place + 8 * st.segs ≤ s.now.length → s.calls ≤ 549755813888 →
    Calls Tryz.prog 25 #[.pointer (some ⟨q, 0, none⟩)] w fun e w' => e = .returned (.int .i64 0) ∧ ∃ (F' Fs' : Foot) (rows : List (List UInt8)) (k : Nat), DAt w' p F' (SDev.still rows k) ∧ rep w' q Fs' st (SDev.still rows k) ∧ disk st rows ∧
      rows.length = s.now.length ∧ (∀ i, ¬ st.has i → rows.getD i [] = s.now.getD i []) ∧ k ≤ s.calls + 1000 ∧
      Apart F' Fs' ∧ Keeps (fun b => ¬ F.M b ∧ ¬ Fs.M b) w w' ∧ (∀ b, F'.M b → F.M b ∨ w.heap.size ≤ b) ∧ (∀ b, F'.I b → F.all b ∨ w.heap.size ≤ b) ∧ (∀ b, Fs'.M b → Fs.M b ∨ w.heap.size ≤ b) ∧ (∀ b, Fs'.I b → Fs.all b ∨ w.heap.size ≤ b)
  read : ∀ (w : World) (p q : Nat) (F Fs : Foot) (s : SDev) (st : LSt), DAt w p F s → rep w q Fs st s → st.dev = p → Apart F Fs → T w → st.place + 8 * st.segs ≤ s.now.length → ∀ (x : Nat) (l : List UInt8), (x, l) ∈ st.recs →
    Calls Tryz.prog 44 #[.pointer (some ⟨q, 0, none⟩), .int .i64 (x : Int)] w fun e w' => ∃ A c, e = .returned (.tuple #[.slice A l.length c, .int .i64 0]) ∧ l.length ≤ c ∧ c ≤ maxLen ∧ Row w' A (fun b => w.heap.size ≤ b ∧ b < w'.heap.size) (bcells l) ∧ Mine w' .u8 A l.length ∧ Keeps (fun _ => True) w w'
  all : ∀ (w : World) (p q : Nat) (F Fs : Foot) (s : SDev) (st : LSt), DAt w p F s → rep w q Fs st s → st.dev = p → Apart F Fs → T w → st.place + 8 * st.segs ≤ s.now.length →
    Calls Tryz.prog 19 #[.pointer (some ⟨q, 0, none⟩)] w fun e w' => ∃ A c, e = .returned (.slice A st.recs.length c) ∧ RecsAt w' A (fun b => w.heap.size ≤ b ∧ b < w'.heap.size) st.recs ∧ Keeps (fun _ => True) w w'
  firstIs : ∀ (w : World) (q : Nat) (Fs : Foot) (s : SDev) (st : LSt), rep w q Fs st s → T w →
    Calls Tryz.prog 39 #[.pointer (some ⟨q, 0, none⟩)] w fun e w' => e = .returned (.int .i64 (st.first : Int)) ∧ Keeps (fun _ => True) w w'
  appendNil : ∀ (w : World) (v : Value), (∃ A n c, v = .slice A n c ∧ n ≤ maxLen) → Calls Tryz.prog 36 #[.pointer none, v] w fun e w' => (∃ u, e = .returned (.tuple #[u, .int .i64 8])) ∧ Keeps (fun _ => True) w w'
  readNil : ∀ (w : World), Calls Tryz.prog 44 #[.pointer none, .int .i64 1] w fun e w' => (∃ u, e = .returned (.tuple #[u, .int .i64 8])) ∧ Keeps (fun _ => True) w w'
  flushNil : ∀ (w : World), Calls Tryz.prog 25 #[.pointer none] w fun e w' => e = .returned (.int .i64 8) ∧ Keeps (fun _ => True) w w'
  allNil : ∀ (w : World), Calls Tryz.prog 19 #[.pointer none] w fun e w' => (∃ A c, e = .returned (.slice A 0 c)) ∧ Keeps (fun _ => True) w w'
  firstNil : ∀ (w : World), Calls Tryz.prog 39 #[.pointer none] w fun e w' => e = .returned (.int .i64 0) ∧ Keeps (fun _ => True) w w'
structure Lg (S : SlogOK) (W w : World) (p q : Nat) (F Fs : Foot) (s : SDev) (st : LSt) : Prop where
  dv : Dv W w p F s
  lg : S.rep w q Fs st s
  ap : Apart F Fs
  gs : ∀ b, Fs.all b → W.heap.size ≤ b
  on : st.dev = p
  room : st.place + 8 * st.segs ≤ s.now.length
section
variable {S : SlogOK} {W w w' : World} {p q : Nat} {F F' Fs Fs' : Foot} {s s' : SDev} {st : LSt}
theorem Lg.keep (h : Lg S W w p q F Fs s st) (hk : Keeps (fun _ => True) w w') : Lg S W w' p q F Fs s st :=
  ⟨h.dv.keep hk, S.keep h.lg (hk.mono fun _ _ _ => trivial), h.ap, h.gs, h.on, h.room⟩
theorem Lg.keepF {G : Nat → Prop} (h : Lg S W w p q F Fs s st) (hk : Keeps G w w') (hW : Keeps (fun _ => True) W w') (h1 : ∀ b, F.all b → G b) (h2 : ∀ b, Fs.all b → G b) : Lg S W w' p q F Fs s st :=
  ⟨⟨h.dv.d.keep (hk.mono fun b _ hb => h1 b hb), h.dv.gd, hW⟩, S.keep h.lg (hk.mono fun b _ hb => h2 b hb), h.ap, h.gs, h.on, h.room⟩
theorem Lg.store {g : Nat} (h : Lg S W w p q F Fs s st) (h1 : W.heap.size ≤ g) (h2 : ¬ F.all g) (h3 : ¬ Fs.all g) (j : Nat) (v : Value) : Lg S W (w.setCell ⟨g, j, none⟩ v) p q F Fs s st :=
  h.keepF (G := fun b => b ≠ g) ((Keeps.refl _ _).setCell (.inr fun hn => hn rfl) _) (h.dv.kp.setCell (.inl h1) _) (fun b hb e => h2 (by rw [← e]; exact hb)) (fun b hb e => h3 (by rw [← e]; exact hb))
theorem fresh_apart (hd : DAt w p F s) (hF : ∀ b, Fs.all b → w.heap.size ≤ b) : Apart F Fs :=
  ⟨fun b hb hs => by have := hF b hs; have := hd.lt b (.inl hb); omega, fun b hb hf => by have := hF b (.inl hb); have := hd.lt b hf; omega⟩
theorem lg_new (S : SlogOK) (hT : S.T W) (h : Dv W w p F s) (i n : Nat) (z y : Int) (hz : z = (i : Int)) (hy : y = (n : Int)) (h1 : 3 ≤ n) (h2 : n ≤ 200) (hi : i + 8 * n ≤ s.now.length) (hb : ∀ j, i ≤ j → j < i + 8 * n → s.now.getD j [] = blank) :
    Calls Tryz.prog 18 #[.pointer (some ⟨p, 0, none⟩), .int .i64 z, .int .i64 y] w fun e w' => ∃ (q : Nat) (Fs : Foot) (f x : Nat), e = .returned (.tuple #[.pointer (some ⟨q, 0, none⟩), .int .i64 0]) ∧
      Lg S W w' p q F Fs s ⟨p, i, n, [], 0, f, x⟩ ∧ x ≤ 1048576 ∧ (∀ b, Fs.all b → w.heap.size ≤ b) ∧ Keeps (fun _ => True) w w' := by
  subst hz hy
  refine (S.openNew w p F s h.d (S.tk hT h.kp) i n h1 h2 hi hb).mono ?_
  rintro e w' ⟨q, Fs, f, x, rfl, hS, hx, hF, hk⟩
  exact ⟨q, Fs, f, x, rfl, ⟨h.keep hk, hS, fresh_apart h.d hF, fun b hb => Nat.le_trans h.kp.size (hF b hb), rfl, hi⟩, hx, hF, hk⟩
theorem lg_old (S : SlogOK) (hT : S.T W) (h : Dv W w p F s) (st : LSt) (hD : S.disk st s.now) (z y : Int) (hz : z = (st.place : Int)) (hy : y = (st.segs : Int)) (hi : st.place + 8 * st.segs ≤ s.now.length) (hnx : st.next ≤ 137438953472) :
    Calls Tryz.prog 18 #[.pointer (some ⟨p, 0, none⟩), .int .i64 z, .int .i64 y] w fun e w' => ∃ (q : Nat) (Fs : Foot) (f x : Nat), e = .returned (.tuple #[.pointer (some ⟨q, 0, none⟩), .int .i64 0]) ∧
      Lg S W w' p q F Fs s ⟨p, st.place, st.segs, opened st.hist, st.gone, f, x⟩ ∧ x ≤ st.next + 1048576 ∧ (∀ b, Fs.all b → w.heap.size ≤ b) ∧ Keeps (fun _ => True) w w' := by
  subst hz hy
  refine (S.openOld w p F s st h.d (S.tk hT h.kp) hD hi hnx).mono ?_
  rintro e w' ⟨q, Fs, f, x, rfl, hS, hx, hF, hk⟩
  exact ⟨q, Fs, f, x, rfl, ⟨h.keep hk, hS, fresh_apart h.d hF, fun b hb => Nat.le_trans h.kp.size (hF b hb), rfl, hi⟩, hx, hF, hk⟩
theorem Lg.moved {st' : LSt} (h : Lg S W w p q F Fs s st) (hd : DAt w' p F' s') (hr : S.rep w' q Fs' st' s') (hon : st'.dev = p) (hpl : st'.place = st.place) (hsg : st'.segs = st.segs) (hln : s'.now.length = s.now.length)
    (ha : Apart F' Fs') (hk : Keeps (fun b => ¬ F.M b ∧ ¬ Fs.M b) w w') (f1 : ∀ b, F'.M b → F.M b ∨ w.heap.size ≤ b) (f2 : ∀ b, F'.I b → F.all b ∨ w.heap.size ≤ b) (f3 : ∀ b, Fs'.M b → Fs.M b ∨ w.heap.size ≤ b) (f4 : ∀ b, Fs'.I b → Fs.all b ∨ w.heap.size ≤ b) : Lg S W w' p q F' Fs' s' st' := by
  have hsz := h.dv.kp.size
  refine ⟨⟨hd, fun b hb => ?_, ?_⟩, hr, ha, fun b hb => ?_, hon, by rw [hpl, hsg, hln]; exact h.room⟩
  · rcases hb with hb | hb
    · rcases f1 b hb with h1 | h1
      · exact h.dv.gd b (.inl h1)
      · omega
    · rcases f2 b hb with h1 | h1
      · exact h.dv.gd b h1
      · omega
  · exact ⟨hk.os.trans h.dv.kp.os, hk.tape.trans h.dv.kp.tape, hk.output.trans h.dv.kp.output, Nat.le_trans hsz hk.size, fun b _ hb =>
      (hk.block b ⟨fun hm => by have := h.dv.gd b (.inl hm); omega, fun hm => by have := h.gs b (.inl hm); omega⟩ (by omega)).trans (h.dv.kp.block b trivial hb)⟩
  · rcases hb with hb | hb
    · rcases f3 b hb with h1 | h1
      · exact h.gs b (.inl h1)
      · omega
    · rcases f4 b hb with h1 | h1
      · exact h.gs b h1
      · omega
theorem Lg.beside {q2 : Nat} {G : Foot} {st2 : LSt} (h2 : Lg S W w p q2 F G s st2) (_h : Lg S W w p q F Fs s st) (hg : Apart Fs G) (hd : Dv W w' p F' s') (hk : Keeps (fun b => ¬ F.M b ∧ ¬ Fs.M b) w w') (f1 : ∀ b, F'.M b → F.M b ∨ w.heap.size ≤ b) (f2 : ∀ b, F'.I b → F.all b ∨ w.heap.size ≤ b) (f3 : ∀ b, Fs'.M b → Fs.M b ∨ w.heap.size ≤ b) (f4 : ∀ b, Fs'.I b → Fs.all b ∨ w.heap.size ≤ b)
    (hln : s'.now.length = s.now.length) (hout : ∀ i, ¬ st.has i → s'.now.getD i [] = s.now.getD i []) (hdis : ∀ i, st2.has i → ¬ st.has i) : Lg S W w' p q2 F' G s' st2 ∧ Apart Fs' G := by
  have hl := S.lt h2.lg
  refine ⟨⟨hd, S.other (S.keep h2.lg (hk.mono fun b _ hb => ⟨fun hm => h2.ap.l b hm hb, fun hm => hg.l b hm hb⟩)) hln (fun i hi => hout i (hdis i hi)), ⟨fun b hb hf => ?_, fun b hb hf => ?_⟩, h2.gs, h2.on, by rw [hln]; exact h2.room⟩, ⟨fun b hb hf => ?_, fun b hb hf => ?_⟩⟩
  · rcases f1 b hb with h1 | h1
    · exact h2.ap.l b h1 hf
    · have := hl b hf; omega
  · have hlt := hl b (.inl hb)
    rcases hf with hf | hf
    · rcases f1 b hf with h1 | h1
      · exact h2.ap.r b hb (.inl h1)
      · omega
    · rcases f2 b hf with h1 | h1
      · exact h2.ap.r b hb h1
      · omega
  · rcases f3 b hb with h1 | h1
    · exact hg.l b h1 hf
    · have := hl b hf; omega
  · have hlt := hl b (.inl hb)
    rcases hf with hf | hf
    · rcases f3 b hf with h1 | h1
      · exact hg.r b hb (.inl h1)
      · omega
    · rcases f4 b hf with h1 | h1
      · exact hg.r b hb h1
      · omega
structure Moved (w w' : World) (F F' Fs Fs' : Foot) (s s' : SDev) (st : LSt) : Prop where
  k : Keeps (fun b => ¬ F.M b ∧ ¬ Fs.M b) w w'
  f1 : ∀ b, F'.M b → F.M b ∨ w.heap.size ≤ b
  f2 : ∀ b, F'.I b → F.all b ∨ w.heap.size ≤ b
  f3 : ∀ b, Fs'.M b → Fs.M b ∨ w.heap.size ≤ b
  f4 : ∀ b, Fs'.I b → Fs.all b ∨ w.heap.size ≤ b
  len : s'.now.length = s.now.length
  out : ∀ i, ¬ st.has i → s'.now.getD i [] = s.now.getD i []
  calls : s'.calls ≤ s.calls + 1000
theorem Moved.row {A : Option Addr} {G : Nat → Prop} {xs : List Value} (h : Moved w w' F F' Fs Fs' s s' st) (hr : Row w A G xs) (h1 : ∀ b, G b → ¬ F.all b) (h2 : ∀ b, G b → ¬ Fs.all b) : Row w' A G xs :=
  hr.keep (h.k.mono fun b _ hb => ⟨fun hm => h1 b hb (.inl hm), fun hm => h2 b hb (.inl hm)⟩)
theorem lg_append (hT : S.T W) (h : Lg S W w p q F Fs s st) (A : Option Addr) (c : Nat) (l : List UInt8) (n : Nat) (hn : n = l.length) (hr : Row w A (fun b => ¬ F.all b ∧ ¬ Fs.all b) (bcells l)) (hlc : l.length ≤ c) (hc : c ≤ maxLen) (h1 : 1 ≤ l.length) (h2 : l.length ≤ 300) (hcalls : s.calls ≤ 549755813888) (hnx : st.next ≤ 137438953472) :
    Calls Tryz.prog 36 #[.pointer (some ⟨q, 0, none⟩), .slice A n c] w fun e w' => ∃ (x : Nat) (F' Fs' : Foot) (s' : SDev) (g f y : Nat), e = .returned (.tuple #[.int .i64 (x : Int), .int .i64 0]) ∧ Lg S W w' p q F' Fs' s' ⟨p, st.place, st.segs, st.hist ++ [⟨x, l, 0⟩], g, f, y⟩ ∧ st.gone ≤ g ∧ st.next ≤ x ∧ y ≤ st.next + 1048576 ∧ Moved w w' F F' Fs Fs' s s' st := by
  subst hn
  refine (S.append W w p q F Fs s st h.dv.d h.lg h.on h.ap hT h.dv.kp h.dv.gd h.gs h.room hcalls hnx A c _ l hr (fun b hb => hb.1) (fun b hb => hb.2) hlc hc h1 h2).mono ?_
  rintro e w' ⟨x, F', Fs', s', g, f, y, rfl, hd, hrep, hg, hx, hy, hln, hout, hcl, hap, hk, f1, f2, f3, f4⟩
  exact ⟨x, F', Fs', s', g, f, y, rfl, h.moved hd hrep rfl rfl rfl hln hap hk f1 f2 f3 f4, hg, hx, hy, hk, f1, f2, f3, f4, hln, hout, hcl⟩
theorem lg_flush (hT : S.T W) (h : Lg S W w p q F Fs s st) (hcalls : s.calls ≤ 549755813888) :
    Calls Tryz.prog 25 #[.pointer (some ⟨q, 0, none⟩)] w fun e w' => e = .returned (.int .i64 0) ∧ ∃ (F' Fs' : Foot) (rows : List (List UInt8)) (k : Nat), Lg S W w' p q F' Fs' (SDev.still rows k) st ∧ S.disk st rows ∧ Moved w w' F F' Fs Fs' s (SDev.still rows k) st := by
  refine (S.flush W w p q F Fs s st h.dv.d h.lg h.on h.ap hT h.dv.kp h.dv.gd h.gs h.room hcalls).mono ?_
  rintro e w' ⟨rfl, F', Fs', rows, k, hd, hrep, hdisk, hln, hout, hcl, hap, hk, f1, f2, f3, f4⟩
  exact ⟨rfl, F', Fs', rows, k, h.moved hd hrep h.on rfl rfl hln hap hk f1 f2 f3 f4, hdisk, hk, f1, f2, f3, f4, hln, hout, hcl⟩
theorem lg_read (hT : S.T W) (h : Lg S W w p q F Fs s st) (x : Nat) (l : List UInt8) (hx : (x, l) ∈ st.recs) (z : Int) (hz : z = (x : Int)) :
    Calls Tryz.prog 44 #[.pointer (some ⟨q, 0, none⟩), .int .i64 z] w fun e w' => ∃ A c, e = .returned (.tuple #[.slice A l.length c, .int .i64 0]) ∧ l.length ≤ c ∧ c ≤ maxLen ∧ Row w' A (fun b => w.heap.size ≤ b ∧ b < w'.heap.size) (bcells l) ∧ Mine w' .u8 A l.length ∧ Keeps (fun _ => True) w w' := by
  subst hz
  exact S.read w p q F Fs s st h.dv.d h.lg h.on h.ap (S.tk hT h.dv.kp) h.room x l hx
theorem lg_all (hT : S.T W) (h : Lg S W w p q F Fs s st) :
    Calls Tryz.prog 19 #[.pointer (some ⟨q, 0, none⟩)] w fun e w' => ∃ A c, e = .returned (.slice A st.recs.length c) ∧ RecsAt w' A (fun b => w.heap.size ≤ b ∧ b < w'.heap.size) st.recs ∧ Keeps (fun _ => True) w w' :=
  S.all w p q F Fs s st h.dv.d h.lg h.on h.ap (S.tk hT h.dv.kp) h.room
theorem lg_first (hT : S.T W) (h : Lg S W w p q F Fs s st) :
    Calls Tryz.prog 39 #[.pointer (some ⟨q, 0, none⟩)] w fun e w' => e = .returned (.int .i64 (st.first : Int)) ∧ Keeps (fun _ => True) w w' := S.firstIs w q Fs s st h.lg (S.tk hT h.dv.kp)
end
theorem LSt.Ok.whole {st : LSt} (h : st.Ok) (hc : costs st.hist ≤ 200 * (st.segs - 2)) : st.gone = 0 := by
  have := h.kept 0 (Nat.zero_le _) (by simpa using hc)
  omega
theorem costs_append (a b : List LRec) : costs (a ++ b) = costs a + costs b := by simp [costs]
theorem blank_getD (n j : Nat) (h : j < n) : (List.replicate n blank).getD j [] = blank := by
  rw [List.getD_eq_getElem?_getD, List.getElem?_replicate, if_pos h]; rfl
end Go.Proofs.YtpijdefadmfahaaGreatDoor
