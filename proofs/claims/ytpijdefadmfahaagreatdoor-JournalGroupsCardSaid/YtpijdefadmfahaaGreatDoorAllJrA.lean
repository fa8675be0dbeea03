/- Texts of one proof, behind one another: each says above its part what it proves and on which conditions. -/
import Derived.Test.YtpijdefadmfahaaGreatDoorAllMade
import Derived.Test.YtpijdefadmfahaaGreatDoorAllCalc
import Derived.Test.YtpijdefadmfahaaGreatDoorAllInvs
import Derived.Outline
/-
  WHAT THE PROGRAM's JOURNAL KEEPS (the face of layer 10), however its marks lie in its log.
-/
section
namespace Go.Proofs.YtpijdefadmfahaaGreatDoor
open Go Go.RowKit Go.Joins
structure JSt where
  place : Nat
  segs : Nat
  keys : List ByteArray
  base : Nat
  kept : Nat
  age : Nat
def JSt.has (st : JSt) (i : Nat) : Prop := st.place ≤ i ∧ i < st.place + 8 * st.segs
structure JSt.Ok (st : JSt) : Prop where
  segs : 20 ≤ st.segs ∧ st.segs ≤ 200
  one : ∀ k ∈ st.keys, keyOk k
  base : st.base ≤ st.keys.length - st.kept
def MarksAt (w : World) (A : Option Addr) (G : Nat → Prop) (sq : Nat) (l : List ByteArray) : Prop := ∀ i (h : i < l.length), ∃ b o, A = some ⟨b, o, none⟩ ∧ G b ∧ w.cell? ⟨b, o + i * 2, none⟩ = some (.int .i64 ((sq + i + 1 : Nat) : Int)) ∧ w.cell? ⟨b, o + i * 2 + 1, none⟩ = some (.string l[i])
theorem MarksAt.keep {w w' : World} {A : Option Addr} {G : Nat → Prop} {sq : Nat} {l : List ByteArray} (h : MarksAt w A G sq l) (hk : Keeps G w w') : MarksAt w' A G sq l := fun i hi => by
  obtain ⟨b, o, e, hG, c0, c1⟩ := h i hi
  exact ⟨b, o, e, hG, hk.cell c0 hG, hk.cell c1 hG⟩
structure JGo (w w' : World) (F F' Fs Fs' : Foot) (s s' : SDev) (st : JSt) (n : Nat) : Prop where
  ap : Apart F' Fs'
  k : Keeps (fun b => ¬ F.M b ∧ ¬ Fs.M b) w w'
  f1 : ∀ b, F'.M b → F.M b ∨ w.heap.size ≤ b
  f2 : ∀ b, F'.I b → F.all b ∨ w.heap.size ≤ b
  f3 : ∀ b, Fs'.M b → Fs.M b ∨ w.heap.size ≤ b
  f4 : ∀ b, Fs'.I b → Fs.all b ∨ w.heap.size ≤ b
  len : s'.now.length = s.now.length
  out : ∀ i, ¬ st.has i → s'.now.getD i [] = s.now.getD i []
  calls : s'.calls ≤ s.calls + 1000 * n
structure JRoom (st : JSt) (s : SDev) : Prop where
  r : st.place + 8 * st.segs ≤ s.now.length
  c : s.calls ≤ 1000 * st.age
def jadd (st : JSt) (ks : List ByteArray) (b : Nat) : JSt := ⟨st.place, st.segs, st.keys ++ ks, b, st.kept, st.age + ks.length + 1⟩
structure JournalOK where
  T : World → Prop
  tk : ∀ {w w' : World}, T w → Keeps (fun _ => True) w w' → T w'
  rep : World → Nat → Nat → Foot → JSt → SDev → Prop
  disk : JSt → List (List UInt8) → Prop
  wf : ∀ {w p q F st s}, rep w p q F st s → st.Ok
  lt : ∀ {w p q F st s}, rep w p q F st s → ∀ b, F.all b → b < w.heap.size
  keep : ∀ {w w' p q F st s}, rep w p q F st s → Keeps F.all w w' → rep w' p q F st s
  other : ∀ {w p q F st s s'}, rep w p q F st s → s'.now.length = s.now.length → (∀ i, st.has i → s'.now.getD i [] = s.now.getD i []) → rep w p q F st s'
  diskKeep : ∀ {st rows rows'}, disk st rows → rows'.length = rows.length → (∀ i, st.has i → rows'.getD i [] = rows.getD i []) → disk st rows'
  openNew : ∀ (w : World) (p : Nat) (F : Foot) (s : SDev), DAt w p F s → T w → ∀ (i n : Nat), 20 ≤ n → n ≤ 200 → i + 8 * n ≤ s.now.length → (∀ j, i ≤ j → j < i + 8 * n → s.now.getD j [] = blank) →
    Calls Tryz.prog 9 #[.pointer (some ⟨p, 0, none⟩), .int .i64 i, .int .i64 n] w fun e w' => ∃ (q : Nat) (Fs : Foot), e = .returned (.tuple #[.pointer (some ⟨q, 0, none⟩), .int .i64 0]) ∧
      rep w' p q Fs ⟨i, n, [], 0, 32, 1⟩ s ∧ (∀ b, Fs.all b → w.heap.size ≤ b) ∧ Keeps (fun _ => True) w w'
  openOld : ∀ (w : World) (p : Nat) (F : Foot) (s : SDev) (st : JSt), DAt w p F s → T w → disk st s.now → st.place + 8 * st.segs ≤ s.now.length → st.age ≤ 20000 →
    Calls Tryz.prog 9 #[.pointer (some ⟨p, 0, none⟩), .int .i64 st.place, .int .i64 st.segs] w fun e w' => ∃ (q : Nat) (Fs : Foot) (b : Nat), e = .returned (.tuple #[.pointer (some ⟨q, 0, none⟩), .int .i64 0]) ∧
      rep w' p q Fs ⟨st.place, st.segs, st.keys, b, st.kept - 4, st.age + 1⟩ s ∧ (∀ b, Fs.all b → w.heap.size ≤ b) ∧ Keeps (fun _ => True) w w'
  openNo : ∀ (w : World) (p : Nat) (F : Foot) (s : SDev), DAt w p F s → T w → ∀ (i n : Int), -9223372036854775808 ≤ i → i < 9223372036854775808 → -9223372036854775808 ≤ n → n < 9223372036854775808 → (i < 0 ∨ n < 20 ∨ 200 < n ∨ (s.now.length : Int) < i + 8 * n) →
    Calls Tryz.prog 9 #[.pointer (some ⟨p, 0, none⟩), .int .i64 i, .int .i64 n] w fun e w' => (∃ v, e = .returned (.tuple #[v, .int .i64 4])) ∧ Keeps (fun _ => True) w w'
  add : ∀ (W w : World) (p q : Nat) (F Fs : Foot) (s : SDev) (st : JSt), DAt w p F s → rep w p q Fs st s → Apart F Fs → T W → Keeps (fun _ => True) W w → (∀ b, F.all b → W.heap.size ≤ b) → (∀ b, Fs.all b → W.heap.size ≤ b) → st.place + 8 * st.segs ≤ s.now.length → st.age ≤ 20000 → s.calls ≤ 500000000000 →
    ∀ (A : Option Addr) (c : Nat) (ks : List ByteArray), Row w A (fun b => ¬ F.all b ∧ ¬ Fs.all b) (ks.map Value.string) → ks.length ≤ c → c ≤ maxLen → ks.length ≤ 1000 → (∀ k ∈ ks, keyOk k) →
    Calls Tryz.prog 10 #[.pointer (some ⟨q, 0, none⟩), .slice A ks.length c] w fun e w' => e = .returned (.tuple #[.int .i64 ((st.keys.length + ks.length : Nat) : Int), .int .i64 0]) ∧ ∃ (F' Fs' : Foot) (rows : List (List UInt8)) (k b : Nat), DAt w' p F' (SDev.still rows k) ∧ rep w' p q Fs' (jadd st ks b) (SDev.still rows k) ∧ disk (jadd st ks b) rows ∧ st.base ≤ b ∧ JGo w w' F F' Fs Fs' s (SDev.still rows k) st (ks.length + 1)
  addNo : ∀ (w : World) (p q : Nat) (F Fs : Foot) (s : SDev) (st : JSt), DAt w p F s → rep w p q Fs st s → Apart F Fs → T w → st.place + 8 * st.segs ≤ s.now.length → ∀ (A : Option Addr) (c : Nat) (ks : List ByteArray), Row w A (fun _ => True) (ks.map Value.string) → ks.length ≤ c → c ≤ maxLen → ks.length ≤ 1000 → (∀ k ∈ ks, k.size ≤ 1000000) → (∃ k ∈ ks, ¬ keyOk k) →
    Calls Tryz.prog 10 #[.pointer (some ⟨q, 0, none⟩), .slice A ks.length c] w fun e w' => e = .returned (.tuple #[.int .i64 0, .int .i64 1]) ∧ Keeps (fun _ => True) w w'
  seqIs : ∀ (w : World) (p q : Nat) (Fs : Foot) (s : SDev) (st : JSt), rep w p q Fs st s → T w → Calls Tryz.prog 13 #[.pointer (some ⟨q, 0, none⟩)] w fun e w' => e = .returned (.int .i64 (st.keys.length : Int)) ∧ Keeps (fun _ => True) w w'
  baseIs : ∀ (w : World) (p q : Nat) (Fs : Foot) (s : SDev) (st : JSt), rep w p q Fs st s → T w → Calls Tryz.prog 14 #[.pointer (some ⟨q, 0, none⟩)] w fun e w' => e = .returned (.int .i64 (st.base : Int)) ∧ Keeps (fun _ => True) w w'
  since : ∀ (w : World) (p q : Nat) (F Fs : Foot) (s : SDev) (st : JSt), DAt w p F s → rep w p q Fs st s → Apart F Fs → T w → st.place + 8 * st.segs ≤ s.now.length → ∀ (sq n : Nat), st.base ≤ sq → sq ≤ st.keys.length → n ≤ 1000000 →
    Calls Tryz.prog 12 #[.pointer (some ⟨q, 0, none⟩), .int .i64 (sq : Int), .int .i64 (n : Int)] w fun e w' => ∃ (A : Option Addr) (c : Nat), e = .returned (.tuple #[.slice A ((st.keys.drop sq).take n).length c, .bool true]) ∧ ((st.keys.drop sq).take n).length ≤ c ∧ c ≤ maxLen ∧ MarksAt w' A (fun b => w.heap.size ≤ b ∧ b < w'.heap.size) sq ((st.keys.drop sq).take n) ∧ Keeps (fun _ => True) w w'
  sinceNo : ∀ (w : World) (p q : Nat) (F Fs : Foot) (s : SDev) (st : JSt), DAt w p F s → rep w p q Fs st s → Apart F Fs → T w → st.place + 8 * st.segs ≤ s.now.length → ∀ (sq n : Int), -9223372036854775808 ≤ sq → sq < 9223372036854775808 → (sq < st.base ∨ (st.keys.length : Int) < sq) →
    Calls Tryz.prog 12 #[.pointer (some ⟨q, 0, none⟩), .int .i64 sq, .int .i64 n] w fun e w' => (∃ A c, e = .returned (.tuple #[.slice A 0 c, .bool false])) ∧ Keeps (fun _ => True) w w'
  addNil : ∀ (w : World) (v : Value), (∃ A n c, v = .slice A n c ∧ n ≤ maxLen) → Calls Tryz.prog 10 #[.pointer none, v] w fun e w' => e = .returned (.tuple #[.int .i64 0, .int .i64 8]) ∧ Keeps (fun _ => True) w w'
  sinceNil : ∀ (w : World) (sq n : Int), Calls Tryz.prog 12 #[.pointer none, .int .i64 sq, .int .i64 n] w fun e w' => (∃ A c, e = .returned (.tuple #[.slice A 0 c, .bool false])) ∧ Keeps (fun _ => True) w w'
  seqNil : ∀ w : World, Calls Tryz.prog 13 #[.pointer none] w fun e w' => e = .returned (.int .i64 0) ∧ Keeps (fun _ => True) w w'
  baseNil : ∀ w : World, Calls Tryz.prog 14 #[.pointer none] w fun e w' => e = .returned (.int .i64 0) ∧ Keeps (fun _ => True) w w'
theorem jblank_at (n j : Nat) (h : j < n) : (List.replicate n blank).getD j [] = blank := by
  rw [List.getD_eq_getElem?_getD, List.getElem?_replicate, if_pos h]; rfl
def Jo (S : JournalOK) (W w : World) (p q : Nat) (st : JSt) (dk : Bool) (X : Nat → Prop) : Prop :=
  ∃ (F Fs : Foot) (s : SDev), Dv W w p F s ∧ S.rep w p q Fs st s ∧ Apart F Fs ∧ (∀ b, Fs.all b → W.heap.size ≤ b) ∧ JRoom st s ∧ (dk = true → ∃ rows k, s = SDev.still rows k ∧ S.disk st rows) ∧ ∀ b, X b → ¬ F.all b ∧ ¬ Fs.all b ∧ b < w.heap.size
def JBlank (W w : World) (p n : Nat) (X : Nat → Prop) : Prop := ∃ F, Dv W w p F (SDev.still (List.replicate n blank) 0) ∧ ∀ b, X b → ¬ F.all b ∧ b < w.heap.size
def JDisk (S : JournalOK) (W w : World) (p : Nat) (st : JSt) (X : Nat → Prop) : Prop := ∃ F rows, Dv W w p F (SDev.still rows 0) ∧ S.disk st rows ∧ st.place + 8 * st.segs ≤ rows.length ∧ ∀ b, X b → ¬ F.all b ∧ b < w.heap.size
section
variable {S : JournalOK} {W w w' : World} {p q : Nat} {st : JSt} {dk : Bool} {X Y : Nat → Prop}
theorem Jo.more (h : Jo S W w p q st dk X) (hk : Kp w w') (hY : ∀ b, Y b → X b ∨ (w.heap.size ≤ b ∧ b < w'.heap.size)) : Jo S W w' p q st dk Y := by
  obtain ⟨F, Fs, s, h1, h2, h3, h4, h5, h6, h7⟩ := h
  refine ⟨F, Fs, s, h1.keep hk, S.keep h2 (hk.mono fun _ _ _ => trivial), h3, h4, h5, h6, fun b hb => ?_⟩
  rcases hY b hb with hb | hb
  · obtain ⟨a, b1, c⟩ := h7 b hb
    exact ⟨a, b1, Nat.lt_of_lt_of_le c hk.size⟩
  · exact ⟨fun hf => by have := h1.d.lt b hf; omega, fun hf => by have := S.lt h2 b hf; omega, hb.2⟩
theorem Jo.keep (h : Jo S W w p q st dk X) (hk : Kp w w') : Jo S W w' p q st dk X := h.more hk fun _ hb => .inl hb
theorem Jo.less (h : Jo S W w p q st dk X) (hY : ∀ b, Y b → X b) : Jo S W w p q st dk Y := h.more (Keeps.refl _ _) fun b hb => .inl (hY b hb)
theorem Jo.loose (h : Jo S W w p q st dk X) : Jo S W w p q st false X := by
  obtain ⟨F, Fs, s, h1, h2, h3, h4, h5, h6, h7⟩ := h
  exact ⟨F, Fs, s, h1, h2, h3, h4, h5, (fun h => by cases h), h7⟩
theorem Jo.kp (h : Jo S W w p q st dk X) : Kp W w := by
  obtain ⟨F, Fs, s, h1, -⟩ := h
  exact h1.kp
theorem Jo.wf (h : Jo S W w p q st dk X) : st.Ok := by
  obtain ⟨F, Fs, s, h1, h2, -⟩ := h
  exact S.wf h2
theorem Jo.own {G : Nat → Prop} (h : Jo S W w p q st dk X) (hk : Keeps G w w') (hG : ∀ b, b < w.heap.size → ¬ G b → X b ∧ W.heap.size ≤ b) : Jo S W w' p q st dk X := by
  classical
  obtain ⟨F, Fs, s, h1, h2, h3, h4, h5, h6, h7⟩ := h
  have hF : ∀ b, F.all b → G b := fun b hb => Classical.byContradiction fun hn => (h7 b (hG b (h1.d.lt b hb) hn).1).1 hb
  have hFs : ∀ b, Fs.all b → G b := fun b hb => Classical.byContradiction fun hn => (h7 b (hG b (S.lt h2 b hb) hn).1).2.1 hb
  refine ⟨F, Fs, s, ⟨h1.d.keep (hk.mono fun b _ hb => hF b hb), h1.gd, ?_⟩, S.keep h2 (hk.mono fun b _ hb => hFs b hb), h3, h4, h5, h6, fun b hb => ⟨(h7 b hb).1, (h7 b hb).2.1, Nat.lt_of_lt_of_le (h7 b hb).2.2 hk.size⟩⟩
  exact ⟨hk.os.trans h1.kp.os, hk.tape.trans h1.kp.tape, hk.output.trans h1.kp.output, Nat.le_trans h1.kp.size hk.size, fun b _ hb =>
    (hk.block b (Classical.byContradiction fun hn => by have := (hG b (Nat.lt_of_lt_of_le hb h1.kp.size) hn).2; omega) (Nat.lt_of_lt_of_le hb h1.kp.size)).trans (h1.kp.block b trivial hb)⟩
theorem JBlank.keep {n : Nat} (h : JBlank W w p n X) (hk : Kp w w') : JBlank W w' p n X := by
  obtain ⟨F, h, h2⟩ := h
  exact ⟨F, h.keep hk, fun b hb => ⟨(h2 b hb).1, Nat.lt_of_lt_of_le (h2 b hb).2 hk.size⟩⟩
theorem JDisk.keep (h : JDisk S W w p st X) (hk : Kp w w') : JDisk S W w' p st X := by
  obtain ⟨F, rows, h1, h2, h3, h4⟩ := h
  exact ⟨F, rows, h1.keep hk, h2, h3, fun b hb => ⟨(h4 b hb).1, Nat.lt_of_lt_of_le (h4 b hb).2 hk.size⟩⟩
theorem Jo.moved {F F' Fs Fs' : Foot} {s s' : SDev} {st' : JSt} {dk' : Bool} {n : Nat} (hd : Dv W w p F s) (hg : ∀ b, Fs.all b → W.heap.size ≤ b) (hroom : JRoom st s) (hX : ∀ b, X b → ¬ F.all b ∧ ¬ Fs.all b ∧ b < w.heap.size) (hd' : DAt w' p F' s') (hr' : S.rep w' p q Fs' st' s') (hpl : st'.place = st.place) (hsg : st'.segs = st.segs) (hag : st.age + n ≤ st'.age) (hgo : JGo w w' F F' Fs Fs' s s' st n)
    (hdk : dk' = true → ∃ rows k, s' = SDev.still rows k ∧ S.disk st' rows) : Jo S W w' p q st' dk' X ∧ Keeps X w w' := by
  have hsz := hd.kp.size
  refine ⟨⟨F', Fs', s', ⟨hd', fun b hb => ?_, ?_⟩, hr', hgo.ap, fun b hb => ?_, ⟨by rw [hpl, hsg, hgo.len]; exact hroom.r, by have := hgo.calls; have := hroom.c; omega⟩, hdk, fun b hb => ⟨fun hf => ?_, fun hf => ?_, Nat.lt_of_lt_of_le (hX b hb).2.2 hgo.k.size⟩⟩, hgo.k.mono fun b _ hb => ⟨fun hm => (hX b hb).1 (.inl hm), fun hm => (hX b hb).2.1 (.inl hm)⟩⟩
  · rcases hb with hb | hb
    · rcases hgo.f1 b hb with h1 | h1
      · exact hd.gd b (.inl h1)
      · omega
    · rcases hgo.f2 b hb with h1 | h1
      · exact hd.gd b h1
      · omega
  · have hk := hgo.k
    exact ⟨hk.os.trans hd.kp.os, hk.tape.trans hd.kp.tape, hk.output.trans hd.kp.output, Nat.le_trans hsz hk.size, fun b _ hb =>
      (hk.block b ⟨fun hm => by have := hd.gd b (.inl hm); omega, fun hm => by have := hg b (.inl hm); omega⟩ (by omega)).trans (hd.kp.block b trivial hb)⟩
  · rcases hb with hb | hb
    · rcases hgo.f3 b hb with h1 | h1
      · exact hg b (.inl h1)
      · omega
    · rcases hgo.f4 b hb with h1 | h1
      · exact hg b h1
      · omega
  · have := (hX b hb).2.2
    rcases hf with hf | hf
    · rcases hgo.f1 b hf with h1 | h1
      · exact (hX b hb).1 (.inl h1)
      · omega
    · rcases hgo.f2 b hf with h1 | h1
      · exact (hX b hb).1 h1
      · omega
  · have := (hX b hb).2.2
    rcases hf with hf | hf
    · rcases hgo.f3 b hf with h1 | h1
      · exact (hX b hb).2.1 (.inl h1)
      · omega
    · rcases hgo.f4 b hf with h1 | h1
      · exact (hX b hb).2.1 h1
      · omega
theorem jo_dev (hk : Kp W w) (hX : ∀ b, X b → b < w.heap.size) (n : Nat) (h1 : 1 ≤ n) (h2 : n ≤ 2048) (z : Int) (hz : z = (n : Int)) :
    Calls Tryz.prog 8 #[.int .i64 z] w fun e w' => ∃ p, e = .returned (.pointer (some ⟨p, 0, none⟩)) ∧ JBlank W w' p n X ∧ Kp w w' := by
  refine (dv_new hk n h1 h2 z hz).mono ?_
  rintro e w' ⟨p, F, rfl, hd, hF, hk'⟩
  exact ⟨p, rfl, ⟨F, hd, fun b hb => ⟨fun hf => by have := hF b hf; have := hX b hb; omega, Nat.lt_of_lt_of_le (hX b hb) hk'.size⟩⟩, hk'⟩
theorem jo_open (hT : S.T W) {n : Nat} (h : JBlank W w p n X) (i g : Nat) (z y : Int) (hz : z = (i : Int)) (hy : y = (g : Int)) (h1 : 20 ≤ g) (h2 : g ≤ 200) (hi : i + 8 * g ≤ n) :
    Calls Tryz.prog 9 #[.pointer (some ⟨p, 0, none⟩), .int .i64 z, .int .i64 y] w fun e w' => ∃ q, e = .returned (.tuple #[.pointer (some ⟨q, 0, none⟩), .int .i64 0]) ∧ Jo S W w' p q ⟨i, g, [], 0, 32, 1⟩ false X ∧ Kp w w' := by
  subst hz hy
  obtain ⟨F, hd, hX⟩ := h
  have hl : (SDev.still (List.replicate n blank) 0).now.length = n := by rw [still_len, List.length_replicate]
  refine (S.openNew w p F _ hd.d (S.tk hT hd.kp) i g h1 h2 (by rw [hl]; exact hi) fun j _ hj => jblank_at n j (by omega)).mono ?_
  rintro e w' ⟨q, Fs, rfl, hr, hF, hk⟩
  exact ⟨q, rfl, ⟨F, Fs, _, hd.keep hk, hr, ⟨fun b hb hs => by have := hF b hs; have := hd.d.lt b (.inl hb); omega, fun b hb hf => by have := hF b (.inl hb); have := hd.d.lt b hf; omega⟩, fun b hb => Nat.le_trans hd.kp.size (hF b hb), ⟨by rw [hl]; exact hi, Nat.zero_le _⟩, (fun h => by cases h), fun b hb => ⟨(hX b hb).1, fun hf => by have := hF b hf; have := (hX b hb).2; omega, Nat.lt_of_lt_of_le (hX b hb).2 hk.size⟩⟩, hk⟩
theorem jo_again (hT : S.T W) (h : JDisk S W w p st X) (hage : st.age ≤ 20000) (z y : Int) (hz : z = (st.place : Int)) (hy : y = (st.segs : Int)) :
    Calls Tryz.prog 9 #[.pointer (some ⟨p, 0, none⟩), .int .i64 z, .int .i64 y] w fun e w' => ∃ q b, e = .returned (.tuple #[.pointer (some ⟨q, 0, none⟩), .int .i64 0]) ∧ Jo S W w' p q ⟨st.place, st.segs, st.keys, b, st.kept - 4, st.age + 1⟩ false X ∧ Kp w w' := by
  subst hz hy
  obtain ⟨F, rows, hd, hdk, hroom, hX⟩ := h
  refine (S.openOld w p F _ st hd.d (S.tk hT hd.kp) hdk hroom hage).mono ?_
  rintro e w' ⟨q, Fs, b, rfl, hr, hF, hk⟩
  exact ⟨q, b, rfl, ⟨F, Fs, _, hd.keep hk, hr, ⟨fun b hb hs => by have := hF b hs; have := hd.d.lt b (.inl hb); omega, fun b hb hf => by have := hF b (.inl hb); have := hd.d.lt b hf; omega⟩, fun b hb => Nat.le_trans hd.kp.size (hF b hb), ⟨hroom, Nat.zero_le _⟩, (fun h => by cases h), fun b hb => ⟨(hX b hb).1, fun hf => by have := hF b hf; have := (hX b hb).2; omega, Nat.lt_of_lt_of_le (hX b hb).2 hk.size⟩⟩, hk⟩
theorem jo_add (hT : S.T W) (h : Jo S W w p q st dk X) (hage : st.age ≤ 20000) (A : Option Addr) (ks : List ByteArray) (hrow : Row w A X (ks.map Value.string)) (c n : Nat) (hn : n = ks.length) (hc : n ≤ c) (hcm : c ≤ maxLen) (hl : n ≤ 1000) (hok : ∀ k ∈ ks, keyOk k) (m : Int) (hm : m = ((st.keys.length + ks.length : Nat) : Int)) :
    Calls Tryz.prog 10 #[.pointer (some ⟨q, 0, none⟩), .slice A n c] w fun e w' => e = .returned (.tuple #[.int .i64 m, .int .i64 0]) ∧ ∃ b, st.base ≤ b ∧ Jo S W w' p q (jadd st ks b) true X ∧ Keeps X w w' := by
  subst hn hm
  obtain ⟨F, Fs, s, h1, h2, h3, h4, h5, h6, h7⟩ := h
  refine (S.add W w p q F Fs s st h1.d h2 h3 hT h1.kp h1.gd h4 h5.r hage (by have := h5.c; omega) A c ks (hrow.mono fun b _ hb => ⟨(h7 b hb).1, (h7 b hb).2.1⟩) hc hcm hl hok).mono ?_
  rintro e w' ⟨rfl, F', Fs', rows, k, b, hd', hr', hdk, hbb, hgo⟩
  exact ⟨rfl, b, hbb, Jo.moved h1 h4 h5 h7 hd' hr' rfl rfl (by show st.age + (ks.length + 1) ≤ st.age + ks.length + 1; omega) hgo fun _ => ⟨rows, k, rfl, hdk⟩⟩
theorem jo_addNo (hT : S.T W) (h : Jo S W w p q st dk X) (A : Option Addr) (ks : List ByteArray) (hr : Row w A (fun _ => True) (ks.map Value.string)) (c n : Nat) (hn : n = ks.length) (hc : n ≤ c) (hcm : c ≤ maxLen) (hl : n ≤ 1000) (hs : ∀ k ∈ ks, k.size ≤ 1000000) (hno : ∃ k ∈ ks, ¬ keyOk k) :
    Calls Tryz.prog 10 #[.pointer (some ⟨q, 0, none⟩), .slice A n c] w fun e w' => e = .returned (.tuple #[.int .i64 0, .int .i64 1]) ∧ Kp w w' ∧ Jo S W w' p q st dk X := by
  subst hn
  have h0 := h
  obtain ⟨F, Fs, s, h1, h2, h3, h4, h5, h6, h7⟩ := h
  refine (S.addNo w p q F Fs s st h1.d h2 h3 (S.tk hT h1.kp) h5.r A c ks hr hc hcm hl hs hno).mono ?_
  rintro e w' ⟨rfl, hk⟩
  exact ⟨rfl, hk, h0.keep hk⟩
theorem jo_seq (hT : S.T W) (h : Jo S W w p q st dk X) (m : Int) (hm : m = (st.keys.length : Int)) :
    Calls Tryz.prog 13 #[.pointer (some ⟨q, 0, none⟩)] w fun e w' => e = .returned (.int .i64 m) ∧ Kp w w' ∧ Jo S W w' p q st dk X := by
  subst hm
  have h0 := h
  obtain ⟨F, Fs, s, h1, h2, h3, h4, h5, h6, h7⟩ := h
  refine (S.seqIs w p q Fs s st h2 (S.tk hT h1.kp)).mono ?_
  rintro e w' ⟨rfl, hk⟩
  exact ⟨rfl, hk, h0.keep hk⟩
theorem jo_base (hT : S.T W) (h : Jo S W w p q st dk X) (m : Int) (hm : m = (st.base : Int)) :
    Calls Tryz.prog 14 #[.pointer (some ⟨q, 0, none⟩)] w fun e w' => e = .returned (.int .i64 m) ∧ Kp w w' ∧ Jo S W w' p q st dk X := by
  subst hm
  have h0 := h
  obtain ⟨F, Fs, s, h1, h2, h3, h4, h5, h6, h7⟩ := h
  refine (S.baseIs w p q Fs s st h2 (S.tk hT h1.kp)).mono ?_
  rintro e w' ⟨rfl, hk⟩
  exact ⟨rfl, hk, h0.keep hk⟩
theorem jo_since (hT : S.T W) (h : Jo S W w p q st dk X) (sq n : Nat) (z y : Int) (hz : z = (sq : Int)) (hy : y = (n : Int)) (h8 : st.base ≤ sq) (h9 : sq ≤ st.keys.length) (hn : n ≤ 1000000) (l : List ByteArray) (hl : l = (st.keys.drop sq).take n) :
    Calls Tryz.prog 12 #[.pointer (some ⟨q, 0, none⟩), .int .i64 z, .int .i64 y] w fun e w' => ∃ (A : Option Addr) (c : Nat), e = .returned (.tuple #[.slice A l.length c, .bool true]) ∧ l.length ≤ c ∧ c ≤ maxLen ∧ MarksAt w' A (fun b => w.heap.size ≤ b ∧ b < w'.heap.size) sq l ∧ Kp w w' ∧ Jo S W w' p q st dk X := by
  subst hz hy hl
  have h0 := h
  obtain ⟨F, Fs, s, h1, h2, h3, h4, h5, h6, h7⟩ := h
  refine (S.since w p q F Fs s st h1.d h2 h3 (S.tk hT h1.kp) h5.r sq n h8 h9 hn).mono ?_
  rintro e w' ⟨A, c, rfl, a1, a2, a3, hk⟩
  exact ⟨A, c, rfl, a1, a2, a3, hk, h0.keep hk⟩
theorem jo_sinceNo (hT : S.T W) (h : Jo S W w p q st dk X) (sq n : Int) (h8 : -9223372036854775808 ≤ sq) (h9 : sq < 9223372036854775808) (hno : sq < st.base ∨ (st.keys.length : Int) < sq) :
    Calls Tryz.prog 12 #[.pointer (some ⟨q, 0, none⟩), .int .i64 sq, .int .i64 n] w fun e w' => (∃ A c, e = .returned (.tuple #[.slice A 0 c, .bool false])) ∧ Kp w w' ∧ Jo S W w' p q st dk X := by
  have h0 := h
  obtain ⟨F, Fs, s, h1, h2, h3, h4, h5, h6, h7⟩ := h
  refine (S.sinceNo w p q F Fs s st h1.d h2 h3 (S.tk hT h1.kp) h5.r sq n h8 h9 hno).mono ?_
  rintro e w' ⟨he, hk⟩
  exact ⟨he, hk, h0.keep hk⟩
theorem jo_crash (h : Jo S W w p q st true X) (K : Option Addr) (kc : Nat) (G : Nat → Prop) (keep : List Bool) (m : Nat) (hm : m = keep.length) (hK : Row w K G (keep.map Value.bool)) (hkl : keep.length ≤ maxLen) :
    Calls Tryz.prog 11 #[.pointer (some ⟨p, 0, none⟩), .slice K m kc] w fun e w' => ∃ r, e = .returned (.pointer (some ⟨r, 0, none⟩)) ∧ JDisk S W w' r st X ∧ Kp w w' ∧ Jo S W w' p q st true X := by
  have h0 := h
  subst hm
  obtain ⟨F, Fs, s, h1, h2, h3, h4, h5, h6, h7⟩ := h
  obtain ⟨rows, k, rfl, hdk⟩ := h6 rfl
  refine (dcrash_any w p F _ h1.d K kc G keep hK hkl).mono ?_
  rintro e w' ⟨r, F', rfl, hD, hn1, hn2, hk⟩
  rw [still_crash] at hD
  refine ⟨r, rfl, ⟨F', rows, ⟨hD, fun b hb => ?_, h1.kp.trans hk⟩, hdk, h5.r, fun b hb => ⟨fun hf => ?_, Nat.lt_of_lt_of_le (h7 b hb).2.2 hk.size⟩⟩, hk, h0.keep hk⟩
  · rcases hb with hb | hb
    · exact Nat.le_trans h1.kp.size (hn1 b hb)
    · rcases hn2 b hb with hb | hb
      · exact h1.gd b (.inr hb)
      · exact Nat.le_trans h1.kp.size hb
  · have := (h7 b hb).2.2
    rcases hf with hf | hf
    · have := hn1 b hf; omega
    · rcases hn2 b hf with hf | hf
      · exact (h7 b hb).1 (.inr hf)
      · omega
end
end Go.Proofs.YtpijdefadmfahaaGreatDoor
end
/-
  'begun' OF LAYER 10 ANSWERS true, whatever the program's journal is made of.
-/
section
namespace Go.Proofs.YtpijdefadmfahaaGreatDoor
open Go Go.RowKit Go.Joins
def jA : ByteArray := { data := #[97] }
def jB : ByteArray := { data := #[98] }
theorem key_jA : keyOk jA := by unfold keyOk; decide
theorem key_jB : keyOk jB := by unfold keyOk; decide
set_option maxRecDepth 100000 in
set_option maxHeartbeats 1000000 in
theorem begun10 (S : JournalOK) (w : World) (hT : S.T w) : Calls Tryz.prog 7 #[] w fun e w' => e = .returned (.bool true) ∧ Keeps (fun _ => True) w w' := by
  have HT := Lib.hid hT
  clear hT
  go_enter Tryz.func7, Tryz.ntmps7
  go_wp2_with fail
  refine (show Calls _ _ _ _ _ from jo_dev (X := fun _ => False) (Keeps.refl _ w) (fun _ h => h.elim) 200 (by decide) (by decide) 200 rfl).mono ?_
  rintro e w1 ⟨p, rfl, hB, -⟩
  have HB := Lib.hid hB
  clear hB
  go_wp2_with fail
  refine (show Calls _ _ _ _ _ from jo_open HT.out HB.out 2 20 2 20 rfl rfl (by decide) (by decide) (by decide)).mono ?_
  rintro e w2 ⟨q, rfl, hF, -⟩
  have HF := Lib.hid hF
  clear hF HB
  go_wp2_with fail
  have hk3 : Kp w2 (w2.alloc (.cells #[.string { data := #[97] }, .string { data := #[98] }] 9)) := (Keeps.refl _ w2).alloc _
  have HF3 := Lib.hid (HF.out.more (Y := fun b => b = w2.heap.size) hk3 fun b hb => .inr (by rw [hb]; simp))
  have HR3 := Lib.hid (Row.fresh w2 #[.string { data := #[97] }, .string { data := #[98] }] 9 (0, 0) w2.heap.size rfl (F := fun b => b = w2.heap.size) rfl ([jA, jB].map Value.string) rfl)
  clear hk3 HF
  refine (show Calls _ _ _ _ _ from jo_add HT.out HF3.out (by decide) (some ⟨w2.heap.size, 0, none⟩) [jA, jB] HR3.out 2 2 rfl (by decide) (by decide) (by decide) (fun k hk => by
    rcases List.mem_cons.1 hk with rfl | hk
    · exact key_jA
    · rw [List.mem_singleton.1 hk]; exact key_jB) 2 rfl).mono ?_
  rintro e w4 ⟨rfl, b, -, hF, -⟩
  have hb0 : b = 0 := by
    have h : b ≤ 2 - 32 := hF.wf.base
    omega
  subst hb0
  have HF4 := Lib.hid (show Jo S w w4 p q ⟨2, 20, [jA, jB], 0, 32, 4⟩ true (fun _ => False) from hF.less fun _ h => h.elim)
  clear hF HF3 HR3
  go_wp2_with fail
  refine (show Calls _ _ _ _ _ from jo_since HT.out HF4.out 1 5 1 5 rfl rfl (by decide) (by decide) (by decide) [jB] rfl).mono ?_
  rintro e w5 ⟨A, c, rfl, h1, h2, hm, hk5, hF5⟩
  obtain ⟨g, o, rfl, -, c0, c1⟩ := hm 0 (by decide)
  have HF5 := Lib.hid hF5
  have d0 : w5.cell? ⟨g, o, none⟩ = some (.int .i64 2) := c0
  have d1 : w5.cell? ⟨g, o + 1, none⟩ = some (.string { data := #[98] }) := c1
  have hlen : ([jB] : List ByteArray).length = 1 := rfl
  rw [hlen]
  clear h1 h2 hm hk5 hF5 HF4 c0 c1 hlen
  go_wp2_with fail
  refine (show Calls _ _ _ _ _ from jo_crash HF5.out none 0 (fun _ => True) [] 0 rfl (Row.nil _ _ _) (by decide)).mono ?_
  rintro e w6 ⟨r, rfl, hD, hk6, hF6⟩
  have HD := Lib.hid hD
  have HF6 := Lib.hid hF6
  replace d0 := hk6.cell d0 trivial
  replace d1 := hk6.cell d1 trivial
  clear hD hF6 hk6 HF5
  go_wp2_with fail
  refine (show Calls _ _ _ _ _ from jo_again HT.out HD.out (by decide) 2 20 rfl rfl).mono ?_
  rintro e w7 ⟨q2, b2, rfl, hG, hk7⟩
  have HG := Lib.hid hG
  have HF7 := Lib.hid (HF6.out.keep hk7)
  replace d0 := hk7.cell d0 trivial
  replace d1 := hk7.cell d1 trivial
  clear hG hk7 HF6 HD
  go_wp2_with fail
  refine (show Calls _ _ _ _ _ from jo_seq HT.out HG.out 2 rfl).mono ?_
  rintro e w8 ⟨rfl, hk8, -⟩
  have HF8 := Lib.hid (HF7.out.keep hk8)
  clear hk8 HF7 HG
  go_wp2_with fail
  refine (show Calls _ _ _ _ _ from jo_base HT.out HF8.out 0 rfl).mono ?_
  rintro e w9 ⟨rfl, hk9, hF9⟩
  have HF9 := Lib.hid hF9
  clear hk9 hF9 HF8
  go_wp2_with fail
  go_ret
  exact ⟨rfl, HF9.out.kp⟩
end Go.Proofs.YtpijdefadmfahaaGreatDoor
end
/-
  THE KEYS OF LAYER 10's LAWS: two bytes each.
-/
section
namespace Go.Proofs.YtpijdefadmfahaaGreatDoor
open Go Go.RowKit Go.Joins
def key2 (a b : Nat) : ByteArray := txt [UInt8.ofNat a, UInt8.ofNat b]
theorem key2_ok (a b : Nat) : keyOk (key2 a b) := by
  unfold keyOk key2
  rw [txt_size]
  exact ⟨by show 1 ≤ 2; decide, by show 2 ≤ 40; decide⟩
theorem u8_cell {a : Nat} (h : a < 256) : bcell (UInt8.ofNat a) = .int .u8 (a : Int) := by
  unfold bcell
  congr 1
  have : (UInt8.ofNat a).toNat = a := by simp; omega
  omega
theorem key2_conv (w : World) (a b : Nat) (ha : a < 256) (hb : b < 256) (x y : Int) (hx : x = (a : Int)) (hy : y = (b : Int)) :
    (convert 30 9 (.slice (some ⟨w.heap.size, 0, none⟩) 2 2)).run Tryz.prog (w.alloc (.cells #[.int .u8 x, .int .u8 y] 5)) = .ok (.string (key2 a b)) (w.alloc (.cells #[.int .u8 x, .int .u8 y] 5)) := by
  subst hx hy
  exact (Row.fresh w #[.int .u8 (a : Int), .int .u8 (b : Int)] 5 (0, 0) w.heap.size rfl (F := fun _ => True) trivial (bcells [UInt8.ofNat a, UInt8.ofNat b]) (by simp [bcells, u8_cell ha, u8_cell hb])).to_string Tryz.underlying30 Tryz.underlying5 Tryz.underlying9 2 2 rfl
end Go.Proofs.YtpijdefadmfahaaGreatDoor
end
/-
  Layer 10's drawn regions: each operation by itself.
-/
section
namespace Go.Proofs.YtpijdefadmfahaaGreatDoor
open Go Go.RowKit Go.Joins
section
variable {o : Oper} {a : Act} {w : World} {Q : Exit → Act → World → Prop} {x y z : Operand}
def Vl (l : List Value) : Nat → World → Value → Prop := fun i => IsV (l.getD i undef)
theorem kp_atM {b f n c i : Nat} (hi : i < n) (ho : o.op = .indexAddr 34 x y) (hx : a.eval x = .slice (some ⟨b, f, none⟩) n c) (hy : a.eval y = .int .i64 (i : Int)) :
    o.wp Tryz.prog a w (fun a' w' => ∃ v, a' = a.put o.dst v ∧ Kp w w' ∧ IsV (.pointer (some ⟨b, f + i * 2, none⟩)) w' v) Q := by
  refine kp_yield (v := .pointer (some ⟨b, f + i * 2, none⟩)) (w' := w) ?_ (Keeps.refl _ _) rfl
  generalize a.eval = ρ at hx hy ⊢
  unfold execOp
  go_simp
theorem kp_fM0 {b f : Nat} (ho : o.op = .fieldAddr 39 x 0) (hx : a.eval x = .pointer (some ⟨b, f, none⟩)) : o.wp Tryz.prog a w (fun a' w' => ∃ v, a' = a.put o.dst v ∧ Kp w w' ∧ IsV (.pointer (some ⟨b, f, none⟩)) w' v) Q := by
  refine kp_yield (v := .pointer (some ⟨b, f, none⟩)) (w' := w) ?_ (Keeps.refl _ _) rfl
  generalize a.eval = ρ at hx ⊢
  unfold execOp
  go_simp
theorem kp_fM1 {b f : Nat} (ho : o.op = .fieldAddr 39 x 1) (hx : a.eval x = .pointer (some ⟨b, f, none⟩)) : o.wp Tryz.prog a w (fun a' w' => ∃ v, a' = a.put o.dst v ∧ Kp w w' ∧ IsV (.pointer (some ⟨b, f + 1, none⟩)) w' v) Q := by
  refine kp_yield (v := .pointer (some ⟨b, f + 1, none⟩)) (w' := w) ?_ (Keeps.refl _ _) rfl
  generalize a.eval = ρ at hx ⊢
  unfold execOp
  go_simp
theorem kp_ldI {p : Addr} {n : Int} (hc : w.cell? p = some (.int .i64 n)) (ho : o.op = .load 2 x) (hx : a.eval x = .pointer (some p)) : o.wp Tryz.prog a w (fun a' w' => ∃ v, a' = a.put o.dst v ∧ Kp w w' ∧ IsV (.int .i64 n) w' v) Q := by
  refine kp_yield (v := .int .i64 n) (w' := w) ?_ (Keeps.refl _ _) rfl
  generalize a.eval = ρ at hx ⊢
  unfold execOp
  rw [ho]
  go_simp
theorem kp_ldT {p : Addr} {s : ByteArray} (hc : w.cell? p = some (.string s)) (ho : o.op = .load 9 x) (hx : a.eval x = .pointer (some p)) : o.wp Tryz.prog a w (fun a' w' => ∃ v, a' = a.put o.dst v ∧ Kp w w' ∧ IsV (.string s) w' v) Q := by
  refine kp_yield (v := .string s) (w' := w) ?_ (Keeps.refl _ _) rfl
  generalize a.eval = ρ at hx ⊢
  unfold execOp
  rw [ho]
  go_simp
theorem kp_neqI {m n : Int} {b : Bool} (hb : (m != n) = b) (ho : o.op = .binOp .neq 2 x y 2) (hx : a.eval x = .int .i64 m) (hy : a.eval y = .int .i64 n) : o.wp Tryz.prog a w (fun a' w' => ∃ v, a' = a.put o.dst v ∧ Kp w w' ∧ IsV (.bool b) w' v) Q := by
  subst hb
  refine kp_yield (v := .bool (m != n)) (w' := w) ?_ (Keeps.refl _ _) rfl
  generalize a.eval = ρ at hx hy ⊢
  unfold execOp
  rw [ho]
  go_simp
theorem kp_neqT {s : ByteArray} (ho : o.op = .binOp .neq 9 x y 9) (hx : a.eval x = .string s) (hy : a.eval y = .string s) : o.wp Tryz.prog a w (fun a' w' => ∃ v, a' = a.put o.dst v ∧ Kp w w' ∧ IsV (.bool false) w' v) Q := by
  refine kp_yield (v := .bool false) (w' := w) ?_ (Keeps.refl _ _) rfl
  generalize a.eval = ρ at hx hy ⊢
  unfold execOp
  rw [ho]
  go_simp
theorem kp_addI {k m : Nat} (h : m ≤ 1000000) (hk : k ≤ 1000) (ho : o.op = .binOp .add 2 x y 2) (hx : a.eval x = .int .i64 (k : Int)) (hy : a.eval y = .int .i64 (m : Int)) : o.wp Tryz.prog a w (fun a' w' => ∃ v, a' = a.put o.dst v ∧ Kp w w' ∧ IsV (.int .i64 ((k + m : Nat) : Int)) w' v) Q := by
  refine kp_yield (v := .int .i64 ((k + m : Nat) : Int)) (w' := w) ?_ (Keeps.refl _ _) rfl
  generalize a.eval = ρ at hx hy ⊢
  unfold execOp
  rw [ho]
  go_simp
  rw [IntKind.wrap_i64]
  omega
theorem kp_subI {m : Nat} (h : m + 1 ≤ 1000000) (ho : o.op = .binOp .sub 2 x y 2) (hx : a.eval x = .int .i64 ((m + 1 : Nat) : Int)) (hy : a.eval y = .int .i64 1) : o.wp Tryz.prog a w (fun a' w' => ∃ v, a' = a.put o.dst v ∧ Kp w w' ∧ IsV (.int .i64 (m : Int)) w' v) Q := by
  refine kp_yield (v := .int .i64 (m : Int)) (w' := w) ?_ (Keeps.refl _ _) rfl
  generalize a.eval = ρ at hx hy ⊢
  unfold execOp
  rw [ho]
  go_simp
  rw [IntKind.wrap_i64]
  omega
theorem kp_byte {n : Nat} (h : n < 256) (ho : o.op = .convert 2 5 x) (hx : a.eval x = .int .i64 (n : Int)) : o.wp Tryz.prog a w (fun a' w' => ∃ v, a' = a.put o.dst v ∧ Kp w w' ∧ IsV (.int .u8 (n : Int)) w' v) Q := by
  refine kp_yield (v := .int .u8 (n : Int)) (w' := w) ?_ (Keeps.refl _ _) rfl
  have h2 : (n : Int) < 256 := by omega
  generalize a.eval = ρ at hx ⊢
  unfold execOp
  rw [ho]
  go_simp
  rw [IntKind.wrap_u8]
  omega
def Two (p q : Nat) (w : World) (v : Value) : Prop := ∃ g, v = .slice (some ⟨g, 0, none⟩) 2 2 ∧ Row w (some ⟨g, 0, none⟩) (fun _ => True) (bcells [UInt8.ofNat p, UInt8.ofNat q])
theorem Two.keep {p q : Nat} {w w' : World} {v : Value} (h : Two p q w v) (hk : Kp w w') : Two p q w' v := by
  obtain ⟨g, e, hr⟩ := h
  exact ⟨g, e, hr.keep hk⟩
theorem kp_two {p q : Nat} (hp : p < 256) (hq : q < 256) (ho : o.op = .buildSlice 30 2 #[(0, x), (1, y)]) (hx : a.eval x = .int .u8 (p : Int)) (hy : a.eval y = .int .u8 (q : Int)) : o.wp Tryz.prog a w (fun a' w' => ∃ v, a' = a.put o.dst v ∧ Kp w w' ∧ Two p q w' v) Q := by
  have hcp := u8_cell hp
  have hcq := u8_cell hq
  refine kp_yield (V := Two p q) (v := .slice (some ⟨w.heap.size, 0, none⟩) 2 2) (w' := w.alloc (.cells #[.int .u8 (p : Int), .int .u8 (q : Int)] 5)) ?_ ((Keeps.refl _ _).alloc _) ⟨_, rfl, ?_⟩
  · clear hcp hcq
    generalize a.eval = ρ at hx hy ⊢
    unfold execOp
    rw [ho]
    go_simp
  · exact Row.fresh w #[.int .u8 (p : Int), .int .u8 (q : Int)] 5 (0, 0) _ rfl trivial _ (by simp [bcells, hcp, hcq])
theorem kp_key2 {p q : Nat} (ho : o.op = .convert 30 9 x) (hx : Two p q w (a.eval x)) : o.wp Tryz.prog a w (fun a' w' => ∃ v, a' = a.put o.dst v ∧ Kp w w' ∧ IsV (.string (key2 p q)) w' v) Q := by
  obtain ⟨g, e, hr⟩ := hx
  have hcv := hr.to_string (P := Tryz.prog) (src := 30) (dst := 9) Tryz.underlying30 Tryz.underlying5 Tryz.underlying9 2 2 rfl
  refine kp_yield (v := .string (key2 p q)) (w' := w) ?_ (Keeps.refl _ _) rfl
  generalize a.eval = ρ at e ⊢
  unfold execOp
  rw [ho]
  simp only [e, Sem.run_bind, hcv, Result.andThen_ok, Sem.run_pure]
  rfl
end
end Go.Proofs.YtpijdefadmfahaaGreatDoor
end
