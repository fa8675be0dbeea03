/-
  WHAT THE PROGRAM's CACHE KEEPS (the face of layer 9), however its entries lie in its log.
-/
import Derived.Test.YtoepgbpmcjnbmaaGreatDoorAllMade
import Derived.Test.YtoepgbpmcjnbmaaGreatDoorAllItemA
import Derived.Test.YtoepgbpmcjnbmaaGreatDoorAllCalc
import Derived.Test.YtoepgbpmcjnbmaaGreatDoorAllInvs
namespace Go.Proofs.YtoepgbpmcjnbmaaGreatDoor
open Go Go.RowKit Go.Joins
def It.agg (x : It) : Value := .agg #[.string x.key, .string x.val, .int .i64 x.till, .bool x.gone]
def noItem : Value := .agg #[.string ⟨#[]⟩, .string ⟨#[]⟩, .int .i64 0, .bool false]
def getE (st : FSt) (k : ByteArray) (now : Int) : Ending :=
  match st.at_ k with
  | some x => if x.live now then .returned (.tuple #[.agg #[.string x.key, .string x.val, .int .i64 x.till, .bool x.gone], .bool true]) else .returned (.tuple #[.agg #[.string ⟨#[]⟩, .string ⟨#[]⟩, .int .i64 0, .bool false], .bool false])
  | none => .returned (.tuple #[.agg #[.string ⟨#[]⟩, .string ⟨#[]⟩, .int .i64 0, .bool false], .bool false])
def TextsAt (w : World) (A : Option Addr) (G : Nat → Prop) (l : List ByteArray) : Prop := Row w A G (l.map Value.string)
structure FGo (w w' : World) (F F' Fs Fs' : Foot) (s s' : SDev) (st : FSt) (n : Nat) : Prop where
  ap : Apart F' Fs'
  k : Keeps (fun b => ¬ F.M b ∧ ¬ Fs.M b) w w'
  f1 : ∀ b, F'.M b → F.M b ∨ w.heap.size ≤ b
  f2 : ∀ b, F'.I b → F.all b ∨ w.heap.size ≤ b
  f3 : ∀ b, Fs'.M b → Fs.M b ∨ w.heap.size ≤ b
  f4 : ∀ b, Fs'.I b → Fs.all b ∨ w.heap.size ≤ b
  len : s'.now.length = s.now.length
  out : ∀ i, ¬ st.has i → s'.now.getD i [] = s.now.getD i []
  calls : s'.calls ≤ s.calls + 1000 * n
structure FRoom (st : FSt) (s : SDev) : Prop where
  r : st.place + 8 * st.segs ≤ s.now.length
  c : s.calls ≤ 2000 * st.age
structure FlashOK where
  T : World → Prop
  tk : ∀ {w w' : World}, T w → Keeps (fun _ => True) w w' → T w'
  hash : ByteArray → Nat
  hashLt : ∀ s, hash s < 18446744073709551616
  rof : ∀ (w : World) (b : Nat) (s : ByteArray), s.size ≤ 1000000 → w.cell? ⟨b, 0, none⟩ = some (.string s) → Calls Tryz.prog 24 #[.slice (some ⟨b, 0, none⟩) 1 1] w fun e w' => e = .returned (.int .u64 (hash s : Int)) ∧ Keeps (fun _ => True) w w'
  rep : World → Nat → Nat → Foot → FSt → SDev → Prop
  disk : FSt → List (List UInt8) → Prop
  wf : ∀ {w p q F st s}, rep w p q F st s → st.Ok
  lt : ∀ {w p q F st s}, rep w p q F st s → ∀ b, F.all b → b < w.heap.size
  keep : ∀ {w w' p q F st s}, rep w p q F st s → Keeps F.all w w' → rep w' p q F st s
  other : ∀ {w p q F st s s'}, rep w p q F st s → s'.now.length = s.now.length → (∀ i, st.has i → s'.now.getD i [] = s.now.getD i []) → rep w p q F st s'
  diskKeep : ∀ {st rows rows'}, disk st rows → rows'.length = rows.length → (∀ i, st.has i → rows'.getD i [] = rows.getD i []) → disk st rows'
  openNew : ∀ (w : World) (p : Nat) (F : Foot) (s : SDev), DAt w p F s → T w → ∀ (i n : Nat), 3 ≤ n → n ≤ 200 → i + 8 * n ≤ s.now.length → (∀ j, i ≤ j → j < i + 8 * n → s.now.getD j [] = blank) →
    Calls Tryz.prog 11 #[.pointer (some ⟨p, 0, none⟩), .int .i64 i, .int .i64 n] w fun e w' => ∃ (q : Nat) (Fs : Foot), e = .returned (.tuple #[.pointer (some ⟨q, 0, none⟩), .int .i64 0]) ∧
      rep w' p q Fs ⟨i, n, [], 0, 1⟩ s ∧ (∀ b, Fs.all b → w.heap.size ≤ b) ∧ Keeps (fun _ => True) w w'
  openOld : ∀ (w : World) (p : Nat) (F : Foot) (s : SDev) (st : FSt), DAt w p F s → T w → disk st s.now → st.place + 8 * st.segs ≤ s.now.length → st.age ≤ 20000 →
    Calls Tryz.prog 11 #[.pointer (some ⟨p, 0, none⟩), .int .i64 st.place, .int .i64 st.segs] w fun e w' => ∃ (q : Nat) (Fs : Foot), e = .returned (.tuple #[.pointer (some ⟨q, 0, none⟩), .int .i64 0]) ∧
      rep w' p q Fs ⟨st.place, st.segs, fopened st.ents, st.gone, st.age + 1⟩ s ∧ (∀ b, Fs.all b → w.heap.size ≤ b) ∧ Keeps (fun _ => True) w w'
  openNo : ∀ (w : World) (p : Nat) (F : Foot) (s : SDev), DAt w p F s → T w → ∀ (i n : Int), -9223372036854775808 ≤ i → i < 9223372036854775808 → -9223372036854775808 ≤ n → n < 9223372036854775808 → (i < 0 ∨ n < 3 ∨ 200 < n ∨ (s.now.length : Int) < i + 8 * n) →
    Calls Tryz.prog 11 #[.pointer (some ⟨p, 0, none⟩), .int .i64 i, .int .i64 n] w fun e w' => (∃ v, e = .returned (.tuple #[v, .int .i64 4])) ∧ Keeps (fun _ => True) w w'
  put : ∀ (W w : World) (p q : Nat) (F Fs : Foot) (s : SDev) (st : FSt), DAt w p F s → rep w p q Fs st s → Apart F Fs → T W → Keeps (fun _ => True) W w → (∀ b, F.all b → W.heap.size ≤ b) → (∀ b, Fs.all b → W.heap.size ≤ b) → st.place + 8 * st.segs ≤ s.now.length → st.age ≤ 20000 → s.calls ≤ 500000000000 →
    ∀ x : It, x.may = true → x.gone = false →
    Calls Tryz.prog 15 #[.pointer (some ⟨q, 0, none⟩), .agg #[.string x.key, .string x.val, .int .i64 x.till, .bool x.gone]] w fun e w' => e = .returned (.int .i64 0) ∧ ∃ (F' Fs' : Foot) (s' : SDev) (g : Nat), DAt w' p F' s' ∧ rep w' p q Fs' ⟨st.place, st.segs, st.ents ++ [fput x], g, st.age + 1⟩ s' ∧ st.gone ≤ g ∧ FGo w w' F F' Fs Fs' s s' st 2
  putNo : ∀ (w : World) (p q : Nat) (F Fs : Foot) (s : SDev) (st : FSt), DAt w p F s → rep w p q Fs st s → Apart F Fs → T w → st.place + 8 * st.segs ≤ s.now.length → ∀ x : It, x.fits → x.may = false ∨ x.gone = true →
    Calls Tryz.prog 15 #[.pointer (some ⟨q, 0, none⟩), .agg #[.string x.key, .string x.val, .int .i64 x.till, .bool x.gone]] w fun e w' => e = .returned (.int .i64 1) ∧ Keeps (fun _ => True) w w'
  get : ∀ (w : World) (p q : Nat) (F Fs : Foot) (s : SDev) (st : FSt), DAt w p F s → rep w p q Fs st s → Apart F Fs → T w → st.place + 8 * st.segs ≤ s.now.length → ∀ (k : ByteArray) (now : Int), k.size ≤ 1000000 → -9223372036854775808 ≤ now → now < 9223372036854775808 →
    Calls Tryz.prog 27 #[.pointer (some ⟨q, 0, none⟩), .string k, .int .i64 now] w fun e w' => e = getE st k now ∧ Keeps (fun _ => True) w w'
  drop : ∀ (W w : World) (p q : Nat) (F Fs : Foot) (s : SDev) (st : FSt), DAt w p F s → rep w p q Fs st s → Apart F Fs → T W → Keeps (fun _ => True) W w → (∀ b, F.all b → W.heap.size ≤ b) → (∀ b, Fs.all b → W.heap.size ≤ b) → st.place + 8 * st.segs ≤ s.now.length → st.age ≤ 20000 → s.calls ≤ 500000000000 →
    ∀ (A : Option Addr) (c : Nat) (ks : List ByteArray), Row w A (fun b => ¬ F.all b ∧ ¬ Fs.all b) (ks.map Value.string) → ks.length ≤ c → c ≤ maxLen → ks.length ≤ 1000 → (∀ k ∈ ks, keyOk k) →
    Calls Tryz.prog 18 #[.pointer (some ⟨q, 0, none⟩), .slice A ks.length c] w fun e w' => e = .returned (.int .i64 0) ∧ ∃ (F' Fs' : Foot) (rows : List (List UInt8)) (k g : Nat), DAt w' p F' (SDev.still rows k) ∧ rep w' p q Fs' ⟨st.place, st.segs, st.ents ++ ks.map grave, g, st.age + ks.length + 1⟩ (SDev.still rows k) ∧ disk ⟨st.place, st.segs, st.ents ++ ks.map grave, g, st.age + ks.length + 1⟩ rows ∧ st.gone ≤ g ∧ FGo w w' F F' Fs Fs' s (SDev.still rows k) st (ks.length + 1)
  dropNo : ∀ (w : World) (p q : Nat) (F Fs : Foot) (s : SDev) (st : FSt), DAt w p F s → rep w p q Fs st s → Apart F Fs → T w → st.place + 8 * st.segs ≤ s.now.length → ∀ (A : Option Addr) (c : Nat) (ks : List ByteArray), Row w A (fun _ => True) (ks.map Value.string) → ks.length ≤ c → c ≤ maxLen → ks.length ≤ 1000 → (∀ k ∈ ks, k.size ≤ 1000000) → (∃ k ∈ ks, ¬ keyOk k) →
    Calls Tryz.prog 18 #[.pointer (some ⟨q, 0, none⟩), .slice A ks.length c] w fun e w' => e = .returned (.int .i64 1) ∧ Keeps (fun _ => True) w w'
  flush : ∀ (W w : World) (p q : Nat) (F Fs : Foot) (s : SDev) (st : FSt), DAt w p F s → rep w p q Fs st s → Apart F Fs → T W → Keeps (fun _ => True) W w → (∀ b, F.all b → W.heap.size ≤ b) → (∀ b, Fs.all b → W.heap.size ≤ b) → st.place + 8 * st.segs ≤ s.now.length → st.age ≤ 20000 → s.calls ≤ 500000000000 →
    Calls Tryz.prog 19 #[.pointer (some ⟨q, 0, none⟩)] w fun e w' => e = .returned (.int .i64 0) ∧ ∃ (F' Fs' : Foot) (rows : List (List UInt8)) (k : Nat), DAt w' p F' (SDev.still rows k) ∧ rep w' p q Fs' ⟨st.place, st.segs, st.ents, st.gone, st.age + 1⟩ (SDev.still rows k) ∧ disk ⟨st.place, st.segs, st.ents, st.gone, st.age + 1⟩ rows ∧ FGo w w' F F' Fs Fs' s (SDev.still rows k) st 1
  wipe : ∀ (W w : World) (p q : Nat) (F Fs : Foot) (s : SDev) (st : FSt), DAt w p F s → rep w p q Fs st s → Apart F Fs → T W → Keeps (fun _ => True) W w → (∀ b, F.all b → W.heap.size ≤ b) → (∀ b, Fs.all b → W.heap.size ≤ b) → st.place + 8 * st.segs ≤ s.now.length → st.age ≤ 20000 → s.calls ≤ 500000000000 →
    Calls Tryz.prog 20 #[.pointer (some ⟨q, 0, none⟩)] w fun e w' => e = .returned (.int .i64 0) ∧ ∃ (F' Fs' : Foot) (rows : List (List UInt8)) (k : Nat), DAt w' p F' (SDev.still rows k) ∧ rep w' p q Fs' ⟨st.place, st.segs, [], 0, st.age + 1⟩ (SDev.still rows k) ∧ disk ⟨st.place, st.segs, [], 0, st.age + 1⟩ rows ∧ FGo w w' F F' Fs Fs' s (SDev.still rows k) st 2
  keys : ∀ (w : World) (p q : Nat) (F Fs : Foot) (s : SDev) (st : FSt), DAt w p F s → rep w p q Fs st s → Apart F Fs → T w → st.place + 8 * st.segs ≤ s.now.length →
    Calls Tryz.prog 21 #[.pointer (some ⟨q, 0, none⟩)] w fun e w' => ∃ (A : Option Addr) (c : Nat) (ks : List ByteArray), e = .returned (.slice A ks.length c) ∧ Rising ks ∧ (∀ k, k ∈ ks ↔ (st.at_ k).isSome = true) ∧ ks.length ≤ c ∧ c ≤ maxLen ∧ TextsAt w' A (fun b => w.heap.size ≤ b ∧ b < w'.heap.size) ks ∧ Keeps (fun _ => True) w w'
  between : ∀ (w : World) (p q : Nat) (F Fs : Foot) (s : SDev) (st : FSt), DAt w p F s → rep w p q Fs st s → Apart F Fs → T w → st.place + 8 * st.segs ≤ s.now.length → ∀ (lo hi : Nat) (after : ByteArray) (n : Nat), lo < 18446744073709551616 → hi < 18446744073709551616 → after.size ≤ 1000000 → n ≤ 1000000 →
    Calls Tryz.prog 25 #[.pointer (some ⟨q, 0, none⟩), .int .u64 lo, .int .u64 hi, .string after, .int .i64 n] w fun e w' => ∃ (A : Option Addr) (c : Nat) (l all : List It), e = .returned (.slice A l.length c) ∧ l = all.take n ∧ Rising (all.map (·.key)) ∧
      (∀ x, x ∈ all ↔ st.at_ x.key = some x ∧ lo ≤ hash x.key ∧ hash x.key ≤ hi ∧ lessB after x.key = true) ∧ l.length ≤ c ∧ c ≤ maxLen ∧ ItsAt w' A (fun b => w.heap.size ≤ b ∧ b < w'.heap.size) l ∧ Keeps (fun _ => True) w w'
  putNil : ∀ (w : World) (x : It), Calls Tryz.prog 15 #[.pointer none, .agg #[.string x.key, .string x.val, .int .i64 x.till, .bool x.gone]] w fun e w' => e = .returned (.int .i64 8) ∧ Keeps (fun _ => True) w w'
  getNil : ∀ (w : World) (k : ByteArray) (now : Int), Calls Tryz.prog 27 #[.pointer none, .string k, .int .i64 now] w fun e w' => e = .returned (.tuple #[.agg #[.string ⟨#[]⟩, .string ⟨#[]⟩, .int .i64 0, .bool false], .bool false]) ∧ Keeps (fun _ => True) w w'
  dropNil : ∀ (w : World) (v : Value), (∃ A n c, v = .slice A n c ∧ n ≤ maxLen) → Calls Tryz.prog 18 #[.pointer none, v] w fun e w' => e = .returned (.int .i64 8) ∧ Keeps (fun _ => True) w w'
  flushNil : ∀ w : World, Calls Tryz.prog 19 #[.pointer none] w fun e w' => e = .returned (.int .i64 8) ∧ Keeps (fun _ => True) w w'
  wipeNil : ∀ w : World, Calls Tryz.prog 20 #[.pointer none] w fun e w' => e = .returned (.int .i64 8) ∧ Keeps (fun _ => True) w w'
  keysNil : ∀ w : World, Calls Tryz.prog 21 #[.pointer none] w fun e w' => (∃ A c, e = .returned (.slice A 0 c)) ∧ Keeps (fun _ => True) w w'
  betweenNil : ∀ (w : World) (lo hi : Nat) (k : ByteArray) (n : Int), lo < 18446744073709551616 → hi < 18446744073709551616 → Calls Tryz.prog 25 #[.pointer none, .int .u64 lo, .int .u64 hi, .string k, .int .i64 n] w fun e w' => (∃ A c, e = .returned (.slice A 0 c)) ∧ Keeps (fun _ => True) w w'
theorem blank_at (n j : Nat) (h : j < n) : (List.replicate n blank).getD j [] = blank := by
  rw [List.getD_eq_getElem?_getD, List.getElem?_replicate, if_pos h]; rfl
def Fo (S : FlashOK) (W w : World) (p q : Nat) (st : FSt) (dk : Bool) (X : Nat → Prop) : Prop :=
  ∃ (F Fs : Foot) (s : SDev), Dv W w p F s ∧ S.rep w p q Fs st s ∧ Apart F Fs ∧ (∀ b, Fs.all b → W.heap.size ≤ b) ∧ FRoom st s ∧ (dk = true → ∃ rows k, s = SDev.still rows k ∧ S.disk st rows) ∧ ∀ b, X b → ¬ F.all b ∧ ¬ Fs.all b ∧ b < w.heap.size
def Blank (W w : World) (p n : Nat) (X : Nat → Prop) : Prop := ∃ F, Dv W w p F (SDev.still (List.replicate n blank) 0) ∧ ∀ b, X b → ¬ F.all b ∧ b < w.heap.size
def Disk (S : FlashOK) (W w : World) (p : Nat) (st : FSt) (X : Nat → Prop) : Prop := ∃ F rows, Dv W w p F (SDev.still rows 0) ∧ S.disk st rows ∧ st.place + 8 * st.segs ≤ rows.length ∧ ∀ b, X b → ¬ F.all b ∧ b < w.heap.size
section
variable {S : FlashOK} {W w w' : World} {p q : Nat} {st : FSt} {dk : Bool} {X Y : Nat → Prop}
theorem Fo.more (h : Fo S W w p q st dk X) (hk : Kp w w') (hY : ∀ b, Y b → X b ∨ (w.heap.size ≤ b ∧ b < w'.heap.size)) : Fo S W w' p q st dk Y := by
  obtain ⟨F, Fs, s, h1, h2, h3, h4, h5, h6, h7⟩ := h
  refine ⟨F, Fs, s, h1.keep hk, S.keep h2 (hk.mono fun _ _ _ => trivial), h3, h4, h5, h6, fun b hb => ?_⟩
  rcases hY b hb with hb | hb
  · obtain ⟨a, b1, c⟩ := h7 b hb
    exact ⟨a, b1, Nat.lt_of_lt_of_le c hk.size⟩
  · exact ⟨fun hf => by have := h1.d.lt b hf; omega, fun hf => by have := S.lt h2 b hf; omega, hb.2⟩
theorem Fo.keep (h : Fo S W w p q st dk X) (hk : Kp w w') : Fo S W w' p q st dk X := h.more hk fun _ hb => .inl hb
theorem Fo.less (h : Fo S W w p q st dk X) (hY : ∀ b, Y b → X b) : Fo S W w p q st dk Y := h.more (Keeps.refl _ _) fun b hb => .inl (hY b hb)
theorem Fo.loose (h : Fo S W w p q st dk X) : Fo S W w p q st false X := by
  obtain ⟨F, Fs, s, h1, h2, h3, h4, h5, h6, h7⟩ := h
  exact ⟨F, Fs, s, h1, h2, h3, h4, h5, (fun h => by cases h), h7⟩
theorem Fo.kp (h : Fo S W w p q st dk X) : Kp W w := by
  obtain ⟨F, Fs, s, h1, -⟩ := h
  exact h1.kp
theorem Fo.wf (h : Fo S W w p q st dk X) : st.Ok := by
  obtain ⟨F, Fs, s, h1, h2, -⟩ := h
  exact S.wf h2
theorem Fo.xlt (h : Fo S W w p q st dk X) : ∀ b, X b → b < w.heap.size := by
  obtain ⟨F, Fs, s, -, -, -, -, -, -, h7⟩ := h
  exact fun b hb => (h7 b hb).2.2
theorem Fo.own {G : Nat → Prop} (h : Fo S W w p q st dk X) (hk : Keeps G w w') (hG : ∀ b, b < w.heap.size → ¬ G b → X b ∧ W.heap.size ≤ b) : Fo S W w' p q st dk X := by
  classical
  obtain ⟨F, Fs, s, h1, h2, h3, h4, h5, h6, h7⟩ := h
  have hF : ∀ b, F.all b → G b := fun b hb => Classical.byContradiction fun hn => (h7 b (hG b (h1.d.lt b hb) hn).1).1 hb
  have hFs : ∀ b, Fs.all b → G b := fun b hb => Classical.byContradiction fun hn => (h7 b (hG b (S.lt h2 b hb) hn).1).2.1 hb
  refine ⟨F, Fs, s, ⟨h1.d.keep (hk.mono fun b _ hb => hF b hb), h1.gd, ?_⟩, S.keep h2 (hk.mono fun b _ hb => hFs b hb), h3, h4, h5, h6, fun b hb => ⟨(h7 b hb).1, (h7 b hb).2.1, Nat.lt_of_lt_of_le (h7 b hb).2.2 hk.size⟩⟩
  exact ⟨hk.os.trans h1.kp.os, hk.tape.trans h1.kp.tape, hk.output.trans h1.kp.output, Nat.le_trans h1.kp.size hk.size, fun b _ hb =>
    (hk.block b (Classical.byContradiction fun hn => by have := (hG b (Nat.lt_of_lt_of_le hb h1.kp.size) hn).2; omega) (Nat.lt_of_lt_of_le hb h1.kp.size)).trans (h1.kp.block b trivial hb)⟩
theorem Fo.store {g : Nat} (h : Fo S W w p q st dk X) (hg : X g) (hW : W.heap.size ≤ g) (j : Nat) (v : Value) : Fo S W (w.setCell ⟨g, j, none⟩ v) p q st dk X :=
  h.own (G := fun b => b ≠ g) ((Keeps.refl _ w).setCell (p := ⟨g, j, none⟩) (.inr fun e => e rfl) _) fun b _ hn => by
    have : b = g := Classical.byContradiction hn
    subst this
    exact ⟨hg, hW⟩
theorem Blank.keep {n : Nat} (h : Blank W w p n X) (hk : Kp w w') : Blank W w' p n X := by
  obtain ⟨F, h, h2⟩ := h
  exact ⟨F, h.keep hk, fun b hb => ⟨(h2 b hb).1, Nat.lt_of_lt_of_le (h2 b hb).2 hk.size⟩⟩
theorem Disk.keep (h : Disk S W w p st X) (hk : Kp w w') : Disk S W w' p st X := by
  obtain ⟨F, rows, h1, h2, h3, h4⟩ := h
  exact ⟨F, rows, h1.keep hk, h2, h3, fun b hb => ⟨(h4 b hb).1, Nat.lt_of_lt_of_le (h4 b hb).2 hk.size⟩⟩
theorem Fo.moved {F F' Fs Fs' : Foot} {s s' : SDev} {st' : FSt} {dk' : Bool} (hd : Dv W w p F s) (_hr : S.rep w p q Fs st s) (hg : ∀ b, Fs.all b → W.heap.size ≤ b) {n : Nat} (hroom : FRoom st s) (hX : ∀ b, X b → ¬ F.all b ∧ ¬ Fs.all b ∧ b < w.heap.size) (hd' : DAt w' p F' s') (hr' : S.rep w' p q Fs' st' s') (hpl : st'.place = st.place) (hsg : st'.segs = st.segs) (hag : 2 * st.age + n ≤ 2 * st'.age) (hgo : FGo w w' F F' Fs Fs' s s' st n)
    (hdk : dk' = true → ∃ rows k, s' = SDev.still rows k ∧ S.disk st' rows) : Fo S W w' p q st' dk' X ∧ Keeps X w w' := by
  have hsz := hd.kp.size
  refine ⟨⟨F', Fs', s', ⟨hd', fun b hb => ?_, ?_⟩, hr', hgo.ap, fun b hb => ?_, ⟨by rw [hpl, hsg, hgo.len]; exact hroom.r, by have := hgo.calls; have := hroom.c; omega⟩, hdk, fun b hb => ⟨fun hf => ?_, fun hf => ?_, Nat.lt_of_lt_of_le (hX b hb).2.2 hgo.k.size⟩⟩, hgo.k.mono fun b _ hb => ⟨fun hm => (hX b hb).1 (.inl hm), fun hm => (hX b hb).2.1 (.inl hm)⟩⟩
  · rcases hb with hb | hb
    · rcases hgo.f1 b hb with h1 | h1
      · exact hd.gd b (.inl h1)
      · omega
    · rcases hgo.f2 b hb with h1 | h1
      · exact hd.gd b h1
      · omega
  · have hk := hgo.k
    exact ⟨hk.os.trans hd.kp.os, hk.tape.trans hd.kp.tape, hk.output.trans hd.kp.output, Nat.le_trans hsz hk.size, fun b _ hb =>
      (hk.block b ⟨fun hm => by have := hd.gd b (.inl hm); omega, fun hm => by have := hg b (.inl hm); omega⟩ (by omega)).trans (hd.kp.block b trivial hb)⟩
  · rcases hb with hb | hb
    · rcases hgo.f3 b hb with h1 | h1
      · exact hg b (.inl h1)
      · omega
    · rcases hgo.f4 b hb with h1 | h1
      · exact hg b h1
      · omega
  · have := (hX b hb).2.2
    rcases hf with hf | hf
    · rcases hgo.f1 b hf with h1 | h1
      · exact (hX b hb).1 (.inl h1)
      · omega
    · rcases hgo.f2 b hf with h1 | h1
      · exact (hX b hb).1 h1
      · omega
  · have := (hX b hb).2.2
    rcases hf with hf | hf
    · rcases hgo.f3 b hf with h1 | h1
      · exact (hX b hb).2.1 (.inl h1)
      · omega
    · rcases hgo.f4 b hf with h1 | h1
      · exact (hX b hb).2.1 h1
      · omega
theorem fo_dev (hk : Kp W w) (hX : ∀ b, X b → b < w.heap.size) (n : Nat) (h1 : 1 ≤ n) (h2 : n ≤ 2048) (z : Int) (hz : z = (n : Int)) :
    Calls Tryz.prog 12 #[.int .i64 z] w fun e w' => ∃ p, e = .returned (.pointer (some ⟨p, 0, none⟩)) ∧ Blank W w' p n X ∧ Kp w w' := by
  refine (dv_new hk n h1 h2 z hz).mono ?_
  rintro e w' ⟨p, F, rfl, hd, hF, hk'⟩
  exact ⟨p, rfl, ⟨F, hd, fun b hb => ⟨fun hf => by have := hF b hf; have := hX b hb; omega, Nat.lt_of_lt_of_le (hX b hb) hk'.size⟩⟩, hk'⟩
theorem fo_open (hT : S.T W) {n : Nat} (h : Blank W w p n X) (i g : Nat) (z y : Int) (hz : z = (i : Int)) (hy : y = (g : Int)) (h1 : 3 ≤ g) (h2 : g ≤ 200) (hi : i + 8 * g ≤ n) :
    Calls Tryz.prog 11 #[.pointer (some ⟨p, 0, none⟩), .int .i64 z, .int .i64 y] w fun e w' => ∃ q, e = .returned (.tuple #[.pointer (some ⟨q, 0, none⟩), .int .i64 0]) ∧ Fo S W w' p q ⟨i, g, [], 0, 1⟩ false X ∧ Kp w w' := by
  subst hz hy
  obtain ⟨F, hd, hX⟩ := h
  have hl : (SDev.still (List.replicate n blank) 0).now.length = n := by rw [still_len, List.length_replicate]
  refine (S.openNew w p F _ hd.d (S.tk hT hd.kp) i g h1 h2 (by rw [hl]; exact hi) fun j _ hj => blank_at n j (by omega)).mono ?_
  rintro e w' ⟨q, Fs, rfl, hr, hF, hk⟩
  exact ⟨q, rfl, ⟨F, Fs, _, hd.keep hk, hr, ⟨fun b hb hs => by have := hF b hs; have := hd.d.lt b (.inl hb); omega, fun b hb hf => by have := hF b (.inl hb); have := hd.d.lt b hf; omega⟩, fun b hb => Nat.le_trans hd.kp.size (hF b hb), ⟨by rw [hl]; exact hi, Nat.zero_le _⟩, (fun h => by cases h), fun b hb => ⟨(hX b hb).1, fun hf => by have := hF b hf; have := (hX b hb).2; omega, Nat.lt_of_lt_of_le (hX b hb).2 hk.size⟩⟩, hk⟩
theorem fo_again (hT : S.T W) (h : Disk S W w p st X) (hage : st.age ≤ 20000) (z y : Int) (hz : z = (st.place : Int)) (hy : y = (st.segs : Int)) :
    Calls Tryz.prog 11 #[.pointer (some ⟨p, 0, none⟩), .int .i64 z, .int .i64 y] w fun e w' => ∃ q, e = .returned (.tuple #[.pointer (some ⟨q, 0, none⟩), .int .i64 0]) ∧ Fo S W w' p q ⟨st.place, st.segs, fopened st.ents, st.gone, st.age + 1⟩ false X ∧ Kp w w' := by
  subst hz hy
  obtain ⟨F, rows, hd, hdk, hroom, hX⟩ := h
  refine (S.openOld w p F _ st hd.d (S.tk hT hd.kp) hdk hroom hage).mono ?_
  rintro e w' ⟨q, Fs, rfl, hr, hF, hk⟩
  exact ⟨q, rfl, ⟨F, Fs, _, hd.keep hk, hr, ⟨fun b hb hs => by have := hF b hs; have := hd.d.lt b (.inl hb); omega, fun b hb hf => by have := hF b (.inl hb); have := hd.d.lt b hf; omega⟩, fun b hb => Nat.le_trans hd.kp.size (hF b hb), ⟨hroom, Nat.zero_le _⟩, (fun h => by cases h), fun b hb => ⟨(hX b hb).1, fun hf => by have := hF b hf; have := (hX b hb).2; omega, Nat.lt_of_lt_of_le (hX b hb).2 hk.size⟩⟩, hk⟩
theorem fo_put (hT : S.T W) (h : Fo S W w p q st dk X) (hage : st.age ≤ 20000) (x : It) (hm : x.may = true) (hg : x.gone = false) :
    Calls Tryz.prog 15 #[.pointer (some ⟨q, 0, none⟩), .agg #[.string x.key, .string x.val, .int .i64 x.till, .bool x.gone]] w fun e w' => e = .returned (.int .i64 0) ∧ ∃ g, st.gone ≤ g ∧ Fo S W w' p q ⟨st.place, st.segs, st.ents ++ [fput x], g, st.age + 1⟩ false X ∧ Keeps X w w' := by
  obtain ⟨F, Fs, s, h1, h2, h3, h4, h5, h6, h7⟩ := h
  refine (S.put W w p q F Fs s st h1.d h2 h3 hT h1.kp h1.gd h4 h5.r hage (by have := h5.c; omega) x hm hg).mono ?_
  rintro e w' ⟨rfl, F', Fs', s', g, hd', hr', hgg, hgo⟩
  exact ⟨rfl, g, hgg, Fo.moved h1 h2 h4 h5 h7 hd' hr' rfl rfl (by simp only; omega) hgo fun h => by cases h⟩
theorem fo_putNo (hT : S.T W) (h : Fo S W w p q st dk X) (x : It) (hf : x.fits) (hm : x.may = false ∨ x.gone = true) :
    Calls Tryz.prog 15 #[.pointer (some ⟨q, 0, none⟩), .agg #[.string x.key, .string x.val, .int .i64 x.till, .bool x.gone]] w fun e w' => e = .returned (.int .i64 1) ∧ Kp w w' ∧ Fo S W w' p q st dk X := by
  have h0 := h
  obtain ⟨F, Fs, s, h1, h2, h3, h4, h5, h6, h7⟩ := h
  refine (S.putNo w p q F Fs s st h1.d h2 h3 (S.tk hT h1.kp) h5.r x hf hm).mono ?_
  rintro e w' ⟨rfl, hk⟩
  exact ⟨rfl, hk, h0.keep hk⟩
theorem fo_get (hT : S.T W) (h : Fo S W w p q st dk X) (k : ByteArray) (now : Int) (hk : k.size ≤ 1000000) (h8 : -9223372036854775808 ≤ now) (h9 : now < 9223372036854775808) (e0 : Ending) (he : e0 = getE st k now) :
    Calls Tryz.prog 27 #[.pointer (some ⟨q, 0, none⟩), .string k, .int .i64 now] w fun e w' => e = e0 ∧ Kp w w' ∧ Fo S W w' p q st dk X := by
  subst he
  have h0 := h
  obtain ⟨F, Fs, s, h1, h2, h3, h4, h5, h6, h7⟩ := h
  refine (S.get w p q F Fs s st h1.d h2 h3 (S.tk hT h1.kp) h5.r k now hk h8 h9).mono ?_
  rintro e w' ⟨rfl, hk⟩
  exact ⟨rfl, hk, h0.keep hk⟩
theorem fo_flush (hT : S.T W) (h : Fo S W w p q st dk X) (hage : st.age ≤ 20000) :
    Calls Tryz.prog 19 #[.pointer (some ⟨q, 0, none⟩)] w fun e w' => e = .returned (.int .i64 0) ∧ Fo S W w' p q ⟨st.place, st.segs, st.ents, st.gone, st.age + 1⟩ true X ∧ Keeps X w w' := by
  obtain ⟨F, Fs, s, h1, h2, h3, h4, h5, h6, h7⟩ := h
  refine (S.flush W w p q F Fs s st h1.d h2 h3 hT h1.kp h1.gd h4 h5.r hage (by have := h5.c; omega)).mono ?_
  rintro e w' ⟨rfl, F', Fs', rows, k, hd', hr', hdk, hgo⟩
  exact ⟨rfl, Fo.moved h1 h2 h4 h5 h7 hd' hr' rfl rfl (by simp only; omega) hgo fun _ => ⟨rows, k, rfl, hdk⟩⟩
theorem fo_wipe (hT : S.T W) (h : Fo S W w p q st dk X) (hage : st.age ≤ 20000) :
    Calls Tryz.prog 20 #[.pointer (some ⟨q, 0, none⟩)] w fun e w' => e = .returned (.int .i64 0) ∧ Fo S W w' p q ⟨st.place, st.segs, [], 0, st.age + 1⟩ true X ∧ Keeps X w w' := by
  obtain ⟨F, Fs, s, h1, h2, h3, h4, h5, h6, h7⟩ := h
  refine (S.wipe W w p q F Fs s st h1.d h2 h3 hT h1.kp h1.gd h4 h5.r hage (by have := h5.c; omega)).mono ?_
  rintro e w' ⟨rfl, F', Fs', rows, k, hd', hr', hdk, hgo⟩
  exact ⟨rfl, Fo.moved h1 h2 h4 h5 h7 hd' hr' rfl rfl (by simp only; omega) hgo fun _ => ⟨rows, k, rfl, hdk⟩⟩
theorem fo_drop (hT : S.T W) (h : Fo S W w p q st dk X) (hage : st.age ≤ 20000) (A : Option Addr) (ks : List ByteArray) (hrow : Row w A X (ks.map Value.string)) (c n : Nat) (hn : n = ks.length) (hc : n ≤ c) (hcm : c ≤ maxLen) (hl : n ≤ 1000) (hok : ∀ k ∈ ks, keyOk k) :
    Calls Tryz.prog 18 #[.pointer (some ⟨q, 0, none⟩), .slice A n c] w fun e w' => e = .returned (.int .i64 0) ∧ ∃ g, st.gone ≤ g ∧ Fo S W w' p q ⟨st.place, st.segs, st.ents ++ ks.map grave, g, st.age + ks.length + 1⟩ true X ∧ Keeps X w w' := by
  subst hn
  obtain ⟨F, Fs, s, h1, h2, h3, h4, h5, h6, h7⟩ := h
  refine (S.drop W w p q F Fs s st h1.d h2 h3 hT h1.kp h1.gd h4 h5.r hage (by have := h5.c; omega) A c ks (hrow.mono fun b _ hb => ⟨(h7 b hb).1, (h7 b hb).2.1⟩) hc hcm hl hok).mono ?_
  rintro e w' ⟨rfl, F', Fs', rows, k, g, hd', hr', hdk, hgg, hgo⟩
  exact ⟨rfl, g, hgg, Fo.moved h1 h2 h4 h5 h7 hd' hr' rfl rfl (by simp only; omega) hgo fun _ => ⟨rows, k, rfl, hdk⟩⟩
theorem fo_dropNo (hT : S.T W) (h : Fo S W w p q st dk X) (A : Option Addr) (ks : List ByteArray) (hr : Row w A (fun _ => True) (ks.map Value.string)) (c n : Nat) (hn : n = ks.length) (hc : n ≤ c) (hcm : c ≤ maxLen) (hl : n ≤ 1000) (hs : ∀ k ∈ ks, k.size ≤ 1000000) (hno : ∃ k ∈ ks, ¬ keyOk k) :
    Calls Tryz.prog 18 #[.pointer (some ⟨q, 0, none⟩), .slice A n c] w fun e w' => e = .returned (.int .i64 1) ∧ Kp w w' ∧ Fo S W w' p q st dk X := by
  subst hn
  have h0 := h
  obtain ⟨F, Fs, s, h1, h2, h3, h4, h5, h6, h7⟩ := h
  refine (S.dropNo w p q F Fs s st h1.d h2 h3 (S.tk hT h1.kp) h5.r A c ks hr hc hcm hl hs hno).mono ?_
  rintro e w' ⟨rfl, hk⟩
  exact ⟨rfl, hk, h0.keep hk⟩
theorem fo_keys (hT : S.T W) (h : Fo S W w p q st dk X) :
    Calls Tryz.prog 21 #[.pointer (some ⟨q, 0, none⟩)] w fun e w' => ∃ (A : Option Addr) (c : Nat) (ks : List ByteArray), e = .returned (.slice A ks.length c) ∧ Rising ks ∧ (∀ k, k ∈ ks ↔ (st.at_ k).isSome = true) ∧ TextsAt w' A (fun b => w.heap.size ≤ b ∧ b < w'.heap.size) ks ∧ Kp w w' ∧ Fo S W w' p q st dk X := by
  have h0 := h
  obtain ⟨F, Fs, s, h1, h2, h3, h4, h5, h6, h7⟩ := h
  refine (S.keys w p q F Fs s st h1.d h2 h3 (S.tk hT h1.kp) h5.r).mono ?_
  rintro e w' ⟨A, c, ks, rfl, hr, hm, -, -, ht, hk⟩
  exact ⟨A, c, ks, rfl, hr, hm, ht, hk, h0.keep hk⟩
theorem fo_between (hT : S.T W) (h : Fo S W w p q st dk X) (lo hi : Nat) (after : ByteArray) (n : Nat) (z : Int) (hz : z = (n : Int)) (h8 : lo < 18446744073709551616) (h9 : hi < 18446744073709551616) (h10 : after.size ≤ 1000000) (hn : n ≤ 1000000) :
    Calls Tryz.prog 25 #[.pointer (some ⟨q, 0, none⟩), .int .u64 lo, .int .u64 hi, .string after, .int .i64 z] w fun e w' => ∃ (A : Option Addr) (c : Nat) (l all : List It), e = .returned (.slice A l.length c) ∧ l = all.take n ∧ Rising (all.map (·.key)) ∧
      (∀ x, x ∈ all ↔ st.at_ x.key = some x ∧ lo ≤ S.hash x.key ∧ S.hash x.key ≤ hi ∧ lessB after x.key = true) ∧ l.length ≤ c ∧ c ≤ maxLen ∧ ItsAt w' A (fun b => w.heap.size ≤ b ∧ b < w'.heap.size) l ∧ Kp w w' ∧ Fo S W w' p q st dk X := by
  subst hz
  have h0 := h
  obtain ⟨F, Fs, s, h1, h2, h3, h4, h5, h6, h7⟩ := h
  refine (S.between w p q F Fs s st h1.d h2 h3 (S.tk hT h1.kp) h5.r lo hi after n h8 h9 h10 hn).mono ?_
  rintro e w' ⟨A, c, l, all, rfl, hl, hr, hm, hlc, hcm, hi2, hk⟩
  exact ⟨A, c, l, all, rfl, hl, hr, hm, hlc, hcm, hi2, hk, h0.keep hk⟩
theorem fo_crash (h : Fo S W w p q st true X) (K : Option Addr) (kc : Nat) (G : Nat → Prop) (keep : List Bool) (m : Nat) (hm : m = keep.length) (hK : Row w K G (keep.map Value.bool)) (hkl : keep.length ≤ maxLen) :
    Calls Tryz.prog 30 #[.pointer (some ⟨p, 0, none⟩), .slice K m kc] w fun e w' => ∃ r, e = .returned (.pointer (some ⟨r, 0, none⟩)) ∧ Disk S W w' r st X ∧ Kp w w' ∧ Fo S W w' p q st true X := by
  have h0 := h
  subst hm
  obtain ⟨F, Fs, s, h1, h2, h3, h4, h5, h6, h7⟩ := h
  obtain ⟨rows, k, rfl, hdk⟩ := h6 rfl
  refine (dcrash_any w p F _ h1.d K kc G keep hK hkl).mono ?_
  rintro e w' ⟨r, F', rfl, hD, hn1, hn2, hk⟩
  rw [still_crash] at hD
  refine ⟨r, rfl, ⟨F', rows, ⟨hD, fun b hb => ?_, h1.kp.trans hk⟩, hdk, h5.r, fun b hb => ⟨fun hf => ?_, Nat.lt_of_lt_of_le (h7 b hb).2.2 hk.size⟩⟩, hk, h0.keep hk⟩
  · rcases hb with hb | hb
    · exact Nat.le_trans h1.kp.size (hn1 b hb)
    · rcases hn2 b hb with hb | hb
      · exact h1.gd b (.inr hb)
      · exact Nat.le_trans h1.kp.size hb
  · have := (h7 b hb).2.2
    rcases hf with hf | hf
    · have := hn1 b hf; omega
    · rcases hn2 b hf with hf | hf
      · exact (h7 b hb).1 (.inr hf)
      · omega
end
end Go.Proofs.YtoepgbpmcjnbmaaGreatDoor
