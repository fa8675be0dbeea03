/-
  WHAT TWO SLOTS OF THE PROGRAM KEEP (the face of layer 5), whatever a sector is made of; a device and slots on it, side by side.
-/
import Derived.Test.YtmnjdlnjhomhnaaDoorAllMade
namespace Go.Proofs.YtmnjdlnjhomhnaaDoor
open Go Go.RowKit Go.Joins
structure SSt where
  dev : Nat
  place : Nat
  which : Nat
  turn : Nat
  text : List UInt8
structure SupOK where
  T : World → Prop
  tk : ∀ {w w' : World}, T w → Keeps (fun _ => True) w w' → T w'
  enc : Nat → List UInt8 → List UInt8
  dec : List UInt8 → Option (Nat × List UInt8)
  encLen : ∀ (t : Nat) (x : List UInt8), x.length ≤ 40 → 1 ≤ t → t ≤ 1099511627776 → (enc t x).length = 64
  decEnc : ∀ (t : Nat) (x : List UInt8), x.length ≤ 40 → 1 ≤ t → t ≤ 1099511627776 → dec (enc t x) = some (t, x)
  decBlank : dec blank = none
  decBad : ∀ (t : Nat) (x : List UInt8) (i : Nat) (b : UInt8), x.length ≤ 40 → 1 ≤ t → t ≤ 1099511627776 → i < 64 → b ≠ 0 → dec ((enc t x).set i ((enc t x).getD i 0 ^^^ b)) = none
  rep : World → Nat → Foot → SSt → Prop
  wf : ∀ {w q F st}, rep w q F st → st.which ≤ 1 ∧ 1 ≤ st.turn ∧ st.text.length ≤ 40
  lt : ∀ {w q F st}, rep w q F st → ∀ b, F.all b → b < w.heap.size
  keep : ∀ {w w' q F st}, rep w q F st → Keeps F.all w w' → rep w' q F st
  make : ∀ (W w : World) (p : Nat) (F : Foot) (s : SDev), DAt w p F s → T W → Keeps (fun _ => True) W w → (∀ b, F.all b → W.heap.size ≤ b) → ∀ (i : Nat) (A : Option Addr) (c : Nat) (G : Nat → Prop) (l : List UInt8), i + 2 ≤ s.now.length → Row w A G (bcells l) → (∀ b, G b → ¬ F.all b) → l.length ≤ c → c ≤ maxLen → (A = none → c = 0) → l.length ≤ 40 → s.calls ≤ 549755813888 →
    Calls Tryd.prog 18 #[.pointer (some ⟨p, 0, none⟩), .int .i64 i, .slice A l.length c] w fun e w' => ∃ (q : Nat) (F' Fs : Foot) (n : Nat), e = .returned (.tuple #[.pointer (some ⟨q, 0, none⟩), .int .i64 0]) ∧
      DAt w' p F' (SDev.still ((s.now.set i (enc 1 l)).set (i + 1) blank) n) ∧ n ≤ s.calls + 100 ∧ rep w' q Fs ⟨p, i, 0, 1, l⟩ ∧ Step F F' w w' ∧ (∀ b, Fs.all b → w.heap.size ≤ b) ∧ Apart F' Fs
  open_ : ∀ (w : World) (p : Nat) (F : Foot) (s : SDev), DAt w p F s → T w → ∀ (i k t : Nat) (x : List UInt8), i + 2 ≤ s.now.length → k ≤ 1 → dec (s.now.getD (i + k) []) = some (t, x) → (∀ t' x', dec (s.now.getD (i + (1 - k)) []) = some (t', x') → t' < t) → t ≤ 549755813888 →
    Calls Tryd.prog 25 #[.pointer (some ⟨p, 0, none⟩), .int .i64 i] w fun e w' => ∃ (q : Nat) (Fs : Foot), e = .returned (.tuple #[.pointer (some ⟨q, 0, none⟩), .int .i64 0]) ∧ rep w' q Fs ⟨p, i, k, t, x⟩ ∧ (∀ b, Fs.all b → w.heap.size ≤ b) ∧ Keeps (fun _ => True) w w'
  openBad : ∀ (w : World) (p : Nat) (F : Foot) (s : SDev), DAt w p F s → T w → ∀ i : Nat, i + 2 ≤ s.now.length → dec (s.now.getD i []) = none → dec (s.now.getD (i + 1) []) = none →
    Calls Tryd.prog 25 #[.pointer (some ⟨p, 0, none⟩), .int .i64 i] w fun e w' => e = .returned (.tuple #[.pointer none, .int .i64 3]) ∧ Keeps (fun _ => True) w w'
  openNo : ∀ (w : World) (p : Nat) (F : Foot) (s : SDev), DAt w p F s → T w → ∀ i : Int, -9223372036854775808 ≤ i → i < 9223372036854775808 → (i < 0 ∨ (s.now.length : Int) < i + 2) →
    Calls Tryd.prog 25 #[.pointer (some ⟨p, 0, none⟩), .int .i64 i] w fun e w' => (∃ v, e = .returned (.tuple #[v, .int .i64 4])) ∧ Keeps (fun _ => True) w w'
  makeNo : ∀ (w : World) (p : Nat) (F : Foot) (s : SDev), DAt w p F s → T w → ∀ (i : Int) (A : Option Addr) (c : Nat) (G : Nat → Prop) (l : List UInt8) (q : Int), Row w A G (bcells l) → l.length ≤ c → c ≤ maxLen → (A = none → c = 0) → -9223372036854775808 ≤ i → i < 9223372036854775808 →
    ((i < 0 ∨ (s.now.length : Int) < i + 2) ∧ l.length ≤ 40 ∧ q = 4 ∨ ¬ (i < 0 ∨ (s.now.length : Int) < i + 2) ∧ 40 < l.length ∧ q = 1) →
    Calls Tryd.prog 18 #[.pointer (some ⟨p, 0, none⟩), .int .i64 i, .slice A l.length c] w fun e w' => (∃ v, e = .returned (.tuple #[v, .int .i64 q])) ∧ Keeps (fun _ => True) w w'
  save : ∀ (W w : World) (p q : Nat) (F Fs : Foot) (s : SDev) (st : SSt), DAt w p F s → rep w q Fs st → st.dev = p → Apart F Fs → T W → Keeps (fun _ => True) W w → (∀ b, F.all b → W.heap.size ≤ b) → st.place + 2 ≤ s.now.length → s.now.getD (st.place + st.which) [] = enc st.turn st.text → s.calls ≤ 549755813888 → st.turn ≤ 549755813888 →
    ∀ (A : Option Addr) (c : Nat) (G : Nat → Prop) (l : List UInt8), Row w A G (bcells l) → (∀ b, G b → ¬ F.all b) → (∀ b, G b → ¬ Fs.all b) → l.length ≤ c → c ≤ maxLen → (A = none → c = 0) → l.length ≤ 40 →
    Calls Tryd.prog 22 #[.pointer (some ⟨q, 0, none⟩), .slice A l.length c] w fun e w' => e = .returned (.int .i64 0) ∧ ∃ (F' Fs' : Foot) (n : Nat), DAt w' p F' (SDev.still (s.now.set (st.place + (1 - st.which)) (enc (st.turn + 1) l)) n) ∧ n ≤ s.calls + 100 ∧ rep w' q Fs' ⟨p, st.place, 1 - st.which, st.turn + 1, l⟩ ∧
      Apart F' Fs' ∧ Keeps (fun b => ¬ F.M b ∧ ¬ Fs.M b) w w' ∧ (∀ b, F'.M b → F.M b ∨ w.heap.size ≤ b) ∧ (∀ b, F'.I b → F.all b ∨ w.heap.size ≤ b) ∧ (∀ b, Fs'.M b → Fs.M b ∨ w.heap.size ≤ b) ∧ (∀ b, Fs'.I b → Fs.all b ∨ w.heap.size ≤ b)
  saveNo : ∀ (w : World) (p q : Nat) (F Fs : Foot) (s : SDev) (st : SSt), DAt w p F s → rep w q Fs st → st.dev = p → T w → ∀ (A : Option Addr) (c : Nat) (G : Nat → Prop) (l : List UInt8), Row w A G (bcells l) → l.length ≤ c → c ≤ maxLen → (A = none → c = 0) → 40 < l.length →
    Calls Tryd.prog 22 #[.pointer (some ⟨q, 0, none⟩), .slice A l.length c] w fun e w' => e = .returned (.int .i64 1) ∧ Keeps (fun _ => True) w w'
  text : ∀ (w : World) (p q : Nat) (F Fs : Foot) (s : SDev) (st : SSt), DAt w p F s → rep w q Fs st → st.dev = p → T w → st.place + 2 ≤ s.now.length → s.now.getD (st.place + st.which) [] = enc st.turn st.text →
    Calls Tryd.prog 27 #[.pointer (some ⟨q, 0, none⟩)] w fun e w' => ∃ A c, e = .returned (.slice A st.text.length c) ∧ Row w' A (fun b => w.heap.size ≤ b ∧ b < w'.heap.size) (bcells st.text) ∧ Keeps (fun _ => True) w w'
  saveNil : ∀ w : World, Calls Tryd.prog 22 #[.pointer none, .slice none 0 0] w fun e w' => e = .returned (.int .i64 8) ∧ Keeps (fun _ => True) w w'
  textNil : ∀ w : World, Calls Tryd.prog 27 #[.pointer none] w fun e w' => ∃ A c, e = .returned (.slice A 0 c) ∧ Keeps (fun _ => True) w w'
structure Duo (S : SupOK) (W w : World) (p q : Nat) (F Fs : Foot) (s : SDev) (st : SSt) : Prop where
  dv : Dv W w p F s
  su : S.rep w q Fs st
  ap : Apart F Fs
  gs : ∀ b, Fs.all b → W.heap.size ≤ b
  on : st.dev = p
  room : st.place + 2 ≤ s.now.length
  sec : s.now.getD (st.place + st.which) [] = S.enc st.turn st.text
section
variable {S : SupOK} {W w w' : World} {p q : Nat} {F F' Fs Fs' : Foot} {s s' : SDev} {st : SSt}
theorem Duo.keep (h : Duo S W w p q F Fs s st) (hk : Keeps (fun _ => True) w w') : Duo S W w' p q F Fs s st :=
  ⟨h.dv.keep hk, S.keep h.su (hk.mono fun _ _ _ => trivial), h.ap, h.gs, h.on, h.room, h.sec⟩
theorem duo_make (S : SupOK) (hT : S.T W) (h : Dv W w p F s) (i : Nat) (z : Int) (hz : z = (i : Int)) (A : Option Addr) (c : Nat) (l : List UInt8) (n : Nat) (hn : n = l.length) (hi : i + 2 ≤ s.now.length) (hr : Row w A (fun b => ¬ F.all b) (bcells l)) (hlc : l.length ≤ c) (hc : c ≤ maxLen) (hA : A = none → c = 0) (hl : l.length ≤ 40) (hcalls : s.calls ≤ 549755813888) :
    Calls Tryd.prog 18 #[.pointer (some ⟨p, 0, none⟩), .int .i64 z, .slice A n c] w fun e w' => ∃ (q : Nat) (F' Fs : Foot) (k : Nat), e = .returned (.tuple #[.pointer (some ⟨q, 0, none⟩), .int .i64 0]) ∧
      Duo S W w' p q F' Fs (SDev.still ((s.now.set i (S.enc 1 l)).set (i + 1) blank) k) ⟨p, i, 0, 1, l⟩ ∧ k ≤ s.calls + 100 ∧ Step F F' w w' ∧ ∀ b, Fs.all b → w.heap.size ≤ b := by
  subst hz; subst hn
  refine (S.make W w p F s h.d hT h.kp h.gd i A c _ l hi hr (fun b hb => hb) hlc hc hA hl hcalls).mono ?_
  rintro e w' ⟨q, F', Fs, k, rfl, hD, hk, hS, hst, hFs, hap⟩
  refine ⟨q, F', Fs, k, rfl, ⟨h.step hD hst, hS, hap, fun b hb => Nat.le_trans h.kp.size (hFs b hb), rfl, ?_, ?_⟩, hk, hst, hFs⟩
  · simpa [SDev.still] using hi
  · show ((s.now.set i (S.enc 1 l)).set (i + 1) blank).getD i [] = S.enc 1 l
    rw [List.getD_eq_getElem?_getD, List.getElem?_set_ne (by omega), List.getElem?_set_self (by omega)]; rfl
theorem duo_save (hT : S.T W) (h : Duo S W w p q F Fs s st) (A : Option Addr) (c : Nat) (l : List UInt8) (n : Nat) (hn : n = l.length) (hr : Row w A (fun b => ¬ F.all b ∧ ¬ Fs.all b) (bcells l)) (hlc : l.length ≤ c) (hc : c ≤ maxLen) (hA : A = none → c = 0) (hl : l.length ≤ 40) (hcalls : s.calls ≤ 549755813888) (ht : st.turn ≤ 549755813888) :
    Calls Tryd.prog 22 #[.pointer (some ⟨q, 0, none⟩), .slice A n c] w fun e w' => e = .returned (.int .i64 0) ∧ ∃ (F' Fs' : Foot) (k : Nat), Duo S W w' p q F' Fs' (SDev.still (s.now.set (st.place + (1 - st.which)) (S.enc (st.turn + 1) l)) k) ⟨p, st.place, 1 - st.which, st.turn + 1, l⟩ ∧ k ≤ s.calls + 100 ∧
      Keeps (fun b => ¬ F.M b ∧ ¬ Fs.M b) w w' ∧ (∀ b, F'.M b → F.M b ∨ w.heap.size ≤ b) ∧ (∀ b, F'.I b → F.all b ∨ w.heap.size ≤ b) ∧ (∀ b, Fs'.M b → Fs.M b ∨ w.heap.size ≤ b) ∧ (∀ b, Fs'.I b → Fs.all b ∨ w.heap.size ≤ b) := by
  subst hn
  refine (S.save W w p q F Fs s st h.dv.d h.su h.on h.ap hT h.dv.kp h.dv.gd h.room h.sec hcalls ht A c _ l hr (fun b hb => hb.1) (fun b hb => hb.2) hlc hc hA hl).mono ?_
  rintro e w' ⟨rfl, F', Fs', k, hD, hk, hS, hap, hkp, f1, f2, f3, f4⟩
  have hsz := h.dv.kp.size
  refine ⟨rfl, F', Fs', k, ⟨⟨hD, fun b hb => ?_, ?_⟩, hS, hap, fun b hb => ?_, rfl, by simpa [SDev.still] using h.room, ?_⟩, hk, hkp, f1, f2, f3, f4⟩
  · rcases hb with hb | hb
    · rcases f1 b hb with h1 | h1
      · exact h.dv.gd b (.inl h1)
      · omega
    · rcases f2 b hb with h1 | h1
      · exact h.dv.gd b h1
      · omega
  · exact ⟨hkp.os.trans h.dv.kp.os, hkp.tape.trans h.dv.kp.tape, hkp.output.trans h.dv.kp.output, Nat.le_trans hsz hkp.size, fun b _ hb =>
      (hkp.block b ⟨fun hm => by have := h.dv.gd b (.inl hm); omega, fun hm => by have := h.gs b (.inl hm); omega⟩ (by omega)).trans (h.dv.kp.block b trivial hb)⟩
  · rcases hb with hb | hb
    · rcases f3 b hb with h1 | h1
      · exact h.gs b (.inl h1)
      · omega
    · rcases f4 b hb with h1 | h1
      · exact h.gs b h1
      · omega
  · have hw := (S.wf h.su).1
    have hrm := h.room
    show (s.now.set (st.place + (1 - st.which)) (S.enc (st.turn + 1) l)).getD (st.place + (1 - st.which)) [] = _
    rw [List.getD_eq_getElem?_getD, List.getElem?_set_self (by omega)]; rfl
theorem duo_text (hT : S.T W) (h : Duo S W w p q F Fs s st) :
    Calls Tryd.prog 27 #[.pointer (some ⟨q, 0, none⟩)] w fun e w' => ∃ A c, e = .returned (.slice A st.text.length c) ∧ Row w' A (fun b => w.heap.size ≤ b ∧ b < w'.heap.size) (bcells st.text) ∧ Keeps (fun _ => True) w w' := by
  exact S.text w p q F Fs s st h.dv.d h.su h.on (S.tk hT h.dv.kp) h.room h.sec
theorem duo_open (S : SupOK) (hT : S.T W) (h : Dv W w p F s) (i k t : Nat) (x : List UInt8) (z : Int) (hz : z = (i : Int)) (hi : i + 2 ≤ s.now.length) (hk1 : k ≤ 1) (hx : x.length ≤ 40) (ht1 : 1 ≤ t) (h1 : s.now.getD (i + k) [] = S.enc t x) (h2 : ∀ t' x', S.dec (s.now.getD (i + (1 - k)) []) = some (t', x') → t' < t) (ht : t ≤ 549755813888) :
    Calls Tryd.prog 25 #[.pointer (some ⟨p, 0, none⟩), .int .i64 z] w fun e w' => ∃ (q : Nat) (Fs : Foot), e = .returned (.tuple #[.pointer (some ⟨q, 0, none⟩), .int .i64 0]) ∧ Duo S W w' p q F Fs s ⟨p, i, k, t, x⟩ ∧ (∀ b, Fs.all b → w.heap.size ≤ b) ∧ Keeps (fun _ => True) w w' := by
  subst hz
  refine (S.open_ w p F s h.d (S.tk hT h.kp) i k t x hi hk1 (by rw [h1]; exact S.decEnc t x hx ht1 (by omega)) h2 ht).mono ?_
  rintro e w' ⟨q, Fs, rfl, hS, hF, hk⟩
  exact ⟨q, Fs, rfl, ⟨h.keep hk, hS, ⟨fun b hb hs => by have := hF b hs; have := h.d.lt b (.inl hb); omega, fun b hb hf => by have := hF b (.inl hb); have := h.d.lt b hf; omega⟩, fun b hb => Nat.le_trans h.kp.size (hF b hb), rfl, hi, h1⟩, hF, hk⟩
theorem Duo.other (h : Duo S W w p q F Fs s st) (hd : Dv W w' p F' s') (hst : Step F F' w w') (hsec : s'.now.getD (st.place + st.which) [] = s.now.getD (st.place + st.which) []) (hlen : s'.now.length = s.now.length) : Duo S W w' p q F' Fs s' st :=
  ⟨hd, S.keep h.su (hst.other h.ap), hst.apart h.ap (S.lt h.su), h.gs, h.on, by rw [hlen]; exact h.room, by rw [hsec]; exact h.sec⟩
theorem Duo.saved {Gs Gs' : Foot} {q2 : Nat} {st2 : SSt} (h : Duo S W w p q2 F Fs s st2) (ha : Apart Gs Fs) (hd : Dv W w' p F' s') (hk : Keeps (fun b => ¬ F.M b ∧ ¬ Gs.M b) w w') (f1 : ∀ b, F'.M b → F.M b ∨ w.heap.size ≤ b) (f2 : ∀ b, F'.I b → F.all b ∨ w.heap.size ≤ b) (f3 : ∀ b, Gs'.M b → Gs.M b ∨ w.heap.size ≤ b) (f4 : ∀ b, Gs'.I b → Gs.all b ∨ w.heap.size ≤ b)
    (hsec : s'.now.getD (st2.place + st2.which) [] = s.now.getD (st2.place + st2.which) []) (hlen : s'.now.length = s.now.length) : Duo S W w' p q2 F' Fs s' st2 ∧ Apart Gs' Fs := by
  have hl := S.lt h.su
  refine ⟨⟨hd, S.keep h.su (hk.mono fun b _ hb => ⟨fun hm => h.ap.l b hm hb, fun hm => ha.l b hm hb⟩), ⟨fun b hb hf => ?_, fun b hb hf => ?_⟩, h.gs, h.on, by rw [hlen]; exact h.room, by rw [hsec]; exact h.sec⟩, ⟨fun b hb hf => ?_, fun b hb hf => ?_⟩⟩
  · rcases f1 b hb with h1 | h1
    · exact h.ap.l b h1 hf
    · have := hl b hf; omega
  · have hlt := hl b (.inl hb)
    rcases hf with hf | hf
    · rcases f1 b hf with h1 | h1
      · exact h.ap.r b hb (.inl h1)
      · omega
    · rcases f2 b hf with h1 | h1
      · exact h.ap.r b hb h1
      · omega
  · rcases f3 b hb with h1 | h1
    · exact ha.l b h1 hf
    · have := hl b hf; omega
  · have hlt := hl b (.inl hb)
    rcases hf with hf | hf
    · rcases f3 b hf with h1 | h1
      · exact ha.r b hb (.inl h1)
      · omega
    · rcases f4 b hf with h1 | h1
      · exact ha.r b hb h1
      · omega
end
def Oth (S : SupOK) (rows : List (List UInt8)) (st : SSt) : Prop := ∀ t' x', S.dec (rows.getD (st.place + (1 - st.which)) []) = some (t', x') → t' < st.turn
section
variable {S : SupOK}
theorem oth_save {rows : List (List UInt8)} {st : SSt} (p : Nat) (e l : List UInt8) (hw : st.which ≤ 1) (h1 : 1 ≤ st.turn) (hx : st.text.length ≤ 40) (ht : st.turn ≤ 1099511627776) (hs : rows.getD (st.place + st.which) [] = S.enc st.turn st.text) :
    Oth S (rows.set (st.place + (1 - st.which)) e) ⟨p, st.place, 1 - st.which, st.turn + 1, l⟩ := by
  intro t' x' hd
  have e1 : st.place + (1 - (1 - st.which)) = st.place + st.which := by omega
  simp only [e1] at hd
  rw [List.getD_eq_getElem?_getD, List.getElem?_set_ne (by omega), ← List.getD_eq_getElem?_getD, hs, S.decEnc _ _ hx h1 ht] at hd
  injection hd with hd
  injection hd with hd _
  show t' < st.turn + 1
  omega
theorem oth_make {rows : List (List UInt8)} (p i : Nat) (e l : List UInt8) (hi : i + 2 ≤ rows.length) : Oth S ((rows.set i e).set (i + 1) blank) ⟨p, i, 0, 1, l⟩ := by
  intro t' x' hd
  simp only [Nat.sub_zero] at hd
  rw [List.getD_eq_getElem?_getD, List.getElem?_set_self (by simp; omega)] at hd
  simp only [Option.getD_some] at hd
  rw [S.decBlank] at hd; cases hd
end
end Go.Proofs.YtmnjdlnjhomhnaaDoor
