/-
  WHAT TWO SLOTS OF THE PROGRAM KEEP (the face of layer 5), whatever a sector is made of; a device and slots on it, side by side.
-/
import Derived.Test.YtpaadllbmhbnhaaDoorMadeCrash
import Derived.Test.YtpaadllbmhbnhaaDoorMadeRead
namespace Go.Proofs.YtpaadllbmhbnhaaDoor
open Go Go.RowKit Go.Joins

/-- A device that has nothing loose. -/
def SDev.still (rows : List (List UInt8)) (n : Nat) : SDev := ⟨rows, rows, List.replicate rows.length false, n⟩
theorem still_loose (rows : List (List UInt8)) (n : Nat) : (SDev.still rows n).loose = [] := clear_loose _ rows.length rfl
theorem still_crash (rows : List (List UInt8)) (n : Nat) (keep : List Bool) : (SDev.still rows n).crash keep = SDev.still rows 0 := by
  have h : keptN (SDev.still rows n) keep (min (SDev.still rows n).loose.length keep.length) = rows := by rw [still_loose]; simp [keptN_zero, SDev.still]
  unfold SDev.crash
  rw [h]; rfl
theorem new_still (k : Nat) : SDev.new k = SDev.still (List.replicate k blank) 0 := by simp [SDev.new, SDev.still]
theorem still_len (rows : List (List UInt8)) (n : Nat) : (SDev.still rows n).now.length = rows.length := rfl

/-- Two slots: on which device, where; which of the two has the latest text, its turn, the text. -/
structure SSt where
  dev : Nat
  place : Nat
  which : Nat
  turn : Nat
  text : List UInt8

structure SupOK where
  T : World → Prop
  tk : ∀ {w w' : World}, T w → Keeps (fun _ => True) w w' → T w'
  enc : Nat → List UInt8 → List UInt8
  dec : List UInt8 → Option (Nat × List UInt8)
  encLen : ∀ (t : Nat) (x : List UInt8), x.length ≤ 40 → 1 ≤ t → t ≤ 1099511627776 → (enc t x).length = 64
  decEnc : ∀ (t : Nat) (x : List UInt8), x.length ≤ 40 → 1 ≤ t → t ≤ 1099511627776 → dec (enc t x) = some (t, x)
  decBlank : dec blank = none
  decBad : ∀ (t : Nat) (x : List UInt8) (i : Nat) (b : UInt8), x.length ≤ 40 → 1 ≤ t → t ≤ 1099511627776 → i < 64 → b ≠ 0 → dec ((enc t x).set i ((enc t x).getD i 0 ^^^ b)) = none
  rep : World → Nat → Foot → SSt → Prop
  wf : ∀ {w q F st}, rep w q F st → st.which ≤ 1 ∧ 1 ≤ st.turn ∧ st.text.length ≤ 40
  lt : ∀ {w q F st}, rep w q F st → ∀ b, F.all b → b < w.heap.size
  keep : ∀ {w w' q F st}, rep w q F st → Keeps F.all w w' → rep w' q F st
  make : ∀ (W w : World) (p : Nat) (F : Foot) (s : SDev), DAt w p F s → T W → Keeps (fun _ => True) W w → (∀ b, F.all b → W.heap.size ≤ b) → ∀ (i : Nat) (A : Option Addr) (c : Nat) (G : Nat → Prop) (l : List UInt8), i + 2 ≤ s.now.length → Row w A G (bcells l) → (∀ b, G b → ¬ F.all b) → l.length ≤ c → c ≤ maxLen → (A = none → c = 0) → l.length ≤ 40 → s.calls ≤ 549755813888 →
    Calls Tryd.prog 11 #[.pointer (some ⟨p, 0, none⟩), .int .i64 i, .slice A l.length c] w fun e w' => ∃ (q : Nat) (F' Fs : Foot) (n : Nat), e = .returned (.tuple #[.pointer (some ⟨q, 0, none⟩), .int .i64 0]) ∧
      DAt w' p F' (SDev.still ((s.now.set i (enc 1 l)).set (i + 1) blank) n) ∧ n ≤ s.calls + 100 ∧ rep w' q Fs ⟨p, i, 0, 1, l⟩ ∧ Step F F' w w' ∧ (∀ b, Fs.all b → w.heap.size ≤ b) ∧ Apart F' Fs
  open_ : ∀ (w : World) (p : Nat) (F : Foot) (s : SDev), DAt w p F s → T w → ∀ (i k t : Nat) (x : List UInt8), i + 2 ≤ s.now.length → k ≤ 1 → dec (s.now.getD (i + k) []) = some (t, x) → (∀ t' x', dec (s.now.getD (i + (1 - k)) []) = some (t', x') → t' < t) → t ≤ 549755813888 →
    Calls Tryd.prog 15 #[.pointer (some ⟨p, 0, none⟩), .int .i64 i] w fun e w' => ∃ (q : Nat) (Fs : Foot), e = .returned (.tuple #[.pointer (some ⟨q, 0, none⟩), .int .i64 0]) ∧ rep w' q Fs ⟨p, i, k, t, x⟩ ∧ (∀ b, Fs.all b → w.heap.size ≤ b) ∧ Keeps (fun _ => True) w w'
  openBad : ∀ (w : World) (p : Nat) (F : Foot) (s : SDev), DAt w p F s → T w → ∀ i : Nat, i + 2 ≤ s.now.length → dec (s.now.getD i []) = none → dec (s.now.getD (i + 1) []) = none →
    Calls Tryd.prog 15 #[.pointer (some ⟨p, 0, none⟩), .int .i64 i] w fun e w' => e = .returned (.tuple #[.pointer none, .int .i64 3]) ∧ Keeps (fun _ => True) w w'
  openNo : ∀ (w : World) (p : Nat) (F : Foot) (s : SDev), DAt w p F s → T w → ∀ i : Int, -9223372036854775808 ≤ i → i < 9223372036854775808 → (i < 0 ∨ (s.now.length : Int) < i + 2) →
    Calls Tryd.prog 15 #[.pointer (some ⟨p, 0, none⟩), .int .i64 i] w fun e w' => (∃ v, e = .returned (.tuple #[v, .int .i64 4])) ∧ Keeps (fun _ => True) w w'
  makeNo : ∀ (w : World) (p : Nat) (F : Foot) (s : SDev), DAt w p F s → T w → ∀ (i : Int) (A : Option Addr) (c : Nat) (G : Nat → Prop) (l : List UInt8) (q : Int), Row w A G (bcells l) → l.length ≤ c → c ≤ maxLen → (A = none → c = 0) → -9223372036854775808 ≤ i → i < 9223372036854775808 →
    ((i < 0 ∨ (s.now.length : Int) < i + 2) ∧ l.length ≤ 40 ∧ q = 4 ∨ ¬ (i < 0 ∨ (s.now.length : Int) < i + 2) ∧ 40 < l.length ∧ q = 1) →
    Calls Tryd.prog 11 #[.pointer (some ⟨p, 0, none⟩), .int .i64 i, .slice A l.length c] w fun e w' => (∃ v, e = .returned (.tuple #[v, .int .i64 q])) ∧ Keeps (fun _ => True) w w'
  save : ∀ (W w : World) (p q : Nat) (F Fs : Foot) (s : SDev) (st : SSt), DAt w p F s → rep w q Fs st → st.dev = p → Apart F Fs → T W → Keeps (fun _ => True) W w → (∀ b, F.all b → W.heap.size ≤ b) → st.place + 2 ≤ s.now.length → s.now.getD (st.place + st.which) [] = enc st.turn st.text → s.calls ≤ 549755813888 → st.turn ≤ 549755813888 →
    ∀ (A : Option Addr) (c : Nat) (G : Nat → Prop) (l : List UInt8), Row w A G (bcells l) → (∀ b, G b → ¬ F.all b) → (∀ b, G b → ¬ Fs.all b) → l.length ≤ c → c ≤ maxLen → (A = none → c = 0) → l.length ≤ 40 →
    Calls Tryd.prog 13 #[.pointer (some ⟨q, 0, none⟩), .slice A l.length c] w fun e w' => e = .returned (.int .i64 0) ∧ ∃ (F' Fs' : Foot) (n : Nat), DAt w' p F' (SDev.still (s.now.set (st.place + (1 - st.which)) (enc (st.turn + 1) l)) n) ∧ n ≤ s.calls + 100 ∧ rep w' q Fs' ⟨p, st.place, 1 - st.which, st.turn + 1, l⟩ ∧
      Apart F' Fs' ∧ Keeps (fun b => ¬ F.M b ∧ ¬ Fs.M b) w w' ∧ (∀ b, F'.M b → F.M b ∨ w.heap.size ≤ b) ∧ (∀ b, F'.I b → F.all b ∨ w.heap.size ≤ b) ∧ (∀ b, Fs'.M b → Fs.M b ∨ w.heap.size ≤ b) ∧ (∀ b, Fs'.I b → Fs.all b ∨ w.heap.size ≤ b)
  saveNo : ∀ (w : World) (p q : Nat) (F Fs : Foot) (s : SDev) (st : SSt), DAt w p F s → rep w q Fs st → st.dev = p → T w → ∀ (A : Option Addr) (c : Nat) (G : Nat → Prop) (l : List UInt8), Row w A G (bcells l) → l.length ≤ c → c ≤ maxLen → (A = none → c = 0) → 40 < l.length →
    Calls Tryd.prog 13 #[.pointer (some ⟨q, 0, none⟩), .slice A l.length c] w fun e w' => e = .returned (.int .i64 1) ∧ Keeps (fun _ => True) w w'
  text : ∀ (w : World) (p q : Nat) (F Fs : Foot) (s : SDev) (st : SSt), DAt w p F s → rep w q Fs st → st.dev = p → T w → st.place + 2 ≤ s.now.length → s.now.getD (st.place + st.which) [] = enc st.turn st.text →
    Calls Tryd.prog 16 #[.pointer (some ⟨q, 0, none⟩)] w fun e w' => ∃ A c, e = .returned (.slice A st.text.length c) ∧ Row w' A (fun b => w.heap.size ≤ b ∧ b < w'.heap.size) (bcells st.text) ∧ Keeps (fun _ => True) w w'
  turn : ∀ (w : World) (q : Nat) (Fs : Foot) (st : SSt), rep w q Fs st →
    Calls Tryd.prog 17 #[.pointer (some ⟨q, 0, none⟩)] w fun e w' => e = .returned (.int .i64 (st.turn : Int)) ∧ w = w'
  saveNil : ∀ w : World, Calls Tryd.prog 13 #[.pointer none, .slice none 0 0] w fun e w' => e = .returned (.int .i64 8) ∧ Keeps (fun _ => True) w w'
  textNil : ∀ w : World, Calls Tryd.prog 16 #[.pointer none] w fun e w' => ∃ A c, e = .returned (.slice A 0 c) ∧ Keeps (fun _ => True) w w'
  turnNil : ∀ w : World, Calls Tryd.prog 17 #[.pointer none] w fun e w' => e = .returned (.int .i64 0) ∧ w = w'

/-- A device in blocks that are new since W. -/
structure Dv (W w : World) (p : Nat) (F : Foot) (s : SDev) : Prop where
  d : DAt w p F s
  gd : ∀ b, F.all b → W.heap.size ≤ b
  kp : Keeps (fun _ => True) W w
/-- A device and slots on it. -/
structure Duo (S : SupOK) (W w : World) (p q : Nat) (F Fs : Foot) (s : SDev) (st : SSt) : Prop where
  dv : Dv W w p F s
  su : S.rep w q Fs st
  ap : Apart F Fs
  gs : ∀ b, Fs.all b → W.heap.size ≤ b
  on : st.dev = p
  room : st.place + 2 ≤ s.now.length
  sec : s.now.getD (st.place + st.which) [] = S.enc st.turn st.text

section
variable {S : SupOK} {W w w' : World} {p q : Nat} {F F' Fs Fs' : Foot} {s s' : SDev} {st : SSt}
theorem Dv.keep (h : Dv W w p F s) (hk : Keeps (fun _ => True) w w') : Dv W w' p F s := ⟨h.d.keep (hk.mono fun _ _ _ => trivial), h.gd, h.kp.trans hk⟩
theorem Dv.step (h : Dv W w p F s) (hr : DAt w' p F' s') (hs : Step F F' w w') : Dv W w' p F' s' :=
  ⟨hr, fun b hb => by
    rcases hs.all b hb with h1 | h1
    · exact h.gd b h1
    · exact Nat.le_trans h.kp.size h1, hs.old (fun b hb => h.gd b (.inl hb)) h.kp⟩
theorem Duo.keep (h : Duo S W w p q F Fs s st) (hk : Keeps (fun _ => True) w w') : Duo S W w' p q F Fs s st :=
  ⟨h.dv.keep hk, S.keep h.su (hk.mono fun _ _ _ => trivial), h.ap, h.gs, h.on, h.room, h.sec⟩
/-- A device that was made. -/
theorem dv_new (hk : Keeps (fun _ => True) W w) (n : Nat) (h1 : 1 ≤ n) (h2 : n ≤ 2048) (z : Int) (hz : z = (n : Int)) :
    Calls Tryd.prog 10 #[.int .i64 z] w fun e w' => ∃ p F, e = .returned (.pointer (some ⟨p, 0, none⟩)) ∧ Dv W w' p F (SDev.still (List.replicate n blank) 0) ∧ (∀ b, F.all b → w.heap.size ≤ b) ∧ Keeps (fun _ => True) w w' := by
  subst hz
  refine (dnew_any w (n : Int) (by omega) (by omega)).mono ?_
  rintro e w' ⟨p, F, rfl, hD, hF, hk'⟩
  have e : clampN (n : Int) = n := by unfold clampN; omega
  rw [e, new_still] at hD
  exact ⟨p, F, rfl, ⟨hD, fun b hb => Nat.le_trans hk.size (hF b hb), hk.trans hk'⟩, hF, hk'⟩
theorem duo_make (S : SupOK) (hT : S.T W) (h : Dv W w p F s) (i : Nat) (z : Int) (hz : z = (i : Int)) (A : Option Addr) (c : Nat) (l : List UInt8) (n : Nat) (hn : n = l.length) (hi : i + 2 ≤ s.now.length) (hr : Row w A (fun b => ¬ F.all b) (bcells l)) (hlc : l.length ≤ c) (hc : c ≤ maxLen) (hA : A = none → c = 0) (hl : l.length ≤ 40) (hcalls : s.calls ≤ 549755813888) :
    Calls Tryd.prog 11 #[.pointer (some ⟨p, 0, none⟩), .int .i64 z, .slice A n c] w fun e w' => ∃ (q : Nat) (F' Fs : Foot) (k : Nat), e = .returned (.tuple #[.pointer (some ⟨q, 0, none⟩), .int .i64 0]) ∧
      Duo S W w' p q F' Fs (SDev.still ((s.now.set i (S.enc 1 l)).set (i + 1) blank) k) ⟨p, i, 0, 1, l⟩ ∧ k ≤ s.calls + 100 ∧ Step F F' w w' ∧ ∀ b, Fs.all b → w.heap.size ≤ b := by
  subst hz; subst hn
  refine (S.make W w p F s h.d hT h.kp h.gd i A c _ l hi hr (fun b hb => hb) hlc hc hA hl hcalls).mono ?_
  rintro e w' ⟨q, F', Fs, k, rfl, hD, hk, hS, hst, hFs, hap⟩
  refine ⟨q, F', Fs, k, rfl, ⟨h.step hD hst, hS, hap, fun b hb => Nat.le_trans h.kp.size (hFs b hb), rfl, ?_, ?_⟩, hk, hst, hFs⟩
  · simpa [SDev.still] using hi
  · show ((s.now.set i (S.enc 1 l)).set (i + 1) blank).getD i [] = S.enc 1 l
    rw [List.getD_eq_getElem?_getD, List.getElem?_set_ne (by omega), List.getElem?_set_self (by omega)]; rfl
theorem duo_save (hT : S.T W) (h : Duo S W w p q F Fs s st) (A : Option Addr) (c : Nat) (l : List UInt8) (n : Nat) (hn : n = l.length) (hr : Row w A (fun b => ¬ F.all b ∧ ¬ Fs.all b) (bcells l)) (hlc : l.length ≤ c) (hc : c ≤ maxLen) (hA : A = none → c = 0) (hl : l.length ≤ 40) (hcalls : s.calls ≤ 549755813888) (ht : st.turn ≤ 549755813888) :
    Calls Tryd.prog 13 #[.pointer (some ⟨q, 0, none⟩), .slice A n c] w fun e w' => e = .returned (.int .i64 0) ∧ ∃ (F' Fs' : Foot) (k : Nat), Duo S W w' p q F' Fs' (SDev.still (s.now.set (st.place + (1 - st.which)) (S.enc (st.turn + 1) l)) k) ⟨p, st.place, 1 - st.which, st.turn + 1, l⟩ ∧ k ≤ s.calls + 100 ∧
      Keeps (fun b => ¬ F.M b ∧ ¬ Fs.M b) w w' ∧ (∀ b, F'.M b → F.M b ∨ w.heap.size ≤ b) ∧ (∀ b, F'.I b → F.all b ∨ w.heap.size ≤ b) ∧ (∀ b, Fs'.M b → Fs.M b ∨ w.heap.size ≤ b) ∧ (∀ b, Fs'.I b → Fs.all b ∨ w.heap.size ≤ b) := by
  subst hn
  refine (S.save W w p q F Fs s st h.dv.d h.su h.on h.ap hT h.dv.kp h.dv.gd h.room h.sec hcalls ht A c _ l hr (fun b hb => hb.1) (fun b hb => hb.2) hlc hc hA hl).mono ?_
  rintro e w' ⟨rfl, F', Fs', k, hD, hk, hS, hap, hkp, f1, f2, f3, f4⟩
  have hsz := h.dv.kp.size
  refine ⟨rfl, F', Fs', k, ⟨⟨hD, fun b hb => ?_, ?_⟩, hS, hap, fun b hb => ?_, rfl, by simpa [SDev.still] using h.room, ?_⟩, hk, hkp, f1, f2, f3, f4⟩
  · rcases hb with hb | hb
    · rcases f1 b hb with h1 | h1
      · exact h.dv.gd b (.inl h1)
      · omega
    · rcases f2 b hb with h1 | h1
      · exact h.dv.gd b h1
      · omega
  · exact ⟨hkp.os.trans h.dv.kp.os, hkp.tape.trans h.dv.kp.tape, hkp.output.trans h.dv.kp.output, Nat.le_trans hsz hkp.size, fun b _ hb =>
      (hkp.block b ⟨fun hm => by have := h.dv.gd b (.inl hm); omega, fun hm => by have := h.gs b (.inl hm); omega⟩ (by omega)).trans (h.dv.kp.block b trivial hb)⟩
  · rcases hb with hb | hb
    · rcases f3 b hb with h1 | h1
      · exact h.gs b (.inl h1)
      · omega
    · rcases f4 b hb with h1 | h1
      · exact h.gs b h1
      · omega
  · have hw := (S.wf h.su).1
    have hrm := h.room
    show (s.now.set (st.place + (1 - st.which)) (S.enc (st.turn + 1) l)).getD (st.place + (1 - st.which)) [] = _
    rw [List.getD_eq_getElem?_getD, List.getElem?_set_self (by omega)]; rfl
theorem duo_text (hT : S.T W) (h : Duo S W w p q F Fs s st) :
    Calls Tryd.prog 16 #[.pointer (some ⟨q, 0, none⟩)] w fun e w' => ∃ A c, e = .returned (.slice A st.text.length c) ∧ Row w' A (fun b => w.heap.size ≤ b ∧ b < w'.heap.size) (bcells st.text) ∧ Keeps (fun _ => True) w w' := by
  exact S.text w p q F Fs s st h.dv.d h.su h.on (S.tk hT h.dv.kp) h.room h.sec
theorem duo_open (S : SupOK) (hT : S.T W) (h : Dv W w p F s) (i k t : Nat) (x : List UInt8) (z : Int) (hz : z = (i : Int)) (hi : i + 2 ≤ s.now.length) (hk1 : k ≤ 1) (hx : x.length ≤ 40) (ht1 : 1 ≤ t) (h1 : s.now.getD (i + k) [] = S.enc t x) (h2 : ∀ t' x', S.dec (s.now.getD (i + (1 - k)) []) = some (t', x') → t' < t) (ht : t ≤ 549755813888) :
    Calls Tryd.prog 15 #[.pointer (some ⟨p, 0, none⟩), .int .i64 z] w fun e w' => ∃ (q : Nat) (Fs : Foot), e = .returned (.tuple #[.pointer (some ⟨q, 0, none⟩), .int .i64 0]) ∧ Duo S W w' p q F Fs s ⟨p, i, k, t, x⟩ ∧ (∀ b, Fs.all b → w.heap.size ≤ b) ∧ Keeps (fun _ => True) w w' := by
  subst hz
  refine (S.open_ w p F s h.d (S.tk hT h.kp) i k t x hi hk1 (by rw [h1]; exact S.decEnc t x hx ht1 (by omega)) h2 ht).mono ?_
  rintro e w' ⟨q, Fs, rfl, hS, hF, hk⟩
  exact ⟨q, Fs, rfl, ⟨h.keep hk, hS, ⟨fun b hb hs => by have := hF b hs; have := h.d.lt b (.inl hb); omega, fun b hb hf => by have := hF b (.inl hb); have := h.d.lt b hf; omega⟩, fun b hb => Nat.le_trans h.kp.size (hF b hb), rfl, hi, h1⟩, hF, hk⟩
theorem dv_crash (h : Dv W w p F s) (K : Option Addr) (kc : Nat) (G : Nat → Prop) (keep : List Bool) (m : Nat) (hm : m = keep.length) (hK : Row w K G (keep.map Value.bool)) (hkl : keep.length ≤ maxLen) :
    Calls Tryd.prog 14 #[.pointer (some ⟨p, 0, none⟩), .slice K m kc] w fun e w' => ∃ q F', e = .returned (.pointer (some ⟨q, 0, none⟩)) ∧ Dv W w' q F' (s.crash keep) ∧ Keeps (fun _ => True) w w' := by
  subst hm
  refine (dcrash_any w p F s h.d K kc G keep hK hkl).mono ?_
  rintro e w' ⟨q, F', rfl, hD, h1, h2, hk⟩
  exact ⟨q, F', rfl, ⟨hD, fun b hb => by
    rcases hb with hb | hb
    · exact Nat.le_trans h.kp.size (h1 b hb)
    · rcases h2 b hb with hb | hb
      · exact h.gd b (.inr hb)
      · exact Nat.le_trans h.kp.size hb, h.kp.trans hk⟩, hk⟩
/-- A whole sector is written. -/
theorem dv_write64 (h : Dv W w p F s) (i : Nat) (A : Option Addr) (c : Nat) (l : List UInt8) (n : Nat) (hn : n = l.length) (hl : l.length = 64) (hi : i < s.now.length) (hr : Row w A (fun b => ¬ F.all b) (bcells l)) (hcalls : s.calls ≤ 1099511627776) :
    Calls Tryd.prog 20 #[.pointer (some ⟨p, 0, none⟩), .int .i64 (i : Int), .slice A n c] w fun e w' => e = .returned (.int .i64 0) ∧ ∃ F', Dv W w' p F' (s.write i l) ∧ (s.write i l).now = s.now.set i l ∧ (s.write i l).calls = s.calls + 1 ∧ Step F F' w w' := by
  subst hn
  refine (dwrite_yes w p F s h.d i A c _ l hr (fun b hb => hb) hi (by omega) hcalls).mono ?_
  rintro e w' ⟨rfl, F', hD, hst⟩
  refine ⟨rfl, F', h.step hD hst, ?_, rfl, hst⟩
  show s.now.set i (over l (s.now.getD i [])) = _
  have hrow : (s.now.getD i []).length = 64 := by rw [getD_mem _ _ _ hi]; exact h.d.ok.nrow _ (List.getElem_mem hi)
  unfold over
  rw [List.drop_of_length_le (by omega), List.append_nil]
/-- Slots on the device are as they were while something else is done to it. -/
theorem Duo.other (h : Duo S W w p q F Fs s st) (hd : Dv W w' p F' s') (hst : Step F F' w w') (hsec : s'.now.getD (st.place + st.which) [] = s.now.getD (st.place + st.which) []) (hlen : s'.now.length = s.now.length) : Duo S W w' p q F' Fs s' st :=
  ⟨hd, S.keep h.su (hst.other h.ap), hst.apart h.ap (S.lt h.su), h.gs, h.on, by rw [hlen]; exact h.room, by rw [hsec]; exact h.sec⟩
/-- Two pairs of slots on one device; a Save of the first. -/
theorem Duo.saved {Gs Gs' : Foot} {q2 : Nat} {st2 : SSt} (h : Duo S W w p q2 F Fs s st2) (ha : Apart Gs Fs) (hd : Dv W w' p F' s') (hk : Keeps (fun b => ¬ F.M b ∧ ¬ Gs.M b) w w') (f1 : ∀ b, F'.M b → F.M b ∨ w.heap.size ≤ b) (f2 : ∀ b, F'.I b → F.all b ∨ w.heap.size ≤ b) (f3 : ∀ b, Gs'.M b → Gs.M b ∨ w.heap.size ≤ b) (f4 : ∀ b, Gs'.I b → Gs.all b ∨ w.heap.size ≤ b)
    (hsec : s'.now.getD (st2.place + st2.which) [] = s.now.getD (st2.place + st2.which) []) (hlen : s'.now.length = s.now.length) : Duo S W w' p q2 F' Fs s' st2 ∧ Apart Gs' Fs := by
  have hl := S.lt h.su
  refine ⟨⟨hd, S.keep h.su (hk.mono fun b _ hb => ⟨fun hm => h.ap.l b hm hb, fun hm => ha.l b hm hb⟩), ⟨fun b hb hf => ?_, fun b hb hf => ?_⟩, h.gs, h.on, by rw [hlen]; exact h.room, by rw [hsec]; exact h.sec⟩, ⟨fun b hb hf => ?_, fun b hb hf => ?_⟩⟩
  · rcases f1 b hb with h1 | h1
    · exact h.ap.l b h1 hf
    · have := hl b hf; omega
  · have hlt := hl b (.inl hb)
    rcases hf with hf | hf
    · rcases f1 b hf with h1 | h1
      · exact h.ap.r b hb (.inl h1)
      · omega
    · rcases f2 b hf with h1 | h1
      · exact h.ap.r b hb h1
      · omega
  · rcases f3 b hb with h1 | h1
    · exact ha.l b h1 hf
    · have := hl b hf; omega
  · have hlt := hl b (.inl hb)
    rcases hf with hf | hf
    · rcases f3 b hf with h1 | h1
      · exact ha.r b hb (.inl h1)
      · omega
    · rcases f4 b hf with h1 | h1
      · exact ha.r b hb h1
      · omega
/-- The beginning of a sector is written. -/
theorem dv_write (h : Dv W w p F s) (i : Nat) (A : Option Addr) (c : Nat) (l : List UInt8) (n : Nat) (hn : n = l.length) (hl : l.length ≤ 64) (hi : i < s.now.length) (hr : Row w A (fun b => ¬ F.all b) (bcells l)) (hcalls : s.calls ≤ 1099511627776) :
    Calls Tryd.prog 20 #[.pointer (some ⟨p, 0, none⟩), .int .i64 (i : Int), .slice A n c] w fun e w' => e = .returned (.int .i64 0) ∧ ∃ F', Dv W w' p F' (s.write i l) ∧ Step F F' w w' := by
  subst hn
  refine (dwrite_yes w p F s h.d i A c _ l hr (fun b hb => hb) hi hl hcalls).mono ?_
  rintro e w' ⟨rfl, F', hD, hst⟩
  exact ⟨rfl, F', h.step hD hst, hst⟩
theorem d_read (h : DAt w p F s) (i : Nat) (hi : i < s.now.length) :
    Calls Tryd.prog 19 #[.pointer (some ⟨p, 0, none⟩), .int .i64 (i : Int)] w fun e w' => ∃ g c, e = .returned (.tuple #[.slice (some ⟨g, 0, none⟩) 64 c, .int .i64 0]) ∧ Row w' (some ⟨g, 0, none⟩) (fun b => w.heap.size ≤ b ∧ b < w'.heap.size) (bcells (s.now.getD i [])) ∧ c ≤ maxLen ∧ 64 ≤ c ∧ Keeps (fun _ => True) w w' := by
  have hsm := h.ok.small
  refine (dread_any w p F s h (i : Int) (by omega) (by omega)).mono ?_
  rintro e w' ⟨v, rfl, ho, hk⟩
  have e1 : s.readL (i : Int) = s.now.getD i [] := (if_neg (by omega)).trans (by rw [Int.toNat_natCast])
  have e2 : s.readE (i : Int) = 0 := if_neg (by omega)
  have hl : (s.now.getD i []).length = 64 := by rw [getD_mem _ _ _ hi]; exact h.ok.nrow _ (List.getElem_mem hi)
  rw [e1] at ho
  rw [e2]
  obtain ⟨g, c, rfl, hge, hlt⟩ := World.ownsRow.form ho (by omega)
  have hroom := own_room ho
  have hr : Row w' (some ⟨g, 0, none⟩) (fun b => w.heap.size ≤ b ∧ b < w'.heap.size) (bcells (s.now.getD i [])) := by
    have ho' := ho
    unfold OwnB at ho'
    rw [show (s.now.getD i []).length = (bcells (s.now.getD i [])).length by rw [bcells_len]] at ho'
    exact Row.of_own ho'
  rw [hl] at hroom
  exact ⟨g, c, by rw [hl], hr, hroom.2, hroom.1, hk⟩
theorem dv_read (h : Dv W w p F s) (i : Nat) (hi : i < s.now.length) :
    Calls Tryd.prog 19 #[.pointer (some ⟨p, 0, none⟩), .int .i64 (i : Int)] w fun e w' => ∃ g c, e = .returned (.tuple #[.slice (some ⟨g, 0, none⟩) 64 c, .int .i64 0]) ∧ Row w' (some ⟨g, 0, none⟩) (fun b => w.heap.size ≤ b ∧ b < w'.heap.size) (bcells (s.now.getD i [])) ∧ c ≤ maxLen ∧ 64 ≤ c ∧ Keeps (fun _ => True) w w' := d_read h.d i hi
/-- Bytes that came in, or are new, lie apart from what the program's objects have. -/
theorem row_new {A : Option Addr} {xs : List Value} (h : Row W A (fun b => b < W.heap.size) xs) (hk : Keeps (fun _ => True) W w) (hF : ∀ b, F.all b → W.heap.size ≤ b) (hFs : ∀ b, Fs.all b → W.heap.size ≤ b) : Row w A (fun b => ¬ F.all b ∧ ¬ Fs.all b) xs :=
  (h.keep (hk.mono fun _ _ _ => trivial)).mono fun b _ hb => ⟨fun hf => by have := hF b hf; omega, fun hf => by have := hFs b hf; omega⟩
end

/-- The other slot is elder, or none. -/
def Oth (S : SupOK) (rows : List (List UInt8)) (st : SSt) : Prop := ∀ t' x', S.dec (rows.getD (st.place + (1 - st.which)) []) = some (t', x') → t' < st.turn
section
variable {S : SupOK}
theorem oth_save {rows : List (List UInt8)} {st : SSt} (p : Nat) (e l : List UInt8) (hw : st.which ≤ 1) (h1 : 1 ≤ st.turn) (hx : st.text.length ≤ 40) (ht : st.turn ≤ 1099511627776) (hs : rows.getD (st.place + st.which) [] = S.enc st.turn st.text) :
    Oth S (rows.set (st.place + (1 - st.which)) e) ⟨p, st.place, 1 - st.which, st.turn + 1, l⟩ := by
  intro t' x' hd
  have e1 : st.place + (1 - (1 - st.which)) = st.place + st.which := by omega
  simp only [e1] at hd
  rw [List.getD_eq_getElem?_getD, List.getElem?_set_ne (by omega), ← List.getD_eq_getElem?_getD, hs, S.decEnc _ _ hx h1 ht] at hd
  injection hd with hd
  injection hd with hd _
  show t' < st.turn + 1
  omega
theorem oth_make {rows : List (List UInt8)} (p i : Nat) (e l : List UInt8) (hi : i + 2 ≤ rows.length) : Oth S ((rows.set i e).set (i + 1) blank) ⟨p, i, 0, 1, l⟩ := by
  intro t' x' hd
  simp only [Nat.sub_zero] at hd
  rw [List.getD_eq_getElem?_getD, List.getElem?_set_self (by simp; omega)] at hd
  simp only [Option.getD_some] at hd
  rw [S.decBlank] at hd; cases hd
end

end Go.Proofs.YtpaadllbmhbnhaaDoor
