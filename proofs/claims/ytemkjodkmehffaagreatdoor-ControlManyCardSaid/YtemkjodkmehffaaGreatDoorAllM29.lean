/-
  Dv, SuperIf, SuperLocs, MsSame: texts of mine, joined.
-/
import Derived.Test.YtemkjodkmehffaaGreatDoorAllM28
import Derived.Test.YtemkjodkmehffaaGreatDoorAllM18
import Derived.Test.YtemkjodkmehffaaGreatDoorAllM01
import Derived.IntWalk
import Derived.Test.YtemkjodkmehffaaGreatDoorAllM06
import Derived.Test.YtemkjodkmehffaaGreatDoorAllM16
import Derived.BigQuiet
import Derived.Deep.CutRange
namespace Go.Proofs.YtemkjodkmehffaaGreatDoor
open Go Go.RowKit Go.Joins
def SDev.still (rows : List (List UInt8)) (n : Nat) : SDev := ⟨rows, rows, List.replicate rows.length false, n⟩
theorem still_loose (rows : List (List UInt8)) (n : Nat) : (SDev.still rows n).loose = [] := clear_loose _ rows.length rfl
theorem still_crash (rows : List (List UInt8)) (n : Nat) (keep : List Bool) : (SDev.still rows n).crash keep = SDev.still rows 0 := by
 have h : keptN (SDev.still rows n) keep (min (SDev.still rows n).loose.length keep.length) = rows := by rw [still_loose]; simp [keptN_zero, SDev.still]
 unfold SDev.crash
 rw [h]; rfl
theorem new_still (k : Nat) : SDev.new k = SDev.still (List.replicate k blank) 0 := by simp [SDev.new, SDev.still]
structure Dv (W w : World) (p : Nat) (F : Foot) (s : SDev) : Prop where
 d : DAt w p F s
 gd : ∀ b, F.all b → W.heap.size ≤ b
 kp : Keeps (fun _ => True) W w
section
variable {W w w' : World} {p q : Nat} {F F' Fs Fs' : Foot} {s s' : SDev}
theorem Dv.keep (h : Dv W w p F s) (hk : Keeps (fun _ => True) w w') : Dv W w' p F s := ⟨h.d.keep (hk.mono fun _ _ _ => trivial), h.gd, h.kp.trans hk⟩
theorem Dv.step (h : Dv W w p F s) (hr : DAt w' p F' s') (hs : Step F F' w w') : Dv W w' p F' s' :=
 ⟨hr, fun b hb => by
  rcases hs.all b hb with h1 | h1
  ·exact h.gd b h1
  ·exact Nat.le_trans h.kp.size h1, hs.old (fun b hb => h.gd b (.inl hb)) h.kp⟩
theorem dv_new (hk : Keeps (fun _ => True) W w) (n : Nat) (h1 : 1 ≤ n) (h2 : n ≤ 2048) (z : Int) (hz : z = (n : Int)) :
  Calls Tryz.prog 9 #[.int .i64 z] w fun e w' => ∃ p F, e = .returned (.pointer (some ⟨p, 0, none⟩)) ∧ Dv W w' p F (SDev.still (List.replicate n blank) 0) ∧ (∀ b, F.all b → w.heap.size ≤ b) ∧ Keeps (fun _ => True) w w' := by
 subst hz
 refine (dnew_any w (n : Int) (by omega) (by omega)).mono ?_
 rintro e w' ⟨p, F, rfl, hD, hF, hk'⟩
 have e : clampN (n : Int) = n := by unfold clampN; omega
 rw [e, new_still] at hD
 exact ⟨p, F, rfl, ⟨hD, fun b hb => Nat.le_trans hk.size (hF b hb), hk.trans hk'⟩, hF, hk'⟩
end
structure SSt where
 dev : Nat
 place : Nat
 which : Nat
 turn : Nat
 text : List UInt8
structure SupOK where
 T : World → Prop
 tk : ∀ {w w' : World}, T w → Keeps (fun _ => True) w w' → T w'
 enc : Nat → List UInt8 → List UInt8
 dec : List UInt8 → Option (Nat × List UInt8)
 decEnc : ∀ (t : Nat) (x : List UInt8), x.length ≤ 40 → 1 ≤ t → t ≤ 1099511627776 → dec (enc t x) = some (t, x)
 decBlank : dec blank = none
 rep : World → Nat → Foot → SSt → Prop
 wf : ∀ {w q F st}, rep w q F st → st.which ≤ 1 ∧ 1 ≤ st.turn ∧ st.text.length ≤ 40
 lt : ∀ {w q F st}, rep w q F st → ∀ b, F.all b → b < w.heap.size
 keep : ∀ {w w' q F st}, rep w q F st → Keeps F.all w w' → rep w' q F st
 make : ∀ (W w : World) (p : Nat) (F : Foot) (s : SDev), DAt w p F s → T W → Keeps (fun _ => True) W w → (∀ b, F.all b → W.heap.size ≤ b) → ∀ (i : Nat) (A : Option Addr) (c : Nat) (G : Nat → Prop) (l : List UInt8), i + 2 ≤ s.now.length → Row w A G (bcells l) → (∀ b, G b → ¬ F.all b) → l.length ≤ c → c ≤ maxLen → (A = none → c = 0) → l.length ≤ 40 → s.calls ≤ 549755813888 →
  Calls Tryz.prog 27 #[.pointer (some ⟨p, 0, none⟩), .int .i64 i, .slice A l.length c] w fun e w' => ∃ (q : Nat) (F' Fs : Foot) (n : Nat), e = .returned (.tuple #[.pointer (some ⟨q, 0, none⟩), .int .i64 0]) ∧
   DAt w' p F' (SDev.still ((s.now.set i (enc 1 l)).set (i + 1) blank) n) ∧ n ≤ s.calls + 100 ∧ rep w' q Fs ⟨p, i, 0, 1, l⟩ ∧ Step F F' w w' ∧ (∀ b, Fs.all b → w.heap.size ≤ b) ∧ Apart F' Fs
 open_ : ∀ (w : World) (p : Nat) (F : Foot) (s : SDev), DAt w p F s → T w → ∀ (i k t : Nat) (x : List UInt8), i + 2 ≤ s.now.length → k ≤ 1 → dec (s.now.getD (i + k) []) = some (t, x) → (∀ t' x', dec (s.now.getD (i + (1 - k)) []) = some (t', x') → t' < t) → t ≤ 549755813888 →
  Calls Tryz.prog 29 #[.pointer (some ⟨p, 0, none⟩), .int .i64 i] w fun e w' => ∃ (q : Nat) (Fs : Foot), e = .returned (.tuple #[.pointer (some ⟨q, 0, none⟩), .int .i64 0]) ∧ rep w' q Fs ⟨p, i, k, t, x⟩ ∧ (∀ b, Fs.all b → w.heap.size ≤ b) ∧ Keeps (fun _ => True) w w'
 save : ∀ (W w : World) (p q : Nat) (F Fs : Foot) (s : SDev) (st : SSt), DAt w p F s → rep w q Fs st → st.dev = p → Apart F Fs → T W → Keeps (fun _ => True) W w → (∀ b, F.all b → W.heap.size ≤ b) → st.place + 2 ≤ s.now.length → s.now.getD (st.place + st.which) [] = enc st.turn st.text → s.calls ≤ 549755813888 → st.turn ≤ 549755813888 →
  ∀ (A : Option Addr) (c : Nat) (G : Nat → Prop) (l : List UInt8), Row w A G (bcells l) → (∀ b, G b → ¬ F.all b) → (∀ b, G b → ¬ Fs.all b) → l.length ≤ c → c ≤ maxLen → (A = none → c = 0) → l.length ≤ 40 →
  Calls Tryz.prog 54 #[.pointer (some ⟨q, 0, none⟩), .slice A l.length c] w fun e w' => e = .returned (.int .i64 0) ∧ ∃ (F' Fs' : Foot) (n : Nat), DAt w' p F' (SDev.still (s.now.set (st.place + (1 - st.which)) (enc (st.turn + 1) l)) n) ∧ n ≤ s.calls + 100 ∧ rep w' q Fs' ⟨p, st.place, 1 - st.which, st.turn + 1, l⟩ ∧
   Apart F' Fs' ∧ Keeps (fun b => ¬ F.M b ∧ ¬ Fs.M b) w w' ∧ (∀ b, F'.M b → F.M b ∨ w.heap.size ≤ b) ∧ (∀ b, F'.I b → F.all b ∨ w.heap.size ≤ b) ∧ (∀ b, Fs'.M b → Fs.M b ∨ w.heap.size ≤ b) ∧ (∀ b, Fs'.I b → Fs.all b ∨ w.heap.size ≤ b)
structure Duo (S : SupOK) (W w : World) (p q : Nat) (F Fs : Foot) (s : SDev) (st : SSt) : Prop where
 dv : Dv W w p F s
 su : S.rep w q Fs st
 ap : Apart F Fs
 gs : ∀ b, Fs.all b → W.heap.size ≤ b
 on : st.dev = p
 room : st.place + 2 ≤ s.now.length
 sec : s.now.getD (st.place + st.which) [] = S.enc st.turn st.text
section
variable {S : SupOK} {W w w' : World} {p q : Nat} {F F' Fs Fs' : Foot} {s s' : SDev} {st : SSt}
theorem Duo.keep (h : Duo S W w p q F Fs s st) (hk : Keeps (fun _ => True) w w') : Duo S W w' p q F Fs s st :=
 ⟨h.dv.keep hk, S.keep h.su (hk.mono fun _ _ _ => trivial), h.ap, h.gs, h.on, h.room, h.sec⟩
theorem duo_make (S : SupOK) (hT : S.T W) (h : Dv W w p F s) (i : Nat) (z : Int) (hz : z = (i : Int)) (A : Option Addr) (c : Nat) (l : List UInt8) (n : Nat) (hn : n = l.length) (hi : i + 2 ≤ s.now.length) (hr : Row w A (fun b => ¬ F.all b) (bcells l)) (hlc : l.length ≤ c) (hc : c ≤ maxLen) (hA : A = none → c = 0) (hl : l.length ≤ 40) (hcalls : s.calls ≤ 549755813888) :
  Calls Tryz.prog 27 #[.pointer (some ⟨p, 0, none⟩), .int .i64 z, .slice A n c] w fun e w' => ∃ (q : Nat) (F' Fs : Foot) (k : Nat), e = .returned (.tuple #[.pointer (some ⟨q, 0, none⟩), .int .i64 0]) ∧
   Duo S W w' p q F' Fs (SDev.still ((s.now.set i (S.enc 1 l)).set (i + 1) blank) k) ⟨p, i, 0, 1, l⟩ ∧ k ≤ s.calls + 100 ∧ Step F F' w w' ∧ ∀ b, Fs.all b → w.heap.size ≤ b := by
 subst hz; subst hn
 refine (S.make W w p F s h.d hT h.kp h.gd i A c _ l hi hr (fun b hb => hb) hlc hc hA hl hcalls).mono ?_
 rintro e w' ⟨q, F', Fs, k, rfl, hD, hk, hS, hst, hFs, hap⟩
 refine ⟨q, F', Fs, k, rfl, ⟨h.step hD hst, hS, hap, fun b hb => Nat.le_trans h.kp.size (hFs b hb), rfl, ?_, ?_⟩, hk, hst, hFs⟩
 ·simpa [SDev.still] using hi
 ·show ((s.now.set i (S.enc 1 l)).set (i + 1) blank).getD i [] = S.enc 1 l
  rw [List.getD_eq_getElem?_getD, List.getElem?_set_ne (by omega), List.getElem?_set_self (by omega)]; rfl
theorem duo_save (hT : S.T W) (h : Duo S W w p q F Fs s st) (A : Option Addr) (c : Nat) (l : List UInt8) (n : Nat) (hn : n = l.length) (hr : Row w A (fun b => ¬ F.all b ∧ ¬ Fs.all b) (bcells l)) (hlc : l.length ≤ c) (hc : c ≤ maxLen) (hA : A = none → c = 0) (hl : l.length ≤ 40) (hcalls : s.calls ≤ 549755813888) (ht : st.turn ≤ 549755813888) :
  Calls Tryz.prog 54 #[.pointer (some ⟨q, 0, none⟩), .slice A n c] w fun e w' => e = .returned (.int .i64 0) ∧ ∃ (F' Fs' : Foot) (k : Nat), Duo S W w' p q F' Fs' (SDev.still (s.now.set (st.place + (1 - st.which)) (S.enc (st.turn + 1) l)) k) ⟨p, st.place, 1 - st.which, st.turn + 1, l⟩ ∧ k ≤ s.calls + 100 ∧
   Keeps (fun b => ¬ F.M b ∧ ¬ Fs.M b) w w' ∧ (∀ b, F'.M b → F.M b ∨ w.heap.size ≤ b) ∧ (∀ b, F'.I b → F.all b ∨ w.heap.size ≤ b) ∧ (∀ b, Fs'.M b → Fs.M b ∨ w.heap.size ≤ b) ∧ (∀ b, Fs'.I b → Fs.all b ∨ w.heap.size ≤ b) := by
 subst hn
 refine (S.save W w p q F Fs s st h.dv.d h.su h.on h.ap hT h.dv.kp h.dv.gd h.room h.sec hcalls ht A c _ l hr (fun b hb => hb.1) (fun b hb => hb.2) hlc hc hA hl).mono ?_
 rintro e w' ⟨rfl, F', Fs', k, hD, hk, hS, hap, hkp, f1, f2, f3, f4⟩
 have hsz := h.dv.kp.size
 refine ⟨rfl, F', Fs', k, ⟨⟨hD, fun b hb => ?_, ?_⟩, hS, hap, fun b hb => ?_, rfl, by simpa [SDev.still] using h.room, ?_⟩, hk, hkp, f1, f2, f3, f4⟩
 ·rcases hb with hb | hb
  ·rcases f1 b hb with h1 | h1
   ·exact h.dv.gd b (.inl h1)
   ·omega
  ·rcases f2 b hb with h1 | h1
   ·exact h.dv.gd b h1
   ·omega
 ·exact ⟨hkp.os.trans h.dv.kp.os, hkp.tape.trans h.dv.kp.tape, hkp.output.trans h.dv.kp.output, Nat.le_trans hsz hkp.size, fun b _ hb =>
   (hkp.block b ⟨fun hm => by have := h.dv.gd b (.inl hm); omega, fun hm => by have := h.gs b (.inl hm); omega⟩ (by omega)).trans (h.dv.kp.block b trivial hb)⟩
 ·rcases hb with hb | hb
  ·rcases f3 b hb with h1 | h1
   ·exact h.gs b (.inl h1)
   ·omega
  ·rcases f4 b hb with h1 | h1
   ·exact h.gs b h1
   ·omega
 ·have hw := (S.wf h.su).1
  have hrm := h.room
  show (s.now.set (st.place + (1 - st.which)) (S.enc (st.turn + 1) l)).getD (st.place + (1 - st.which)) [] = _
  rw [List.getD_eq_getElem?_getD, List.getElem?_set_self (by omega)]; rfl
theorem duo_open (S : SupOK) (hT : S.T W) (h : Dv W w p F s) (i k t : Nat) (x : List UInt8) (z : Int) (hz : z = (i : Int)) (hi : i + 2 ≤ s.now.length) (hk1 : k ≤ 1) (hx : x.length ≤ 40) (ht1 : 1 ≤ t) (h1 : s.now.getD (i + k) [] = S.enc t x) (h2 : ∀ t' x', S.dec (s.now.getD (i + (1 - k)) []) = some (t', x') → t' < t) (ht : t ≤ 549755813888) :
  Calls Tryz.prog 29 #[.pointer (some ⟨p, 0, none⟩), .int .i64 z] w fun e w' => ∃ (q : Nat) (Fs : Foot), e = .returned (.tuple #[.pointer (some ⟨q, 0, none⟩), .int .i64 0]) ∧ Duo S W w' p q F Fs s ⟨p, i, k, t, x⟩ ∧ (∀ b, Fs.all b → w.heap.size ≤ b) ∧ Keeps (fun _ => True) w w' := by
 subst hz
 refine (S.open_ w p F s h.d (S.tk hT h.kp) i k t x hi hk1 (by rw [h1]; exact S.decEnc t x hx ht1 (by omega)) h2 ht).mono ?_
 rintro e w' ⟨q, Fs, rfl, hS, hF, hk⟩
 exact ⟨q, Fs, rfl, ⟨h.keep hk, hS, ⟨fun b hb hs => by have := hF b hs; have := h.d.lt b (.inl hb); omega, fun b hb hf => by have := hF b (.inl hb); have := h.d.lt b hf; omega⟩, fun b hb => Nat.le_trans h.kp.size (hF b hb), rfl, hi, h1⟩, hF, hk⟩
end
def Oth (S : SupOK) (rows : List (List UInt8)) (st : SSt) : Prop := ∀ t' x', S.dec (rows.getD (st.place + (1 - st.which)) []) = some (t', x') → t' < st.turn
section
variable {S : SupOK}
theorem oth_save {rows : List (List UInt8)} {st : SSt} (p : Nat) (e l : List UInt8) (hw : st.which ≤ 1) (h1 : 1 ≤ st.turn) (hx : st.text.length ≤ 40) (ht : st.turn ≤ 1099511627776) (hs : rows.getD (st.place + st.which) [] = S.enc st.turn st.text) :
  Oth S (rows.set (st.place + (1 - st.which)) e) ⟨p, st.place, 1 - st.which, st.turn + 1, l⟩ := by
 intro t' x' hd
 have e1 : st.place + (1 - (1 - st.which)) = st.place + st.which := by omega
 simp only [e1] at hd
 rw [List.getD_eq_getElem?_getD, List.getElem?_set_ne (by omega), ← List.getD_eq_getElem?_getD, hs, S.decEnc _ _ hx h1 ht] at hd
 injection hd with hd
 injection hd with hd _
 show t' < st.turn + 1
 omega
theorem oth_make {rows : List (List UInt8)} (p i : Nat) (e l : List UInt8) (hi : i + 2 ≤ rows.length) : Oth S ((rows.set i e).set (i + 1) blank) ⟨p, i, 0, 1, l⟩ := by
 intro t' x' hd
 simp only [Nat.sub_zero] at hd
 rw [List.getD_eq_getElem?_getD, List.getElem?_set_self (by simp; omega)] at hd
 simp only [Option.getD_some] at hd
 rw [S.decBlank] at hd; cases hd
end
end Go.Proofs.YtemkjodkmehffaaGreatDoor
namespace Go.Proofs.YtemkjodkmehffaaGreatDoor
open Go Go.RowKit
section
variable {o : Oper} {a : Act} {w : World} {Q : Exit → Act → World → Prop} {x y : Operand}
theorem one_enter {P : Program} {X : World → Value → Prop} {f : FuncId} {args : Array Value} {C : Ending → World → Prop} (e : (execOp a.eval o).run P w = .ok (.enter f args) w) (hc : Calls P f args w C)
  (hC : ∀ e w', C e w' → ∃ v, e = .returned v ∧ X w' v) : o.wp P a w (fun a' w' => ∃ v, a' = a.put o.dst v ∧ X w' v) Q := by
 unfold Oper.wp
 rw [e]
 refine hc.mono fun e w' h => ?_
 obtain ⟨v, rfl, hv⟩ := hC e w' h
 exact ⟨v, rfl, hv⟩
end
end Go.Proofs.YtemkjodkmehffaaGreatDoor
namespace Go.Proofs.YtemkjodkmehffaaGreatDoor
open Go Go.RowKit Go.Joins
theorem take_eqL {α : Type} {l m : List α} {k : Nat} (h : l.take k = m.take k) (hl : k < l.length) (hm : k < m.length) (e : l[k] = m[k]) : l.take (k + 1) = m.take (k + 1) := by
 rw [List.take_succ_eq_append_getElem hl, List.take_succ_eq_append_getElem hm, h, e]
set_option maxRecDepth 100000 in
set_option maxHeartbeats 1000000 in
theorem same_ints (w : World) (A B : Option Addr) (c d : Nat) (l m : List Int) (hA : Row w A (fun _ => True) (l.map (Value.int .i64))) (hB : Row w B (fun _ => True) (m.map (Value.int .i64))) (hl : l.length ≤ c) (_hm : m.length ≤ d) (hc : c ≤ maxLen) (_hd : d ≤ maxLen) (r : Bool) (hr : decide (l = m) = r) :
  Calls Tryz.prog 71 #[.slice A l.length c, .slice B m.length d] w fun e w' => e = .returned (.bool r) ∧ Kp w w' := by
 unfold maxLen at hc _hd
 have HA := Lib.hid hA
 have HB := Lib.hid hB
 clear hA hB
 by_cases hlen : l.length = m.length
 ·have HR := Lib.hid hr
  have HL := Lib.hid hlen
  rw [← hlen] at _hm ⊢
  clear hr hlen
  go_enter Tryz.func71, Tryz.ntmps71
  go_wp2_with fail
  go_loopw [13] (fun i wr => ∃ k : Nat, k ≤ l.length ∧ i = .int .i64 (k : Int) ∧ Hid (l.take k = m.take k) ∧ Hid (Kp w wr)) (fun i _ => l.length - (intOf i).toNat)
  case atStart => exact ⟨0, Nat.zero_le _, rfl, Lib.hid rfl, Lib.hid (Keeps.refl _ _)⟩
  case round =>
   obtain ⟨k, hk, rfl, HT, HK⟩ := hrel
   by_cases hlt : k < l.length
   ·have hlt' : (k : Int) < (l.length : Int) := by omega
    have hlm : k < m.length := by have := HL.out; omega
    have HN := Lib.hid (take_eqL HT.out hlt hlm)
    have HNE := Lib.hid (show l[k] ≠ m[k] → r = false from fun hne => by
     rw [← HR.out]
     simp only [decide_eq_false_iff_not]
     intro e; subst e; exact hne rfl)
    obtain ⟨b, o, rfl, -, c0⟩ := (HA.out.keep HK.out).at_ (k := k) (by simpa using hlt)
    obtain ⟨b', o', rfl, -, d0⟩ := (HB.out.keep HK.out).at_ (k := k) (by simpa using hlm)
    rw [List.getElem_map] at c0 d0
    generalize l[k] = x at c0 HN HNE
    generalize m[k] = y at d0 HN HNE
    have hcs : x = y ∨ x ≠ y := Classical.em _
    clear hlm
    rcases hcs with rfl | hne
    ·have HN' := Lib.hid (HN.out rfl)
     clear HN HNE HT
     go_wp2_with fail
     go_quiet (fail)
     go_wp2_with fail
     go_roundw
     case rel => exact ⟨k + 1, hlt, by go_num, HN', Lib.hid (HK.out.drewN _)⟩
     case measure => simp [intOf]; omega
    ·have HNE' := Lib.hid (HNE.out (hne))
     clear HN HNE HT
     go_wp2_with fail
     go_quiet (fail)
     go_wp2_with fail
     go_ret
     exact ⟨by rw [HNE'.out]; rfl, HK.out.drewN _⟩
   ·obtain rfl : k = l.length := by omega
    have hlt' : ¬ ((l.length : Int) < (l.length : Int)) := by omega
    have he : r = true := by
     have h1 := HT.out
     rw [List.take_of_length_le (Nat.le_refl _), List.take_of_length_le (by have := HL.out; omega)] at h1
     rw [← HR.out, h1]; simp
    have HE := Lib.hid he
    clear he hlt
    go_wp2_with fail
    go_ret
    exact ⟨by rw [HE.out]; rfl, HK.out⟩
 ·have t0 : ((l.length : Int) != (m.length : Int)) = true := bne_iff_ne.2 (by omega)
  have he : r = false := by
   rw [← hr]
   simp only [decide_eq_false_iff_not]
   intro e; exact hlen (by rw [e])
  subst he
  clear hr
  go_enter Tryz.func71, Tryz.ntmps71
  go_wp2_with fail
  go_ret
  exact ⟨rfl, Keeps.refl _ _⟩
end Go.Proofs.YtemkjodkmehffaaGreatDoor
