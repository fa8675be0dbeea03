/-
  SuperIf, SuperLocs, SlogIf, Slog2, IxLib: texts of mine, joined.
-/
import Derived.Test.YticophaepapjoaaGreatDoorAllA15
import Derived.Test.YticophaepapjoaaGreatDoorAllA09
import Derived.IntWalk
import Derived.Test.YticophaepapjoaaGreatDoorAllA05
import Derived.Test.YticophaepapjoaaGreatDoorAllA08
import Derived.Lib.SmallJoins
import Derived.Test.YticophaepapjoaaGreatDoorAllA11
import Derived.Sort.OwnSorted
import Derived.Lib.Hide
import Derived.WalkKit
namespace Go.Proofs.YticophaepapjoaaGreatDoor
open Go Go.RowKit Go.Joins
structure SSt where
 dev : Nat
 place : Nat
 which : Nat
 turn : Nat
 text : List UInt8
structure SupOK where
 T : World → Prop
 tk : ∀ {w w' : World}, T w → Keeps (fun _ => True) w w' → T w'
 enc : Nat → List UInt8 → List UInt8
 dec : List UInt8 → Option (Nat × List UInt8)
 encLen : ∀ (t : Nat) (x : List UInt8), x.length ≤ 40 → 1 ≤ t → t ≤ 1099511627776 → (enc t x).length = 64
 decEnc : ∀ (t : Nat) (x : List UInt8), x.length ≤ 40 → 1 ≤ t → t ≤ 1099511627776 → dec (enc t x) = some (t, x)
 decBlank : dec blank = none
 decBad : ∀ (t : Nat) (x : List UInt8) (i : Nat) (b : UInt8), x.length ≤ 40 → 1 ≤ t → t ≤ 1099511627776 → i < 64 → b ≠ 0 → dec ((enc t x).set i ((enc t x).getD i 0 ^^^ b)) = none
 rep : World → Nat → Foot → SSt → Prop
 wf : ∀ {w q F st}, rep w q F st → st.which ≤ 1 ∧ 1 ≤ st.turn ∧ st.text.length ≤ 40
 lt : ∀ {w q F st}, rep w q F st → ∀ b, F.all b → b < w.heap.size
 keep : ∀ {w w' q F st}, rep w q F st → Keeps F.all w w' → rep w' q F st
 make : ∀ (W w : World) (p : Nat) (F : Foot) (s : SDev), DAt w p F s → T W → Keeps (fun _ => True) W w → (∀ b, F.all b → W.heap.size ≤ b) → ∀ (i : Nat) (A : Option Addr) (c : Nat) (G : Nat → Prop) (l : List UInt8), i + 2 ≤ s.now.length → Row w A G (bcells l) → (∀ b, G b → ¬ F.all b) → l.length ≤ c → c ≤ maxLen → (A = none → c = 0) → l.length ≤ 40 → s.calls ≤ 549755813888 →
  Calls Tryz.prog 65 #[.pointer (some ⟨p, 0, none⟩), .int .i64 i, .slice A l.length c] w fun e w' => ∃ (q : Nat) (F' Fs : Foot) (n : Nat), e = .returned (.tuple #[.pointer (some ⟨q, 0, none⟩), .int .i64 0]) ∧
   DAt w' p F' (SDev.still ((s.now.set i (enc 1 l)).set (i + 1) blank) n) ∧ n ≤ s.calls + 100 ∧ rep w' q Fs ⟨p, i, 0, 1, l⟩ ∧ Step F F' w w' ∧ (∀ b, Fs.all b → w.heap.size ≤ b) ∧ Apart F' Fs
 open_ : ∀ (w : World) (p : Nat) (F : Foot) (s : SDev), DAt w p F s → T w → ∀ (i k t : Nat) (x : List UInt8), i + 2 ≤ s.now.length → k ≤ 1 → dec (s.now.getD (i + k) []) = some (t, x) → (∀ t' x', dec (s.now.getD (i + (1 - k)) []) = some (t', x') → t' < t) → t ≤ 549755813888 →
  Calls Tryz.prog 82 #[.pointer (some ⟨p, 0, none⟩), .int .i64 i] w fun e w' => ∃ (q : Nat) (Fs : Foot), e = .returned (.tuple #[.pointer (some ⟨q, 0, none⟩), .int .i64 0]) ∧ rep w' q Fs ⟨p, i, k, t, x⟩ ∧ (∀ b, Fs.all b → w.heap.size ≤ b) ∧ Keeps (fun _ => True) w w'
 openBad : ∀ (w : World) (p : Nat) (F : Foot) (s : SDev), DAt w p F s → T w → ∀ i : Nat, i + 2 ≤ s.now.length → dec (s.now.getD i []) = none → dec (s.now.getD (i + 1) []) = none →
  Calls Tryz.prog 82 #[.pointer (some ⟨p, 0, none⟩), .int .i64 i] w fun e w' => e = .returned (.tuple #[.pointer none, .int .i64 3]) ∧ Keeps (fun _ => True) w w'
 save : ∀ (W w : World) (p q : Nat) (F Fs : Foot) (s : SDev) (st : SSt), DAt w p F s → rep w q Fs st → st.dev = p → Apart F Fs → T W → Keeps (fun _ => True) W w → (∀ b, F.all b → W.heap.size ≤ b) → st.place + 2 ≤ s.now.length → s.now.getD (st.place + st.which) [] = enc st.turn st.text → s.calls ≤ 549755813888 → st.turn ≤ 549755813888 →
  ∀ (A : Option Addr) (c : Nat) (G : Nat → Prop) (l : List UInt8), Row w A G (bcells l) → (∀ b, G b → ¬ F.all b) → (∀ b, G b → ¬ Fs.all b) → l.length ≤ c → c ≤ maxLen → (A = none → c = 0) → l.length ≤ 40 →
  Calls Tryz.prog 50 #[.pointer (some ⟨q, 0, none⟩), .slice A l.length c] w fun e w' => e = .returned (.int .i64 0) ∧ ∃ (F' Fs' : Foot) (n : Nat), DAt w' p F' (SDev.still (s.now.set (st.place + (1 - st.which)) (enc (st.turn + 1) l)) n) ∧ n ≤ s.calls + 100 ∧ rep w' q Fs' ⟨p, st.place, 1 - st.which, st.turn + 1, l⟩ ∧
   Apart F' Fs' ∧ Keeps (fun b => ¬ F.M b ∧ ¬ Fs.M b) w w' ∧ (∀ b, F'.M b → F.M b ∨ w.heap.size ≤ b) ∧ (∀ b, F'.I b → F.all b ∨ w.heap.size ≤ b) ∧ (∀ b, Fs'.M b → Fs.M b ∨ w.heap.size ≤ b) ∧ (∀ b, Fs'.I b → Fs.all b ∨ w.heap.size ≤ b)
 text : ∀ (w : World) (p q : Nat) (F Fs : Foot) (s : SDev) (st : SSt), DAt w p F s → rep w q Fs st → st.dev = p → T w → st.place + 2 ≤ s.now.length → s.now.getD (st.place + st.which) [] = enc st.turn st.text →
  Calls Tryz.prog 84 #[.pointer (some ⟨q, 0, none⟩)] w fun e w' => ∃ A c, e = .returned (.slice A st.text.length c) ∧ Row w' A (fun b => w.heap.size ≤ b ∧ b < w'.heap.size) (bcells st.text) ∧ Keeps (fun _ => True) w w'
structure Duo (S : SupOK) (W w : World) (p q : Nat) (F Fs : Foot) (s : SDev) (st : SSt) : Prop where
 dv : Dv W w p F s
 su : S.rep w q Fs st
 ap : Apart F Fs
 gs : ∀ b, Fs.all b → W.heap.size ≤ b
 on : st.dev = p
 room : st.place + 2 ≤ s.now.length
 sec : s.now.getD (st.place + st.which) [] = S.enc st.turn st.text
section
variable {S : SupOK} {W w w' : World} {p q : Nat} {F F' Fs Fs' : Foot} {s s' : SDev} {st : SSt}
theorem Duo.keep (h : Duo S W w p q F Fs s st) (hk : Keeps (fun _ => True) w w') : Duo S W w' p q F Fs s st :=
 ⟨h.dv.keep hk, S.keep h.su (hk.mono fun _ _ _ => trivial), h.ap, h.gs, h.on, h.room, h.sec⟩
theorem duo_make (S : SupOK) (hT : S.T W) (h : Dv W w p F s) (i : Nat) (z : Int) (hz : z = (i : Int)) (A : Option Addr) (c : Nat) (l : List UInt8) (n : Nat) (hn : n = l.length) (hi : i + 2 ≤ s.now.length) (hr : Row w A (fun b => ¬ F.all b) (bcells l)) (hlc : l.length ≤ c) (hc : c ≤ maxLen) (hA : A = none → c = 0) (hl : l.length ≤ 40) (hcalls : s.calls ≤ 549755813888) :
  Calls Tryz.prog 65 #[.pointer (some ⟨p, 0, none⟩), .int .i64 z, .slice A n c] w fun e w' => ∃ (q : Nat) (F' Fs : Foot) (k : Nat), e = .returned (.tuple #[.pointer (some ⟨q, 0, none⟩), .int .i64 0]) ∧
   Duo S W w' p q F' Fs (SDev.still ((s.now.set i (S.enc 1 l)).set (i + 1) blank) k) ⟨p, i, 0, 1, l⟩ ∧ k ≤ s.calls + 100 ∧ Step F F' w w' ∧ ∀ b, Fs.all b → w.heap.size ≤ b := by
 subst hz; subst hn
 refine (S.make W w p F s h.d hT h.kp h.gd i A c _ l hi hr (fun b hb => hb) hlc hc hA hl hcalls).mono ?_
 rintro e w' ⟨q, F', Fs, k, rfl, hD, hk, hS, hst, hFs, hap⟩
 refine ⟨q, F', Fs, k, rfl, ⟨h.step hD hst, hS, hap, fun b hb => Nat.le_trans h.kp.size (hFs b hb), rfl, ?_, ?_⟩, hk, hst, hFs⟩
 ·simpa [SDev.still] using hi
 ·show ((s.now.set i (S.enc 1 l)).set (i + 1) blank).getD i [] = S.enc 1 l
  rw [List.getD_eq_getElem?_getD, List.getElem?_set_ne (by omega), List.getElem?_set_self (by omega)]; rfl
theorem duo_save (hT : S.T W) (h : Duo S W w p q F Fs s st) (A : Option Addr) (c : Nat) (l : List UInt8) (n : Nat) (hn : n = l.length) (hr : Row w A (fun b => ¬ F.all b ∧ ¬ Fs.all b) (bcells l)) (hlc : l.length ≤ c) (hc : c ≤ maxLen) (hA : A = none → c = 0) (hl : l.length ≤ 40) (hcalls : s.calls ≤ 549755813888) (ht : st.turn ≤ 549755813888) :
  Calls Tryz.prog 50 #[.pointer (some ⟨q, 0, none⟩), .slice A n c] w fun e w' => e = .returned (.int .i64 0) ∧ ∃ (F' Fs' : Foot) (k : Nat), Duo S W w' p q F' Fs' (SDev.still (s.now.set (st.place + (1 - st.which)) (S.enc (st.turn + 1) l)) k) ⟨p, st.place, 1 - st.which, st.turn + 1, l⟩ ∧ k ≤ s.calls + 100 ∧
   Keeps (fun b => ¬ F.M b ∧ ¬ Fs.M b) w w' ∧ (∀ b, F'.M b → F.M b ∨ w.heap.size ≤ b) ∧ (∀ b, F'.I b → F.all b ∨ w.heap.size ≤ b) ∧ (∀ b, Fs'.M b → Fs.M b ∨ w.heap.size ≤ b) ∧ (∀ b, Fs'.I b → Fs.all b ∨ w.heap.size ≤ b) := by
 subst hn
 refine (S.save W w p q F Fs s st h.dv.d h.su h.on h.ap hT h.dv.kp h.dv.gd h.room h.sec hcalls ht A c _ l hr (fun b hb => hb.1) (fun b hb => hb.2) hlc hc hA hl).mono ?_
 rintro e w' ⟨rfl, F', Fs', k, hD, hk, hS, hap, hkp, f1, f2, f3, f4⟩
 have hsz := h.dv.kp.size
 refine ⟨rfl, F', Fs', k, ⟨⟨hD, fun b hb => ?_, ?_⟩, hS, hap, fun b hb => ?_, rfl, by simpa [SDev.still] using h.room, ?_⟩, hk, hkp, f1, f2, f3, f4⟩
 ·rcases hb with hb | hb
  ·rcases f1 b hb with h1 | h1
   ·exact h.dv.gd b (.inl h1)
   ·omega
  ·rcases f2 b hb with h1 | h1
   ·exact h.dv.gd b h1
   ·omega
 ·exact ⟨hkp.os.trans h.dv.kp.os, hkp.tape.trans h.dv.kp.tape, hkp.output.trans h.dv.kp.output, Nat.le_trans hsz hkp.size, fun b _ hb =>
   (hkp.block b ⟨fun hm => by have := h.dv.gd b (.inl hm); omega, fun hm => by have := h.gs b (.inl hm); omega⟩ (by omega)).trans (h.dv.kp.block b trivial hb)⟩
 ·rcases hb with hb | hb
  ·rcases f3 b hb with h1 | h1
   ·exact h.gs b (.inl h1)
   ·omega
  ·rcases f4 b hb with h1 | h1
   ·exact h.gs b h1
   ·omega
 ·have hw := (S.wf h.su).1
  have hrm := h.room
  show (s.now.set (st.place + (1 - st.which)) (S.enc (st.turn + 1) l)).getD (st.place + (1 - st.which)) [] = _
  rw [List.getD_eq_getElem?_getD, List.getElem?_set_self (by omega)]; rfl
theorem duo_open (S : SupOK) (hT : S.T W) (h : Dv W w p F s) (i k t : Nat) (x : List UInt8) (z : Int) (hz : z = (i : Int)) (hi : i + 2 ≤ s.now.length) (hk1 : k ≤ 1) (hx : x.length ≤ 40) (ht1 : 1 ≤ t) (h1 : s.now.getD (i + k) [] = S.enc t x) (h2 : ∀ t' x', S.dec (s.now.getD (i + (1 - k)) []) = some (t', x') → t' < t) (ht : t ≤ 549755813888) :
  Calls Tryz.prog 82 #[.pointer (some ⟨p, 0, none⟩), .int .i64 z] w fun e w' => ∃ (q : Nat) (Fs : Foot), e = .returned (.tuple #[.pointer (some ⟨q, 0, none⟩), .int .i64 0]) ∧ Duo S W w' p q F Fs s ⟨p, i, k, t, x⟩ ∧ (∀ b, Fs.all b → w.heap.size ≤ b) ∧ Keeps (fun _ => True) w w' := by
 subst hz
 refine (S.open_ w p F s h.d (S.tk hT h.kp) i k t x hi hk1 (by rw [h1]; exact S.decEnc t x hx ht1 (by omega)) h2 ht).mono ?_
 rintro e w' ⟨q, Fs, rfl, hS, hF, hk⟩
 exact ⟨q, Fs, rfl, ⟨h.keep hk, hS, ⟨fun b hb hs => by have := hF b hs; have := h.d.lt b (.inl hb); omega, fun b hb hf => by have := hF b (.inl hb); have := h.d.lt b hf; omega⟩, fun b hb => Nat.le_trans h.kp.size (hF b hb), rfl, hi, h1⟩, hF, hk⟩
end
def Oth (S : SupOK) (rows : List (List UInt8)) (st : SSt) : Prop := ∀ t' x', S.dec (rows.getD (st.place + (1 - st.which)) []) = some (t', x') → t' < st.turn
section
variable {S : SupOK}
theorem oth_save {rows : List (List UInt8)} {st : SSt} (p : Nat) (e l : List UInt8) (hw : st.which ≤ 1) (h1 : 1 ≤ st.turn) (hx : st.text.length ≤ 40) (ht : st.turn ≤ 1099511627776) (hs : rows.getD (st.place + st.which) [] = S.enc st.turn st.text) :
  Oth S (rows.set (st.place + (1 - st.which)) e) ⟨p, st.place, 1 - st.which, st.turn + 1, l⟩ := by
 intro t' x' hd
 have e1 : st.place + (1 - (1 - st.which)) = st.place + st.which := by omega
 simp only [e1] at hd
 rw [List.getD_eq_getElem?_getD, List.getElem?_set_ne (by omega), ← List.getD_eq_getElem?_getD, hs, S.decEnc _ _ hx h1 ht] at hd
 injection hd with hd
 injection hd with hd _
 show t' < st.turn + 1
 omega
theorem oth_make {rows : List (List UInt8)} (p i : Nat) (e l : List UInt8) (hi : i + 2 ≤ rows.length) : Oth S ((rows.set i e).set (i + 1) blank) ⟨p, i, 0, 1, l⟩ := by
 intro t' x' hd
 simp only [Nat.sub_zero] at hd
 rw [List.getD_eq_getElem?_getD, List.getElem?_set_self (by simp; omega)] at hd
 simp only [Option.getD_some] at hd
 rw [S.decBlank] at hd; cases hd
end
end Go.Proofs.YticophaepapjoaaGreatDoor
namespace Go.Proofs.YticophaepapjoaaGreatDoor
open Go Go.RowKit
def TextM (m : Nat) (l : List UInt8) : World → Value → Prop := fun w v => ∃ A c, v = .slice A l.length c ∧ l.length ≤ c ∧ c ≤ maxLen ∧ (A = none → c = 0) ∧ Row w A (fun b => m ≤ b) (bcells l)
theorem TextM.keep {m : Nat} {l : List UInt8} {w w' : World} {v : Value} (h : Keeps (fun b => m ≤ b) w w') (hv : TextM m l w v) : TextM m l w' v := by
 obtain ⟨A, c, e, h1, h2, h3, hr⟩ := hv
 exact ⟨A, c, e, h1, h2, h3, hr.keep h⟩
theorem TextM.text {m : Nat} {l : List UInt8} {w : World} {v : Value} (hv : TextM m l w v) : TextV l w v := by
 obtain ⟨A, c, e, _, _, _, hr⟩ := hv
 exact ⟨A, c, e, hr.mono fun _ _ _ => trivial⟩
section
variable {o : Oper} {a : Act} {w : World} {Q : Exit → Act → World → Prop} {x y : Operand}
theorem kp_add {m n : Nat} (h : m + n ≤ 1000000) (ho : o.op = .binOp .add 3 x y 3) (hx : a.eval x = .int .i64 (m : Int)) (hy : a.eval y = .int .i64 (n : Int)) : o.wp Tryz.prog a w (fun a' w' => ∃ v, a' = a.put o.dst v ∧ Kp w w' ∧ IsV (.int .i64 ((m + n : Nat) : Int)) w' v) Q := by
 have h1 : ((m + n : Nat) : Int) = (m : Int) + (n : Int) := by omega
 rw [h1]
 refine kp_yield (v := .int .i64 ((m : Int) + (n : Int))) (w' := w) ?_ (Keeps.refl _ _) rfl
 have h2 : (m : Int) + (n : Int) ≤ 1000000 := by omega
 have h3 : (0 : Int) ≤ (m : Int) := by omega
 have h4 : (0 : Int) ≤ (n : Int) := by omega
 clear h1
 generalize (m : Int) = M at *
 generalize (n : Int) = N at *
 generalize a.eval = ρ at hx hy ⊢
 unfold execOp
 rw [ho]
 go_simp
 exact IntWalk.i64_in _ (by omega)
theorem kp_u8 {n : Nat} (h : n < 256) (ho : o.op = .convert 3 5 x) (hx : a.eval x = .int .i64 (n : Int)) : o.wp Tryz.prog a w (fun a' w' => ∃ v, a' = a.put o.dst v ∧ Kp w w' ∧ IsV (.int .u8 (n : Int)) w' v) Q := by
 refine kp_yield (v := .int .u8 (n : Int)) (w' := w) ?_ (Keeps.refl _ _) rfl
 have h2 : (n : Int) < 256 := by omega
 generalize a.eval = ρ at hx ⊢
 unfold execOp
 rw [ho]
 go_simp
 unfold IntKind.wrap
 simp [IntKind.bits, IntKind.signed]
 omega
theorem one_enter {P : Program} {X : World → Value → Prop} {f : FuncId} {args : Array Value} {C : Ending → World → Prop} (e : (execOp a.eval o).run P w = .ok (.enter f args) w) (hc : Calls P f args w C)
  (hC : ∀ e w', C e w' → ∃ v, e = .returned v ∧ X w' v) : o.wp P a w (fun a' w' => ∃ v, a' = a.put o.dst v ∧ X w' v) Q := by
 unfold Oper.wp
 rw [e]
 refine hc.mono fun e w' h => ?_
 obtain ⟨v, rfl, hv⟩ := hC e w' h
 exact ⟨v, rfl, hv⟩
end
end Go.Proofs.YticophaepapjoaaGreatDoor
namespace Go.Proofs.YticophaepapjoaaGreatDoor
open Go Go.RowKit Go.Joins
def RecsAt (w : World) (A : Option Addr) (G : Nat → Prop) (l : List (Nat × List UInt8)) : Prop :=
 l ≠ [] → ∃ b o, A = some ⟨b, o, none⟩ ∧ G b ∧ ∀ i (hi : i < l.length), w.cell? ⟨b, o + i * 2, none⟩ = some (.int .i64 ((l[i].1 : Nat) : Int)) ∧
  ∃ B c, w.cell? ⟨b, o + i * 2 + 1, none⟩ = some (.slice B l[i].2.length c) ∧ Row w B G (bcells l[i].2)
structure SlogOK where
 T : World → Prop
 tk : ∀ {w w' : World}, T w → Keeps (fun _ => True) w w' → T w'
 rep : World → Nat → Foot → LSt → SDev → Prop
 disk : LSt → List (List UInt8) → Prop
 wf : ∀ {w q F st s}, rep w q F st s → st.Ok
 lt : ∀ {w q F st s}, rep w q F st s → ∀ b, F.all b → b < w.heap.size
 keep : ∀ {w w' q F st s}, rep w q F st s → Keeps F.all w w' → rep w' q F st s
 other : ∀ {w q F st s s'}, rep w q F st s → s'.now.length = s.now.length → (∀ i, st.has i → s'.now.getD i [] = s.now.getD i []) → rep w q F st s'
 diskKeep : ∀ {st rows rows'}, disk st rows → rows'.length = rows.length → (∀ i, st.has i → rows'.getD i [] = rows.getD i []) → disk st rows'
 openNew : ∀ (w : World) (p : Nat) (F : Foot) (s : SDev), DAt w p F s → T w → ∀ (i n : Nat), 3 ≤ n → n ≤ 200 → i + 8 * n ≤ s.now.length → (∀ j, i ≤ j → j < i + 8 * n → s.now.getD j [] = blank) →
  Calls Tryz.prog 96 #[.pointer (some ⟨p, 0, none⟩), .int .i64 i, .int .i64 n] w fun e w' => ∃ (q : Nat) (Fs : Foot) (f x : Nat), e = .returned (.tuple #[.pointer (some ⟨q, 0, none⟩), .int .i64 0]) ∧
   rep w' q Fs ⟨p, i, n, [], 0, f, x⟩ s ∧ x ≤ 1048576 ∧ (∀ b, Fs.all b → w.heap.size ≤ b) ∧ Keeps (fun _ => True) w w'
 openOld : ∀ (w : World) (p : Nat) (F : Foot) (s : SDev) (st : LSt), DAt w p F s → T w → disk st s.now → st.place + 8 * st.segs ≤ s.now.length → st.next ≤ 137438953472 →
  Calls Tryz.prog 96 #[.pointer (some ⟨p, 0, none⟩), .int .i64 st.place, .int .i64 st.segs] w fun e w' => ∃ (q : Nat) (Fs : Foot) (f x : Nat), e = .returned (.tuple #[.pointer (some ⟨q, 0, none⟩), .int .i64 0]) ∧
   rep w' q Fs ⟨p, st.place, st.segs, opened st.hist, st.gone, f, x⟩ s ∧ x ≤ st.next + 1048576 ∧ (∀ b, Fs.all b → w.heap.size ≤ b) ∧ Keeps (fun _ => True) w w'
 append : ∀ (W w : World) (p q : Nat) (F Fs : Foot) (s : SDev) (st : LSt), DAt w p F s → rep w q Fs st s → st.dev = p → Apart F Fs → T W → Keeps (fun _ => True) W w → (∀ b, F.all b → W.heap.size ≤ b) → (∀ b, Fs.all b → W.heap.size ≤ b) → st.place + 8 * st.segs ≤ s.now.length → s.calls ≤ 549755813888 → st.next ≤ 137438953472 →
  ∀ (A : Option Addr) (c : Nat) (G : Nat → Prop) (l : List UInt8), Row w A G (bcells l) → (∀ b, G b → ¬ F.all b) → (∀ b, G b → ¬ Fs.all b) → l.length ≤ c → c ≤ maxLen → 1 ≤ l.length → l.length ≤ 300 →
  Calls Tryz.prog 71 #[.pointer (some ⟨q, 0, none⟩), .slice A l.length c] w fun e w' => ∃ (x : Nat) (F' Fs' : Foot) (s' : SDev) (g f n : Nat), e = .returned (.tuple #[.int .i64 (x : Int), .int .i64 0]) ∧ DAt w' p F' s' ∧ rep w' q Fs' ⟨p, st.place, st.segs, st.hist ++ [⟨x, l, 0⟩], g, f, n⟩ s' ∧ st.gone ≤ g ∧ st.next ≤ x ∧ n ≤ st.next + 1048576 ∧
   s'.now.length = s.now.length ∧ (∀ i, ¬ st.has i → s'.now.getD i [] = s.now.getD i []) ∧ s'.calls ≤ s.calls + 1000 ∧
   Apart F' Fs' ∧ Keeps (fun b => ¬ F.M b ∧ ¬ Fs.M b) w w' ∧ (∀ b, F'.M b → F.M b ∨ w.heap.size ≤ b) ∧ (∀ b, F'.I b → F.all b ∨ w.heap.size ≤ b) ∧ (∀ b, Fs'.M b → Fs.M b ∨ w.heap.size ≤ b) ∧ (∀ b, Fs'.I b → Fs.all b ∨ w.heap.size ≤ b)
 flush : ∀ (W w : World) (p q : Nat) (F Fs : Foot) (s : SDev) (st : LSt), DAt w p F s → rep w q Fs st s → st.dev = p → Apart F Fs → T W → Keeps (fun _ => True) W w → (∀ b, F.all b → W.heap.size ≤ b) → (∀ b, Fs.all b → W.heap.size ≤ b) → st.place + 8 * st.segs ≤ s.now.length → s.calls ≤ 549755813888 →
  Calls Tryz.prog 46 #[.pointer (some ⟨q, 0, none⟩)] w fun e w' => e = .returned (.int .i64 0) ∧ ∃ (F' Fs' : Foot) (rows : List (List UInt8)) (k : Nat), DAt w' p F' (SDev.still rows k) ∧ rep w' q Fs' st (SDev.still rows k) ∧ disk st rows ∧
   rows.length = s.now.length ∧ (∀ i, ¬ st.has i → rows.getD i [] = s.now.getD i []) ∧ k ≤ s.calls + 1000 ∧
   Apart F' Fs' ∧ Keeps (fun b => ¬ F.M b ∧ ¬ Fs.M b) w w' ∧ (∀ b, F'.M b → F.M b ∨ w.heap.size ≤ b) ∧ (∀ b, F'.I b → F.all b ∨ w.heap.size ≤ b) ∧ (∀ b, Fs'.M b → Fs.M b ∨ w.heap.size ≤ b) ∧ (∀ b, Fs'.I b → Fs.all b ∨ w.heap.size ≤ b)
 read : ∀ (w : World) (p q : Nat) (F Fs : Foot) (s : SDev) (st : LSt), DAt w p F s → rep w q Fs st s → st.dev = p → Apart F Fs → T w → st.place + 8 * st.segs ≤ s.now.length → ∀ (x : Nat) (l : List UInt8), (x, l) ∈ st.recs →
  Calls Tryz.prog 85 #[.pointer (some ⟨q, 0, none⟩), .int .i64 (x : Int)] w fun e w' => ∃ A c, e = .returned (.tuple #[.slice A l.length c, .int .i64 0]) ∧ l.length ≤ c ∧ c ≤ maxLen ∧ Row w' A (fun b => w.heap.size ≤ b ∧ b < w'.heap.size) (bcells l) ∧ Mine w' .u8 A l.length ∧ Keeps (fun _ => True) w w'
 all : ∀ (w : World) (p q : Nat) (F Fs : Foot) (s : SDev) (st : LSt), DAt w p F s → rep w q Fs st s → st.dev = p → Apart F Fs → T w → st.place + 8 * st.segs ≤ s.now.length →
  Calls Tryz.prog 97 #[.pointer (some ⟨q, 0, none⟩)] w fun e w' => ∃ A c, e = .returned (.slice A st.recs.length c) ∧ RecsAt w' A (fun b => w.heap.size ≤ b ∧ b < w'.heap.size) st.recs ∧ Keeps (fun _ => True) w w'
 firstIs : ∀ (w : World) (q : Nat) (Fs : Foot) (s : SDev) (st : LSt), rep w q Fs st s → T w →
  Calls Tryz.prog 70 #[.pointer (some ⟨q, 0, none⟩)] w fun e w' => e = .returned (.int .i64 (st.first : Int)) ∧ Keeps (fun _ => True) w w'
 nextIs : ∀ (w : World) (q : Nat) (Fs : Foot) (s : SDev) (st : LSt), rep w q Fs st s → T w →
  Calls Tryz.prog 52 #[.pointer (some ⟨q, 0, none⟩)] w fun e w' => e = .returned (.int .i64 (st.next : Int)) ∧ Keeps (fun _ => True) w w'
theorem costs_append (a b : List LRec) : costs (a ++ b) = costs a + costs b := by simp [costs]
def RecsC (w : World) (A : Option Addr) (G : Nat → Prop) (l : List (Nat × List UInt8)) : Prop :=
 l ≠ [] → ∃ b o, A = some ⟨b, o, none⟩ ∧ G b ∧ ∀ i (hi : i < l.length), w.cell? ⟨b, o + i * 2, none⟩ = some (.int .i64 ((l[i].1 : Nat) : Int)) ∧
  ∃ B c, w.cell? ⟨b, o + i * 2 + 1, none⟩ = some (.slice B l[i].2.length c) ∧ l[i].2.length ≤ c ∧ c ≤ maxLen ∧ Row w B G (bcells l[i].2)
structure Slog2 extends SlogOK where
 past : ∀ {w : World} {q : Nat} {F : Foot} {st : LSt} {s : SDev}, rep w q F st s → st.first ≤ st.next ∧ ∀ r ∈ st.hist.take st.gone, r.pos < st.first
 first2 : ∀ (w : World) (q : Nat) (F : Foot) (s : SDev) (st : LSt), rep w q F st s → Calls Tryz.prog 70 #[.pointer (some ⟨q, 0, none⟩)] w fun e w' => e = .returned (.int .i64 (st.first : Int)) ∧ w' = w
 all2 : ∀ (w : World) (p q : Nat) (F Fs : Foot) (s : SDev) (st : LSt), DAt w p F s → rep w q Fs st s → st.dev = p → T w → st.place + 8 * st.segs ≤ s.now.length →
  Calls Tryz.prog 97 #[.pointer (some ⟨q, 0, none⟩)] w fun e w' => ∃ A c, e = .returned (.slice A st.recs.length c) ∧ st.recs.length ≤ c ∧ c ≤ maxLen ∧ RecsC w' A (fun b => w.heap.size ≤ b ∧ b < w'.heap.size) st.recs ∧ Keeps (fun _ => True) w w'
 next2 : ∀ (w : World) (q : Nat) (F : Foot) (s : SDev) (st : LSt), rep w q F st s → Calls Tryz.prog 52 #[.pointer (some ⟨q, 0, none⟩)] w fun e w' => e = .returned (.int .i64 (st.next : Int)) ∧ w' = w
end Go.Proofs.YticophaepapjoaaGreatDoor
namespace Go.Proofs.YticophaepapjoaaGreatDoor
open Go Go.RowKit Go.Joins Go.Sort
set_option maxRecDepth 100000 in
theorem sclone_any (s : ByteArray) (w : World) (hs : s.size ≤ 281474976710656) :
  Calls Tryz.prog 141 #[.string s] w fun e w' => e = .returned (.string s) ∧ Keeps (fun _ => True) w w' := by
 have hC := Lib.hid (show Calls Tryz.prog 174 #[.string s] w fun e w' => e = .returned (.string s) ∧ Below w.heap.size w w' from Any.stringslite_Clone Tryz.cloneA s w hs)
 clear hs
 go_enter Tryz.func141, Tryz.ntmps141
 go_wp2_with fail
 refine (show Calls _ _ _ _ _ from hC.out).mono ?_
 rintro e w1 ⟨rfl, hb⟩
 have hk : Keeps (fun _ => True) w w1 := Keeps.of_below hb _
 go_wp2_with fail
 go_ret
 exact ⟨rfl, hk⟩
theorem enc_is (l : List ByteArray) : l.map Value.string = (l.map fun s => s.data.toList).map encStr := by
 rw [List.map_map]
 refine List.map_congr_left fun s _ => ?_
 show _ = encStr s.data.toList
 unfold encStr
 simp
theorem txt_map (l : List (List UInt8)) : (l.map txt).map Value.string = l.map encStr := by
 rw [List.map_map]
 rfl
theorem rising_of {l : List (List UInt8)} (h : l.Pairwise fun a b => a ≤ b) (hn : l.Nodup) : Rising (l.map txt) := by
 unfold Rising
 rw [List.pairwise_map]
 refine (h.and hn).imp fun {a b} hab => ?_
 show Op.bytesLess a b = true
 rw [bytesLess_eq, decide_eq_true_eq]
 rcases List.le_iff_lt_or_eq.1 hab.1 with h1 | h1
 ·exact h1
 ·exact absurd h1 hab.2
theorem sort_any (w : World) (base : Nat) (B : Option Addr) (c : Nat) (l : List ByteArray) (hnd : l.Nodup) (ho : w.ownsRow base 9 1 (.slice B l.length c) l.length (l.map Value.string)) (hl : l.length ≤ 68719476736) :
  Calls Tryz.prog 91 #[.slice B l.length c] w fun e w' => e = .returned (.tuple #[]) ∧ ∃ ks : List ByteArray, ks.Perm l ∧ Rising ks ∧ w'.ownsRow base 9 1 (.slice B l.length c) l.length (ks.map Value.string) ∧ Keeps (fun b => ∀ o, B ≠ some ⟨b, o, none⟩) w w' := by
 rcases Nat.eq_zero_or_pos l.length with h0 | h0
 ·have hl0 := List.eq_nil_of_length_eq_zero h0
  subst hl0
  refine (show Calls Tryz.prog 91 #[.slice B 0 c] w fun e w' => e = .returned (.tuple #[]) ∧ w' = w from Any.slices_Sort_string_none Tryz.sortB B c w).mono ?_
  rintro e w' ⟨rfl, rfl⟩
  exact ⟨rfl, [], List.Perm.refl _, List.Pairwise.nil, ho, Keeps.refl _ _⟩
 ·rcases ho.2 with ⟨-, h1⟩ | ⟨g, cap, cur, hv, hbase, hb, hcap, hmax, hsz, htake⟩
  ·omega
  injection hv with e1 e2 e3
  subst e1 e3
  have hll : (l.map fun s => s.data.toList).length = l.length := by simp
  have hH : Holds encStr w g 0 (l.map fun s => s.data.toList).toArray := holds_of_block hb (by rw [hll, ← enc_is, ← htake, Nat.mul_one])
  have hlt : g < w.heap.size := (Array.getElem?_eq_some_iff.1 hb).1
  have h := Any.slices_Sort_string Tryz.sortB g 0 c (l.map fun s => s.data.toList) w hH hlt (by rw [hll]; omega)
  rw [hll] at h
  refine (show Calls Tryz.prog 91 #[.slice (some ⟨g, 0, none⟩) l.length c] w _ from h).mono ?_
  rintro e w' ⟨rfl, n, os, rfl⟩
  have hperm := List.mergeSort_perm (l.map fun s => s.data.toList) (fun x y => decide (x ≤ y))
  have hlen : ((l.map fun s => s.data.toList).mergeSort fun x y => decide (x ≤ y)).length = (l.map fun s => s.data.toList).length := hperm.length_eq
  have hsorted : ((l.map fun s => s.data.toList).mergeSort fun x y => decide (x ≤ y)).Pairwise fun a b => a ≤ b := by
   have := List.pairwise_mergeSort (le := fun x y : List UInt8 => decide (x ≤ y)) (by
    intro a b c h1 h2
    rw [decide_eq_true_eq] at h1 h2 ⊢
    exact List.le_trans h1 h2) (by
    intro a b
    rw [Bool.or_eq_true, decide_eq_true_eq, decide_eq_true_eq]
    exact List.le_total a b) (l.map fun s => s.data.toList)
   exact this.imp fun h => by simpa using h
  have hnd' : (l.map fun s => s.data.toList).Nodup := List.pairwise_map.2 (hnd.imp fun hab e => hab (ByteArray.ext (Array.toList_inj.1 e)))
  have hback : (l.map fun s => s.data.toList).map txt = l := by
   rw [List.map_map]
   refine (List.map_congr_left fun s _ => ?_).trans (List.map_id l)
   exact txt_data s
  refine ⟨rfl, ((l.map fun s => s.data.toList).mergeSort fun x y => decide (x ≤ y)).map txt, ?_, rising_of hsorted (hperm.nodup_iff.2 hnd'), ?_, ?_⟩
  ·have := hperm.map txt
   rwa [hback] at this
  ·rw [txt_map]
   have := ownsRow_sorted (w := w) (base := base) (g := g) (cap := c) (n := n) (os := os) hlen hbase hb (by rw [hll]; exact hcap) hmax hsz
   rwa [hll] at this
  ·refine Keeps.of_grown (grownBy_sorted _) fun b hb _ hno => ?_
   injection hb with hb
   subst hb
   exact hno 0 rfl
end Go.Proofs.YticophaepapjoaaGreatDoor
