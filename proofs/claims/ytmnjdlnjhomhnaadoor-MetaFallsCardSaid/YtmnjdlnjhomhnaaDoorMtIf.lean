/-
  WHAT A KEEPER OF METAS DOES (the face of layer 12), whatever lies on its sectors; the laws' own 'may' and 'eq'.
-/
import Derived.Test.YtmnjdlnjhomhnaaDoorProg
import Derived.Test.YtmnjdlnjhomhnaaDoorAllBase
import Derived.Test.YtmnjdlnjhomhnaaDoorAllInvs
import Derived.WalkSpells
import Derived.Lib.Hide
import Derived.Lib.SmallJoins
namespace Go.Proofs.YtmnjdlnjhomhnaaDoor
open Go Go.RowKit Go.Joins
structure M4 where
  boot : Int
  epoch : Int
  ready : Int
  frozen : Bool
instance : Inhabited M4 := ⟨⟨0, 0, 0, false⟩⟩
def magg (m : M4) : Value := .agg #[.int .i64 m.boot, .int .i64 m.epoch, .int .i64 m.ready, .bool m.frozen]
def mcells (m : M4) : Array Value := #[.int .i64 m.boot, .int .i64 m.epoch, .int .i64 m.ready, .bool m.frozen]
def m0 : M4 := ⟨0, 0, 0, false⟩
def small12 (m : M4) : Bool := decide (0 ≤ m.boot) && (decide (m.boot ≤ 1099511627776) && (decide (0 ≤ m.epoch) && (decide (m.epoch ≤ 1099511627776) && (decide (0 ≤ m.ready) && decide (m.ready ≤ 1099511627776)))))
def mayB (m : M4) : Bool := small12 m && (((m.ready == 0) && !m.frozen) || decide (m.epoch < m.ready))
def overB (n m : M4) : Bool := decide (n.boot ≤ m.boot) && decide (n.epoch ≤ m.epoch)
def eqM (a b : M4) : Bool := (a.boot == b.boot) && ((a.epoch == b.epoch) && ((a.ready == b.ready) && (a.frozen == b.frozen)))
theorem eqM_refl (a : M4) : eqM a a = true := by simp [eqM]
structure M4.Fits (m : M4) : Prop where
  b1 : -9223372036854775808 ≤ m.boot
  b2 : m.boot < 9223372036854775808
  e1 : -9223372036854775808 ≤ m.epoch
  e2 : m.epoch < 9223372036854775808
  r1 : -9223372036854775808 ≤ m.ready
  r2 : m.ready < 9223372036854775808
theorem kp_old {F : Nat → Prop} {W w w' : World} (h : Keeps (fun b => ¬ F b) w w') (hF : ∀ b, F b → W.heap.size ≤ b) (hk : Kp W w) : Kp W w' :=
  ⟨h.os.trans hk.os, h.tape.trans hk.tape, h.output.trans hk.output, Nat.le_trans hk.size h.size, fun b _ hb => (h.block b (fun hf => by have := hF b hf; omega) (Nat.lt_of_lt_of_le hb hk.size)).trans (hk.block b trivial hb)⟩
structure MetaOK where
  T : World → Prop
  tk : ∀ {w w' : World}, T w → Kp w w' → T w'
  New : World → World → Nat → (Nat → Prop) → Nat → Prop
  At : World → World → Nat → Nat → (Nat → Prop) → Nat → M4 → Prop
  Held : World → World → Nat → (Nat → Prop) → Nat → M4 → Prop
  newIn : ∀ {W w p F n}, New W w p F n → Kp W w ∧ ∀ b, F b → W.heap.size ≤ b ∧ b < w.heap.size
  atIn : ∀ {W w p k F n m}, At W w p k F n m → Kp W w ∧ ∀ b, F b → W.heap.size ≤ b ∧ b < w.heap.size
  heldIn : ∀ {W w p F n m}, Held W w p F n m → Kp W w ∧ ∀ b, F b → W.heap.size ≤ b ∧ b < w.heap.size
  newKeep : ∀ {W w w' p F n}, New W w p F n → Keeps F w w' → Kp W w' → New W w' p F n
  atKeep : ∀ {W w w' p k F n m}, At W w p k F n m → Keeps F w w' → Kp W w' → At W w' p k F n m
  heldKeep : ∀ {W w w' p F n m}, Held W w p F n m → Keeps F w w' → Kp W w' → Held W w' p F n m
  new : ∀ (W w : World) (n : Nat), T W → Kp W w → 1 ≤ n → n ≤ 2048 →
    Calls Tryd.prog 8 #[.int .i64 (n : Int)] w fun e w' => ∃ p F, e = .returned (.pointer (some ⟨p, 0, none⟩)) ∧ New W w' p F n ∧ (∀ b, F b → w.heap.size ≤ b) ∧ Kp w w'
  make : ∀ (W w : World) (p : Nat) (F : Nat → Prop) (n : Nat), T W → New W w p F n → 2 ≤ n →
    Calls Tryd.prog 9 #[.pointer (some ⟨p, 0, none⟩), .int .i64 0] w fun e w' => ∃ k F', e = .returned (.tuple #[.pointer (some ⟨k, 0, none⟩), .int .i64 0]) ∧ At W w' p k F' 0 m0 ∧ (∀ b, F' b → F b ∨ w.heap.size ≤ b) ∧ Keeps (fun b => ¬ F b) w w'
  makeNo : ∀ (W w : World) (p : Nat) (F : Nat → Prop) (n : Nat) (i : Nat), T W → New W w p F n → n < i + 2 → i ≤ 2048 →
    Calls Tryd.prog 9 #[.pointer (some ⟨p, 0, none⟩), .int .i64 (i : Int)] w fun e w' => (∃ v, e = .returned (.tuple #[v, .int .i64 4])) ∧ Kp w w'
  openNo : ∀ (W w : World) (p : Nat) (F : Nat → Prop) (n : Nat), T W → New W w p F n → 2 ≤ n →
    Calls Tryd.prog 14 #[.pointer (some ⟨p, 0, none⟩), .int .i64 0] w fun e w' => (∃ v, e = .returned (.tuple #[v, .int .i64 3])) ∧ Kp w w'
  crash : ∀ (W w : World) (p k : Nat) (F : Nat → Prop) (n : Nat) (m : M4), T W → At W w p k F n m →
    Calls Tryd.prog 13 #[.pointer (some ⟨p, 0, none⟩), .slice none 0 0] w fun e w' => ∃ q F', e = .returned (.pointer (some ⟨q, 0, none⟩)) ∧ Held W w' q F' n m ∧ (∀ b, F' b → F b ∨ w.heap.size ≤ b) ∧ Kp w w'
  open_ : ∀ (W w : World) (p : Nat) (F : Nat → Prop) (n : Nat) (m : M4), T W → Held W w p F n m →
    Calls Tryd.prog 14 #[.pointer (some ⟨p, 0, none⟩), .int .i64 0] w fun e w' => ∃ k F', e = .returned (.tuple #[.pointer (some ⟨k, 0, none⟩), .int .i64 0]) ∧ At W w' p k F' n m ∧ (∀ b, F' b → F b ∨ w.heap.size ≤ b) ∧ Keeps (fun b => ¬ F b) w w'
  save : ∀ (W w : World) (p k : Nat) (F : Nat → Prop) (n : Nat) (m x : M4), T W → At W w p k F n m → n ≤ 1000 → x.Fits → (mayB x && overB m x) = true →
    Calls Tryd.prog 12 #[.pointer (some ⟨k, 0, none⟩), magg x] w fun e w' => e = .returned (.int .i64 0) ∧ ∃ F', At W w' p k F' (n + 1) x ∧ (∀ b, F' b → F b ∨ w.heap.size ≤ b) ∧ Keeps (fun b => ¬ F b) w w'
  saveNo : ∀ (W w : World) (p k : Nat) (F : Nat → Prop) (n : Nat) (m x : M4), T W → At W w p k F n m → x.Fits → (mayB x && overB m x) = false →
    Calls Tryd.prog 12 #[.pointer (some ⟨k, 0, none⟩), magg x] w fun e w' => e = .returned (.int .i64 1) ∧ Kp w w'
  saveNil : ∀ (w : World) (x : M4), Calls Tryd.prog 12 #[.pointer none, magg x] w fun e w' => e = .returned (.int .i64 8) ∧ Kp w w'
  get : ∀ (W w : World) (p k : Nat) (F : Nat → Prop) (n : Nat) (m : M4), T W → At W w p k F n m →
    Calls Tryd.prog 16 #[.pointer (some ⟨k, 0, none⟩)] w fun e w' => e = .returned (magg m) ∧ Kp w w'
  getNil : ∀ w : World, Calls Tryd.prog 16 #[.pointer none] w fun e w' => e = .returned (magg m0) ∧ Kp w w'
  may : ∀ (w : World) (x : M4), x.Fits → Calls Tryd.prog 11 #[magg x] w fun e w' => e = .returned (.bool (mayB x)) ∧ Kp w w'
section
variable {S : MetaOK} {W w w' : World} {p k n : Nat} {F : Nat → Prop} {m : M4}
theorem MetaOK.atK (S : MetaOK) (h : S.At W w p k F n m) (hk : Kp w w') : S.At W w' p k F n m := S.atKeep h (hk.mono fun _ _ _ => trivial) ((S.atIn h).1.trans hk)
theorem MetaOK.heldK (S : MetaOK) (h : S.Held W w p F n m) (hk : Kp w w') : S.Held W w' p F n m := S.heldKeep h (hk.mono fun _ _ _ => trivial) ((S.heldIn h).1.trans hk)
theorem MetaOK.newK (S : MetaOK) (h : S.New W w p F n) (hk : Kp w w') : S.New W w' p F n := S.newKeep h (hk.mono fun _ _ _ => trivial) ((S.newIn h).1.trans hk)
end
set_option maxHeartbeats 4000000 in
set_option maxRecDepth 100000 in
theorem may_any (w : World) (m : M4) : Calls Tryd.prog 10 #[magg m] w fun e w' => e = .returned (.bool (mayB m)) ∧ Kp w w' := by
  obtain ⟨bo, ep, re, fr⟩ := m
  have hcs : decide (0 ≤ bo) = false ∨ decide (0 ≤ bo) = true ∧ (decide (bo ≤ 1099511627776) = false ∨ decide (bo ≤ 1099511627776) = true ∧ (decide (0 ≤ ep) = false ∨ decide (0 ≤ ep) = true ∧ (decide (ep ≤ 1099511627776) = false ∨ decide (ep ≤ 1099511627776) = true ∧
      (decide (0 ≤ re) = false ∨ decide (0 ≤ re) = true ∧ (decide (re ≤ 1099511627776) = false ∨ decide (re ≤ 1099511627776) = true ∧ ((re == 0) = false ∧ decide (ep < re) = false ∨ (re == 0) = false ∧ decide (ep < re) = true ∨ (re == 0) = true ∧ fr = false ∨ (re == 0) = true ∧ fr = true ∧ decide (ep < re) = false ∨ (re == 0) = true ∧ fr = true ∧ decide (ep < re) = true)))))) := by
    cases decide (0 ≤ bo) <;> cases decide (bo ≤ 1099511627776) <;> cases decide (0 ≤ ep) <;> cases decide (ep ≤ 1099511627776) <;> cases decide (0 ≤ re) <;> cases decide (re ≤ 1099511627776) <;> cases (re == 0) <;> cases fr <;> cases decide (ep < re) <;> simp
  have HM := Lib.hid (show mayB ⟨bo, ep, re, fr⟩ = ((decide (0 ≤ bo) && (decide (bo ≤ 1099511627776) && (decide (0 ≤ ep) && (decide (ep ≤ 1099511627776) && (decide (0 ≤ re) && decide (re ≤ 1099511627776)))))) && (((re == 0) && !fr) || decide (ep < re))) from rfl)
  generalize mayB ⟨bo, ep, re, fr⟩ = b at HM ⊢
  rcases hcs with h | ⟨h, h | ⟨h', h | ⟨h2, h | ⟨h3, h | ⟨h4, h | ⟨h5, h | h | h | h | h⟩⟩⟩⟩⟩⟩
  all_goals (
    unfold magg
    go_enter Tryd.func10, Tryd.ntmps10
    go_wp2_with fail
    go_ret
    exact ⟨by simp [HM.out, *], (Keeps.refl _ w).alloc _⟩)
set_option maxHeartbeats 4000000 in
set_option maxRecDepth 100000 in
theorem eq_any (w : World) (m n : M4) : Calls Tryd.prog 15 #[magg m, magg n] w fun e w' => e = .returned (.bool (eqM m n)) ∧ Kp w w' := by
  obtain ⟨b1, e1, r1, f1⟩ := m
  obtain ⟨b2, e2, r2, f2⟩ := n
  have hcs : (b1 == b2) = false ∨ (b1 == b2) = true ∧ ((e1 == e2) = false ∨ (e1 == e2) = true ∧ ((r1 == r2) = false ∨ (r1 == r2) = true)) := by
    cases (b1 == b2) <;> cases (e1 == e2) <;> cases (r1 == r2) <;> simp
  have HM := Lib.hid (show eqM ⟨b1, e1, r1, f1⟩ ⟨b2, e2, r2, f2⟩ = ((b1 == b2) && ((e1 == e2) && ((r1 == r2) && (f1 == f2)))) from rfl)
  generalize eqM ⟨b1, e1, r1, f1⟩ ⟨b2, e2, r2, f2⟩ = b at HM ⊢
  rcases hcs with h | ⟨h, h' | ⟨h', h2 | h2⟩⟩
  all_goals (
    unfold magg
    go_enter Tryd.func15, Tryd.ntmps15
    go_wp2_with fail
    go_ret
    exact ⟨by simp [HM.out, *], ((Keeps.refl _ w).alloc _).alloc _⟩)
end Go.Proofs.YtmnjdlnjhomhnaaDoor
