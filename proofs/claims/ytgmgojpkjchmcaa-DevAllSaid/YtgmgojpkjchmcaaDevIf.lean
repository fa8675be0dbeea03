/-
  WHAT A DEVICE OF THE PROGRAM KEEPS (the face of layer 4), whatever it is made of; the reference's in the same words.
-/
import Derived.Test.YtgmgojpkjchmcaaRefCrash
import Derived.Test.YtgmgojpkjchmcaaRefWrite
namespace Go.Proofs.Ytgmgojpkjchmcaa
open Go Go.RowKit Go.Joins

/-- What Read(i) answers. -/
def SDev.readL (s : SDev) (i : Int) : List UInt8 := if i < 0 ∨ (s.now.length : Int) ≤ i then [] else s.now.getD i.toNat []
def SDev.readE (s : SDev) (i : Int) : Int := if i < 0 ∨ (s.now.length : Int) ≤ i then 4 else 0

structure DevOK where
  rep : World → Nat → Foot → SDev → Prop
  ok : ∀ {w p F s}, rep w p F s → s.Ok
  lt : ∀ {w p F s}, rep w p F s → ∀ b, F.all b → b < w.heap.size
  two : ∀ {w p F s}, rep w p F s → ∀ b, F.M b → ¬ F.I b
  keep : ∀ {w w' p F s}, rep w p F s → Keeps F.all w w' → rep w' p F s
  new : ∀ (w : World) (n : Int), -9223372036854775808 ≤ n → n < 9223372036854775808 →
    Calls Try.prog 10 #[.int .i64 n] w fun e w' => ∃ p F, e = .returned (.pointer (some ⟨p, 0, none⟩)) ∧ rep w' p F (SDev.new (clampN n)) ∧ (∀ b, F.all b → w.heap.size ≤ b) ∧ Keeps (fun _ => True) w w'
  write : ∀ (w : World) (p : Nat) (F : Foot) (s : SDev), rep w p F s → ∀ (i : Int) (A : Option Addr) (c : Nat) (G : Nat → Prop) (l : List UInt8), -9223372036854775808 ≤ i → i < 9223372036854775808 → Row w A G (bcells l) → (∀ b, G b → ¬ F.all b) → l.length ≤ c → c ≤ maxLen → (A = none → c = 0) → s.calls ≤ 1099511627776 →
    Calls Try.prog 13 #[.pointer (some ⟨p, 0, none⟩), .int .i64 i, .slice A l.length c] w fun e w' => e = .returned (.int .i64 (s.writeZ i l).1) ∧ ∃ F', rep w' p F' (s.writeZ i l).2 ∧ Step F F' w w'
  flush : ∀ (w : World) (p : Nat) (F : Foot) (s : SDev), rep w p F s → s.calls ≤ 1099511627776 →
    Calls Try.prog 15 #[.pointer (some ⟨p, 0, none⟩)] w fun e w' => e = .returned (.int .i64 0) ∧ ∃ F', rep w' p F' s.flush ∧ Step F F' w w'
  read : ∀ (w : World) (p : Nat) (F : Foot) (s : SDev), rep w p F s → ∀ i : Int, -9223372036854775808 ≤ i → i < 9223372036854775808 →
    Calls Try.prog 17 #[.pointer (some ⟨p, 0, none⟩), .int .i64 i] w fun e w' => ∃ v, e = .returned (.tuple #[v, .int .i64 (s.readE i)]) ∧ OwnB w' w.heap.size v (s.readL i) ∧ Keeps (fun _ => True) w w'
  len : ∀ (w : World) (p : Nat) (F : Foot) (s : SDev), rep w p F s → Calls Try.prog 21 #[.pointer (some ⟨p, 0, none⟩)] w fun e w' => e = .returned (.int .i64 (s.now.length : Int)) ∧ w = w'
  calls : ∀ (w : World) (p : Nat) (F : Foot) (s : SDev), rep w p F s → Calls Try.prog 23 #[.pointer (some ⟨p, 0, none⟩)] w fun e w' => e = .returned (.int .i64 (s.calls : Int)) ∧ w = w'
  loose : ∀ (w : World) (p : Nat) (F : Foot) (s : SDev), rep w p F s →
    Calls Try.prog 22 #[.pointer (some ⟨p, 0, none⟩)] w fun e w' => ∃ v, e = .returned v ∧ OwnN w' w.heap.size v s.loose ∧ Keeps (fun _ => True) w w'
  crash : ∀ (w : World) (p : Nat) (F : Foot) (s : SDev), rep w p F s → ∀ (K : Option Addr) (kc : Nat) (G : Nat → Prop) (keep : List Bool), Row w K G (keep.map Value.bool) → keep.length ≤ maxLen →
    Calls Try.prog 18 #[.pointer (some ⟨p, 0, none⟩), .slice K keep.length kc] w fun e w' => ∃ q F', e = .returned (.pointer (some ⟨q, 0, none⟩)) ∧ rep w' q F' (s.crash keep) ∧ (∀ b, F'.M b → w.heap.size ≤ b) ∧ (∀ b, F'.I b → F.I b ∨ w.heap.size ≤ b) ∧ Keeps (fun _ => True) w w'

/-- The reference's Write, in one. -/
theorem rwrite_any (w : World) (p : Nat) (F : Foot) (s : SDev) (h : RAt w p F s) (i : Int) (A : Option Addr) (c : Nat) (G : Nat → Prop) (l : List UInt8) (hr : Row w A G (bcells l)) (hl : l.length ≤ maxLen) (hcalls : s.calls ≤ 1099511627776) :
    Calls Try.prog 14 #[.pointer (some ⟨p, 0, none⟩), .int .i64 i, .slice A l.length c] w fun e w' => e = .returned (.int .i64 (s.writeZ i l).1) ∧ ∃ F', RAt w' p F' (s.writeZ i l).2 ∧ Step F F' w w' := by
  unfold SDev.writeZ
  by_cases h1 : i < 0 ∨ (s.now.length : Int) ≤ i
  · rw [if_pos h1]
    refine (rwrite_no w p F s h i A c l.length 4 hl (by omega)).mono ?_
    rintro e w' ⟨rfl, rfl⟩
    exact ⟨rfl, F, h, Step.refl _ _⟩
  · rw [if_neg h1]
    by_cases h2 : 64 < l.length
    · rw [if_pos h2]
      refine (rwrite_no w p F s h i A c l.length 1 hl (by omega)).mono ?_
      rintro e w' ⟨rfl, rfl⟩
      exact ⟨rfl, F, h, Step.refl _ _⟩
    · rw [if_neg h2]
      obtain ⟨k, rfl⟩ : ∃ k : Nat, i = (k : Int) := ⟨i.toNat, by omega⟩
      exact rwrite_yes w p F s h k A c G l hr (by omega) (by omega) hcalls
theorem rflush_step (w : World) (p : Nat) (F : Foot) (s : SDev) (h : RAt w p F s) (hcalls : s.calls ≤ 1099511627776) :
    Calls Try.prog 16 #[.pointer (some ⟨p, 0, none⟩)] w fun e w' => (∃ v, e = .returned v) ∧ ∃ F', RAt w' p F' s.flush ∧ Step F F' w w' :=
  (rflush_any w p F s h hcalls).mono fun _ _ ⟨h1, h2, h3⟩ => ⟨h1, F, h2, h3, fun _ hb => .inl hb, fun _ hb => .inl (.inr hb)⟩

end Go.Proofs.Ytgmgojpkjchmcaa
