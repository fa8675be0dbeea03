/-
  WORDS FOR MEMORY: rows that may be written.
-/
import Derived.Test.YtpijhpfcigjkeaaDoorWords
namespace Go.Proofs.YtpijhpfcigjkeaaDoor
open Go Go.RowKit

/-- A row that may be written. -/
def Unfr (w : World) (A : Option Addr) (n : Nat) : Prop := ∀ b o, 0 < n → A = some ⟨b, o, none⟩ → ∀ i, w.frozen? ⟨b, i, none⟩ = false
theorem Unfr.nil (w : World) (n : Nat) : Unfr w none n := fun _ _ _ h => by cases h
theorem Unfr.zero (w : World) (A : Option Addr) : Unfr w A 0 := fun _ _ h => absurd h (Nat.lt_irrefl 0)
theorem Unfr.own {w : World} {base n size c : Nat} {e : TypeId} {A : Option Addr} {xs : List Value} (h : w.ownsRow base e size (.slice A n c) n xs) : Unfr w A n := fun b o _ ha i => by
  rcases h.2 with ⟨h', _⟩ | ⟨g', cap', cur, h', _, hg, _⟩
  · injection h' with h'; rw [ha] at h'; cases h'
  · injection h' with h'
    rw [ha] at h'
    injection h' with h'
    injection h' with h'
    subst h'
    simp [World.frozen?, hg]
theorem Unfr.keep {w w' : World} {A : Option Addr} {n : Nat} {G : Nat → Prop} (h : Unfr w A n) (hk : Keeps G w w') (hG : ∀ b o, 0 < n → A = some ⟨b, o, none⟩ → G b ∧ b < w.heap.size) : Unfr w' A n := fun b o hn e i => by
  rw [hk.frozen (p := ⟨b, i, none⟩) (hG b o hn e).2 (hG b o hn e).1]
  exact h b o hn e i

end Go.Proofs.YtpijhpfcigjkeaaDoor
