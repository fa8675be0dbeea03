/-
  'begun' OF LAYER 19 ANSWERS true, however messages are written.
-/
import Derived.Test.YtpijhpfcigjkeaaDoorMsLocs
import Derived.Outline
namespace Go.Proofs.YtpijhpfcigjkeaaDoor
open Go Go.RowKit Go.Joins

def msB : Ms := ⟨13, 1, 2, 0, 0, 0, 0, 5, 1, ⟨#[107]⟩, 0, false, it0, [], [], [], 0, []⟩
theorem msB_fits : msB.Fits := ⟨⟨by decide, by decide⟩, ⟨by decide, by decide⟩, ⟨by decide, by decide⟩, ⟨by decide, by decide⟩, ⟨by decide, by decide⟩, ⟨by decide, by decide⟩, ⟨by decide, by decide⟩, ⟨by decide, by decide⟩, ⟨by decide, by decide⟩, ⟨by decide, by decide⟩, ⟨by decide, by decide⟩, by decide, ⟨by decide, by decide, by decide, by decide⟩, by decide, by simp [msB], by decide, by simp [msB], by decide, by simp [msB], by decide, by simp [msB]⟩
theorem ms0_fits : ms0.Fits := ⟨⟨by decide, by decide⟩, ⟨by decide, by decide⟩, ⟨by decide, by decide⟩, ⟨by decide, by decide⟩, ⟨by decide, by decide⟩, ⟨by decide, by decide⟩, ⟨by decide, by decide⟩, ⟨by decide, by decide⟩, ⟨by decide, by decide⟩, ⟨by decide, by decide⟩, ⟨by decide, by decide⟩, by decide, ⟨by decide, by decide, by decide, by decide⟩, by decide, by simp [ms0], by decide, by simp [ms0], by decide, by simp [ms0], by decide, by simp [ms0]⟩
theorem msB_may : mayM msB = true := by decide
theorem ms0_may : mayM ms0 = false := by decide
theorem msB_at (w : World) : MsAt w msB msA0 :=
  ⟨ItsAt.nil _ _ _, ⟨Nat.le_refl _, Nat.zero_le _⟩, MksAt.nil _ _ _, ⟨Nat.le_refl _, Nat.zero_le _⟩, Row.nil _ _ _, ⟨Nat.le_refl _, Nat.zero_le _, fun _ => rfl⟩, Row.nil _ _ _, ⟨Nat.le_refl _, Nat.zero_le _, fun _ => rfl⟩⟩

end Go.Proofs.YtpijhpfcigjkeaaDoor
