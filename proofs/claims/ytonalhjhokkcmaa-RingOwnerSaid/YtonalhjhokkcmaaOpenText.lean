/-
  A text that came in, as the frames of the laws open it.
-/
import Derived.Test.YtonalhjhokkcmaaOpen
import Derived.Test.YtonalhjhokkcmaaProg
import Derived.ChangeMaps5
namespace Go.Proofs.Ytonalhjhokkcmaa
open Go Go.RowKit Go.ChangeShapes Go.WideShapes Go.ChangeAt

theorem open_text {H : Type} {enc : TypeId × Value → H} {W : World} {v : Value} {d : DataW H} {ps : List MemPlace} {base : Nat} {t : TypeId} (ht : Try.prog.underlying t = some .string)
    (hok : Value.okWide Try.prog W .any base t v) (h : DataW.Trod enc Try.prog W 0 (fun _ => true) true t v d ps) : ∃ s : ByteArray, v = .string s ∧ True ∧ s.size ≤ maxLen := by
  obtain ⟨s, rfl, -, -, hs⟩ := Go.ChangeMaps.open_string ht hok h
  exact ⟨s, rfl, trivial, hs⟩

end Go.Proofs.Ytonalhjhokkcmaa
