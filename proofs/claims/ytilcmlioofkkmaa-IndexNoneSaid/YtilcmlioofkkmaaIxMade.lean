/-
  What the frames of layer 8's laws ask of the program besides the index: a text that came in; where the program keeps no variable.
-/
import Derived.Test.YtilcmlioofkkmaaIxKeys
import Derived.Test.YtilcmlioofkkmaaOpen
import Derived.ChangeMaps5
namespace Go.Proofs.Ytilcmlioofkkmaa
open Go Go.RowKit Go.ChangeShapes Go.WideShapes Go.ChangeAt

theorem open_text {H : Type} {enc : TypeId × Value → H} {W : World} {v : Value} {d : DataW H} {ps : List MemPlace} {base : Nat} {t : TypeId} (ht : Try.prog.underlying t = some .string)
    (hok : Value.okWide Try.prog W .any base t v) (h : DataW.Trod enc Try.prog W 0 (fun _ => true) true t v d ps) : ∃ s : ByteArray, v = .string s ∧ True ∧ s.size ≤ maxLen := by
  obtain ⟨s, rfl, -, -, hs⟩ := Go.ChangeMaps.open_string ht hok h
  exact ⟨s, rfl, trivial, hs⟩
set_option maxRecDepth 100000 in
theorem own : ownKnob Try.prog.godebug = none := by kernel_rfl
set_option maxRecDepth 100000 in
theorem laidOut : laidOutB Try.prog = true := by kernel_rfl

end Go.Proofs.Ytilcmlioofkkmaa
