/-
  A POINT THAT A LAW OF LAYER 13 IS HANDED, opened.
-/
import Derived.Test.YtgikpilgmdlegaaPtIf
import Derived.Test.YtgikpilgmdlegaaFrame
namespace Go.Proofs.Ytgikpilgmdlegaa
open Go Go.RowKit Go.Joins Go.ChangeShapes Go.WideShapes Go.ChangeAt

set_option maxRecDepth 100000 in
theorem open_pt {H : Type} {enc : TypeId × Value → H} {W : World} {v : Value} {d : DataW H} {ps : List MemPlace} {base : Nat}
    (hok : Value.okWide Try.prog W .any base 31 v) (h : DataW.Trod enc Try.prog W 0 (fun _ => true) true 31 v d ps) : ∃ x : P2, v = pagg x := by
  obtain ⟨c0, c1, y0, y1, n, rfl, -, -, h0, h1⟩ := open_agg2 Try.underlying31 (by kernel_rfl) (by kernel_rfl) hok h
  obtain ⟨n0, q0, -, -⟩ := DataW.trod_int Try.underlying29 h0
  obtain ⟨n1, q1, -, -⟩ := DataW.trod_int Try.underlying3 h1
  have p0 := (List.cons.inj q0).1
  have p1 := (List.cons.inj q1).1
  subst p0 p1
  exact ⟨⟨n0, n1⟩, rfl⟩

end Go.Proofs.Ytgikpilgmdlegaa
