/-
  THE LANDED RINGS KEEP THE FACE of layer 14; what the frames of its laws ask of the program besides.
-/
import Derived.Test.YtcmblihlbmclaaaRgRep
import Derived.Test.YtcmblihlbmclaaaRgOwner
import Derived.OpenShut
namespace Go.Proofs.Ytcmblihlbmclaaa
open Go Go.RowKit Go.Joins Go.ChangeShapes Go.WideShapes Go.ChangeAt


theorem kp_of_eq {w w' : World} (h : w = w') : Kp w w' := by rw [h]; exact Keeps.refl _ _
def theRing : RingOK where
  T := fun _ => True
  tk := fun _ _ => trivial
  At := RgAt
  atIn := fun h => ⟨h.2.1, h.2.2.1⟩
  atMay := fun h => h.1
  atKeep := fun h hk hW => rgAt_keep h hk hW
  new := fun W w A c l e _ hk hr hl hc hm => by
    refine (rnew_yes w A c l e hr hl hc hm).mono ?_
    rintro x w' ⟨r, B, cb, D, cd, rfl, h1, h2, h3, h4⟩
    exact ⟨r, _, rfl, ⟨hm, hk.trans h4, fun b hb => ⟨Nat.le_trans hk.size hb.1, hb.2⟩, ⟨h2, h3⟩, B, cb, D, cd, h1⟩, fun b hb => hb.1, h4⟩
  newNo := fun _ w A c l e _ _ hr hl hc hm => rnew_no w A c l e hr hl hc hm
  nodes := fun _ w r F e l _ h => by
    obtain ⟨h1, -, -, -, A, c, B, cb, h5⟩ := h
    exact rnodes_any w r F e l A c B cb h5 (nodes_five (ring_nodes h1))
  owner := fun _ w r F e l h _ hat _ _ => by
    obtain ⟨h1, -, -, -, A, c, B, cb, h5⟩ := hat
    exact mowner_any w r F e l A c B cb h h5 (ring_nodes h1)
  nodesNil := fun w => (rnodes_nil w).mono fun _ _ ⟨h1, h2⟩ => ⟨⟨none, 0, h1⟩, kp_of_eq h2⟩
  ownerNil := fun w h => mowner_nil w h
set_option maxRecDepth 100000 in
theorem own : ownKnob Try.prog.godebug = none := by kernel_rfl
set_option maxRecDepth 100000 in
theorem laidOut : laidOutB Try.prog = true := by kernel_rfl

end Go.Proofs.Ytcmblihlbmclaaa
