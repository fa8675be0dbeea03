/-
  THE PROGRAM's DEVICE ALONE, IN BLOCKS THAT ARE NEW.
-/
import Derived.Test.YtgmgojpkjchmcaaDevOps
namespace Go.Proofs.Ytgmgojpkjchmcaa
open Go Go.RowKit Go.Joins

/-- The program's device of state s, in blocks that are new since w. -/
structure One (D : DevOK) (w wr : World) (p : Nat) (F : Foot) (s : SDev) : Prop where
  d : D.rep wr p F s
  gf : ∀ b, F.all b → w.heap.size ≤ b
  kp : Keeps (fun _ => True) w wr
section
variable {D : DevOK} {w wr w' : World} {p : Nat} {F F' : Foot} {s s' : SDev}
theorem One.keep (h : One D w wr p F s) (hk : Keeps (fun _ => True) wr w') : One D w w' p F s := ⟨D.keep h.d (hk.mono fun _ _ _ => trivial), h.gf, h.kp.trans hk⟩
theorem One.step (h : One D w wr p F s) (hr : D.rep w' p F' s') (hs : Step F F' wr w') : One D w w' p F' s' :=
  ⟨hr, fun b hb => by
    rcases hs.all b hb with h1 | h1
    · exact h.gf b h1
    · exact Nat.le_trans h.kp.size h1, hs.old (fun b hb => h.gf b (.inl hb)) h.kp⟩
end

end Go.Proofs.Ytgmgojpkjchmcaa
