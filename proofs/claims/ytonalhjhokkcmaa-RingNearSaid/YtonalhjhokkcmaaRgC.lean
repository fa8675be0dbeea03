/-
  THE PROGRAM's RINGS IN MEMORY (layer 14): what a ring's block says.
-/
import Derived.Test.YtonalhjhokkcmaaRgIf
namespace Go.Proofs.Ytonalhjhokkcmaa
open Go Go.RowKit Go.Joins

/-- The cells of a ring in the block r, its rows in blocks F. -/
structure RgC (w : World) (r : Nat) (F : Nat → Prop) (e : Int) (l : List Int) (A : Option Addr) (c : Nat) (B : Option Addr) (cb : Nat) : Prop where
  e0 : w.cell? ⟨r, 0, none⟩ = some (.int .i64 e)
  e1 : w.cell? ⟨r, 1, none⟩ = some (.slice A l.length c)
  e2 : w.cell? ⟨r, 2, none⟩ = some (.slice B (8 * l.length) cb)
  row : Row w A F (l.map (Value.int .i64))
  prow : PRow w B F (pts l)
  c1 : l.length ≤ c
  c2 : c ≤ maxLen
  c3 : 8 * l.length ≤ cb
  c4 : cb ≤ maxLen
theorem RgC.keep {w w' : World} {r : Nat} {F : Nat → Prop} {e : Int} {l : List Int} {A : Option Addr} {c : Nat} {B : Option Addr} {cb : Nat} (h : RgC w r F e l A c B cb) (hF : F r) (hk : Keeps F w w') : RgC w' r F e l A c B cb :=
  ⟨hk.cell h.e0 hF, hk.cell h.e1 hF, hk.cell h.e2 hF, h.row.keep hk, h.prow.keep hk, h.c1, h.c2, h.c3, h.c4⟩
def RgAt (W w : World) (r : Nat) (F : Nat → Prop) (e : Int) (l : List Int) : Prop :=
  ringB e l = true ∧ Kp W w ∧ (∀ b, F b → W.heap.size ≤ b ∧ b < w.heap.size) ∧ F r ∧ ∃ A c B cb, RgC w r F e l A c B cb
theorem rgAt_keep {W w w' : World} {r : Nat} {F : Nat → Prop} {e : Int} {l : List Int} (h : RgAt W w r F e l) (hk : Keeps F w w') (hW : Kp W w') : RgAt W w' r F e l := by
  obtain ⟨h1, _, h3, h4, A, c, B, cb, h5⟩ := h
  exact ⟨h1, hW, fun b hb => ⟨(h3 b hb).1, Nat.lt_of_lt_of_le (h3 b hb).2 hk.size⟩, h4, A, c, B, cb, h5.keep h4 hk⟩

end Go.Proofs.Ytonalhjhokkcmaa
