/-
  For every size and every choice: a crash keeps what was flushed, and of the others those chosen: DevSectors answers true.
  Conditions: none. (The frame of a row that lists no variable; where a table is reached: LAID=1 python3 wip/law.py.)
-/
import Derived.Test.YtgmgojpkjchmcaaDevSectorsWalk
import Derived.Test.YtgmgojpkjchmcaaDevMade
import Derived.Test.YtgmgojpkjchmcaaRows
namespace Go.Proofs.Ytgmgojpkjchmcaa.devSectors
open Go Go.ChangeShapes Go.WideShapes Go.ChangeAt Go.RowKit

theorem walked (W : World) (n : Int) (_ : (Lit.int .i64 n).wf = true) (A : Option Addr) (c : Nat) (l : List Bool) (a : l.length ≤ c) (b : c ≤ maxLen) (_ : A = none → c = 0) (g : Row W A (fun b => b < W.heap.size) (l.map Value.bool)) :
    Calls Try.prog 7 #[.int .i64 n, .slice A l.length c] W fun e W' => e = .returned (.bool true) ∧ Below W.heap.size W W' :=
  walk theDev W n A c l a b g

theorem lawWalk (H : Type) (enc : TypeId × Value → H) : LawWalk H enc Try.prog 7 Try.f7 (fun _ => True) := by
  intro W base args ds p hval hA hL
  rw [Try.params7] at hA hval
  obtain ⟨v0, vs0, d0, ds0, p0, q0, hargs, rfl, rfl, h0, r0⟩ := trodAll_cons hA
  obtain ⟨v1, vs1, d1, ds1, p1, q1, rfl, rfl, rfl, h1, r1⟩ := trodAll_cons r0
  obtain ⟨rfl, rfl, rfl⟩ := trodAll_nil r1
  obtain rfl : args = #[v0, v1] := by cases args; simp_all
  obtain ⟨n0, rfl, _, _, w0⟩ := open_int Try.underlying3 (hval 0 3 v0 rfl rfl) h0
  obtain ⟨A1, c1, l1, rfl, a1, b1, e1, g1⟩ := open_bools_whole Try.underlying29 Try.underlying4 (by kernel_rfl) (hval 1 29 v1 rfl rfl) h1
  exact walked W n0 w0 A1 c1 l1 a1 b1 e1 g1

set_option maxRecDepth 100000 in
theorem lifted (os : Os) (started : os.Started) (H : Type) (enc : TypeId × Value → H) :
    ReturnsInHanded {} Try.checked os 7 .any (Rows.devSectorsSpec.pre6 enc Try.prog Try.f7 Rows.devSectorsRow.domain false) (Rows.devSectorsSpec.post enc Try.prog Try.f7 false true false false) :=
  law_plain (C := Try.checked) (tb := 4) own started (by kernel_rfl) Try.func7
    (ChangeSpec.witness6 (enc := enc) (C := Try.checked) false ⟨#[], #[.int .i64 0, .slice none 0 0], []⟩ 8 (by kernel_rfl) (by kernel_rfl) (by kernel_rfl) (by kernel_rfl))
    laidOut (by kernel_rfl) (by kernel_rfl) Try.underlying4 rfl (fun ds h => by match ds, h with | [_, _], _ => rfl) (lawWalk H enc)

theorem over : Rows.devSectorsRow.holds Try.pinned (OpenSpec.ofChange Rows.devSectorsSpec) :=
  OpenClaim.holds_of_wide 7 Try.f7 rfl rfl rfl rfl rfl rfl rfl ⟨rfl, rfl, rfl, rfl, rfl⟩ rfl rfl rfl rfl rfl (by kernel_rfl) Try.func7 (by kernel_rfl)
    (of_decide_eq_true (by kernel_rfl)) (by unfold Func.isWrapper; first | (rw [if_pos (by decide +kernel)]; kernel_rfl) | (rw [if_neg (by decide +kernel)]; exact ⟨rfl, rfl⟩))
    (fun os started H enc _ => lifted os started H enc)

/-- The statement. -/
theorem proved : Rows.DevSectorsSaid :=
  over
#print axioms proved
end Go.Proofs.Ytgmgojpkjchmcaa.devSectors
