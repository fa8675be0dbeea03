/-
  LAYINGS OF THE SHELF's CONTRACTS AT THIS PROGRAM: tables of numbers, and their fit.
-/
import Derived.Shelf.SlSorted.Search
import Derived.Ground.SlsoProg
import Derived.Test.YtonalhjhokkcmaaProg
namespace Go.Proofs
open Go.Shelf
def Try.searchR_ren : Go.Shelf.Ren := ⟨fun | 16 => 28 | n => n, fun | 3 => 3 | 35 => 32 | 4 => 4 | 38 => 42 | n => n, fun | n => n⟩
theorem Try.searchR : Go.Proofs.SlLaysO.n16 Try.prog Try.searchR_ren := {
  mixed := by kernel_rfl
  f16 := Try.func28.trans (congrArg some (by kernel_rfl))
  t3 := Try.underlying3
  a3 := Try.isAgg3
  z3 := Try.sizeOf3
  v3 := Try.zeroValue3
  t4 := Try.underlying4
  a4 := Try.isAgg4
  z4 := Try.sizeOf4
  v4 := Try.zeroValue4
  t35 := Try.underlying32
  a35 := Try.isAgg32
  z35 := Try.sizeOf32
  v35 := Try.zeroValue32
  t38 := Try.underlying42
  a38 := Try.isAgg42
  z38 := Try.sizeOf42
  v38 := Try.zeroValue42 }
end Go.Proofs
