/-
  LAYINGS OF THE SHELF's CONTRACTS AT THIS PROGRAM: tables of numbers, and their fit.
-/
import Derived.Shelf.SlSorted.Search
import Derived.Ground.SlsoProg
import Derived.Test.YtcmblihlbmclaaaProg
namespace Go.Proofs
open Go.Shelf
def Try.searchR_ren : Go.Shelf.Ren := ⟨fun | 16 => 34 | n => n, fun | 3 => 3 | 35 => 63 | 4 => 4 | 38 => 40 | n => n, fun | n => n⟩
theorem Try.searchR : Go.Proofs.SlLaysO.n16 Try.prog Try.searchR_ren := {
  mixed := by kernel_rfl
  f16 := Try.func34.trans (congrArg some (by kernel_rfl))
  t3 := Try.underlying3
  a3 := Try.isAgg3
  z3 := Try.sizeOf3
  v3 := Try.zeroValue3
  t4 := Try.underlying4
  a4 := Try.isAgg4
  z4 := Try.sizeOf4
  v4 := Try.zeroValue4
  t35 := Try.underlying63
  a35 := Try.isAgg63
  z35 := Try.sizeOf63
  v35 := Try.zeroValue63
  t38 := Try.underlying40
  a38 := Try.isAgg40
  z38 := Try.sizeOf40
  v38 := Try.zeroValue40 }
end Go.Proofs
