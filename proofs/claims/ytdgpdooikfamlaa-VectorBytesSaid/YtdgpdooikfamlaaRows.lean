/-
  No cell of these rows narrows 'for every input' (looked for: loops, veiled, ifaces, maps, wideKeys, modest, calm, conditions, laid).
  DERIVED. THE GIVEN ROWS OF THIS SEAT. 5 by the template 'for every input the law returns true; each argument reads behind the call as it read before'; 0 by the template 'total and deterministic' (their statements: YtdgpdooikfamlaaTotals.lean).
  GIVEN WITH THE SEED: the statements are not yours to turn. If you find one false, say at which input.
  Laid BY PROGRAM, IN A SANDBOX (cutbox-rows.mjs): the forced cells as the released guide's own fill.sh prints them over the translation 8e970274e226fdb5… (all of the seat's roots in one cut). By AI agents, Wed Nov 11 2026. No macro, syntax, notation, axiom, sorry.
-/
import Derived.Test.YtdgpdooikfamlaaChecked
import GoSem.Claim
import GoSem.ClaimJoined
import GoSem.ClaimMapViews
import Derived.JoinedTies
import Derived.KernelRfl
namespace Go.Proofs.Ytdgpdooikfamlaa
/- THE CELL 'sum', in the pinned program and in every row, IS THE sha256 OF THE DUMP (.gsa) THAT YtdgpdooikfamlaaProg.lean LOADS. Nothing in Lean hashes anything: it is a label: what it is worth is what the hold of that sum in a sandbox is worth. -/
noncomputable def Try.pinned : Pinned := { name := "ytdgpdooikfamlaa", sum := "8e970274e226fdb525b0c3024b1e0d21f4107b307519ecf8c1dfa7f4315a7345", checked := Try.checked }
namespace Rows
def none {H : Type} : Left H := { results := [], args := [] }

/-- 'icehouselaw11.VectorAll': WHATEVER THE INPUT: true; the input reads as it did. -/
def vectorAllSpec : ChangeSpec := { name := "vectorAll", fn := fun _ => fun
  | [d1, d2, d3, d4, d5] => { results := [.lit (.bool true)], args := [d1, d2, d3, d4, d5] }
  | _ => none }
def vectorAllRow : OpenClaim := { program := "ytdgpdooikfamlaa", sum := "8e970274e226fdb525b0c3024b1e0d21f4107b307519ecf8c1dfa7f4315a7345", func := "icehouse/icehouselaw11.VectorAll", spec := "vectorAll", unfollowed := true, recurses := true, apart := false }
def VectorAllSaid : Prop := vectorAllRow.holds Try.pinned (OpenSpec.ofChange vectorAllSpec)

/-- ITS FALSE NEIGHBOUR: 'it returns false'. Refute it at one input. -/
def vectorAllWrong : ChangeSpec := { name := "vectorAll", fn := fun _ => fun
  | [d1, d2, d3, d4, d5] => { results := [.lit (.bool false)], args := [d1, d2, d3, d4, d5] }
  | _ => none }
def VectorAllWrongFalsely : Prop := vectorAllRow.holds Try.pinned (OpenSpec.ofChange vectorAllWrong)

/-- 'icehouselaw11.VectorBytes': WHATEVER THE INPUT: true; the input reads as it did. -/
def vectorBytesSpec : ChangeSpec := { name := "vectorBytes", fn := fun _ => fun
  | [d1, d2, d3, d4] => { results := [.lit (.bool true)], args := [d1, d2, d3, d4] }
  | _ => none }
def vectorBytesRow : OpenClaim := { program := "ytdgpdooikfamlaa", sum := "8e970274e226fdb525b0c3024b1e0d21f4107b307519ecf8c1dfa7f4315a7345", func := "icehouse/icehouselaw11.VectorBytes", spec := "vectorBytes", unfollowed := true, recurses := true, apart := false }
def VectorBytesSaid : Prop := vectorBytesRow.holds Try.pinned (OpenSpec.ofChange vectorBytesSpec)

/-- ITS FALSE NEIGHBOUR: 'it returns false'. Refute it at one input. -/
def vectorBytesWrong : ChangeSpec := { name := "vectorBytes", fn := fun _ => fun
  | [d1, d2, d3, d4] => { results := [.lit (.bool false)], args := [d1, d2, d3, d4] }
  | _ => none }
def VectorBytesWrongFalsely : Prop := vectorBytesRow.holds Try.pinned (OpenSpec.ofChange vectorBytesWrong)

/-- 'icehouselaw11.VectorLaws': WHATEVER THE INPUT: true; the input reads as it did. -/
def vectorLawsSpec : ChangeSpec := { name := "vectorLaws", fn := fun _ => fun
  | [d1, d2] => { results := [.lit (.bool true)], args := [d1, d2] }
  | _ => none }
def vectorLawsRow : OpenClaim := { program := "ytdgpdooikfamlaa", sum := "8e970274e226fdb525b0c3024b1e0d21f4107b307519ecf8c1dfa7f4315a7345", func := "icehouse/icehouselaw11.VectorLaws", spec := "vectorLaws", unfollowed := true, recurses := true, apart := false }
def VectorLawsSaid : Prop := vectorLawsRow.holds Try.pinned (OpenSpec.ofChange vectorLawsSpec)

/-- ITS FALSE NEIGHBOUR: 'it returns false'. Refute it at one input. -/
def vectorLawsWrong : ChangeSpec := { name := "vectorLaws", fn := fun _ => fun
  | [d1, d2] => { results := [.lit (.bool false)], args := [d1, d2] }
  | _ => none }
def VectorLawsWrongFalsely : Prop := vectorLawsRow.holds Try.pinned (OpenSpec.ofChange vectorLawsWrong)

/-- 'icehouselaw11.VectorMany': WHATEVER THE INPUT: true; the input reads as it did. -/
def vectorManySpec : ChangeSpec := { name := "vectorMany", fn := fun _ => fun
  | [d1, d2] => { results := [.lit (.bool true)], args := [d1, d2] }
  | _ => none }
def vectorManyRow : OpenClaim := { program := "ytdgpdooikfamlaa", sum := "8e970274e226fdb525b0c3024b1e0d21f4107b307519ecf8c1dfa7f4315a7345", func := "icehouse/icehouselaw11.VectorMany", spec := "vectorMany", unfollowed := true, recurses := true, apart := false }
def VectorManySaid : Prop := vectorManyRow.holds Try.pinned (OpenSpec.ofChange vectorManySpec)

/-- ITS FALSE NEIGHBOUR: 'it returns false'. Refute it at one input. -/
def vectorManyWrong : ChangeSpec := { name := "vectorMany", fn := fun _ => fun
  | [d1, d2] => { results := [.lit (.bool false)], args := [d1, d2] }
  | _ => none }
def VectorManyWrongFalsely : Prop := vectorManyRow.holds Try.pinned (OpenSpec.ofChange vectorManyWrong)

/-- 'icehouselaw11.VectorSet': WHATEVER THE INPUT: true; the input reads as it did. -/
def vectorSetSpec : ChangeSpec := { name := "vectorSet", fn := fun _ => fun
  | [d1, d2, d3, d4] => { results := [.lit (.bool true)], args := [d1, d2, d3, d4] }
  | _ => none }
def vectorSetRow : OpenClaim := { program := "ytdgpdooikfamlaa", sum := "8e970274e226fdb525b0c3024b1e0d21f4107b307519ecf8c1dfa7f4315a7345", func := "icehouse/icehouselaw11.VectorSet", spec := "vectorSet", unfollowed := true, recurses := true, apart := false }
def VectorSetSaid : Prop := vectorSetRow.holds Try.pinned (OpenSpec.ofChange vectorSetSpec)

/-- ITS FALSE NEIGHBOUR: 'it returns false'. Refute it at one input. -/
def vectorSetWrong : ChangeSpec := { name := "vectorSet", fn := fun _ => fun
  | [d1, d2, d3, d4] => { results := [.lit (.bool false)], args := [d1, d2, d3, d4] }
  | _ => none }
def VectorSetWrongFalsely : Prop := vectorSetRow.holds Try.pinned (OpenSpec.ofChange vectorSetWrong)

/- THE SECOND FORM. 'bulk': how many values and letters a reading holds, each counted each time it is reached (what is shared counts as often as it is met; a slice's spare places count too). A statement '..UptoSaid' is the law's where the arguments, and the package variables that the reading takes, are together of bulk at most 1048576: NARROWER than '..Said'. Prove '..Said' where nothing that the law and all that it calls make is longer than what came in: it says more and counts as full. Else prove '..UptoSaid'. A law counts once. -/
mutual
def uptoBulk {H : Type} : DataW H → Nat
  | .lit (.string bytes) => bytes.length + 1
  | .lit _ => 1
  | .nil => 1
  | .ptr d => uptoBulk d + 1
  | .slice elems spare => uptoBulkAll elems + uptoBulkAll spare + 1
  | .agg parts => uptoBulkAll parts + 1
  | .iface _ d => uptoBulk d + 1
  | .map entries => uptoBulkEntries entries + 1
  | .held _ => 1
def uptoBulkAll {H : Type} : List (DataW H) → Nat
  | [] => 0
  | d :: r => uptoBulk d + uptoBulkAll r
def uptoBulkEntries {H : Type} : List (Lit × DataW H) → Nat
  | [] => 0
  | x :: r => uptoBulkEntry x + uptoBulkEntries r
def uptoBulkEntry {H : Type} : Lit × DataW H → Nat
  | (.string bytes, d) => bytes.length + uptoBulk d + 1
  | (_, d) => uptoBulk d + 1
 end
def uptoSmall : (H : Type) → List (DataW H) → Bool := fun _ ds => decide (uptoBulkAll ds ≤ 1048576)
def OpenSpec.upto (s : _root_.Go.ChangeSpec) : _root_.Go.OpenSpec := { _root_.Go.OpenSpec.ofChange s with cond := some uptoSmall }

/-- 'icehouselaw11.VectorAll', WHERE WHAT IT READS IS OF BULK AT MOST 1048576: true; the input reads as it did. -/
def vectorAllUptoRow : OpenClaim := { program := "ytdgpdooikfamlaa", sum := "8e970274e226fdb525b0c3024b1e0d21f4107b307519ecf8c1dfa7f4315a7345", func := "icehouse/icehouselaw11.VectorAll", spec := "vectorAll", unfollowed := true, recurses := true, apart := false, narrowed := true }
def VectorAllUptoSaid : Prop := vectorAllUptoRow.holds Try.pinned (OpenSpec.upto vectorAllSpec)

/-- 'icehouselaw11.VectorBytes', WHERE WHAT IT READS IS OF BULK AT MOST 1048576: true; the input reads as it did. -/
def vectorBytesUptoRow : OpenClaim := { program := "ytdgpdooikfamlaa", sum := "8e970274e226fdb525b0c3024b1e0d21f4107b307519ecf8c1dfa7f4315a7345", func := "icehouse/icehouselaw11.VectorBytes", spec := "vectorBytes", unfollowed := true, recurses := true, apart := false, narrowed := true }
def VectorBytesUptoSaid : Prop := vectorBytesUptoRow.holds Try.pinned (OpenSpec.upto vectorBytesSpec)

/-- 'icehouselaw11.VectorLaws', WHERE WHAT IT READS IS OF BULK AT MOST 1048576: true; the input reads as it did. -/
def vectorLawsUptoRow : OpenClaim := { program := "ytdgpdooikfamlaa", sum := "8e970274e226fdb525b0c3024b1e0d21f4107b307519ecf8c1dfa7f4315a7345", func := "icehouse/icehouselaw11.VectorLaws", spec := "vectorLaws", unfollowed := true, recurses := true, apart := false, narrowed := true }
def VectorLawsUptoSaid : Prop := vectorLawsUptoRow.holds Try.pinned (OpenSpec.upto vectorLawsSpec)

/-- 'icehouselaw11.VectorMany', WHERE WHAT IT READS IS OF BULK AT MOST 1048576: true; the input reads as it did. -/
def vectorManyUptoRow : OpenClaim := { program := "ytdgpdooikfamlaa", sum := "8e970274e226fdb525b0c3024b1e0d21f4107b307519ecf8c1dfa7f4315a7345", func := "icehouse/icehouselaw11.VectorMany", spec := "vectorMany", unfollowed := true, recurses := true, apart := false, narrowed := true }
def VectorManyUptoSaid : Prop := vectorManyUptoRow.holds Try.pinned (OpenSpec.upto vectorManySpec)

/-- 'icehouselaw11.VectorSet', WHERE WHAT IT READS IS OF BULK AT MOST 1048576: true; the input reads as it did. -/
def vectorSetUptoRow : OpenClaim := { program := "ytdgpdooikfamlaa", sum := "8e970274e226fdb525b0c3024b1e0d21f4107b307519ecf8c1dfa7f4315a7345", func := "icehouse/icehouselaw11.VectorSet", spec := "vectorSet", unfollowed := true, recurses := true, apart := false, narrowed := true }
def VectorSetUptoSaid : Prop := vectorSetUptoRow.holds Try.pinned (OpenSpec.upto vectorSetSpec)

end Rows
end Go.Proofs.Ytdgpdooikfamlaa
