/-
  No cell of these rows narrows 'for every input' (looked for: loops, veiled, ifaces, maps, wideKeys, modest, calm, conditions, laid).
  DERIVED. THE GIVEN ROWS OF THIS SEAT. 4 by the template 'for every input the law returns true; each argument reads behind the call as it read before'; 0 by the template 'total and deterministic' (their statements: YtegglcgopddfcaaTotals.lean).
  GIVEN WITH THE SEED: the statements are not yours to turn. If you find one false, say at which input.
  Laid BY PROGRAM, IN A SANDBOX (cutbox-rows.mjs): the forced cells as the released guide's own fill.sh prints them over the translation 78967efab331df57… (all of the seat's roots in one cut). By AI agents, Wed Nov 11 2026. No macro, syntax, notation, axiom, sorry.
-/
import Derived.Test.YtegglcgopddfcaaChecked
import GoSem.Claim
import GoSem.ClaimJoined
import GoSem.ClaimMapViews
import Derived.JoinedTies
import Derived.KernelRfl
namespace Go.Proofs.Ytegglcgopddfcaa
/- THE CELL 'sum', in the pinned program and in every row, IS THE sha256 OF THE DUMP (.gsa) THAT YtegglcgopddfcaaProg.lean LOADS. Nothing in Lean hashes anything: it is a label: what it is worth is what the hold of that sum in a sandbox is worth. -/
noncomputable def Try.pinned : Pinned := { name := "ytegglcgopddfcaa", sum := "78967efab331df571f2f3ce211658b02ed6e9e5dc8fdbd7a1aa4ac86cf0ceae0", checked := Try.checked }
namespace Rows
def none {H : Type} : Left H := { results := [], args := [] }

/-- 'icehouselaw1.MixOf': WHATEVER THE INPUT: true; the input reads as it did. -/
def mixOfSpec : ChangeSpec := { name := "mixOf", fn := fun _ => fun
  | [d] => { results := [.lit (.bool true)], args := [d] }
  | _ => none }
def mixOfRow : OpenClaim := { program := "ytegglcgopddfcaa", sum := "78967efab331df571f2f3ce211658b02ed6e9e5dc8fdbd7a1aa4ac86cf0ceae0", func := "icehouse/icehouselaw1.MixOf", spec := "mixOf", apart := false }
def MixOfSaid : Prop := mixOfRow.holds Try.pinned (OpenSpec.ofChange mixOfSpec)

/-- ITS FALSE NEIGHBOUR: 'it returns false'. Refute it at one input. -/
def mixOfWrong : ChangeSpec := { name := "mixOf", fn := fun _ => fun
  | [d] => { results := [.lit (.bool false)], args := [d] }
  | _ => none }
def MixOfWrongFalsely : Prop := mixOfRow.holds Try.pinned (OpenSpec.ofChange mixOfWrong)

/-- 'icehouselaw1.MixStir': WHATEVER THE INPUT: true; the input reads as it did. -/
def mixStirSpec : ChangeSpec := { name := "mixStir", fn := fun _ => fun
  | [d1, d2, d3, d4] => { results := [.lit (.bool true)], args := [d1, d2, d3, d4] }
  | _ => none }
def mixStirRow : OpenClaim := { program := "ytegglcgopddfcaa", sum := "78967efab331df571f2f3ce211658b02ed6e9e5dc8fdbd7a1aa4ac86cf0ceae0", func := "icehouse/icehouselaw1.MixStir", spec := "mixStir", apart := false }
def MixStirSaid : Prop := mixStirRow.holds Try.pinned (OpenSpec.ofChange mixStirSpec)

/-- ITS FALSE NEIGHBOUR: 'it returns false'. Refute it at one input. -/
def mixStirWrong : ChangeSpec := { name := "mixStir", fn := fun _ => fun
  | [d1, d2, d3, d4] => { results := [.lit (.bool false)], args := [d1, d2, d3, d4] }
  | _ => none }
def MixStirWrongFalsely : Prop := mixStirRow.holds Try.pinned (OpenSpec.ofChange mixStirWrong)

/-- 'icehouselaw1.MixBytes': WHATEVER THE INPUT: true; the input reads as it did. -/
def mixBytesSpec : ChangeSpec := { name := "mixBytes", fn := fun _ => fun
  | [d1, d2] => { results := [.lit (.bool true)], args := [d1, d2] }
  | _ => none }
def mixBytesRow : OpenClaim := { program := "ytegglcgopddfcaa", sum := "78967efab331df571f2f3ce211658b02ed6e9e5dc8fdbd7a1aa4ac86cf0ceae0", func := "icehouse/icehouselaw1.MixBytes", spec := "mixBytes", apart := false }
def MixBytesSaid : Prop := mixBytesRow.holds Try.pinned (OpenSpec.ofChange mixBytesSpec)

/-- ITS FALSE NEIGHBOUR: 'it returns false'. Refute it at one input. -/
def mixBytesWrong : ChangeSpec := { name := "mixBytes", fn := fun _ => fun
  | [d1, d2] => { results := [.lit (.bool false)], args := [d1, d2] }
  | _ => none }
def MixBytesWrongFalsely : Prop := mixBytesRow.holds Try.pinned (OpenSpec.ofChange mixBytesWrong)

/-- 'icehouselaw1.MixOrder': WHATEVER THE INPUT: true; the input reads as it did. -/
def mixOrderSpec : ChangeSpec := { name := "mixOrder", fn := fun _ => fun
  | [d1, d2, d3] => { results := [.lit (.bool true)], args := [d1, d2, d3] }
  | _ => none }
def mixOrderRow : OpenClaim := { program := "ytegglcgopddfcaa", sum := "78967efab331df571f2f3ce211658b02ed6e9e5dc8fdbd7a1aa4ac86cf0ceae0", func := "icehouse/icehouselaw1.MixOrder", spec := "mixOrder", apart := false }
def MixOrderSaid : Prop := mixOrderRow.holds Try.pinned (OpenSpec.ofChange mixOrderSpec)

/-- ITS FALSE NEIGHBOUR: 'it returns false'. Refute it at one input. -/
def mixOrderWrong : ChangeSpec := { name := "mixOrder", fn := fun _ => fun
  | [d1, d2, d3] => { results := [.lit (.bool false)], args := [d1, d2, d3] }
  | _ => none }
def MixOrderWrongFalsely : Prop := mixOrderRow.holds Try.pinned (OpenSpec.ofChange mixOrderWrong)

/- THE SECOND FORM. 'bulk': how many values and letters a reading holds, each counted each time it is reached (what is shared counts as often as it is met; a slice's spare places count too). A statement '..UptoSaid' is the law's where the arguments, and the package variables that the reading takes, are together of bulk at most 1048576: NARROWER than '..Said'. Prove '..Said' where nothing that the law and all that it calls make is longer than what came in: it says more and counts as full. Else prove '..UptoSaid'. A law counts once. -/
mutual
def uptoBulk {H : Type} : DataW H → Nat
  | .lit (.string bytes) => bytes.length + 1
  | .lit _ => 1
  | .nil => 1
  | .ptr d => uptoBulk d + 1
  | .slice elems spare => uptoBulkAll elems + uptoBulkAll spare + 1
  | .agg parts => uptoBulkAll parts + 1
  | .iface _ d => uptoBulk d + 1
  | .map entries => uptoBulkEntries entries + 1
  | .held _ => 1
def uptoBulkAll {H : Type} : List (DataW H) → Nat
  | [] => 0
  | d :: r => uptoBulk d + uptoBulkAll r
def uptoBulkEntries {H : Type} : List (Lit × DataW H) → Nat
  | [] => 0
  | x :: r => uptoBulkEntry x + uptoBulkEntries r
def uptoBulkEntry {H : Type} : Lit × DataW H → Nat
  | (.string bytes, d) => bytes.length + uptoBulk d + 1
  | (_, d) => uptoBulk d + 1
 end
def uptoSmall : (H : Type) → List (DataW H) → Bool := fun _ ds => decide (uptoBulkAll ds ≤ 1048576)
def OpenSpec.upto (s : _root_.Go.ChangeSpec) : _root_.Go.OpenSpec := { _root_.Go.OpenSpec.ofChange s with cond := some uptoSmall }

/-- 'icehouselaw1.MixOf', WHERE WHAT IT READS IS OF BULK AT MOST 1048576: true; the input reads as it did. -/
def mixOfUptoRow : OpenClaim := { program := "ytegglcgopddfcaa", sum := "78967efab331df571f2f3ce211658b02ed6e9e5dc8fdbd7a1aa4ac86cf0ceae0", func := "icehouse/icehouselaw1.MixOf", spec := "mixOf", apart := false, narrowed := true }
def MixOfUptoSaid : Prop := mixOfUptoRow.holds Try.pinned (OpenSpec.upto mixOfSpec)

/-- 'icehouselaw1.MixStir', WHERE WHAT IT READS IS OF BULK AT MOST 1048576: true; the input reads as it did. -/
def mixStirUptoRow : OpenClaim := { program := "ytegglcgopddfcaa", sum := "78967efab331df571f2f3ce211658b02ed6e9e5dc8fdbd7a1aa4ac86cf0ceae0", func := "icehouse/icehouselaw1.MixStir", spec := "mixStir", apart := false, narrowed := true }
def MixStirUptoSaid : Prop := mixStirUptoRow.holds Try.pinned (OpenSpec.upto mixStirSpec)

/-- 'icehouselaw1.MixBytes', WHERE WHAT IT READS IS OF BULK AT MOST 1048576: true; the input reads as it did. -/
def mixBytesUptoRow : OpenClaim := { program := "ytegglcgopddfcaa", sum := "78967efab331df571f2f3ce211658b02ed6e9e5dc8fdbd7a1aa4ac86cf0ceae0", func := "icehouse/icehouselaw1.MixBytes", spec := "mixBytes", apart := false, narrowed := true }
def MixBytesUptoSaid : Prop := mixBytesUptoRow.holds Try.pinned (OpenSpec.upto mixBytesSpec)

/-- 'icehouselaw1.MixOrder', WHERE WHAT IT READS IS OF BULK AT MOST 1048576: true; the input reads as it did. -/
def mixOrderUptoRow : OpenClaim := { program := "ytegglcgopddfcaa", sum := "78967efab331df571f2f3ce211658b02ed6e9e5dc8fdbd7a1aa4ac86cf0ceae0", func := "icehouse/icehouselaw1.MixOrder", spec := "mixOrder", apart := false, narrowed := true }
def MixOrderUptoSaid : Prop := mixOrderUptoRow.holds Try.pinned (OpenSpec.upto mixOrderSpec)

end Rows
end Go.Proofs.Ytegglcgopddfcaa
