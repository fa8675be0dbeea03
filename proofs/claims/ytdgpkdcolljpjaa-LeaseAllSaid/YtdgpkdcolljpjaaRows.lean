/-
  No cell of these rows narrows 'for every input' (looked for: loops, veiled, ifaces, maps, wideKeys, modest, calm, conditions, laid).
  DERIVED. THE GIVEN ROWS OF THIS SEAT. 6 by the template 'for every input the law returns true; each argument reads behind the call as it read before'; 0 by the template 'total and deterministic' (their statements: YtdgpkdcolljpjaaTotals.lean).
  GIVEN WITH THE SEED: the statements are not yours to turn. If you find one false, say at which input.
  Laid BY PROGRAM, IN A SANDBOX (cutbox-rows.mjs): the forced cells as the released guide's own fill.sh prints them over the translation d49b57d7d864a95e… (all of the seat's roots in one cut). By AI agents, Wed Nov 11 2026. No macro, syntax, notation, axiom, sorry.
-/
import Derived.Test.YtdgpkdcolljpjaaChecked
import GoSem.Claim
import GoSem.ClaimJoined
import GoSem.ClaimMapViews
import Derived.JoinedTies
import Derived.KernelRfl
namespace Go.Proofs.Ytdgpkdcolljpjaa
/- THE CELL 'sum', in the pinned program and in every row, IS THE sha256 OF THE DUMP (.gsa) THAT YtdgpkdcolljpjaaProg.lean LOADS. Nothing in Lean hashes anything: it is a label: what it is worth is what the hold of that sum in a sandbox is worth. -/
noncomputable def Try.pinned : Pinned := { name := "ytdgpkdcolljpjaa", sum := "d49b57d7d864a95e68369a246403ac0739525da54d4f2fd758a29cdd6ebcf4ad", checked := Try.checked }
namespace Rows
def none {H : Type} : Left H := { results := [], args := [] }

/-- 'icehouselaw17.LeaseAll': WHATEVER THE INPUT: true; the input reads as it did. -/
def leaseAllSpec : ChangeSpec := { name := "leaseAll", fn := fun _ => fun
  | [d1, d2] => { results := [.lit (.bool true)], args := [d1, d2] }
  | _ => none }
def leaseAllRow : OpenClaim := { program := "ytdgpkdcolljpjaa", sum := "d49b57d7d864a95e68369a246403ac0739525da54d4f2fd758a29cdd6ebcf4ad", func := "icehouse/icehouselaw17.LeaseAll", spec := "leaseAll", apart := false }
def LeaseAllSaid : Prop := leaseAllRow.holds Try.pinned (OpenSpec.ofChange leaseAllSpec)

/-- ITS FALSE NEIGHBOUR: 'it returns false'. Refute it at one input. -/
def leaseAllWrong : ChangeSpec := { name := "leaseAll", fn := fun _ => fun
  | [d1, d2] => { results := [.lit (.bool false)], args := [d1, d2] }
  | _ => none }
def LeaseAllWrongFalsely : Prop := leaseAllRow.holds Try.pinned (OpenSpec.ofChange leaseAllWrong)

/-- 'icehouselaw17.LeaseEnd': WHATEVER THE INPUT: true; the input reads as it did. -/
def leaseEndSpec : ChangeSpec := { name := "leaseEnd", fn := fun _ => fun
  | [d1, d2, d3] => { results := [.lit (.bool true)], args := [d1, d2, d3] }
  | _ => none }
def leaseEndRow : OpenClaim := { program := "ytdgpkdcolljpjaa", sum := "d49b57d7d864a95e68369a246403ac0739525da54d4f2fd758a29cdd6ebcf4ad", func := "icehouse/icehouselaw17.LeaseEnd", spec := "leaseEnd", apart := false }
def LeaseEndSaid : Prop := leaseEndRow.holds Try.pinned (OpenSpec.ofChange leaseEndSpec)

/-- ITS FALSE NEIGHBOUR: 'it returns false'. Refute it at one input. -/
def leaseEndWrong : ChangeSpec := { name := "leaseEnd", fn := fun _ => fun
  | [d1, d2, d3] => { results := [.lit (.bool false)], args := [d1, d2, d3] }
  | _ => none }
def LeaseEndWrongFalsely : Prop := leaseEndRow.holds Try.pinned (OpenSpec.ofChange leaseEndWrong)

/-- 'icehouselaw17.LeaseShared': WHATEVER THE INPUT: true; the input reads as it did. -/
def leaseSharedSpec : ChangeSpec := { name := "leaseShared", fn := fun _ => fun
  | [d1, d2] => { results := [.lit (.bool true)], args := [d1, d2] }
  | _ => none }
def leaseSharedRow : OpenClaim := { program := "ytdgpkdcolljpjaa", sum := "d49b57d7d864a95e68369a246403ac0739525da54d4f2fd758a29cdd6ebcf4ad", func := "icehouse/icehouselaw17.LeaseShared", spec := "leaseShared", apart := false }
def LeaseSharedSaid : Prop := leaseSharedRow.holds Try.pinned (OpenSpec.ofChange leaseSharedSpec)

/-- ITS FALSE NEIGHBOUR: 'it returns false'. Refute it at one input. -/
def leaseSharedWrong : ChangeSpec := { name := "leaseShared", fn := fun _ => fun
  | [d1, d2] => { results := [.lit (.bool false)], args := [d1, d2] }
  | _ => none }
def LeaseSharedWrongFalsely : Prop := leaseSharedRow.holds Try.pinned (OpenSpec.ofChange leaseSharedWrong)

/-- 'icehouselaw17.LeaseNone': WHATEVER THE INPUT: true; the input reads as it did. -/
def leaseNoneSpec : ChangeSpec := { name := "leaseNone", fn := fun _ => fun
  | [] => { results := [.lit (.bool true)], args := [] }
  | _ => none }
def leaseNoneRow : OpenClaim := { program := "ytdgpkdcolljpjaa", sum := "d49b57d7d864a95e68369a246403ac0739525da54d4f2fd758a29cdd6ebcf4ad", func := "icehouse/icehouselaw17.LeaseNone", spec := "leaseNone", apart := false }
def LeaseNoneSaid : Prop := leaseNoneRow.holds Try.pinned (OpenSpec.ofChange leaseNoneSpec)

/-- ITS FALSE NEIGHBOUR: 'it returns false'. Refute it at one input. -/
def leaseNoneWrong : ChangeSpec := { name := "leaseNone", fn := fun _ => fun
  | [] => { results := [.lit (.bool false)], args := [] }
  | _ => none }
def LeaseNoneWrongFalsely : Prop := leaseNoneRow.holds Try.pinned (OpenSpec.ofChange leaseNoneWrong)

/-- 'icehouselaw17.LeaseLonger': WHATEVER THE INPUT: true; the input reads as it did. -/
def leaseLongerSpec : ChangeSpec := { name := "leaseLonger", fn := fun _ => fun
  | [d1, d2, d3] => { results := [.lit (.bool true)], args := [d1, d2, d3] }
  | _ => none }
def leaseLongerRow : OpenClaim := { program := "ytdgpkdcolljpjaa", sum := "d49b57d7d864a95e68369a246403ac0739525da54d4f2fd758a29cdd6ebcf4ad", func := "icehouse/icehouselaw17.LeaseLonger", spec := "leaseLonger", apart := false }
def LeaseLongerSaid : Prop := leaseLongerRow.holds Try.pinned (OpenSpec.ofChange leaseLongerSpec)

/-- ITS FALSE NEIGHBOUR: 'it returns false'. Refute it at one input. -/
def leaseLongerWrong : ChangeSpec := { name := "leaseLonger", fn := fun _ => fun
  | [d1, d2, d3] => { results := [.lit (.bool false)], args := [d1, d2, d3] }
  | _ => none }
def LeaseLongerWrongFalsely : Prop := leaseLongerRow.holds Try.pinned (OpenSpec.ofChange leaseLongerWrong)

/-- 'icehouselaw17.LeaseElder': WHATEVER THE INPUT: true; the input reads as it did. -/
def leaseElderSpec : ChangeSpec := { name := "leaseElder", fn := fun _ => fun
  | [d1, d2] => { results := [.lit (.bool true)], args := [d1, d2] }
  | _ => none }
def leaseElderRow : OpenClaim := { program := "ytdgpkdcolljpjaa", sum := "d49b57d7d864a95e68369a246403ac0739525da54d4f2fd758a29cdd6ebcf4ad", func := "icehouse/icehouselaw17.LeaseElder", spec := "leaseElder", apart := false }
def LeaseElderSaid : Prop := leaseElderRow.holds Try.pinned (OpenSpec.ofChange leaseElderSpec)

/-- ITS FALSE NEIGHBOUR: 'it returns false'. Refute it at one input. -/
def leaseElderWrong : ChangeSpec := { name := "leaseElder", fn := fun _ => fun
  | [d1, d2] => { results := [.lit (.bool false)], args := [d1, d2] }
  | _ => none }
def LeaseElderWrongFalsely : Prop := leaseElderRow.holds Try.pinned (OpenSpec.ofChange leaseElderWrong)

/- THE SECOND FORM. 'bulk': how many values and letters a reading holds, each counted each time it is reached (what is shared counts as often as it is met; a slice's spare places count too). A statement '..UptoSaid' is the law's where the arguments, and the package variables that the reading takes, are together of bulk at most 1048576: NARROWER than '..Said'. Prove '..Said' where nothing that the law and all that it calls make is longer than what came in: it says more and counts as full. Else prove '..UptoSaid'. A law counts once. -/
mutual
def uptoBulk {H : Type} : DataW H → Nat
  | .lit (.string bytes) => bytes.length + 1
  | .lit _ => 1
  | .nil => 1
  | .ptr d => uptoBulk d + 1
  | .slice elems spare => uptoBulkAll elems + uptoBulkAll spare + 1
  | .agg parts => uptoBulkAll parts + 1
  | .iface _ d => uptoBulk d + 1
  | .map entries => uptoBulkEntries entries + 1
  | .held _ => 1
def uptoBulkAll {H : Type} : List (DataW H) → Nat
  | [] => 0
  | d :: r => uptoBulk d + uptoBulkAll r
def uptoBulkEntries {H : Type} : List (Lit × DataW H) → Nat
  | [] => 0
  | x :: r => uptoBulkEntry x + uptoBulkEntries r
def uptoBulkEntry {H : Type} : Lit × DataW H → Nat
  | (.string bytes, d) => bytes.length + uptoBulk d + 1
  | (_, d) => uptoBulk d + 1
 end
def uptoSmall : (H : Type) → List (DataW H) → Bool := fun _ ds => decide (uptoBulkAll ds ≤ 1048576)
def OpenSpec.upto (s : _root_.Go.ChangeSpec) : _root_.Go.OpenSpec := { _root_.Go.OpenSpec.ofChange s with cond := some uptoSmall }

/-- 'icehouselaw17.LeaseAll', WHERE WHAT IT READS IS OF BULK AT MOST 1048576: true; the input reads as it did. -/
def leaseAllUptoRow : OpenClaim := { program := "ytdgpkdcolljpjaa", sum := "d49b57d7d864a95e68369a246403ac0739525da54d4f2fd758a29cdd6ebcf4ad", func := "icehouse/icehouselaw17.LeaseAll", spec := "leaseAll", apart := false, narrowed := true }
def LeaseAllUptoSaid : Prop := leaseAllUptoRow.holds Try.pinned (OpenSpec.upto leaseAllSpec)

/-- 'icehouselaw17.LeaseEnd', WHERE WHAT IT READS IS OF BULK AT MOST 1048576: true; the input reads as it did. -/
def leaseEndUptoRow : OpenClaim := { program := "ytdgpkdcolljpjaa", sum := "d49b57d7d864a95e68369a246403ac0739525da54d4f2fd758a29cdd6ebcf4ad", func := "icehouse/icehouselaw17.LeaseEnd", spec := "leaseEnd", apart := false, narrowed := true }
def LeaseEndUptoSaid : Prop := leaseEndUptoRow.holds Try.pinned (OpenSpec.upto leaseEndSpec)

/-- 'icehouselaw17.LeaseShared', WHERE WHAT IT READS IS OF BULK AT MOST 1048576: true; the input reads as it did. -/
def leaseSharedUptoRow : OpenClaim := { program := "ytdgpkdcolljpjaa", sum := "d49b57d7d864a95e68369a246403ac0739525da54d4f2fd758a29cdd6ebcf4ad", func := "icehouse/icehouselaw17.LeaseShared", spec := "leaseShared", apart := false, narrowed := true }
def LeaseSharedUptoSaid : Prop := leaseSharedUptoRow.holds Try.pinned (OpenSpec.upto leaseSharedSpec)

/-- 'icehouselaw17.LeaseNone', WHERE WHAT IT READS IS OF BULK AT MOST 1048576: true; the input reads as it did. -/
def leaseNoneUptoRow : OpenClaim := { program := "ytdgpkdcolljpjaa", sum := "d49b57d7d864a95e68369a246403ac0739525da54d4f2fd758a29cdd6ebcf4ad", func := "icehouse/icehouselaw17.LeaseNone", spec := "leaseNone", apart := false, narrowed := true }
def LeaseNoneUptoSaid : Prop := leaseNoneUptoRow.holds Try.pinned (OpenSpec.upto leaseNoneSpec)

/-- 'icehouselaw17.LeaseLonger', WHERE WHAT IT READS IS OF BULK AT MOST 1048576: true; the input reads as it did. -/
def leaseLongerUptoRow : OpenClaim := { program := "ytdgpkdcolljpjaa", sum := "d49b57d7d864a95e68369a246403ac0739525da54d4f2fd758a29cdd6ebcf4ad", func := "icehouse/icehouselaw17.LeaseLonger", spec := "leaseLonger", apart := false, narrowed := true }
def LeaseLongerUptoSaid : Prop := leaseLongerUptoRow.holds Try.pinned (OpenSpec.upto leaseLongerSpec)

/-- 'icehouselaw17.LeaseElder', WHERE WHAT IT READS IS OF BULK AT MOST 1048576: true; the input reads as it did. -/
def leaseElderUptoRow : OpenClaim := { program := "ytdgpkdcolljpjaa", sum := "d49b57d7d864a95e68369a246403ac0739525da54d4f2fd758a29cdd6ebcf4ad", func := "icehouse/icehouselaw17.LeaseElder", spec := "leaseElder", apart := false, narrowed := true }
def LeaseElderUptoSaid : Prop := leaseElderUptoRow.holds Try.pinned (OpenSpec.upto leaseElderSpec)

end Rows
end Go.Proofs.Ytdgpkdcolljpjaa
