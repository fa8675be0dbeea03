/-
  NARROWER THAN 'FOR EVERY INPUT', by the rows' own cells (each row's printed sentence says how): ControlLose: laid · ControlNone: laid · ControlMany: laid · ControlPhases: laid · ControlBack: laid.
  DERIVED. THE GIVEN ROWS OF THIS SEAT. 5 by the template 'for every input the law returns true; each argument reads behind the call as it read before'; 0 by the template 'total and deterministic' (their statements: YtemkjodkmehffaaGreatDoorTotals.lean).
  GIVEN WITH THE SEED: the statements are not yours to turn. If you find one false, say at which input.
  Laid BY PROGRAM, IN A SANDBOX (cutbox-rows.mjs): the forced cells as the released guide's own fill.sh prints them over the translation aba5c62d262209d5… (all of the seat's roots in one cut). By AI agents, Wed Nov 11 2026. No macro, syntax, notation, axiom, sorry.
-/
import Derived.Test.YtemkjodkmehffaaGreatDoorChecked
import GoSem.Claim
import GoSem.ClaimJoined
import GoSem.ClaimMapViews
import Derived.JoinedTies
import Derived.KernelRfl
namespace Go.Proofs.YtemkjodkmehffaaGreatDoor
/- THE CELL 'sum', in the pinned program and in every row, IS THE sha256 OF THE DUMP (.gsa) THAT YtemkjodkmehffaaGreatDoorProg.lean LOADS. Nothing in Lean hashes anything: it is a label: what it is worth is what the hold of that sum in a sandbox is worth. -/
noncomputable def Tryz.pinned : Pinned := { name := "ytemkjodkmehffaagreatdoor", sum := "aba5c62d262209d5a967911670de84d49465fc0bb94e3ea38ccbf27f108d7ceb", checked := Tryz.checked }
namespace Rows
def none {H : Type} : Left H := { results := [], args := [] }

/- WHAT THE LISTED PACKAGE-LEVEL VARIABLES READ AS WHEN THE CALL BEGINS. Each datum BY PROGRAM (the guide's laid-datum.mjs) off the statement by which the dump's own 'gosem.cut.vars' lays the variable. In a bare row this is a premise. The card (YtemkjodkmehffaaGreatDoorCards.lean) ties it to the program's text. -/
def laid_icehouse_crc_taken {H : Type} : DataW H := .agg [.lit (.int .u32 0), .lit (.int .u32 498536548), .lit (.int .u32 997073096), .lit (.int .u32 651767980), .lit (.int .u32 1994146192), .lit (.int .u32 1802195444), .lit (.int .u32 1303535960), .lit (.int .u32 1342533948), .lit (.int .u32 3988292384), .lit (.int .u32 4027552580), .lit (.int .u32 3604390888), .lit (.int .u32 3412177804), .lit (.int .u32 2607071920), .lit (.int .u32 2262029012), .lit (.int .u32 2685067896), .lit (.int .u32 3183342108)]

/-- 'icehouselaw23.ControlLose': WHATEVER THE INPUT: true; the input reads as it did. -/
def controlLoseSpec : ChangeSpec := { name := "controlLose", fn := fun _ => fun
  | [d1, d2, d3] => { results := [.lit (.bool true)], args := [d1, d2, d3] }
  | _ => none }
def controlLoseRow : OpenClaim := { program := "ytemkjodkmehffaagreatdoor", sum := "aba5c62d262209d5a967911670de84d49465fc0bb94e3ea38ccbf27f108d7ceb", func := "icehouse/icehouselaw23.ControlLose", spec := "controlLose", unfollowed := true, recurses := true, named := ["icehouse/crc.taken"], apart := false, laid := [("icehouse/crc.taken", laid_icehouse_crc_taken)] }
def ControlLoseSaid : Prop := controlLoseRow.holds Tryz.pinned (OpenSpec.ofChange controlLoseSpec)

/-- ITS FALSE NEIGHBOUR: 'it returns false'. Refute it at one input. -/
def controlLoseWrong : ChangeSpec := { name := "controlLose", fn := fun _ => fun
  | [d1, d2, d3] => { results := [.lit (.bool false)], args := [d1, d2, d3] }
  | _ => none }
def ControlLoseWrongFalsely : Prop := controlLoseRow.holds Tryz.pinned (OpenSpec.ofChange controlLoseWrong)

/-- 'icehouselaw23.ControlNone': WHATEVER THE INPUT: true; the input reads as it did. -/
def controlNoneSpec : ChangeSpec := { name := "controlNone", fn := fun _ => fun
  | [] => { results := [.lit (.bool true)], args := [] }
  | _ => none }
def controlNoneRow : OpenClaim := { program := "ytemkjodkmehffaagreatdoor", sum := "aba5c62d262209d5a967911670de84d49465fc0bb94e3ea38ccbf27f108d7ceb", func := "icehouse/icehouselaw23.ControlNone", spec := "controlNone", unfollowed := true, recurses := true, named := ["icehouse/crc.taken"], apart := false, laid := [("icehouse/crc.taken", laid_icehouse_crc_taken)] }
def ControlNoneSaid : Prop := controlNoneRow.holds Tryz.pinned (OpenSpec.ofChange controlNoneSpec)

/-- ITS FALSE NEIGHBOUR: 'it returns false'. Refute it at one input. -/
def controlNoneWrong : ChangeSpec := { name := "controlNone", fn := fun _ => fun
  | [] => { results := [.lit (.bool false)], args := [] }
  | _ => none }
def ControlNoneWrongFalsely : Prop := controlNoneRow.holds Tryz.pinned (OpenSpec.ofChange controlNoneWrong)

/-- 'icehouselaw23.ControlMany': WHATEVER THE INPUT: true; the input reads as it did. -/
def controlManySpec : ChangeSpec := { name := "controlMany", fn := fun _ => fun
  | [d1, d2] => { results := [.lit (.bool true)], args := [d1, d2] }
  | _ => none }
def controlManyRow : OpenClaim := { program := "ytemkjodkmehffaagreatdoor", sum := "aba5c62d262209d5a967911670de84d49465fc0bb94e3ea38ccbf27f108d7ceb", func := "icehouse/icehouselaw23.ControlMany", spec := "controlMany", unfollowed := true, recurses := true, named := ["icehouse/crc.taken"], apart := false, laid := [("icehouse/crc.taken", laid_icehouse_crc_taken)] }
def ControlManySaid : Prop := controlManyRow.holds Tryz.pinned (OpenSpec.ofChange controlManySpec)

/-- ITS FALSE NEIGHBOUR: 'it returns false'. Refute it at one input. -/
def controlManyWrong : ChangeSpec := { name := "controlMany", fn := fun _ => fun
  | [d1, d2] => { results := [.lit (.bool false)], args := [d1, d2] }
  | _ => none }
def ControlManyWrongFalsely : Prop := controlManyRow.holds Tryz.pinned (OpenSpec.ofChange controlManyWrong)

/-- 'icehouselaw23.ControlPhases': WHATEVER THE INPUT: true; the input reads as it did. -/
def controlPhasesSpec : ChangeSpec := { name := "controlPhases", fn := fun _ => fun
  | [d1, d2, d3] => { results := [.lit (.bool true)], args := [d1, d2, d3] }
  | _ => none }
def controlPhasesRow : OpenClaim := { program := "ytemkjodkmehffaagreatdoor", sum := "aba5c62d262209d5a967911670de84d49465fc0bb94e3ea38ccbf27f108d7ceb", func := "icehouse/icehouselaw23.ControlPhases", spec := "controlPhases", unfollowed := true, recurses := true, named := ["icehouse/crc.taken"], apart := false, laid := [("icehouse/crc.taken", laid_icehouse_crc_taken)] }
def ControlPhasesSaid : Prop := controlPhasesRow.holds Tryz.pinned (OpenSpec.ofChange controlPhasesSpec)

/-- ITS FALSE NEIGHBOUR: 'it returns false'. Refute it at one input. -/
def controlPhasesWrong : ChangeSpec := { name := "controlPhases", fn := fun _ => fun
  | [d1, d2, d3] => { results := [.lit (.bool false)], args := [d1, d2, d3] }
  | _ => none }
def ControlPhasesWrongFalsely : Prop := controlPhasesRow.holds Tryz.pinned (OpenSpec.ofChange controlPhasesWrong)

/-- 'icehouselaw23.ControlBack': WHATEVER THE INPUT: true; the input reads as it did. -/
def controlBackSpec : ChangeSpec := { name := "controlBack", fn := fun _ => fun
  | [d1, d2] => { results := [.lit (.bool true)], args := [d1, d2] }
  | _ => none }
def controlBackRow : OpenClaim := { program := "ytemkjodkmehffaagreatdoor", sum := "aba5c62d262209d5a967911670de84d49465fc0bb94e3ea38ccbf27f108d7ceb", func := "icehouse/icehouselaw23.ControlBack", spec := "controlBack", unfollowed := true, recurses := true, named := ["icehouse/crc.taken"], apart := false, laid := [("icehouse/crc.taken", laid_icehouse_crc_taken)] }
def ControlBackSaid : Prop := controlBackRow.holds Tryz.pinned (OpenSpec.ofChange controlBackSpec)

/-- ITS FALSE NEIGHBOUR: 'it returns false'. Refute it at one input. -/
def controlBackWrong : ChangeSpec := { name := "controlBack", fn := fun _ => fun
  | [d1, d2] => { results := [.lit (.bool false)], args := [d1, d2] }
  | _ => none }
def ControlBackWrongFalsely : Prop := controlBackRow.holds Tryz.pinned (OpenSpec.ofChange controlBackWrong)

/- THE SECOND FORM. 'bulk': how many values and letters a reading holds, each counted each time it is reached (what is shared counts as often as it is met; a slice's spare places count too). A statement '..UptoSaid' is the law's where the arguments, and the package variables that the reading takes, are together of bulk at most 1048576: NARROWER than '..Said'. Prove '..Said' where nothing that the law and all that it calls make is longer than what came in: it says more and counts as full. Else prove '..UptoSaid'. A law counts once. -/
mutual
def uptoBulk {H : Type} : DataW H → Nat
  | .lit (.string bytes) => bytes.length + 1
  | .lit _ => 1
  | .nil => 1
  | .ptr d => uptoBulk d + 1
  | .slice elems spare => uptoBulkAll elems + uptoBulkAll spare + 1
  | .agg parts => uptoBulkAll parts + 1
  | .iface _ d => uptoBulk d + 1
  | .map entries => uptoBulkEntries entries + 1
  | .held _ => 1
def uptoBulkAll {H : Type} : List (DataW H) → Nat
  | [] => 0
  | d :: r => uptoBulk d + uptoBulkAll r
def uptoBulkEntries {H : Type} : List (Lit × DataW H) → Nat
  | [] => 0
  | x :: r => uptoBulkEntry x + uptoBulkEntries r
def uptoBulkEntry {H : Type} : Lit × DataW H → Nat
  | (.string bytes, d) => bytes.length + uptoBulk d + 1
  | (_, d) => uptoBulk d + 1
 end
def uptoSmall : (H : Type) → List (DataW H) → Bool := fun _ ds => decide (uptoBulkAll ds ≤ 1048576)
def OpenSpec.upto (s : _root_.Go.ChangeSpec) : _root_.Go.OpenSpec := { _root_.Go.OpenSpec.ofChange s with cond := some uptoSmall }

/-- 'icehouselaw23.ControlLose', WHERE WHAT IT READS IS OF BULK AT MOST 1048576: true; the input reads as it did. -/
def controlLoseUptoRow : OpenClaim := { program := "ytemkjodkmehffaagreatdoor", sum := "aba5c62d262209d5a967911670de84d49465fc0bb94e3ea38ccbf27f108d7ceb", func := "icehouse/icehouselaw23.ControlLose", spec := "controlLose", unfollowed := true, recurses := true, named := ["icehouse/crc.taken"], apart := false, laid := [("icehouse/crc.taken", laid_icehouse_crc_taken)], narrowed := true }
def ControlLoseUptoSaid : Prop := controlLoseUptoRow.holds Tryz.pinned (OpenSpec.upto controlLoseSpec)

/-- 'icehouselaw23.ControlNone', WHERE WHAT IT READS IS OF BULK AT MOST 1048576: true; the input reads as it did. -/
def controlNoneUptoRow : OpenClaim := { program := "ytemkjodkmehffaagreatdoor", sum := "aba5c62d262209d5a967911670de84d49465fc0bb94e3ea38ccbf27f108d7ceb", func := "icehouse/icehouselaw23.ControlNone", spec := "controlNone", unfollowed := true, recurses := true, named := ["icehouse/crc.taken"], apart := false, laid := [("icehouse/crc.taken", laid_icehouse_crc_taken)], narrowed := true }
def ControlNoneUptoSaid : Prop := controlNoneUptoRow.holds Tryz.pinned (OpenSpec.upto controlNoneSpec)

/-- 'icehouselaw23.ControlMany', WHERE WHAT IT READS IS OF BULK AT MOST 1048576: true; the input reads as it did. -/
def controlManyUptoRow : OpenClaim := { program := "ytemkjodkmehffaagreatdoor", sum := "aba5c62d262209d5a967911670de84d49465fc0bb94e3ea38ccbf27f108d7ceb", func := "icehouse/icehouselaw23.ControlMany", spec := "controlMany", unfollowed := true, recurses := true, named := ["icehouse/crc.taken"], apart := false, laid := [("icehouse/crc.taken", laid_icehouse_crc_taken)], narrowed := true }
def ControlManyUptoSaid : Prop := controlManyUptoRow.holds Tryz.pinned (OpenSpec.upto controlManySpec)

/-- 'icehouselaw23.ControlPhases', WHERE WHAT IT READS IS OF BULK AT MOST 1048576: true; the input reads as it did. -/
def controlPhasesUptoRow : OpenClaim := { program := "ytemkjodkmehffaagreatdoor", sum := "aba5c62d262209d5a967911670de84d49465fc0bb94e3ea38ccbf27f108d7ceb", func := "icehouse/icehouselaw23.ControlPhases", spec := "controlPhases", unfollowed := true, recurses := true, named := ["icehouse/crc.taken"], apart := false, laid := [("icehouse/crc.taken", laid_icehouse_crc_taken)], narrowed := true }
def ControlPhasesUptoSaid : Prop := controlPhasesUptoRow.holds Tryz.pinned (OpenSpec.upto controlPhasesSpec)

/-- 'icehouselaw23.ControlBack', WHERE WHAT IT READS IS OF BULK AT MOST 1048576: true; the input reads as it did. -/
def controlBackUptoRow : OpenClaim := { program := "ytemkjodkmehffaagreatdoor", sum := "aba5c62d262209d5a967911670de84d49465fc0bb94e3ea38ccbf27f108d7ceb", func := "icehouse/icehouselaw23.ControlBack", spec := "controlBack", unfollowed := true, recurses := true, named := ["icehouse/crc.taken"], apart := false, laid := [("icehouse/crc.taken", laid_icehouse_crc_taken)], narrowed := true }
def ControlBackUptoSaid : Prop := controlBackUptoRow.holds Tryz.pinned (OpenSpec.upto controlBackSpec)

end Rows
end Go.Proofs.YtemkjodkmehffaaGreatDoor
