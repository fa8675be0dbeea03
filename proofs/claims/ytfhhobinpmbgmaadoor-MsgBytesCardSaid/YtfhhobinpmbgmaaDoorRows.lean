/-
  NARROWER THAN 'FOR EVERY INPUT', by the rows' own cells (each row's printed sentence says how): MsgMay: laid · MsgBytes: laid · MsgAny: laid · MsgEq: laid · MsgTurned: laid · MsgSmall: laid.
  DERIVED. THE GIVEN ROWS OF THIS SEAT. 6 by the template 'for every input the law returns true; each argument reads behind the call as it read before'; 0 by the template 'total and deterministic' (their statements: YtfhhobinpmbgmaaDoorTotals.lean).
  GIVEN WITH THE SEED: the statements are not yours to turn. If you find one false, say at which input.
  Laid BY PROGRAM, IN A SANDBOX (cutbox-rows.mjs): the forced cells as the released guide's own fill.sh prints them over the translation ee805c7a2750bcb0… (all of the seat's roots in one cut). By AI agents, Wed Nov 11 2026. No macro, syntax, notation, axiom, sorry.
-/
import Derived.Test.YtfhhobinpmbgmaaDoorChecked
import GoSem.Claim
import GoSem.ClaimJoined
import GoSem.ClaimMapViews
import Derived.JoinedTies
import Derived.KernelRfl
namespace Go.Proofs.YtfhhobinpmbgmaaDoor
/- THE CELL 'sum', in the pinned program and in every row, IS THE sha256 OF THE DUMP (.gsa) THAT YtfhhobinpmbgmaaDoorProg.lean LOADS. Nothing in Lean hashes anything: it is a label: what it is worth is what the hold of that sum in a sandbox is worth. -/
noncomputable def Tryd.pinned : Pinned := { name := "ytfhhobinpmbgmaadoor", sum := "ee805c7a2750bcb0fa5d4d9a0c484a85a5036988ee077f915d86c6431b6dbad3", checked := Tryd.checked }
namespace Rows
def none {H : Type} : Left H := { results := [], args := [] }

/- WHAT THE LISTED PACKAGE-LEVEL VARIABLES READ AS WHEN THE CALL BEGINS. Each datum BY PROGRAM (the guide's laid-datum.mjs) off the statement by which the dump's own 'gosem.cut.vars' lays the variable. In a bare row this is a premise. The card (YtfhhobinpmbgmaaDoorCards.lean) ties it to the program's text. -/
def laid_icehouse_crc_taken {H : Type} : DataW H := .agg [.lit (.int .u32 0), .lit (.int .u32 498536548), .lit (.int .u32 997073096), .lit (.int .u32 651767980), .lit (.int .u32 1994146192), .lit (.int .u32 1802195444), .lit (.int .u32 1303535960), .lit (.int .u32 1342533948), .lit (.int .u32 3988292384), .lit (.int .u32 4027552580), .lit (.int .u32 3604390888), .lit (.int .u32 3412177804), .lit (.int .u32 2607071920), .lit (.int .u32 2262029012), .lit (.int .u32 2685067896), .lit (.int .u32 3183342108)]

/-- 'icehouselaw19.MsgMay': WHATEVER THE INPUT: true; the input reads as it did. -/
def msgMaySpec : ChangeSpec := { name := "msgMay", fn := fun _ => fun
  | [d] => { results := [.lit (.bool true)], args := [d] }
  | _ => none }
def msgMayRow : OpenClaim := { program := "ytfhhobinpmbgmaadoor", sum := "ee805c7a2750bcb0fa5d4d9a0c484a85a5036988ee077f915d86c6431b6dbad3", func := "icehouse/icehouselaw19.MsgMay", spec := "msgMay", named := ["icehouse/crc.taken"], apart := false, laid := [("icehouse/crc.taken", laid_icehouse_crc_taken)] }
def MsgMaySaid : Prop := msgMayRow.holds Tryd.pinned (OpenSpec.ofChange msgMaySpec)

/-- ITS FALSE NEIGHBOUR: 'it returns false'. Refute it at one input. -/
def msgMayWrong : ChangeSpec := { name := "msgMay", fn := fun _ => fun
  | [d] => { results := [.lit (.bool false)], args := [d] }
  | _ => none }
def MsgMayWrongFalsely : Prop := msgMayRow.holds Tryd.pinned (OpenSpec.ofChange msgMayWrong)

/-- 'icehouselaw19.MsgBytes': WHATEVER THE INPUT: true; the input reads as it did. -/
def msgBytesSpec : ChangeSpec := { name := "msgBytes", fn := fun _ => fun
  | [d1, d2, d3, d4] => { results := [.lit (.bool true)], args := [d1, d2, d3, d4] }
  | _ => none }
def msgBytesRow : OpenClaim := { program := "ytfhhobinpmbgmaadoor", sum := "ee805c7a2750bcb0fa5d4d9a0c484a85a5036988ee077f915d86c6431b6dbad3", func := "icehouse/icehouselaw19.MsgBytes", spec := "msgBytes", named := ["icehouse/crc.taken"], apart := false, laid := [("icehouse/crc.taken", laid_icehouse_crc_taken)] }
def MsgBytesSaid : Prop := msgBytesRow.holds Tryd.pinned (OpenSpec.ofChange msgBytesSpec)

/-- ITS FALSE NEIGHBOUR: 'it returns false'. Refute it at one input. -/
def msgBytesWrong : ChangeSpec := { name := "msgBytes", fn := fun _ => fun
  | [d1, d2, d3, d4] => { results := [.lit (.bool false)], args := [d1, d2, d3, d4] }
  | _ => none }
def MsgBytesWrongFalsely : Prop := msgBytesRow.holds Tryd.pinned (OpenSpec.ofChange msgBytesWrong)

/-- 'icehouselaw19.MsgAny': WHATEVER THE INPUT: true; the input reads as it did. -/
def msgAnySpec : ChangeSpec := { name := "msgAny", fn := fun _ => fun
  | [d] => { results := [.lit (.bool true)], args := [d] }
  | _ => none }
def msgAnyRow : OpenClaim := { program := "ytfhhobinpmbgmaadoor", sum := "ee805c7a2750bcb0fa5d4d9a0c484a85a5036988ee077f915d86c6431b6dbad3", func := "icehouse/icehouselaw19.MsgAny", spec := "msgAny", named := ["icehouse/crc.taken"], apart := false, laid := [("icehouse/crc.taken", laid_icehouse_crc_taken)] }
def MsgAnySaid : Prop := msgAnyRow.holds Tryd.pinned (OpenSpec.ofChange msgAnySpec)

/-- ITS FALSE NEIGHBOUR: 'it returns false'. Refute it at one input. -/
def msgAnyWrong : ChangeSpec := { name := "msgAny", fn := fun _ => fun
  | [d] => { results := [.lit (.bool false)], args := [d] }
  | _ => none }
def MsgAnyWrongFalsely : Prop := msgAnyRow.holds Tryd.pinned (OpenSpec.ofChange msgAnyWrong)

/-- 'icehouselaw19.MsgEq': WHATEVER THE INPUT: true; the input reads as it did. -/
def msgEqSpec : ChangeSpec := { name := "msgEq", fn := fun _ => fun
  | [d1, d2] => { results := [.lit (.bool true)], args := [d1, d2] }
  | _ => none }
def msgEqRow : OpenClaim := { program := "ytfhhobinpmbgmaadoor", sum := "ee805c7a2750bcb0fa5d4d9a0c484a85a5036988ee077f915d86c6431b6dbad3", func := "icehouse/icehouselaw19.MsgEq", spec := "msgEq", named := ["icehouse/crc.taken"], apart := false, laid := [("icehouse/crc.taken", laid_icehouse_crc_taken)] }
def MsgEqSaid : Prop := msgEqRow.holds Tryd.pinned (OpenSpec.ofChange msgEqSpec)

/-- ITS FALSE NEIGHBOUR: 'it returns false'. Refute it at one input. -/
def msgEqWrong : ChangeSpec := { name := "msgEq", fn := fun _ => fun
  | [d1, d2] => { results := [.lit (.bool false)], args := [d1, d2] }
  | _ => none }
def MsgEqWrongFalsely : Prop := msgEqRow.holds Tryd.pinned (OpenSpec.ofChange msgEqWrong)

/-- 'icehouselaw19.MsgTurned': WHATEVER THE INPUT: true; the input reads as it did. -/
def msgTurnedSpec : ChangeSpec := { name := "msgTurned", fn := fun _ => fun
  | [d1, d2] => { results := [.lit (.bool true)], args := [d1, d2] }
  | _ => none }
def msgTurnedRow : OpenClaim := { program := "ytfhhobinpmbgmaadoor", sum := "ee805c7a2750bcb0fa5d4d9a0c484a85a5036988ee077f915d86c6431b6dbad3", func := "icehouse/icehouselaw19.MsgTurned", spec := "msgTurned", named := ["icehouse/crc.taken"], apart := false, laid := [("icehouse/crc.taken", laid_icehouse_crc_taken)] }
def MsgTurnedSaid : Prop := msgTurnedRow.holds Tryd.pinned (OpenSpec.ofChange msgTurnedSpec)

/-- ITS FALSE NEIGHBOUR: 'it returns false'. Refute it at one input. -/
def msgTurnedWrong : ChangeSpec := { name := "msgTurned", fn := fun _ => fun
  | [d1, d2] => { results := [.lit (.bool false)], args := [d1, d2] }
  | _ => none }
def MsgTurnedWrongFalsely : Prop := msgTurnedRow.holds Tryd.pinned (OpenSpec.ofChange msgTurnedWrong)

/-- 'icehouselaw19.MsgSmall': WHATEVER THE INPUT: true; the input reads as it did. -/
def msgSmallSpec : ChangeSpec := { name := "msgSmall", fn := fun _ => fun
  | [d1, d2, d3] => { results := [.lit (.bool true)], args := [d1, d2, d3] }
  | _ => none }
def msgSmallRow : OpenClaim := { program := "ytfhhobinpmbgmaadoor", sum := "ee805c7a2750bcb0fa5d4d9a0c484a85a5036988ee077f915d86c6431b6dbad3", func := "icehouse/icehouselaw19.MsgSmall", spec := "msgSmall", named := ["icehouse/crc.taken"], apart := false, laid := [("icehouse/crc.taken", laid_icehouse_crc_taken)] }
def MsgSmallSaid : Prop := msgSmallRow.holds Tryd.pinned (OpenSpec.ofChange msgSmallSpec)

/-- ITS FALSE NEIGHBOUR: 'it returns false'. Refute it at one input. -/
def msgSmallWrong : ChangeSpec := { name := "msgSmall", fn := fun _ => fun
  | [d1, d2, d3] => { results := [.lit (.bool false)], args := [d1, d2, d3] }
  | _ => none }
def MsgSmallWrongFalsely : Prop := msgSmallRow.holds Tryd.pinned (OpenSpec.ofChange msgSmallWrong)

/- THE SECOND FORM. 'bulk': how many values and letters a reading holds, each counted each time it is reached (what is shared counts as often as it is met; a slice's spare places count too). A statement '..UptoSaid' is the law's where the arguments, and the package variables that the reading takes, are together of bulk at most 1048576: NARROWER than '..Said'. Prove '..Said' where nothing that the law and all that it calls make is longer than what came in: it says more and counts as full. Else prove '..UptoSaid'. A law counts once. -/
mutual
def uptoBulk {H : Type} : DataW H → Nat
  | .lit (.string bytes) => bytes.length + 1
  | .lit _ => 1
  | .nil => 1
  | .ptr d => uptoBulk d + 1
  | .slice elems spare => uptoBulkAll elems + uptoBulkAll spare + 1
  | .agg parts => uptoBulkAll parts + 1
  | .iface _ d => uptoBulk d + 1
  | .map entries => uptoBulkEntries entries + 1
  | .held _ => 1
def uptoBulkAll {H : Type} : List (DataW H) → Nat
  | [] => 0
  | d :: r => uptoBulk d + uptoBulkAll r
def uptoBulkEntries {H : Type} : List (Lit × DataW H) → Nat
  | [] => 0
  | x :: r => uptoBulkEntry x + uptoBulkEntries r
def uptoBulkEntry {H : Type} : Lit × DataW H → Nat
  | (.string bytes, d) => bytes.length + uptoBulk d + 1
  | (_, d) => uptoBulk d + 1
 end
def uptoSmall : (H : Type) → List (DataW H) → Bool := fun _ ds => decide (uptoBulkAll ds ≤ 1048576)
def OpenSpec.upto (s : _root_.Go.ChangeSpec) : _root_.Go.OpenSpec := { _root_.Go.OpenSpec.ofChange s with cond := some uptoSmall }

/-- 'icehouselaw19.MsgMay', WHERE WHAT IT READS IS OF BULK AT MOST 1048576: true; the input reads as it did. -/
def msgMayUptoRow : OpenClaim := { program := "ytfhhobinpmbgmaadoor", sum := "ee805c7a2750bcb0fa5d4d9a0c484a85a5036988ee077f915d86c6431b6dbad3", func := "icehouse/icehouselaw19.MsgMay", spec := "msgMay", named := ["icehouse/crc.taken"], apart := false, laid := [("icehouse/crc.taken", laid_icehouse_crc_taken)], narrowed := true }
def MsgMayUptoSaid : Prop := msgMayUptoRow.holds Tryd.pinned (OpenSpec.upto msgMaySpec)

/-- 'icehouselaw19.MsgBytes', WHERE WHAT IT READS IS OF BULK AT MOST 1048576: true; the input reads as it did. -/
def msgBytesUptoRow : OpenClaim := { program := "ytfhhobinpmbgmaadoor", sum := "ee805c7a2750bcb0fa5d4d9a0c484a85a5036988ee077f915d86c6431b6dbad3", func := "icehouse/icehouselaw19.MsgBytes", spec := "msgBytes", named := ["icehouse/crc.taken"], apart := false, laid := [("icehouse/crc.taken", laid_icehouse_crc_taken)], narrowed := true }
def MsgBytesUptoSaid : Prop := msgBytesUptoRow.holds Tryd.pinned (OpenSpec.upto msgBytesSpec)

/-- 'icehouselaw19.MsgAny', WHERE WHAT IT READS IS OF BULK AT MOST 1048576: true; the input reads as it did. -/
def msgAnyUptoRow : OpenClaim := { program := "ytfhhobinpmbgmaadoor", sum := "ee805c7a2750bcb0fa5d4d9a0c484a85a5036988ee077f915d86c6431b6dbad3", func := "icehouse/icehouselaw19.MsgAny", spec := "msgAny", named := ["icehouse/crc.taken"], apart := false, laid := [("icehouse/crc.taken", laid_icehouse_crc_taken)], narrowed := true }
def MsgAnyUptoSaid : Prop := msgAnyUptoRow.holds Tryd.pinned (OpenSpec.upto msgAnySpec)

/-- 'icehouselaw19.MsgEq', WHERE WHAT IT READS IS OF BULK AT MOST 1048576: true; the input reads as it did. -/
def msgEqUptoRow : OpenClaim := { program := "ytfhhobinpmbgmaadoor", sum := "ee805c7a2750bcb0fa5d4d9a0c484a85a5036988ee077f915d86c6431b6dbad3", func := "icehouse/icehouselaw19.MsgEq", spec := "msgEq", named := ["icehouse/crc.taken"], apart := false, laid := [("icehouse/crc.taken", laid_icehouse_crc_taken)], narrowed := true }
def MsgEqUptoSaid : Prop := msgEqUptoRow.holds Tryd.pinned (OpenSpec.upto msgEqSpec)

/-- 'icehouselaw19.MsgTurned', WHERE WHAT IT READS IS OF BULK AT MOST 1048576: true; the input reads as it did. -/
def msgTurnedUptoRow : OpenClaim := { program := "ytfhhobinpmbgmaadoor", sum := "ee805c7a2750bcb0fa5d4d9a0c484a85a5036988ee077f915d86c6431b6dbad3", func := "icehouse/icehouselaw19.MsgTurned", spec := "msgTurned", named := ["icehouse/crc.taken"], apart := false, laid := [("icehouse/crc.taken", laid_icehouse_crc_taken)], narrowed := true }
def MsgTurnedUptoSaid : Prop := msgTurnedUptoRow.holds Tryd.pinned (OpenSpec.upto msgTurnedSpec)

/-- 'icehouselaw19.MsgSmall', WHERE WHAT IT READS IS OF BULK AT MOST 1048576: true; the input reads as it did. -/
def msgSmallUptoRow : OpenClaim := { program := "ytfhhobinpmbgmaadoor", sum := "ee805c7a2750bcb0fa5d4d9a0c484a85a5036988ee077f915d86c6431b6dbad3", func := "icehouse/icehouselaw19.MsgSmall", spec := "msgSmall", named := ["icehouse/crc.taken"], apart := false, laid := [("icehouse/crc.taken", laid_icehouse_crc_taken)], narrowed := true }
def MsgSmallUptoSaid : Prop := msgSmallUptoRow.holds Tryd.pinned (OpenSpec.upto msgSmallSpec)

end Rows
end Go.Proofs.YtfhhobinpmbgmaaDoor
