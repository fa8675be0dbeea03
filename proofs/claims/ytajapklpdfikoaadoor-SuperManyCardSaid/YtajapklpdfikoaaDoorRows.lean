/-
  NARROWER THAN 'FOR EVERY INPUT', by the rows' own cells (each row's printed sentence says how): SuperAll: laid · SuperTorn: laid · SuperSpoilt: laid · SuperNone: laid · SuperPlace: laid · SuperMany: laid · SlogAll: laid · SlogNone: laid · SlogRound: laid · SlogOwn: laid · SlogApart: laid.
  DERIVED. THE GIVEN ROWS OF THIS SEAT. 11 by the template 'for every input the law returns true; each argument reads behind the call as it read before'; 0 by the template 'total and deterministic' (their statements: YtajapklpdfikoaaDoorTotals.lean).
  GIVEN WITH THE SEED: the statements are not yours to turn. If you find one false, say at which input.
  Laid BY PROGRAM, IN A SANDBOX (cutbox-rows.mjs): the forced cells as the released guide's own fill.sh prints them over the translation 763cc5324b2e384c… (all of the seat's roots in one cut). By AI agents, Wed Nov 11 2026. No macro, syntax, notation, axiom, sorry.
-/
import Derived.Test.YtajapklpdfikoaaDoorChecked
import GoSem.Claim
import GoSem.ClaimJoined
import GoSem.ClaimMapViews
import Derived.JoinedTies
import Derived.KernelRfl
namespace Go.Proofs.YtajapklpdfikoaaDoor
/- THE CELL 'sum', in the pinned program and in every row, IS THE sha256 OF THE DUMP (.gsa) THAT YtajapklpdfikoaaDoorProg.lean LOADS. Nothing in Lean hashes anything: it is a label: what it is worth is what the hold of that sum in a sandbox is worth. -/
noncomputable def Tryd.pinned : Pinned := { name := "ytajapklpdfikoaadoor", sum := "763cc5324b2e384c1d4199db5fe701258e4e15618ee79e4453a8ab6c6aa1e1de", checked := Tryd.checked }
namespace Rows
def none {H : Type} : Left H := { results := [], args := [] }

/- WHAT THE LISTED PACKAGE-LEVEL VARIABLES READ AS WHEN THE CALL BEGINS. Each datum BY PROGRAM (the guide's laid-datum.mjs) off the statement by which the dump's own 'gosem.cut.vars' lays the variable. In a bare row this is a premise. The card (YtajapklpdfikoaaDoorCards.lean) ties it to the program's text. -/
def laid_icehouse_crc_taken {H : Type} : DataW H := .agg [.lit (.int .u32 0), .lit (.int .u32 498536548), .lit (.int .u32 997073096), .lit (.int .u32 651767980), .lit (.int .u32 1994146192), .lit (.int .u32 1802195444), .lit (.int .u32 1303535960), .lit (.int .u32 1342533948), .lit (.int .u32 3988292384), .lit (.int .u32 4027552580), .lit (.int .u32 3604390888), .lit (.int .u32 3412177804), .lit (.int .u32 2607071920), .lit (.int .u32 2262029012), .lit (.int .u32 2685067896), .lit (.int .u32 3183342108)]

/-- 'icehouselaw5.SuperAll': WHATEVER THE INPUT: true; the input reads as it did. -/
def superAllSpec : ChangeSpec := { name := "superAll", fn := fun _ => fun
  | [d1, d2] => { results := [.lit (.bool true)], args := [d1, d2] }
  | _ => none }
def superAllRow : OpenClaim := { program := "ytajapklpdfikoaadoor", sum := "763cc5324b2e384c1d4199db5fe701258e4e15618ee79e4453a8ab6c6aa1e1de", func := "icehouse/icehouselaw5.SuperAll", spec := "superAll", unfollowed := true, recurses := true, named := ["icehouse/crc.taken"], apart := false, laid := [("icehouse/crc.taken", laid_icehouse_crc_taken)] }
def SuperAllSaid : Prop := superAllRow.holds Tryd.pinned (OpenSpec.ofChange superAllSpec)

/-- ITS FALSE NEIGHBOUR: 'it returns false'. Refute it at one input. -/
def superAllWrong : ChangeSpec := { name := "superAll", fn := fun _ => fun
  | [d1, d2] => { results := [.lit (.bool false)], args := [d1, d2] }
  | _ => none }
def SuperAllWrongFalsely : Prop := superAllRow.holds Tryd.pinned (OpenSpec.ofChange superAllWrong)

/-- 'icehouselaw5.SuperTorn': WHATEVER THE INPUT: true; the input reads as it did. -/
def superTornSpec : ChangeSpec := { name := "superTorn", fn := fun _ => fun
  | [d1, d2, d3] => { results := [.lit (.bool true)], args := [d1, d2, d3] }
  | _ => none }
def superTornRow : OpenClaim := { program := "ytajapklpdfikoaadoor", sum := "763cc5324b2e384c1d4199db5fe701258e4e15618ee79e4453a8ab6c6aa1e1de", func := "icehouse/icehouselaw5.SuperTorn", spec := "superTorn", unfollowed := true, recurses := true, named := ["icehouse/crc.taken"], apart := false, laid := [("icehouse/crc.taken", laid_icehouse_crc_taken)] }
def SuperTornSaid : Prop := superTornRow.holds Tryd.pinned (OpenSpec.ofChange superTornSpec)

/-- ITS FALSE NEIGHBOUR: 'it returns false'. Refute it at one input. -/
def superTornWrong : ChangeSpec := { name := "superTorn", fn := fun _ => fun
  | [d1, d2, d3] => { results := [.lit (.bool false)], args := [d1, d2, d3] }
  | _ => none }
def SuperTornWrongFalsely : Prop := superTornRow.holds Tryd.pinned (OpenSpec.ofChange superTornWrong)

/-- 'icehouselaw5.SuperSpoilt': WHATEVER THE INPUT: true; the input reads as it did. -/
def superSpoiltSpec : ChangeSpec := { name := "superSpoilt", fn := fun _ => fun
  | [d1, d2, d3, d4, d5] => { results := [.lit (.bool true)], args := [d1, d2, d3, d4, d5] }
  | _ => none }
def superSpoiltRow : OpenClaim := { program := "ytajapklpdfikoaadoor", sum := "763cc5324b2e384c1d4199db5fe701258e4e15618ee79e4453a8ab6c6aa1e1de", func := "icehouse/icehouselaw5.SuperSpoilt", spec := "superSpoilt", named := ["icehouse/crc.taken"], apart := false, laid := [("icehouse/crc.taken", laid_icehouse_crc_taken)] }
def SuperSpoiltSaid : Prop := superSpoiltRow.holds Tryd.pinned (OpenSpec.ofChange superSpoiltSpec)

/-- ITS FALSE NEIGHBOUR: 'it returns false'. Refute it at one input. -/
def superSpoiltWrong : ChangeSpec := { name := "superSpoilt", fn := fun _ => fun
  | [d1, d2, d3, d4, d5] => { results := [.lit (.bool false)], args := [d1, d2, d3, d4, d5] }
  | _ => none }
def SuperSpoiltWrongFalsely : Prop := superSpoiltRow.holds Tryd.pinned (OpenSpec.ofChange superSpoiltWrong)

/-- 'icehouselaw5.SuperNone': WHATEVER THE INPUT: true; the input reads as it did. -/
def superNoneSpec : ChangeSpec := { name := "superNone", fn := fun _ => fun
  | [] => { results := [.lit (.bool true)], args := [] }
  | _ => none }
def superNoneRow : OpenClaim := { program := "ytajapklpdfikoaadoor", sum := "763cc5324b2e384c1d4199db5fe701258e4e15618ee79e4453a8ab6c6aa1e1de", func := "icehouse/icehouselaw5.SuperNone", spec := "superNone", named := ["icehouse/crc.taken"], apart := false, laid := [("icehouse/crc.taken", laid_icehouse_crc_taken)] }
def SuperNoneSaid : Prop := superNoneRow.holds Tryd.pinned (OpenSpec.ofChange superNoneSpec)

/-- ITS FALSE NEIGHBOUR: 'it returns false'. Refute it at one input. -/
def superNoneWrong : ChangeSpec := { name := "superNone", fn := fun _ => fun
  | [] => { results := [.lit (.bool false)], args := [] }
  | _ => none }
def SuperNoneWrongFalsely : Prop := superNoneRow.holds Tryd.pinned (OpenSpec.ofChange superNoneWrong)

/-- 'icehouselaw5.SuperPlace': WHATEVER THE INPUT: true; the input reads as it did. -/
def superPlaceSpec : ChangeSpec := { name := "superPlace", fn := fun _ => fun
  | [d1, d2, d3] => { results := [.lit (.bool true)], args := [d1, d2, d3] }
  | _ => none }
def superPlaceRow : OpenClaim := { program := "ytajapklpdfikoaadoor", sum := "763cc5324b2e384c1d4199db5fe701258e4e15618ee79e4453a8ab6c6aa1e1de", func := "icehouse/icehouselaw5.SuperPlace", spec := "superPlace", named := ["icehouse/crc.taken"], apart := false, laid := [("icehouse/crc.taken", laid_icehouse_crc_taken)] }
def SuperPlaceSaid : Prop := superPlaceRow.holds Tryd.pinned (OpenSpec.ofChange superPlaceSpec)

/-- ITS FALSE NEIGHBOUR: 'it returns false'. Refute it at one input. -/
def superPlaceWrong : ChangeSpec := { name := "superPlace", fn := fun _ => fun
  | [d1, d2, d3] => { results := [.lit (.bool false)], args := [d1, d2, d3] }
  | _ => none }
def SuperPlaceWrongFalsely : Prop := superPlaceRow.holds Tryd.pinned (OpenSpec.ofChange superPlaceWrong)

/-- 'icehouselaw5.SuperMany': WHATEVER THE INPUT: true; the input reads as it did. -/
def superManySpec : ChangeSpec := { name := "superMany", fn := fun _ => fun
  | [d] => { results := [.lit (.bool true)], args := [d] }
  | _ => none }
def superManyRow : OpenClaim := { program := "ytajapklpdfikoaadoor", sum := "763cc5324b2e384c1d4199db5fe701258e4e15618ee79e4453a8ab6c6aa1e1de", func := "icehouse/icehouselaw5.SuperMany", spec := "superMany", unfollowed := true, recurses := true, named := ["icehouse/crc.taken"], apart := false, laid := [("icehouse/crc.taken", laid_icehouse_crc_taken)] }
def SuperManySaid : Prop := superManyRow.holds Tryd.pinned (OpenSpec.ofChange superManySpec)

/-- ITS FALSE NEIGHBOUR: 'it returns false'. Refute it at one input. -/
def superManyWrong : ChangeSpec := { name := "superMany", fn := fun _ => fun
  | [d] => { results := [.lit (.bool false)], args := [d] }
  | _ => none }
def SuperManyWrongFalsely : Prop := superManyRow.holds Tryd.pinned (OpenSpec.ofChange superManyWrong)

/-- 'icehouselaw6.SlogAll': WHATEVER THE INPUT: true; the input reads as it did. -/
def slogAllSpec : ChangeSpec := { name := "slogAll", fn := fun _ => fun
  | [d1, d2, d3] => { results := [.lit (.bool true)], args := [d1, d2, d3] }
  | _ => none }
def slogAllRow : OpenClaim := { program := "ytajapklpdfikoaadoor", sum := "763cc5324b2e384c1d4199db5fe701258e4e15618ee79e4453a8ab6c6aa1e1de", func := "icehouse/icehouselaw6.SlogAll", spec := "slogAll", unfollowed := true, recurses := true, named := ["icehouse/crc.taken"], apart := false, laid := [("icehouse/crc.taken", laid_icehouse_crc_taken)] }
def SlogAllSaid : Prop := slogAllRow.holds Tryd.pinned (OpenSpec.ofChange slogAllSpec)

/-- ITS FALSE NEIGHBOUR: 'it returns false'. Refute it at one input. -/
def slogAllWrong : ChangeSpec := { name := "slogAll", fn := fun _ => fun
  | [d1, d2, d3] => { results := [.lit (.bool false)], args := [d1, d2, d3] }
  | _ => none }
def SlogAllWrongFalsely : Prop := slogAllRow.holds Tryd.pinned (OpenSpec.ofChange slogAllWrong)

/-- 'icehouselaw6.SlogNone': WHATEVER THE INPUT: true; the input reads as it did. -/
def slogNoneSpec : ChangeSpec := { name := "slogNone", fn := fun _ => fun
  | [] => { results := [.lit (.bool true)], args := [] }
  | _ => none }
def slogNoneRow : OpenClaim := { program := "ytajapklpdfikoaadoor", sum := "763cc5324b2e384c1d4199db5fe701258e4e15618ee79e4453a8ab6c6aa1e1de", func := "icehouse/icehouselaw6.SlogNone", spec := "slogNone", unfollowed := true, recurses := true, named := ["icehouse/crc.taken"], apart := false, laid := [("icehouse/crc.taken", laid_icehouse_crc_taken)] }
def SlogNoneSaid : Prop := slogNoneRow.holds Tryd.pinned (OpenSpec.ofChange slogNoneSpec)

/-- ITS FALSE NEIGHBOUR: 'it returns false'. Refute it at one input. -/
def slogNoneWrong : ChangeSpec := { name := "slogNone", fn := fun _ => fun
  | [] => { results := [.lit (.bool false)], args := [] }
  | _ => none }
def SlogNoneWrongFalsely : Prop := slogNoneRow.holds Tryd.pinned (OpenSpec.ofChange slogNoneWrong)

/-- 'icehouselaw6.SlogRound': WHATEVER THE INPUT: true; the input reads as it did. -/
def slogRoundSpec : ChangeSpec := { name := "slogRound", fn := fun _ => fun
  | [d1, d2, d3] => { results := [.lit (.bool true)], args := [d1, d2, d3] }
  | _ => none }
def slogRoundRow : OpenClaim := { program := "ytajapklpdfikoaadoor", sum := "763cc5324b2e384c1d4199db5fe701258e4e15618ee79e4453a8ab6c6aa1e1de", func := "icehouse/icehouselaw6.SlogRound", spec := "slogRound", unfollowed := true, recurses := true, named := ["icehouse/crc.taken"], apart := false, laid := [("icehouse/crc.taken", laid_icehouse_crc_taken)] }
def SlogRoundSaid : Prop := slogRoundRow.holds Tryd.pinned (OpenSpec.ofChange slogRoundSpec)

/-- ITS FALSE NEIGHBOUR: 'it returns false'. Refute it at one input. -/
def slogRoundWrong : ChangeSpec := { name := "slogRound", fn := fun _ => fun
  | [d1, d2, d3] => { results := [.lit (.bool false)], args := [d1, d2, d3] }
  | _ => none }
def SlogRoundWrongFalsely : Prop := slogRoundRow.holds Tryd.pinned (OpenSpec.ofChange slogRoundWrong)

/-- 'icehouselaw6.SlogOwn': WHATEVER THE INPUT: true; the input reads as it did. -/
def slogOwnSpec : ChangeSpec := { name := "slogOwn", fn := fun _ => fun
  | [d] => { results := [.lit (.bool true)], args := [d] }
  | _ => none }
def slogOwnRow : OpenClaim := { program := "ytajapklpdfikoaadoor", sum := "763cc5324b2e384c1d4199db5fe701258e4e15618ee79e4453a8ab6c6aa1e1de", func := "icehouse/icehouselaw6.SlogOwn", spec := "slogOwn", unfollowed := true, recurses := true, named := ["icehouse/crc.taken"], apart := false, laid := [("icehouse/crc.taken", laid_icehouse_crc_taken)] }
def SlogOwnSaid : Prop := slogOwnRow.holds Tryd.pinned (OpenSpec.ofChange slogOwnSpec)

/-- ITS FALSE NEIGHBOUR: 'it returns false'. Refute it at one input. -/
def slogOwnWrong : ChangeSpec := { name := "slogOwn", fn := fun _ => fun
  | [d] => { results := [.lit (.bool false)], args := [d] }
  | _ => none }
def SlogOwnWrongFalsely : Prop := slogOwnRow.holds Tryd.pinned (OpenSpec.ofChange slogOwnWrong)

/-- 'icehouselaw6.SlogApart': WHATEVER THE INPUT: true; the input reads as it did. -/
def slogApartSpec : ChangeSpec := { name := "slogApart", fn := fun _ => fun
  | [d1, d2] => { results := [.lit (.bool true)], args := [d1, d2] }
  | _ => none }
def slogApartRow : OpenClaim := { program := "ytajapklpdfikoaadoor", sum := "763cc5324b2e384c1d4199db5fe701258e4e15618ee79e4453a8ab6c6aa1e1de", func := "icehouse/icehouselaw6.SlogApart", spec := "slogApart", unfollowed := true, recurses := true, named := ["icehouse/crc.taken"], apart := false, laid := [("icehouse/crc.taken", laid_icehouse_crc_taken)] }
def SlogApartSaid : Prop := slogApartRow.holds Tryd.pinned (OpenSpec.ofChange slogApartSpec)

/-- ITS FALSE NEIGHBOUR: 'it returns false'. Refute it at one input. -/
def slogApartWrong : ChangeSpec := { name := "slogApart", fn := fun _ => fun
  | [d1, d2] => { results := [.lit (.bool false)], args := [d1, d2] }
  | _ => none }
def SlogApartWrongFalsely : Prop := slogApartRow.holds Tryd.pinned (OpenSpec.ofChange slogApartWrong)

/- THE SECOND FORM. 'bulk': how many values and letters a reading holds, each counted each time it is reached (what is shared counts as often as it is met; a slice's spare places count too). A statement '..UptoSaid' is the law's where the arguments, and the package variables that the reading takes, are together of bulk at most 1048576: NARROWER than '..Said'. Prove '..Said' where nothing that the law and all that it calls make is longer than what came in: it says more and counts as full. Else prove '..UptoSaid'. A law counts once. -/
mutual
def uptoBulk {H : Type} : DataW H → Nat
  | .lit (.string bytes) => bytes.length + 1
  | .lit _ => 1
  | .nil => 1
  | .ptr d => uptoBulk d + 1
  | .slice elems spare => uptoBulkAll elems + uptoBulkAll spare + 1
  | .agg parts => uptoBulkAll parts + 1
  | .iface _ d => uptoBulk d + 1
  | .map entries => uptoBulkEntries entries + 1
  | .held _ => 1
def uptoBulkAll {H : Type} : List (DataW H) → Nat
  | [] => 0
  | d :: r => uptoBulk d + uptoBulkAll r
def uptoBulkEntries {H : Type} : List (Lit × DataW H) → Nat
  | [] => 0
  | x :: r => uptoBulkEntry x + uptoBulkEntries r
def uptoBulkEntry {H : Type} : Lit × DataW H → Nat
  | (.string bytes, d) => bytes.length + uptoBulk d + 1
  | (_, d) => uptoBulk d + 1
 end
def uptoSmall : (H : Type) → List (DataW H) → Bool := fun _ ds => decide (uptoBulkAll ds ≤ 1048576)
def OpenSpec.upto (s : _root_.Go.ChangeSpec) : _root_.Go.OpenSpec := { _root_.Go.OpenSpec.ofChange s with cond := some uptoSmall }

/-- 'icehouselaw5.SuperAll', WHERE WHAT IT READS IS OF BULK AT MOST 1048576: true; the input reads as it did. -/
def superAllUptoRow : OpenClaim := { program := "ytajapklpdfikoaadoor", sum := "763cc5324b2e384c1d4199db5fe701258e4e15618ee79e4453a8ab6c6aa1e1de", func := "icehouse/icehouselaw5.SuperAll", spec := "superAll", unfollowed := true, recurses := true, named := ["icehouse/crc.taken"], apart := false, laid := [("icehouse/crc.taken", laid_icehouse_crc_taken)], narrowed := true }
def SuperAllUptoSaid : Prop := superAllUptoRow.holds Tryd.pinned (OpenSpec.upto superAllSpec)

/-- 'icehouselaw5.SuperTorn', WHERE WHAT IT READS IS OF BULK AT MOST 1048576: true; the input reads as it did. -/
def superTornUptoRow : OpenClaim := { program := "ytajapklpdfikoaadoor", sum := "763cc5324b2e384c1d4199db5fe701258e4e15618ee79e4453a8ab6c6aa1e1de", func := "icehouse/icehouselaw5.SuperTorn", spec := "superTorn", unfollowed := true, recurses := true, named := ["icehouse/crc.taken"], apart := false, laid := [("icehouse/crc.taken", laid_icehouse_crc_taken)], narrowed := true }
def SuperTornUptoSaid : Prop := superTornUptoRow.holds Tryd.pinned (OpenSpec.upto superTornSpec)

/-- 'icehouselaw5.SuperSpoilt', WHERE WHAT IT READS IS OF BULK AT MOST 1048576: true; the input reads as it did. -/
def superSpoiltUptoRow : OpenClaim := { program := "ytajapklpdfikoaadoor", sum := "763cc5324b2e384c1d4199db5fe701258e4e15618ee79e4453a8ab6c6aa1e1de", func := "icehouse/icehouselaw5.SuperSpoilt", spec := "superSpoilt", named := ["icehouse/crc.taken"], apart := false, laid := [("icehouse/crc.taken", laid_icehouse_crc_taken)], narrowed := true }
def SuperSpoiltUptoSaid : Prop := superSpoiltUptoRow.holds Tryd.pinned (OpenSpec.upto superSpoiltSpec)

/-- 'icehouselaw5.SuperNone', WHERE WHAT IT READS IS OF BULK AT MOST 1048576: true; the input reads as it did. -/
def superNoneUptoRow : OpenClaim := { program := "ytajapklpdfikoaadoor", sum := "763cc5324b2e384c1d4199db5fe701258e4e15618ee79e4453a8ab6c6aa1e1de", func := "icehouse/icehouselaw5.SuperNone", spec := "superNone", named := ["icehouse/crc.taken"], apart := false, laid := [("icehouse/crc.taken", laid_icehouse_crc_taken)], narrowed := true }
def SuperNoneUptoSaid : Prop := superNoneUptoRow.holds Tryd.pinned (OpenSpec.upto superNoneSpec)

/-- 'icehouselaw5.SuperPlace', WHERE WHAT IT READS IS OF BULK AT MOST 1048576: true; the input reads as it did. -/
def superPlaceUptoRow : OpenClaim := { program := "ytajapklpdfikoaadoor", sum := "763cc5324b2e384c1d4199db5fe701258e4e15618ee79e4453a8ab6c6aa1e1de", func := "icehouse/icehouselaw5.SuperPlace", spec := "superPlace", named := ["icehouse/crc.taken"], apart := false, laid := [("icehouse/crc.taken", laid_icehouse_crc_taken)], narrowed := true }
def SuperPlaceUptoSaid : Prop := superPlaceUptoRow.holds Tryd.pinned (OpenSpec.upto superPlaceSpec)

/-- 'icehouselaw5.SuperMany', WHERE WHAT IT READS IS OF BULK AT MOST 1048576: true; the input reads as it did. -/
def superManyUptoRow : OpenClaim := { program := "ytajapklpdfikoaadoor", sum := "763cc5324b2e384c1d4199db5fe701258e4e15618ee79e4453a8ab6c6aa1e1de", func := "icehouse/icehouselaw5.SuperMany", spec := "superMany", unfollowed := true, recurses := true, named := ["icehouse/crc.taken"], apart := false, laid := [("icehouse/crc.taken", laid_icehouse_crc_taken)], narrowed := true }
def SuperManyUptoSaid : Prop := superManyUptoRow.holds Tryd.pinned (OpenSpec.upto superManySpec)

/-- 'icehouselaw6.SlogAll', WHERE WHAT IT READS IS OF BULK AT MOST 1048576: true; the input reads as it did. -/
def slogAllUptoRow : OpenClaim := { program := "ytajapklpdfikoaadoor", sum := "763cc5324b2e384c1d4199db5fe701258e4e15618ee79e4453a8ab6c6aa1e1de", func := "icehouse/icehouselaw6.SlogAll", spec := "slogAll", unfollowed := true, recurses := true, named := ["icehouse/crc.taken"], apart := false, laid := [("icehouse/crc.taken", laid_icehouse_crc_taken)], narrowed := true }
def SlogAllUptoSaid : Prop := slogAllUptoRow.holds Tryd.pinned (OpenSpec.upto slogAllSpec)

/-- 'icehouselaw6.SlogNone', WHERE WHAT IT READS IS OF BULK AT MOST 1048576: true; the input reads as it did. -/
def slogNoneUptoRow : OpenClaim := { program := "ytajapklpdfikoaadoor", sum := "763cc5324b2e384c1d4199db5fe701258e4e15618ee79e4453a8ab6c6aa1e1de", func := "icehouse/icehouselaw6.SlogNone", spec := "slogNone", unfollowed := true, recurses := true, named := ["icehouse/crc.taken"], apart := false, laid := [("icehouse/crc.taken", laid_icehouse_crc_taken)], narrowed := true }
def SlogNoneUptoSaid : Prop := slogNoneUptoRow.holds Tryd.pinned (OpenSpec.upto slogNoneSpec)

/-- 'icehouselaw6.SlogRound', WHERE WHAT IT READS IS OF BULK AT MOST 1048576: true; the input reads as it did. -/
def slogRoundUptoRow : OpenClaim := { program := "ytajapklpdfikoaadoor", sum := "763cc5324b2e384c1d4199db5fe701258e4e15618ee79e4453a8ab6c6aa1e1de", func := "icehouse/icehouselaw6.SlogRound", spec := "slogRound", unfollowed := true, recurses := true, named := ["icehouse/crc.taken"], apart := false, laid := [("icehouse/crc.taken", laid_icehouse_crc_taken)], narrowed := true }
def SlogRoundUptoSaid : Prop := slogRoundUptoRow.holds Tryd.pinned (OpenSpec.upto slogRoundSpec)

/-- 'icehouselaw6.SlogOwn', WHERE WHAT IT READS IS OF BULK AT MOST 1048576: true; the input reads as it did. -/
def slogOwnUptoRow : OpenClaim := { program := "ytajapklpdfikoaadoor", sum := "763cc5324b2e384c1d4199db5fe701258e4e15618ee79e4453a8ab6c6aa1e1de", func := "icehouse/icehouselaw6.SlogOwn", spec := "slogOwn", unfollowed := true, recurses := true, named := ["icehouse/crc.taken"], apart := false, laid := [("icehouse/crc.taken", laid_icehouse_crc_taken)], narrowed := true }
def SlogOwnUptoSaid : Prop := slogOwnUptoRow.holds Tryd.pinned (OpenSpec.upto slogOwnSpec)

/-- 'icehouselaw6.SlogApart', WHERE WHAT IT READS IS OF BULK AT MOST 1048576: true; the input reads as it did. -/
def slogApartUptoRow : OpenClaim := { program := "ytajapklpdfikoaadoor", sum := "763cc5324b2e384c1d4199db5fe701258e4e15618ee79e4453a8ab6c6aa1e1de", func := "icehouse/icehouselaw6.SlogApart", spec := "slogApart", unfollowed := true, recurses := true, named := ["icehouse/crc.taken"], apart := false, laid := [("icehouse/crc.taken", laid_icehouse_crc_taken)], narrowed := true }
def SlogApartUptoSaid : Prop := slogApartUptoRow.holds Tryd.pinned (OpenSpec.upto slogApartSpec)

end Rows
end Go.Proofs.YtajapklpdfikoaaDoor
