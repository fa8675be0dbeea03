/-
  NARROWER THAN 'FOR EVERY INPUT', by the rows' own cells (each row's printed sentence says how): MetaAll: laid · MetaNone: laid · MetaFalls: laid · MetaMay: laid.
  DERIVED. THE GIVEN ROWS OF THIS SEAT. 4 by the template 'for every input the law returns true; each argument reads behind the call as it read before'; 0 by the template 'total and deterministic' (their statements: YtmnjdlnjhomhnaaDoorTotals.lean).
  GIVEN WITH THE SEED: the statements are not yours to turn. If you find one false, say at which input.
  Laid BY PROGRAM, IN A SANDBOX (cutbox-rows.mjs): the forced cells as the released guide's own fill.sh prints them over the translation ec8e6b5994081c88… (all of the seat's roots in one cut). By AI agents, Wed Nov 11 2026. No macro, syntax, notation, axiom, sorry.
-/
import Derived.Test.YtmnjdlnjhomhnaaDoorChecked
import GoSem.Claim
import GoSem.ClaimJoined
import GoSem.ClaimMapViews
import Derived.JoinedTies
import Derived.KernelRfl
namespace Go.Proofs.YtmnjdlnjhomhnaaDoor
/- THE CELL 'sum', in the pinned program and in every row, IS THE sha256 OF THE DUMP (.gsa) THAT YtmnjdlnjhomhnaaDoorProg.lean LOADS. Nothing in Lean hashes anything: it is a label: what it is worth is what the hold of that sum in a sandbox is worth. -/
noncomputable def Tryd.pinned : Pinned := { name := "ytmnjdlnjhomhnaadoor", sum := "ec8e6b5994081c88cf5d239891ea914049ea96f415e0351e271eefca097c1021", checked := Tryd.checked }
namespace Rows
def none {H : Type} : Left H := { results := [], args := [] }

/- WHAT THE LISTED PACKAGE-LEVEL VARIABLES READ AS WHEN THE CALL BEGINS. Each datum BY PROGRAM (the guide's laid-datum.mjs) off the statement by which the dump's own 'gosem.cut.vars' lays the variable. In a bare row this is a premise. The card (YtmnjdlnjhomhnaaDoorCards.lean) ties it to the program's text. -/
def laid_icehouse_crc_taken {H : Type} : DataW H := .agg [.lit (.int .u32 0), .lit (.int .u32 498536548), .lit (.int .u32 997073096), .lit (.int .u32 651767980), .lit (.int .u32 1994146192), .lit (.int .u32 1802195444), .lit (.int .u32 1303535960), .lit (.int .u32 1342533948), .lit (.int .u32 3988292384), .lit (.int .u32 4027552580), .lit (.int .u32 3604390888), .lit (.int .u32 3412177804), .lit (.int .u32 2607071920), .lit (.int .u32 2262029012), .lit (.int .u32 2685067896), .lit (.int .u32 3183342108)]

/-- 'icehouselaw12.MetaAll': WHATEVER THE INPUT: true; the input reads as it did. -/
def metaAllSpec : ChangeSpec := { name := "metaAll", fn := fun _ => fun
  | [d1, d2] => { results := [.lit (.bool true)], args := [d1, d2] }
  | _ => none }
def metaAllRow : OpenClaim := { program := "ytmnjdlnjhomhnaadoor", sum := "ec8e6b5994081c88cf5d239891ea914049ea96f415e0351e271eefca097c1021", func := "icehouse/icehouselaw12.MetaAll", spec := "metaAll", unfollowed := true, recurses := true, named := ["icehouse/crc.taken"], apart := false, laid := [("icehouse/crc.taken", laid_icehouse_crc_taken)] }
def MetaAllSaid : Prop := metaAllRow.holds Tryd.pinned (OpenSpec.ofChange metaAllSpec)

/-- ITS FALSE NEIGHBOUR: 'it returns false'. Refute it at one input. -/
def metaAllWrong : ChangeSpec := { name := "metaAll", fn := fun _ => fun
  | [d1, d2] => { results := [.lit (.bool false)], args := [d1, d2] }
  | _ => none }
def MetaAllWrongFalsely : Prop := metaAllRow.holds Tryd.pinned (OpenSpec.ofChange metaAllWrong)

/-- 'icehouselaw12.MetaNone': WHATEVER THE INPUT: true; the input reads as it did. -/
def metaNoneSpec : ChangeSpec := { name := "metaNone", fn := fun _ => fun
  | [] => { results := [.lit (.bool true)], args := [] }
  | _ => none }
def metaNoneRow : OpenClaim := { program := "ytmnjdlnjhomhnaadoor", sum := "ec8e6b5994081c88cf5d239891ea914049ea96f415e0351e271eefca097c1021", func := "icehouse/icehouselaw12.MetaNone", spec := "metaNone", unfollowed := true, recurses := true, named := ["icehouse/crc.taken"], apart := false, laid := [("icehouse/crc.taken", laid_icehouse_crc_taken)] }
def MetaNoneSaid : Prop := metaNoneRow.holds Tryd.pinned (OpenSpec.ofChange metaNoneSpec)

/-- ITS FALSE NEIGHBOUR: 'it returns false'. Refute it at one input. -/
def metaNoneWrong : ChangeSpec := { name := "metaNone", fn := fun _ => fun
  | [] => { results := [.lit (.bool false)], args := [] }
  | _ => none }
def MetaNoneWrongFalsely : Prop := metaNoneRow.holds Tryd.pinned (OpenSpec.ofChange metaNoneWrong)

/-- 'icehouselaw12.MetaFalls': WHATEVER THE INPUT: true; the input reads as it did. -/
def metaFallsSpec : ChangeSpec := { name := "metaFalls", fn := fun _ => fun
  | [d1, d2, d3, d4] => { results := [.lit (.bool true)], args := [d1, d2, d3, d4] }
  | _ => none }
def metaFallsRow : OpenClaim := { program := "ytmnjdlnjhomhnaadoor", sum := "ec8e6b5994081c88cf5d239891ea914049ea96f415e0351e271eefca097c1021", func := "icehouse/icehouselaw12.MetaFalls", spec := "metaFalls", unfollowed := true, recurses := true, named := ["icehouse/crc.taken"], apart := false, laid := [("icehouse/crc.taken", laid_icehouse_crc_taken)] }
def MetaFallsSaid : Prop := metaFallsRow.holds Tryd.pinned (OpenSpec.ofChange metaFallsSpec)

/-- ITS FALSE NEIGHBOUR: 'it returns false'. Refute it at one input. -/
def metaFallsWrong : ChangeSpec := { name := "metaFalls", fn := fun _ => fun
  | [d1, d2, d3, d4] => { results := [.lit (.bool false)], args := [d1, d2, d3, d4] }
  | _ => none }
def MetaFallsWrongFalsely : Prop := metaFallsRow.holds Tryd.pinned (OpenSpec.ofChange metaFallsWrong)

/-- 'icehouselaw12.MetaMay': WHATEVER THE INPUT: true; the input reads as it did. -/
def metaMaySpec : ChangeSpec := { name := "metaMay", fn := fun _ => fun
  | [d] => { results := [.lit (.bool true)], args := [d] }
  | _ => none }
def metaMayRow : OpenClaim := { program := "ytmnjdlnjhomhnaadoor", sum := "ec8e6b5994081c88cf5d239891ea914049ea96f415e0351e271eefca097c1021", func := "icehouse/icehouselaw12.MetaMay", spec := "metaMay", unfollowed := true, recurses := true, named := ["icehouse/crc.taken"], apart := false, laid := [("icehouse/crc.taken", laid_icehouse_crc_taken)] }
def MetaMaySaid : Prop := metaMayRow.holds Tryd.pinned (OpenSpec.ofChange metaMaySpec)

/-- ITS FALSE NEIGHBOUR: 'it returns false'. Refute it at one input. -/
def metaMayWrong : ChangeSpec := { name := "metaMay", fn := fun _ => fun
  | [d] => { results := [.lit (.bool false)], args := [d] }
  | _ => none }
def MetaMayWrongFalsely : Prop := metaMayRow.holds Tryd.pinned (OpenSpec.ofChange metaMayWrong)

/- THE SECOND FORM. 'bulk': how many values and letters a reading holds, each counted each time it is reached (what is shared counts as often as it is met; a slice's spare places count too). A statement '..UptoSaid' is the law's where the arguments, and the package variables that the reading takes, are together of bulk at most 1048576: NARROWER than '..Said'. Prove '..Said' where nothing that the law and all that it calls make is longer than what came in: it says more and counts as full. Else prove '..UptoSaid'. A law counts once. -/
mutual
def uptoBulk {H : Type} : DataW H → Nat
  | .lit (.string bytes) => bytes.length + 1
  | .lit _ => 1
  | .nil => 1
  | .ptr d => uptoBulk d + 1
  | .slice elems spare => uptoBulkAll elems + uptoBulkAll spare + 1
  | .agg parts => uptoBulkAll parts + 1
  | .iface _ d => uptoBulk d + 1
  | .map entries => uptoBulkEntries entries + 1
  | .held _ => 1
def uptoBulkAll {H : Type} : List (DataW H) → Nat
  | [] => 0
  | d :: r => uptoBulk d + uptoBulkAll r
def uptoBulkEntries {H : Type} : List (Lit × DataW H) → Nat
  | [] => 0
  | x :: r => uptoBulkEntry x + uptoBulkEntries r
def uptoBulkEntry {H : Type} : Lit × DataW H → Nat
  | (.string bytes, d) => bytes.length + uptoBulk d + 1
  | (_, d) => uptoBulk d + 1
 end
def uptoSmall : (H : Type) → List (DataW H) → Bool := fun _ ds => decide (uptoBulkAll ds ≤ 1048576)
def OpenSpec.upto (s : _root_.Go.ChangeSpec) : _root_.Go.OpenSpec := { _root_.Go.OpenSpec.ofChange s with cond := some uptoSmall }

/-- 'icehouselaw12.MetaAll', WHERE WHAT IT READS IS OF BULK AT MOST 1048576: true; the input reads as it did. -/
def metaAllUptoRow : OpenClaim := { program := "ytmnjdlnjhomhnaadoor", sum := "ec8e6b5994081c88cf5d239891ea914049ea96f415e0351e271eefca097c1021", func := "icehouse/icehouselaw12.MetaAll", spec := "metaAll", unfollowed := true, recurses := true, named := ["icehouse/crc.taken"], apart := false, laid := [("icehouse/crc.taken", laid_icehouse_crc_taken)], narrowed := true }
def MetaAllUptoSaid : Prop := metaAllUptoRow.holds Tryd.pinned (OpenSpec.upto metaAllSpec)

/-- 'icehouselaw12.MetaNone', WHERE WHAT IT READS IS OF BULK AT MOST 1048576: true; the input reads as it did. -/
def metaNoneUptoRow : OpenClaim := { program := "ytmnjdlnjhomhnaadoor", sum := "ec8e6b5994081c88cf5d239891ea914049ea96f415e0351e271eefca097c1021", func := "icehouse/icehouselaw12.MetaNone", spec := "metaNone", unfollowed := true, recurses := true, named := ["icehouse/crc.taken"], apart := false, laid := [("icehouse/crc.taken", laid_icehouse_crc_taken)], narrowed := true }
def MetaNoneUptoSaid : Prop := metaNoneUptoRow.holds Tryd.pinned (OpenSpec.upto metaNoneSpec)

/-- 'icehouselaw12.MetaFalls', WHERE WHAT IT READS IS OF BULK AT MOST 1048576: true; the input reads as it did. -/
def metaFallsUptoRow : OpenClaim := { program := "ytmnjdlnjhomhnaadoor", sum := "ec8e6b5994081c88cf5d239891ea914049ea96f415e0351e271eefca097c1021", func := "icehouse/icehouselaw12.MetaFalls", spec := "metaFalls", unfollowed := true, recurses := true, named := ["icehouse/crc.taken"], apart := false, laid := [("icehouse/crc.taken", laid_icehouse_crc_taken)], narrowed := true }
def MetaFallsUptoSaid : Prop := metaFallsUptoRow.holds Tryd.pinned (OpenSpec.upto metaFallsSpec)

/-- 'icehouselaw12.MetaMay', WHERE WHAT IT READS IS OF BULK AT MOST 1048576: true; the input reads as it did. -/
def metaMayUptoRow : OpenClaim := { program := "ytmnjdlnjhomhnaadoor", sum := "ec8e6b5994081c88cf5d239891ea914049ea96f415e0351e271eefca097c1021", func := "icehouse/icehouselaw12.MetaMay", spec := "metaMay", unfollowed := true, recurses := true, named := ["icehouse/crc.taken"], apart := false, laid := [("icehouse/crc.taken", laid_icehouse_crc_taken)], narrowed := true }
def MetaMayUptoSaid : Prop := metaMayUptoRow.holds Tryd.pinned (OpenSpec.upto metaMaySpec)

end Rows
end Go.Proofs.YtmnjdlnjhomhnaaDoor
