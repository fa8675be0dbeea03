/-
  NARROWER THAN 'FOR EVERY INPUT', by the rows' own cells (each row's printed sentence says how): FlashAll: laid · FlashBetween: laid · FlashNone: laid · FlashMany: laid · FlashEnd: laid · FlashDrop: laid · FlashWipe: laid.
  DERIVED. THE GIVEN ROWS OF THIS SEAT. 7 by the template 'for every input the law returns true; each argument reads behind the call as it read before'; 0 by the template 'total and deterministic' (their statements: YtoepgbpmcjnbmaaGreatDoorTotals.lean).
  GIVEN WITH THE SEED: the statements are not yours to turn. If you find one false, say at which input.
  Laid BY PROGRAM, IN A SANDBOX (cutbox-rows.mjs): the forced cells as the released guide's own fill.sh prints them over the translation a1d4c17abd21546d… (all of the seat's roots in one cut). By AI agents, Wed Nov 11 2026. No macro, syntax, notation, axiom, sorry.
-/
import Derived.Test.YtoepgbpmcjnbmaaGreatDoorChecked
import GoSem.Claim
import GoSem.ClaimJoined
import GoSem.ClaimMapViews
import Derived.JoinedTies
import Derived.KernelRfl
namespace Go.Proofs.YtoepgbpmcjnbmaaGreatDoor
/- THE CELL 'sum', in the pinned program and in every row, IS THE sha256 OF THE DUMP (.gsa) THAT YtoepgbpmcjnbmaaGreatDoorProg.lean LOADS. Nothing in Lean hashes anything: it is a label: what it is worth is what the hold of that sum in a sandbox is worth. -/
noncomputable def Tryz.pinned : Pinned := { name := "ytoepgbpmcjnbmaagreatdoor", sum := "a1d4c17abd21546d5494fc67df2db842884ee63439082cefaa43040f9f4c79aa", checked := Tryz.checked }
namespace Rows
def none {H : Type} : Left H := { results := [], args := [] }

/- WHAT THE LISTED PACKAGE-LEVEL VARIABLES READ AS WHEN THE CALL BEGINS. Each datum BY PROGRAM (the guide's laid-datum.mjs) off the statement by which the dump's own 'gosem.cut.vars' lays the variable. In a bare row this is a premise. The card (YtoepgbpmcjnbmaaGreatDoorCards.lean) ties it to the program's text. -/
def laid_icehouse_crc_taken {H : Type} : DataW H := .agg [.lit (.int .u32 0), .lit (.int .u32 498536548), .lit (.int .u32 997073096), .lit (.int .u32 651767980), .lit (.int .u32 1994146192), .lit (.int .u32 1802195444), .lit (.int .u32 1303535960), .lit (.int .u32 1342533948), .lit (.int .u32 3988292384), .lit (.int .u32 4027552580), .lit (.int .u32 3604390888), .lit (.int .u32 3412177804), .lit (.int .u32 2607071920), .lit (.int .u32 2262029012), .lit (.int .u32 2685067896), .lit (.int .u32 3183342108)]

/-- 'icehouselaw9.FlashAll': WHATEVER THE INPUT: true; the input reads as it did. -/
def flashAllSpec : ChangeSpec := { name := "flashAll", fn := fun _ => fun
  | [d1, d2] => { results := [.lit (.bool true)], args := [d1, d2] }
  | _ => none }
def flashAllRow : OpenClaim := { program := "ytoepgbpmcjnbmaagreatdoor", sum := "a1d4c17abd21546d5494fc67df2db842884ee63439082cefaa43040f9f4c79aa", func := "icehouse/icehouselaw9.FlashAll", spec := "flashAll", unfollowed := true, recurses := true, named := ["icehouse/crc.taken"], apart := false, laid := [("icehouse/crc.taken", laid_icehouse_crc_taken)] }
def FlashAllSaid : Prop := flashAllRow.holds Tryz.pinned (OpenSpec.ofChange flashAllSpec)

/-- ITS FALSE NEIGHBOUR: 'it returns false'. Refute it at one input. -/
def flashAllWrong : ChangeSpec := { name := "flashAll", fn := fun _ => fun
  | [d1, d2] => { results := [.lit (.bool false)], args := [d1, d2] }
  | _ => none }
def FlashAllWrongFalsely : Prop := flashAllRow.holds Tryz.pinned (OpenSpec.ofChange flashAllWrong)

/-- 'icehouselaw9.FlashBetween': WHATEVER THE INPUT: true; the input reads as it did. -/
def flashBetweenSpec : ChangeSpec := { name := "flashBetween", fn := fun _ => fun
  | [d1, d2, d3, d4] => { results := [.lit (.bool true)], args := [d1, d2, d3, d4] }
  | _ => none }
def flashBetweenRow : OpenClaim := { program := "ytoepgbpmcjnbmaagreatdoor", sum := "a1d4c17abd21546d5494fc67df2db842884ee63439082cefaa43040f9f4c79aa", func := "icehouse/icehouselaw9.FlashBetween", spec := "flashBetween", unfollowed := true, recurses := true, named := ["icehouse/crc.taken"], apart := false, laid := [("icehouse/crc.taken", laid_icehouse_crc_taken)] }
def FlashBetweenSaid : Prop := flashBetweenRow.holds Tryz.pinned (OpenSpec.ofChange flashBetweenSpec)

/-- ITS FALSE NEIGHBOUR: 'it returns false'. Refute it at one input. -/
def flashBetweenWrong : ChangeSpec := { name := "flashBetween", fn := fun _ => fun
  | [d1, d2, d3, d4] => { results := [.lit (.bool false)], args := [d1, d2, d3, d4] }
  | _ => none }
def FlashBetweenWrongFalsely : Prop := flashBetweenRow.holds Tryz.pinned (OpenSpec.ofChange flashBetweenWrong)

/-- 'icehouselaw9.FlashNone': WHATEVER THE INPUT: true; the input reads as it did. -/
def flashNoneSpec : ChangeSpec := { name := "flashNone", fn := fun _ => fun
  | [] => { results := [.lit (.bool true)], args := [] }
  | _ => none }
def flashNoneRow : OpenClaim := { program := "ytoepgbpmcjnbmaagreatdoor", sum := "a1d4c17abd21546d5494fc67df2db842884ee63439082cefaa43040f9f4c79aa", func := "icehouse/icehouselaw9.FlashNone", spec := "flashNone", unfollowed := true, recurses := true, named := ["icehouse/crc.taken"], apart := false, laid := [("icehouse/crc.taken", laid_icehouse_crc_taken)] }
def FlashNoneSaid : Prop := flashNoneRow.holds Tryz.pinned (OpenSpec.ofChange flashNoneSpec)

/-- ITS FALSE NEIGHBOUR: 'it returns false'. Refute it at one input. -/
def flashNoneWrong : ChangeSpec := { name := "flashNone", fn := fun _ => fun
  | [] => { results := [.lit (.bool false)], args := [] }
  | _ => none }
def FlashNoneWrongFalsely : Prop := flashNoneRow.holds Tryz.pinned (OpenSpec.ofChange flashNoneWrong)

/-- 'icehouselaw9.FlashMany': WHATEVER THE INPUT: true; the input reads as it did. -/
def flashManySpec : ChangeSpec := { name := "flashMany", fn := fun _ => fun
  | [d1, d2] => { results := [.lit (.bool true)], args := [d1, d2] }
  | _ => none }
def flashManyRow : OpenClaim := { program := "ytoepgbpmcjnbmaagreatdoor", sum := "a1d4c17abd21546d5494fc67df2db842884ee63439082cefaa43040f9f4c79aa", func := "icehouse/icehouselaw9.FlashMany", spec := "flashMany", unfollowed := true, recurses := true, named := ["icehouse/crc.taken"], apart := false, laid := [("icehouse/crc.taken", laid_icehouse_crc_taken)] }
def FlashManySaid : Prop := flashManyRow.holds Tryz.pinned (OpenSpec.ofChange flashManySpec)

/-- ITS FALSE NEIGHBOUR: 'it returns false'. Refute it at one input. -/
def flashManyWrong : ChangeSpec := { name := "flashMany", fn := fun _ => fun
  | [d1, d2] => { results := [.lit (.bool false)], args := [d1, d2] }
  | _ => none }
def FlashManyWrongFalsely : Prop := flashManyRow.holds Tryz.pinned (OpenSpec.ofChange flashManyWrong)

/-- 'icehouselaw9.FlashEnd': WHATEVER THE INPUT: true; the input reads as it did. -/
def flashEndSpec : ChangeSpec := { name := "flashEnd", fn := fun _ => fun
  | [d1, d2] => { results := [.lit (.bool true)], args := [d1, d2] }
  | _ => none }
def flashEndRow : OpenClaim := { program := "ytoepgbpmcjnbmaagreatdoor", sum := "a1d4c17abd21546d5494fc67df2db842884ee63439082cefaa43040f9f4c79aa", func := "icehouse/icehouselaw9.FlashEnd", spec := "flashEnd", unfollowed := true, recurses := true, named := ["icehouse/crc.taken"], apart := false, laid := [("icehouse/crc.taken", laid_icehouse_crc_taken)] }
def FlashEndSaid : Prop := flashEndRow.holds Tryz.pinned (OpenSpec.ofChange flashEndSpec)

/-- ITS FALSE NEIGHBOUR: 'it returns false'. Refute it at one input. -/
def flashEndWrong : ChangeSpec := { name := "flashEnd", fn := fun _ => fun
  | [d1, d2] => { results := [.lit (.bool false)], args := [d1, d2] }
  | _ => none }
def FlashEndWrongFalsely : Prop := flashEndRow.holds Tryz.pinned (OpenSpec.ofChange flashEndWrong)

/-- 'icehouselaw9.FlashDrop': WHATEVER THE INPUT: true; the input reads as it did. -/
def flashDropSpec : ChangeSpec := { name := "flashDrop", fn := fun _ => fun
  | [d1, d2, d3] => { results := [.lit (.bool true)], args := [d1, d2, d3] }
  | _ => none }
def flashDropRow : OpenClaim := { program := "ytoepgbpmcjnbmaagreatdoor", sum := "a1d4c17abd21546d5494fc67df2db842884ee63439082cefaa43040f9f4c79aa", func := "icehouse/icehouselaw9.FlashDrop", spec := "flashDrop", unfollowed := true, recurses := true, named := ["icehouse/crc.taken"], apart := false, laid := [("icehouse/crc.taken", laid_icehouse_crc_taken)] }
def FlashDropSaid : Prop := flashDropRow.holds Tryz.pinned (OpenSpec.ofChange flashDropSpec)

/-- ITS FALSE NEIGHBOUR: 'it returns false'. Refute it at one input. -/
def flashDropWrong : ChangeSpec := { name := "flashDrop", fn := fun _ => fun
  | [d1, d2, d3] => { results := [.lit (.bool false)], args := [d1, d2, d3] }
  | _ => none }
def FlashDropWrongFalsely : Prop := flashDropRow.holds Tryz.pinned (OpenSpec.ofChange flashDropWrong)

/-- 'icehouselaw9.FlashWipe': WHATEVER THE INPUT: true; the input reads as it did. -/
def flashWipeSpec : ChangeSpec := { name := "flashWipe", fn := fun _ => fun
  | [d1, d2] => { results := [.lit (.bool true)], args := [d1, d2] }
  | _ => none }
def flashWipeRow : OpenClaim := { program := "ytoepgbpmcjnbmaagreatdoor", sum := "a1d4c17abd21546d5494fc67df2db842884ee63439082cefaa43040f9f4c79aa", func := "icehouse/icehouselaw9.FlashWipe", spec := "flashWipe", unfollowed := true, recurses := true, named := ["icehouse/crc.taken"], apart := false, laid := [("icehouse/crc.taken", laid_icehouse_crc_taken)] }
def FlashWipeSaid : Prop := flashWipeRow.holds Tryz.pinned (OpenSpec.ofChange flashWipeSpec)

/-- ITS FALSE NEIGHBOUR: 'it returns false'. Refute it at one input. -/
def flashWipeWrong : ChangeSpec := { name := "flashWipe", fn := fun _ => fun
  | [d1, d2] => { results := [.lit (.bool false)], args := [d1, d2] }
  | _ => none }
def FlashWipeWrongFalsely : Prop := flashWipeRow.holds Tryz.pinned (OpenSpec.ofChange flashWipeWrong)

/- THE SECOND FORM. 'bulk': how many values and letters a reading holds, each counted each time it is reached (what is shared counts as often as it is met; a slice's spare places count too). A statement '..UptoSaid' is the law's where the arguments, and the package variables that the reading takes, are together of bulk at most 1048576: NARROWER than '..Said'. Prove '..Said' where nothing that the law and all that it calls make is longer than what came in: it says more and counts as full. Else prove '..UptoSaid'. A law counts once. -/
mutual
def uptoBulk {H : Type} : DataW H → Nat
  | .lit (.string bytes) => bytes.length + 1
  | .lit _ => 1
  | .nil => 1
  | .ptr d => uptoBulk d + 1
  | .slice elems spare => uptoBulkAll elems + uptoBulkAll spare + 1
  | .agg parts => uptoBulkAll parts + 1
  | .iface _ d => uptoBulk d + 1
  | .map entries => uptoBulkEntries entries + 1
  | .held _ => 1
def uptoBulkAll {H : Type} : List (DataW H) → Nat
  | [] => 0
  | d :: r => uptoBulk d + uptoBulkAll r
def uptoBulkEntries {H : Type} : List (Lit × DataW H) → Nat
  | [] => 0
  | x :: r => uptoBulkEntry x + uptoBulkEntries r
def uptoBulkEntry {H : Type} : Lit × DataW H → Nat
  | (.string bytes, d) => bytes.length + uptoBulk d + 1
  | (_, d) => uptoBulk d + 1
 end
def uptoSmall : (H : Type) → List (DataW H) → Bool := fun _ ds => decide (uptoBulkAll ds ≤ 1048576)
def OpenSpec.upto (s : _root_.Go.ChangeSpec) : _root_.Go.OpenSpec := { _root_.Go.OpenSpec.ofChange s with cond := some uptoSmall }

/-- 'icehouselaw9.FlashAll', WHERE WHAT IT READS IS OF BULK AT MOST 1048576: true; the input reads as it did. -/
def flashAllUptoRow : OpenClaim := { program := "ytoepgbpmcjnbmaagreatdoor", sum := "a1d4c17abd21546d5494fc67df2db842884ee63439082cefaa43040f9f4c79aa", func := "icehouse/icehouselaw9.FlashAll", spec := "flashAll", unfollowed := true, recurses := true, named := ["icehouse/crc.taken"], apart := false, laid := [("icehouse/crc.taken", laid_icehouse_crc_taken)], narrowed := true }
def FlashAllUptoSaid : Prop := flashAllUptoRow.holds Tryz.pinned (OpenSpec.upto flashAllSpec)

/-- 'icehouselaw9.FlashBetween', WHERE WHAT IT READS IS OF BULK AT MOST 1048576: true; the input reads as it did. -/
def flashBetweenUptoRow : OpenClaim := { program := "ytoepgbpmcjnbmaagreatdoor", sum := "a1d4c17abd21546d5494fc67df2db842884ee63439082cefaa43040f9f4c79aa", func := "icehouse/icehouselaw9.FlashBetween", spec := "flashBetween", unfollowed := true, recurses := true, named := ["icehouse/crc.taken"], apart := false, laid := [("icehouse/crc.taken", laid_icehouse_crc_taken)], narrowed := true }
def FlashBetweenUptoSaid : Prop := flashBetweenUptoRow.holds Tryz.pinned (OpenSpec.upto flashBetweenSpec)

/-- 'icehouselaw9.FlashNone', WHERE WHAT IT READS IS OF BULK AT MOST 1048576: true; the input reads as it did. -/
def flashNoneUptoRow : OpenClaim := { program := "ytoepgbpmcjnbmaagreatdoor", sum := "a1d4c17abd21546d5494fc67df2db842884ee63439082cefaa43040f9f4c79aa", func := "icehouse/icehouselaw9.FlashNone", spec := "flashNone", unfollowed := true, recurses := true, named := ["icehouse/crc.taken"], apart := false, laid := [("icehouse/crc.taken", laid_icehouse_crc_taken)], narrowed := true }
def FlashNoneUptoSaid : Prop := flashNoneUptoRow.holds Tryz.pinned (OpenSpec.upto flashNoneSpec)

/-- 'icehouselaw9.FlashMany', WHERE WHAT IT READS IS OF BULK AT MOST 1048576: true; the input reads as it did. -/
def flashManyUptoRow : OpenClaim := { program := "ytoepgbpmcjnbmaagreatdoor", sum := "a1d4c17abd21546d5494fc67df2db842884ee63439082cefaa43040f9f4c79aa", func := "icehouse/icehouselaw9.FlashMany", spec := "flashMany", unfollowed := true, recurses := true, named := ["icehouse/crc.taken"], apart := false, laid := [("icehouse/crc.taken", laid_icehouse_crc_taken)], narrowed := true }
def FlashManyUptoSaid : Prop := flashManyUptoRow.holds Tryz.pinned (OpenSpec.upto flashManySpec)

/-- 'icehouselaw9.FlashEnd', WHERE WHAT IT READS IS OF BULK AT MOST 1048576: true; the input reads as it did. -/
def flashEndUptoRow : OpenClaim := { program := "ytoepgbpmcjnbmaagreatdoor", sum := "a1d4c17abd21546d5494fc67df2db842884ee63439082cefaa43040f9f4c79aa", func := "icehouse/icehouselaw9.FlashEnd", spec := "flashEnd", unfollowed := true, recurses := true, named := ["icehouse/crc.taken"], apart := false, laid := [("icehouse/crc.taken", laid_icehouse_crc_taken)], narrowed := true }
def FlashEndUptoSaid : Prop := flashEndUptoRow.holds Tryz.pinned (OpenSpec.upto flashEndSpec)

/-- 'icehouselaw9.FlashDrop', WHERE WHAT IT READS IS OF BULK AT MOST 1048576: true; the input reads as it did. -/
def flashDropUptoRow : OpenClaim := { program := "ytoepgbpmcjnbmaagreatdoor", sum := "a1d4c17abd21546d5494fc67df2db842884ee63439082cefaa43040f9f4c79aa", func := "icehouse/icehouselaw9.FlashDrop", spec := "flashDrop", unfollowed := true, recurses := true, named := ["icehouse/crc.taken"], apart := false, laid := [("icehouse/crc.taken", laid_icehouse_crc_taken)], narrowed := true }
def FlashDropUptoSaid : Prop := flashDropUptoRow.holds Tryz.pinned (OpenSpec.upto flashDropSpec)

/-- 'icehouselaw9.FlashWipe', WHERE WHAT IT READS IS OF BULK AT MOST 1048576: true; the input reads as it did. -/
def flashWipeUptoRow : OpenClaim := { program := "ytoepgbpmcjnbmaagreatdoor", sum := "a1d4c17abd21546d5494fc67df2db842884ee63439082cefaa43040f9f4c79aa", func := "icehouse/icehouselaw9.FlashWipe", spec := "flashWipe", unfollowed := true, recurses := true, named := ["icehouse/crc.taken"], apart := false, laid := [("icehouse/crc.taken", laid_icehouse_crc_taken)], narrowed := true }
def FlashWipeUptoSaid : Prop := flashWipeUptoRow.holds Tryz.pinned (OpenSpec.upto flashWipeSpec)

end Rows
end Go.Proofs.YtoepgbpmcjnbmaaGreatDoor
