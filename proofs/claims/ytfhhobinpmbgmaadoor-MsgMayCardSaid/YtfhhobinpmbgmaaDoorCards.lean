/-
  DERIVED. GIVEN WITH THE SEED: THE CARDS: each row of YtfhhobinpmbgmaaDoorRows.lean that lists a variable, with what it lists TIED to the program's text (the seventh form; the later family's looks); each row that meets fmt, with fmt's text TOLD by the authors' own Lean function (tested against real Go, not proved from fmt's source: count such statements apart). THE CARD IS WHAT COUNTS. Prove the row's statement (the work); the ties are given (YtfhhobinpmbgmaaDoorTie.lean); close each card by the builder's one call (the guide's Derived/Test/ToyasCard.lean, 'card_holds'). Laid BY PROGRAM, IN A SANDBOX (cutbox-door.mjs). By AI agents, Wed Nov 11 2026. No macro, syntax, notation, axiom, sorry.
-/
import Derived.Test.YtfhhobinpmbgmaaDoorRows
import GoSem.ClaimSeven
namespace Go.Proofs.YtfhhobinpmbgmaaDoor
namespace Rows

/-- THE TIED CARD OF 'icehouselaw19.MsgMay'. -/
def msgMayCard : Claim7 := { stood := { row := msgMayRow, standIns := [], harness := (true, "b5f02925902b8275aa67d54f6a0edbeda9e30959c53bc3197f8ba59f8ef6c3e1"), looks := false }, kinds := [], alts := [], laidByText := true, laidKinds := [.data], laidTests := true, laidLooks := .later }
def MsgMayCardSaid : Prop := Claim7.holds Tryd.pinned (.plain (OpenSpec.ofChange msgMaySpec)) msgMayCard

/-- THE TIED CARD OF 'icehouselaw19.MsgBytes'. -/
def msgBytesCard : Claim7 := { stood := { row := msgBytesRow, standIns := [], harness := (true, "b5f02925902b8275aa67d54f6a0edbeda9e30959c53bc3197f8ba59f8ef6c3e1"), looks := false }, kinds := [], alts := [], laidByText := true, laidKinds := [.data], laidTests := true, laidLooks := .later }
def MsgBytesCardSaid : Prop := Claim7.holds Tryd.pinned (.plain (OpenSpec.ofChange msgBytesSpec)) msgBytesCard

/-- THE TIED CARD OF 'icehouselaw19.MsgAny'. -/
def msgAnyCard : Claim7 := { stood := { row := msgAnyRow, standIns := [], harness := (true, "b5f02925902b8275aa67d54f6a0edbeda9e30959c53bc3197f8ba59f8ef6c3e1"), looks := false }, kinds := [], alts := [], laidByText := true, laidKinds := [.data], laidTests := true, laidLooks := .later }
def MsgAnyCardSaid : Prop := Claim7.holds Tryd.pinned (.plain (OpenSpec.ofChange msgAnySpec)) msgAnyCard

/-- THE TIED CARD OF 'icehouselaw19.MsgEq'. -/
def msgEqCard : Claim7 := { stood := { row := msgEqRow, standIns := [], harness := (true, "b5f02925902b8275aa67d54f6a0edbeda9e30959c53bc3197f8ba59f8ef6c3e1"), looks := false }, kinds := [], alts := [], laidByText := true, laidKinds := [.data], laidTests := true, laidLooks := .later }
def MsgEqCardSaid : Prop := Claim7.holds Tryd.pinned (.plain (OpenSpec.ofChange msgEqSpec)) msgEqCard

/-- THE TIED CARD OF 'icehouselaw19.MsgTurned'. -/
def msgTurnedCard : Claim7 := { stood := { row := msgTurnedRow, standIns := [], harness := (true, "b5f02925902b8275aa67d54f6a0edbeda9e30959c53bc3197f8ba59f8ef6c3e1"), looks := false }, kinds := [], alts := [], laidByText := true, laidKinds := [.data], laidTests := true, laidLooks := .later }
def MsgTurnedCardSaid : Prop := Claim7.holds Tryd.pinned (.plain (OpenSpec.ofChange msgTurnedSpec)) msgTurnedCard

/-- THE TIED CARD OF 'icehouselaw19.MsgSmall'. -/
def msgSmallCard : Claim7 := { stood := { row := msgSmallRow, standIns := [], harness := (true, "b5f02925902b8275aa67d54f6a0edbeda9e30959c53bc3197f8ba59f8ef6c3e1"), looks := false }, kinds := [], alts := [], laidByText := true, laidKinds := [.data], laidTests := true, laidLooks := .later }
def MsgSmallCardSaid : Prop := Claim7.holds Tryd.pinned (.plain (OpenSpec.ofChange msgSmallSpec)) msgSmallCard

/-- THE SECOND FORM's CARD OF 'icehouselaw19.MsgMay'. -/
def msgMayUptoCard : Claim7 := { stood := { row := msgMayUptoRow, standIns := [], harness := (true, "b5f02925902b8275aa67d54f6a0edbeda9e30959c53bc3197f8ba59f8ef6c3e1"), looks := false }, kinds := [], alts := [], laidByText := true, laidKinds := [.data], laidTests := true, laidLooks := .later }
def MsgMayUptoCardSaid : Prop := Claim7.holds Tryd.pinned (.plain (OpenSpec.upto msgMaySpec)) msgMayUptoCard

/-- THE SECOND FORM's CARD OF 'icehouselaw19.MsgBytes'. -/
def msgBytesUptoCard : Claim7 := { stood := { row := msgBytesUptoRow, standIns := [], harness := (true, "b5f02925902b8275aa67d54f6a0edbeda9e30959c53bc3197f8ba59f8ef6c3e1"), looks := false }, kinds := [], alts := [], laidByText := true, laidKinds := [.data], laidTests := true, laidLooks := .later }
def MsgBytesUptoCardSaid : Prop := Claim7.holds Tryd.pinned (.plain (OpenSpec.upto msgBytesSpec)) msgBytesUptoCard

/-- THE SECOND FORM's CARD OF 'icehouselaw19.MsgAny'. -/
def msgAnyUptoCard : Claim7 := { stood := { row := msgAnyUptoRow, standIns := [], harness := (true, "b5f02925902b8275aa67d54f6a0edbeda9e30959c53bc3197f8ba59f8ef6c3e1"), looks := false }, kinds := [], alts := [], laidByText := true, laidKinds := [.data], laidTests := true, laidLooks := .later }
def MsgAnyUptoCardSaid : Prop := Claim7.holds Tryd.pinned (.plain (OpenSpec.upto msgAnySpec)) msgAnyUptoCard

/-- THE SECOND FORM's CARD OF 'icehouselaw19.MsgEq'. -/
def msgEqUptoCard : Claim7 := { stood := { row := msgEqUptoRow, standIns := [], harness := (true, "b5f02925902b8275aa67d54f6a0edbeda9e30959c53bc3197f8ba59f8ef6c3e1"), looks := false }, kinds := [], alts := [], laidByText := true, laidKinds := [.data], laidTests := true, laidLooks := .later }
def MsgEqUptoCardSaid : Prop := Claim7.holds Tryd.pinned (.plain (OpenSpec.upto msgEqSpec)) msgEqUptoCard

/-- THE SECOND FORM's CARD OF 'icehouselaw19.MsgTurned'. -/
def msgTurnedUptoCard : Claim7 := { stood := { row := msgTurnedUptoRow, standIns := [], harness := (true, "b5f02925902b8275aa67d54f6a0edbeda9e30959c53bc3197f8ba59f8ef6c3e1"), looks := false }, kinds := [], alts := [], laidByText := true, laidKinds := [.data], laidTests := true, laidLooks := .later }
def MsgTurnedUptoCardSaid : Prop := Claim7.holds Tryd.pinned (.plain (OpenSpec.upto msgTurnedSpec)) msgTurnedUptoCard

/-- THE SECOND FORM's CARD OF 'icehouselaw19.MsgSmall'. -/
def msgSmallUptoCard : Claim7 := { stood := { row := msgSmallUptoRow, standIns := [], harness := (true, "b5f02925902b8275aa67d54f6a0edbeda9e30959c53bc3197f8ba59f8ef6c3e1"), looks := false }, kinds := [], alts := [], laidByText := true, laidKinds := [.data], laidTests := true, laidLooks := .later }
def MsgSmallUptoCardSaid : Prop := Claim7.holds Tryd.pinned (.plain (OpenSpec.upto msgSmallSpec)) msgSmallUptoCard
end Rows
end Go.Proofs.YtfhhobinpmbgmaaDoor
