/-
  DERIVED. GIVEN WITH THE SEED: THE CARDS: each row of YtpijdefadmfahaaGreatDoorRows.lean that lists a variable, with what it lists TIED to the program's text (the seventh form; the later family's looks); each row that meets fmt, with fmt's text TOLD by the authors' own Lean function (tested against real Go, not proved from fmt's source: count such statements apart). THE CARD IS WHAT COUNTS. Prove the row's statement (the work); the ties are given (YtpijdefadmfahaaGreatDoorTie.lean); close each card by the builder's one call (the guide's Derived/Test/ToyasCard.lean, 'card_holds'). Laid BY PROGRAM, IN A SANDBOX (cutbox-door.mjs). By AI agents, Wed Nov 11 2026. No macro, syntax, notation, axiom, sorry.
-/
import Derived.Test.YtpijdefadmfahaaGreatDoorRows
import GoSem.ClaimSeven
namespace Go.Proofs.YtpijdefadmfahaaGreatDoor
namespace Rows

/-- THE TIED CARD OF 'icehouselaw10.JournalLong'. -/
def journalLongCard : Claim7 := { stood := { row := journalLongRow, standIns := [], harness := (true, "52c73cea075f83ed360569a51387824674fdc65ea2c694c135782331b887fda3"), looks := false }, kinds := [], alts := [], laidByText := true, laidKinds := [.data], laidTests := true, laidLooks := .later }
def JournalLongCardSaid : Prop := Claim7.holds Tryz.pinned (.plain (OpenSpec.ofChange journalLongSpec)) journalLongCard

/-- THE TIED CARD OF 'icehouselaw10.JournalNone'. -/
def journalNoneCard : Claim7 := { stood := { row := journalNoneRow, standIns := [], harness := (true, "52c73cea075f83ed360569a51387824674fdc65ea2c694c135782331b887fda3"), looks := false }, kinds := [], alts := [], laidByText := true, laidKinds := [.data], laidTests := true, laidLooks := .later }
def JournalNoneCardSaid : Prop := Claim7.holds Tryz.pinned (.plain (OpenSpec.ofChange journalNoneSpec)) journalNoneCard

/-- THE TIED CARD OF 'icehouselaw10.JournalGroups'. -/
def journalGroupsCard : Claim7 := { stood := { row := journalGroupsRow, standIns := [], harness := (true, "52c73cea075f83ed360569a51387824674fdc65ea2c694c135782331b887fda3"), looks := false }, kinds := [], alts := [], laidByText := true, laidKinds := [.data], laidTests := true, laidLooks := .later }
def JournalGroupsCardSaid : Prop := Claim7.holds Tryz.pinned (.plain (OpenSpec.ofChange journalGroupsSpec)) journalGroupsCard

/-- THE TIED CARD OF 'icehouselaw10.JournalSince'. -/
def journalSinceCard : Claim7 := { stood := { row := journalSinceRow, standIns := [], harness := (true, "52c73cea075f83ed360569a51387824674fdc65ea2c694c135782331b887fda3"), looks := false }, kinds := [], alts := [], laidByText := true, laidKinds := [.data], laidTests := true, laidLooks := .later }
def JournalSinceCardSaid : Prop := Claim7.holds Tryz.pinned (.plain (OpenSpec.ofChange journalSinceSpec)) journalSinceCard

/-- THE SECOND FORM's CARD OF 'icehouselaw10.JournalLong'. -/
def journalLongUptoCard : Claim7 := { stood := { row := journalLongUptoRow, standIns := [], harness := (true, "52c73cea075f83ed360569a51387824674fdc65ea2c694c135782331b887fda3"), looks := false }, kinds := [], alts := [], laidByText := true, laidKinds := [.data], laidTests := true, laidLooks := .later }
def JournalLongUptoCardSaid : Prop := Claim7.holds Tryz.pinned (.plain (OpenSpec.upto journalLongSpec)) journalLongUptoCard

/-- THE SECOND FORM's CARD OF 'icehouselaw10.JournalNone'. -/
def journalNoneUptoCard : Claim7 := { stood := { row := journalNoneUptoRow, standIns := [], harness := (true, "52c73cea075f83ed360569a51387824674fdc65ea2c694c135782331b887fda3"), looks := false }, kinds := [], alts := [], laidByText := true, laidKinds := [.data], laidTests := true, laidLooks := .later }
def JournalNoneUptoCardSaid : Prop := Claim7.holds Tryz.pinned (.plain (OpenSpec.upto journalNoneSpec)) journalNoneUptoCard

/-- THE SECOND FORM's CARD OF 'icehouselaw10.JournalGroups'. -/
def journalGroupsUptoCard : Claim7 := { stood := { row := journalGroupsUptoRow, standIns := [], harness := (true, "52c73cea075f83ed360569a51387824674fdc65ea2c694c135782331b887fda3"), looks := false }, kinds := [], alts := [], laidByText := true, laidKinds := [.data], laidTests := true, laidLooks := .later }
def JournalGroupsUptoCardSaid : Prop := Claim7.holds Tryz.pinned (.plain (OpenSpec.upto journalGroupsSpec)) journalGroupsUptoCard

/-- THE SECOND FORM's CARD OF 'icehouselaw10.JournalSince'. -/
def journalSinceUptoCard : Claim7 := { stood := { row := journalSinceUptoRow, standIns := [], harness := (true, "52c73cea075f83ed360569a51387824674fdc65ea2c694c135782331b887fda3"), looks := false }, kinds := [], alts := [], laidByText := true, laidKinds := [.data], laidTests := true, laidLooks := .later }
def JournalSinceUptoCardSaid : Prop := Claim7.holds Tryz.pinned (.plain (OpenSpec.upto journalSinceSpec)) journalSinceUptoCard
end Rows
end Go.Proofs.YtpijdefadmfahaaGreatDoor
