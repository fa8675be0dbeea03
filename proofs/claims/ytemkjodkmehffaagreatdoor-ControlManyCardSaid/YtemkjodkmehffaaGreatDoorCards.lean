/-
  DERIVED. GIVEN WITH THE SEED: THE CARDS: each row of YtemkjodkmehffaaGreatDoorRows.lean that lists a variable, with what it lists TIED to the program's text (the seventh form; the later family's looks); each row that meets fmt, with fmt's text TOLD by the authors' own Lean function (tested against real Go, not proved from fmt's source: count such statements apart). THE CARD IS WHAT COUNTS. Prove the row's statement (the work); the ties are given (YtemkjodkmehffaaGreatDoorTie.lean); close each card by the builder's one call (the guide's Derived/Test/ToyasCard.lean, 'card_holds'). Laid BY PROGRAM, IN A SANDBOX (cutbox-door.mjs). By AI agents, Wed Nov 11 2026. No macro, syntax, notation, axiom, sorry.
-/
import Derived.Test.YtemkjodkmehffaaGreatDoorRows
import GoSem.ClaimSeven
namespace Go.Proofs.YtemkjodkmehffaaGreatDoor
namespace Rows

/-- THE TIED CARD OF 'icehouselaw23.ControlLose'. -/
def controlLoseCard : Claim7 := { stood := { row := controlLoseRow, standIns := [], harness := (true, "130b789496212280d71b5100164362ae4b09ae386119c00353c02bf2eafe8e97"), looks := false }, kinds := [], alts := [], laidByText := true, laidKinds := [.data], laidTests := true, laidLooks := .later }
def ControlLoseCardSaid : Prop := Claim7.holds Tryz.pinned (.plain (OpenSpec.ofChange controlLoseSpec)) controlLoseCard

/-- THE TIED CARD OF 'icehouselaw23.ControlNone'. -/
def controlNoneCard : Claim7 := { stood := { row := controlNoneRow, standIns := [], harness := (true, "130b789496212280d71b5100164362ae4b09ae386119c00353c02bf2eafe8e97"), looks := false }, kinds := [], alts := [], laidByText := true, laidKinds := [.data], laidTests := true, laidLooks := .later }
def ControlNoneCardSaid : Prop := Claim7.holds Tryz.pinned (.plain (OpenSpec.ofChange controlNoneSpec)) controlNoneCard

/-- THE TIED CARD OF 'icehouselaw23.ControlMany'. -/
def controlManyCard : Claim7 := { stood := { row := controlManyRow, standIns := [], harness := (true, "130b789496212280d71b5100164362ae4b09ae386119c00353c02bf2eafe8e97"), looks := false }, kinds := [], alts := [], laidByText := true, laidKinds := [.data], laidTests := true, laidLooks := .later }
def ControlManyCardSaid : Prop := Claim7.holds Tryz.pinned (.plain (OpenSpec.ofChange controlManySpec)) controlManyCard

/-- THE TIED CARD OF 'icehouselaw23.ControlPhases'. -/
def controlPhasesCard : Claim7 := { stood := { row := controlPhasesRow, standIns := [], harness := (true, "130b789496212280d71b5100164362ae4b09ae386119c00353c02bf2eafe8e97"), looks := false }, kinds := [], alts := [], laidByText := true, laidKinds := [.data], laidTests := true, laidLooks := .later }
def ControlPhasesCardSaid : Prop := Claim7.holds Tryz.pinned (.plain (OpenSpec.ofChange controlPhasesSpec)) controlPhasesCard

/-- THE TIED CARD OF 'icehouselaw23.ControlBack'. -/
def controlBackCard : Claim7 := { stood := { row := controlBackRow, standIns := [], harness := (true, "130b789496212280d71b5100164362ae4b09ae386119c00353c02bf2eafe8e97"), looks := false }, kinds := [], alts := [], laidByText := true, laidKinds := [.data], laidTests := true, laidLooks := .later }
def ControlBackCardSaid : Prop := Claim7.holds Tryz.pinned (.plain (OpenSpec.ofChange controlBackSpec)) controlBackCard

/-- THE SECOND FORM's CARD OF 'icehouselaw23.ControlLose'. -/
def controlLoseUptoCard : Claim7 := { stood := { row := controlLoseUptoRow, standIns := [], harness := (true, "130b789496212280d71b5100164362ae4b09ae386119c00353c02bf2eafe8e97"), looks := false }, kinds := [], alts := [], laidByText := true, laidKinds := [.data], laidTests := true, laidLooks := .later }
def ControlLoseUptoCardSaid : Prop := Claim7.holds Tryz.pinned (.plain (OpenSpec.upto controlLoseSpec)) controlLoseUptoCard

/-- THE SECOND FORM's CARD OF 'icehouselaw23.ControlNone'. -/
def controlNoneUptoCard : Claim7 := { stood := { row := controlNoneUptoRow, standIns := [], harness := (true, "130b789496212280d71b5100164362ae4b09ae386119c00353c02bf2eafe8e97"), looks := false }, kinds := [], alts := [], laidByText := true, laidKinds := [.data], laidTests := true, laidLooks := .later }
def ControlNoneUptoCardSaid : Prop := Claim7.holds Tryz.pinned (.plain (OpenSpec.upto controlNoneSpec)) controlNoneUptoCard

/-- THE SECOND FORM's CARD OF 'icehouselaw23.ControlMany'. -/
def controlManyUptoCard : Claim7 := { stood := { row := controlManyUptoRow, standIns := [], harness := (true, "130b789496212280d71b5100164362ae4b09ae386119c00353c02bf2eafe8e97"), looks := false }, kinds := [], alts := [], laidByText := true, laidKinds := [.data], laidTests := true, laidLooks := .later }
def ControlManyUptoCardSaid : Prop := Claim7.holds Tryz.pinned (.plain (OpenSpec.upto controlManySpec)) controlManyUptoCard

/-- THE SECOND FORM's CARD OF 'icehouselaw23.ControlPhases'. -/
def controlPhasesUptoCard : Claim7 := { stood := { row := controlPhasesUptoRow, standIns := [], harness := (true, "130b789496212280d71b5100164362ae4b09ae386119c00353c02bf2eafe8e97"), looks := false }, kinds := [], alts := [], laidByText := true, laidKinds := [.data], laidTests := true, laidLooks := .later }
def ControlPhasesUptoCardSaid : Prop := Claim7.holds Tryz.pinned (.plain (OpenSpec.upto controlPhasesSpec)) controlPhasesUptoCard

/-- THE SECOND FORM's CARD OF 'icehouselaw23.ControlBack'. -/
def controlBackUptoCard : Claim7 := { stood := { row := controlBackUptoRow, standIns := [], harness := (true, "130b789496212280d71b5100164362ae4b09ae386119c00353c02bf2eafe8e97"), looks := false }, kinds := [], alts := [], laidByText := true, laidKinds := [.data], laidTests := true, laidLooks := .later }
def ControlBackUptoCardSaid : Prop := Claim7.holds Tryz.pinned (.plain (OpenSpec.upto controlBackSpec)) controlBackUptoCard
end Rows
end Go.Proofs.YtemkjodkmehffaaGreatDoor
