/-
  DERIVED. GIVEN WITH THE SEED: THE CARDS: each row of YticophaepapjoaaGreatDoorRows.lean that lists a variable, with what it lists TIED to the program's text (the seventh form; the later family's looks); each row that meets fmt, with fmt's text TOLD by the authors' own Lean function (tested against real Go, not proved from fmt's source: count such statements apart). THE CARD IS WHAT COUNTS. Prove the row's statement (the work); the ties are given (YticophaepapjoaaGreatDoorTie.lean); close each card by the builder's one call (the guide's Derived/Test/ToyasCard.lean, 'card_holds'). Laid BY PROGRAM, IN A SANDBOX (cutbox-door.mjs). By AI agents, Wed Nov 11 2026. No macro, syntax, notation, axiom, sorry.
-/
import Derived.Test.YticophaepapjoaaGreatDoorRows
import GoSem.ClaimSeven
namespace Go.Proofs.YticophaepapjoaaGreatDoor
namespace Rows

/-- THE TIED CARD OF 'icehouselaw21.StoreAll'. -/
def storeAllCard : Claim7 := { stood := { row := storeAllRow, standIns := [], harness := (true, "5ec7cb9e9290ee56a2a5be9a07618608c042178a8036cf8d7b5d2655730cf654"), looks := false }, kinds := [], alts := [], laidByText := true, laidKinds := [.data], laidTests := true, laidLooks := .later }
def StoreAllCardSaid : Prop := Claim7.holds Tryz.pinned (.plain (OpenSpec.ofChange storeAllSpec)) storeAllCard

/-- THE TIED CARD OF 'icehouselaw21.StoreParts'. -/
def storePartsCard : Claim7 := { stood := { row := storePartsRow, standIns := [], harness := (true, "5ec7cb9e9290ee56a2a5be9a07618608c042178a8036cf8d7b5d2655730cf654"), looks := false }, kinds := [], alts := [], laidByText := true, laidKinds := [.data], laidTests := true, laidLooks := .later }
def StorePartsCardSaid : Prop := Claim7.holds Tryz.pinned (.plain (OpenSpec.ofChange storePartsSpec)) storePartsCard

/-- THE TIED CARD OF 'icehouselaw21.StoreNone'. -/
def storeNoneCard : Claim7 := { stood := { row := storeNoneRow, standIns := [], harness := (true, "5ec7cb9e9290ee56a2a5be9a07618608c042178a8036cf8d7b5d2655730cf654"), looks := false }, kinds := [], alts := [], laidByText := true, laidKinds := [.data], laidTests := true, laidLooks := .later }
def StoreNoneCardSaid : Prop := Claim7.holds Tryz.pinned (.plain (OpenSpec.ofChange storeNoneSpec)) storeNoneCard

/-- THE TIED CARD OF 'icehouselaw21.StoreStarts'. -/
def storeStartsCard : Claim7 := { stood := { row := storeStartsRow, standIns := [], harness := (true, "5ec7cb9e9290ee56a2a5be9a07618608c042178a8036cf8d7b5d2655730cf654"), looks := false }, kinds := [], alts := [], laidByText := true, laidKinds := [.data], laidTests := true, laidLooks := .later }
def StoreStartsCardSaid : Prop := Claim7.holds Tryz.pinned (.plain (OpenSpec.ofChange storeStartsSpec)) storeStartsCard

/-- THE TIED CARD OF 'icehouselaw21.StoreAgain'. -/
def storeAgainCard : Claim7 := { stood := { row := storeAgainRow, standIns := [], harness := (true, "5ec7cb9e9290ee56a2a5be9a07618608c042178a8036cf8d7b5d2655730cf654"), looks := false }, kinds := [], alts := [], laidByText := true, laidKinds := [.data], laidTests := true, laidLooks := .later }
def StoreAgainCardSaid : Prop := Claim7.holds Tryz.pinned (.plain (OpenSpec.ofChange storeAgainSpec)) storeAgainCard

/-- THE TIED CARD OF 'icehouselaw21.StoreKills'. -/
def storeKillsCard : Claim7 := { stood := { row := storeKillsRow, standIns := [], harness := (true, "5ec7cb9e9290ee56a2a5be9a07618608c042178a8036cf8d7b5d2655730cf654"), looks := false }, kinds := [], alts := [], laidByText := true, laidKinds := [.data], laidTests := true, laidLooks := .later }
def StoreKillsCardSaid : Prop := Claim7.holds Tryz.pinned (.plain (OpenSpec.ofChange storeKillsSpec)) storeKillsCard

/-- THE SECOND FORM's CARD OF 'icehouselaw21.StoreAll'. -/
def storeAllUptoCard : Claim7 := { stood := { row := storeAllUptoRow, standIns := [], harness := (true, "5ec7cb9e9290ee56a2a5be9a07618608c042178a8036cf8d7b5d2655730cf654"), looks := false }, kinds := [], alts := [], laidByText := true, laidKinds := [.data], laidTests := true, laidLooks := .later }
def StoreAllUptoCardSaid : Prop := Claim7.holds Tryz.pinned (.plain (OpenSpec.upto storeAllSpec)) storeAllUptoCard

/-- THE SECOND FORM's CARD OF 'icehouselaw21.StoreParts'. -/
def storePartsUptoCard : Claim7 := { stood := { row := storePartsUptoRow, standIns := [], harness := (true, "5ec7cb9e9290ee56a2a5be9a07618608c042178a8036cf8d7b5d2655730cf654"), looks := false }, kinds := [], alts := [], laidByText := true, laidKinds := [.data], laidTests := true, laidLooks := .later }
def StorePartsUptoCardSaid : Prop := Claim7.holds Tryz.pinned (.plain (OpenSpec.upto storePartsSpec)) storePartsUptoCard

/-- THE SECOND FORM's CARD OF 'icehouselaw21.StoreNone'. -/
def storeNoneUptoCard : Claim7 := { stood := { row := storeNoneUptoRow, standIns := [], harness := (true, "5ec7cb9e9290ee56a2a5be9a07618608c042178a8036cf8d7b5d2655730cf654"), looks := false }, kinds := [], alts := [], laidByText := true, laidKinds := [.data], laidTests := true, laidLooks := .later }
def StoreNoneUptoCardSaid : Prop := Claim7.holds Tryz.pinned (.plain (OpenSpec.upto storeNoneSpec)) storeNoneUptoCard

/-- THE SECOND FORM's CARD OF 'icehouselaw21.StoreStarts'. -/
def storeStartsUptoCard : Claim7 := { stood := { row := storeStartsUptoRow, standIns := [], harness := (true, "5ec7cb9e9290ee56a2a5be9a07618608c042178a8036cf8d7b5d2655730cf654"), looks := false }, kinds := [], alts := [], laidByText := true, laidKinds := [.data], laidTests := true, laidLooks := .later }
def StoreStartsUptoCardSaid : Prop := Claim7.holds Tryz.pinned (.plain (OpenSpec.upto storeStartsSpec)) storeStartsUptoCard

/-- THE SECOND FORM's CARD OF 'icehouselaw21.StoreAgain'. -/
def storeAgainUptoCard : Claim7 := { stood := { row := storeAgainUptoRow, standIns := [], harness := (true, "5ec7cb9e9290ee56a2a5be9a07618608c042178a8036cf8d7b5d2655730cf654"), looks := false }, kinds := [], alts := [], laidByText := true, laidKinds := [.data], laidTests := true, laidLooks := .later }
def StoreAgainUptoCardSaid : Prop := Claim7.holds Tryz.pinned (.plain (OpenSpec.upto storeAgainSpec)) storeAgainUptoCard

/-- THE SECOND FORM's CARD OF 'icehouselaw21.StoreKills'. -/
def storeKillsUptoCard : Claim7 := { stood := { row := storeKillsUptoRow, standIns := [], harness := (true, "5ec7cb9e9290ee56a2a5be9a07618608c042178a8036cf8d7b5d2655730cf654"), looks := false }, kinds := [], alts := [], laidByText := true, laidKinds := [.data], laidTests := true, laidLooks := .later }
def StoreKillsUptoCardSaid : Prop := Claim7.holds Tryz.pinned (.plain (OpenSpec.upto storeKillsSpec)) storeKillsUptoCard
end Rows
end Go.Proofs.YticophaepapjoaaGreatDoor
