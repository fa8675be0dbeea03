/-
  DERIVED. GIVEN WITH THE SEED: THE CARDS: each row of YtpaadllbmhbnhaaDoorRows.lean that lists a variable, with what it lists TIED to the program's text (the seventh form; the later family's looks); each row that meets fmt, with fmt's text TOLD by the authors' own Lean function (tested against real Go, not proved from fmt's source: count such statements apart). THE CARD IS WHAT COUNTS. Prove the row's statement (the work); the ties are given (YtpaadllbmhbnhaaDoorTie.lean); close each card by the builder's one call (the guide's Derived/Test/ToyasCard.lean, 'card_holds'). Laid BY PROGRAM, IN A SANDBOX (cutbox-door.mjs). By AI agents, Wed Nov 11 2026. No macro, syntax, notation, axiom, sorry.
-/
import Derived.Test.YtpaadllbmhbnhaaDoorRows
import GoSem.ClaimSeven
namespace Go.Proofs.YtpaadllbmhbnhaaDoor
namespace Rows

/-- THE TIED CARD OF 'icehouselaw5.SuperAll'. -/
def superAllCard : Claim7 := { stood := { row := superAllRow, standIns := [], harness := (true, "b0690db4785f9340a2090aa7c308db902b0f46831e2b2fd60c29afcabd695941"), looks := false }, kinds := [], alts := [], laidByText := true, laidKinds := [.data], laidTests := true, laidLooks := .later }
def SuperAllCardSaid : Prop := Claim7.holds Tryd.pinned (.plain (OpenSpec.ofChange superAllSpec)) superAllCard

/-- THE TIED CARD OF 'icehouselaw5.SuperTorn'. -/
def superTornCard : Claim7 := { stood := { row := superTornRow, standIns := [], harness := (true, "b0690db4785f9340a2090aa7c308db902b0f46831e2b2fd60c29afcabd695941"), looks := false }, kinds := [], alts := [], laidByText := true, laidKinds := [.data], laidTests := true, laidLooks := .later }
def SuperTornCardSaid : Prop := Claim7.holds Tryd.pinned (.plain (OpenSpec.ofChange superTornSpec)) superTornCard

/-- THE TIED CARD OF 'icehouselaw5.SuperSpoilt'. -/
def superSpoiltCard : Claim7 := { stood := { row := superSpoiltRow, standIns := [], harness := (true, "b0690db4785f9340a2090aa7c308db902b0f46831e2b2fd60c29afcabd695941"), looks := false }, kinds := [], alts := [], laidByText := true, laidKinds := [.data], laidTests := true, laidLooks := .later }
def SuperSpoiltCardSaid : Prop := Claim7.holds Tryd.pinned (.plain (OpenSpec.ofChange superSpoiltSpec)) superSpoiltCard

/-- THE TIED CARD OF 'icehouselaw5.SuperNone'. -/
def superNoneCard : Claim7 := { stood := { row := superNoneRow, standIns := [], harness := (true, "b0690db4785f9340a2090aa7c308db902b0f46831e2b2fd60c29afcabd695941"), looks := false }, kinds := [], alts := [], laidByText := true, laidKinds := [.data], laidTests := true, laidLooks := .later }
def SuperNoneCardSaid : Prop := Claim7.holds Tryd.pinned (.plain (OpenSpec.ofChange superNoneSpec)) superNoneCard

/-- THE TIED CARD OF 'icehouselaw5.SuperPlace'. -/
def superPlaceCard : Claim7 := { stood := { row := superPlaceRow, standIns := [], harness := (true, "b0690db4785f9340a2090aa7c308db902b0f46831e2b2fd60c29afcabd695941"), looks := false }, kinds := [], alts := [], laidByText := true, laidKinds := [.data], laidTests := true, laidLooks := .later }
def SuperPlaceCardSaid : Prop := Claim7.holds Tryd.pinned (.plain (OpenSpec.ofChange superPlaceSpec)) superPlaceCard

/-- THE TIED CARD OF 'icehouselaw5.SuperMany'. -/
def superManyCard : Claim7 := { stood := { row := superManyRow, standIns := [], harness := (true, "b0690db4785f9340a2090aa7c308db902b0f46831e2b2fd60c29afcabd695941"), looks := false }, kinds := [], alts := [], laidByText := true, laidKinds := [.data], laidTests := true, laidLooks := .later }
def SuperManyCardSaid : Prop := Claim7.holds Tryd.pinned (.plain (OpenSpec.ofChange superManySpec)) superManyCard

/-- THE SECOND FORM's CARD OF 'icehouselaw5.SuperAll'. -/
def superAllUptoCard : Claim7 := { stood := { row := superAllUptoRow, standIns := [], harness := (true, "b0690db4785f9340a2090aa7c308db902b0f46831e2b2fd60c29afcabd695941"), looks := false }, kinds := [], alts := [], laidByText := true, laidKinds := [.data], laidTests := true, laidLooks := .later }
def SuperAllUptoCardSaid : Prop := Claim7.holds Tryd.pinned (.plain (OpenSpec.upto superAllSpec)) superAllUptoCard

/-- THE SECOND FORM's CARD OF 'icehouselaw5.SuperTorn'. -/
def superTornUptoCard : Claim7 := { stood := { row := superTornUptoRow, standIns := [], harness := (true, "b0690db4785f9340a2090aa7c308db902b0f46831e2b2fd60c29afcabd695941"), looks := false }, kinds := [], alts := [], laidByText := true, laidKinds := [.data], laidTests := true, laidLooks := .later }
def SuperTornUptoCardSaid : Prop := Claim7.holds Tryd.pinned (.plain (OpenSpec.upto superTornSpec)) superTornUptoCard

/-- THE SECOND FORM's CARD OF 'icehouselaw5.SuperSpoilt'. -/
def superSpoiltUptoCard : Claim7 := { stood := { row := superSpoiltUptoRow, standIns := [], harness := (true, "b0690db4785f9340a2090aa7c308db902b0f46831e2b2fd60c29afcabd695941"), looks := false }, kinds := [], alts := [], laidByText := true, laidKinds := [.data], laidTests := true, laidLooks := .later }
def SuperSpoiltUptoCardSaid : Prop := Claim7.holds Tryd.pinned (.plain (OpenSpec.upto superSpoiltSpec)) superSpoiltUptoCard

/-- THE SECOND FORM's CARD OF 'icehouselaw5.SuperNone'. -/
def superNoneUptoCard : Claim7 := { stood := { row := superNoneUptoRow, standIns := [], harness := (true, "b0690db4785f9340a2090aa7c308db902b0f46831e2b2fd60c29afcabd695941"), looks := false }, kinds := [], alts := [], laidByText := true, laidKinds := [.data], laidTests := true, laidLooks := .later }
def SuperNoneUptoCardSaid : Prop := Claim7.holds Tryd.pinned (.plain (OpenSpec.upto superNoneSpec)) superNoneUptoCard

/-- THE SECOND FORM's CARD OF 'icehouselaw5.SuperPlace'. -/
def superPlaceUptoCard : Claim7 := { stood := { row := superPlaceUptoRow, standIns := [], harness := (true, "b0690db4785f9340a2090aa7c308db902b0f46831e2b2fd60c29afcabd695941"), looks := false }, kinds := [], alts := [], laidByText := true, laidKinds := [.data], laidTests := true, laidLooks := .later }
def SuperPlaceUptoCardSaid : Prop := Claim7.holds Tryd.pinned (.plain (OpenSpec.upto superPlaceSpec)) superPlaceUptoCard

/-- THE SECOND FORM's CARD OF 'icehouselaw5.SuperMany'. -/
def superManyUptoCard : Claim7 := { stood := { row := superManyUptoRow, standIns := [], harness := (true, "b0690db4785f9340a2090aa7c308db902b0f46831e2b2fd60c29afcabd695941"), looks := false }, kinds := [], alts := [], laidByText := true, laidKinds := [.data], laidTests := true, laidLooks := .later }
def SuperManyUptoCardSaid : Prop := Claim7.holds Tryd.pinned (.plain (OpenSpec.upto superManySpec)) superManyUptoCard
end Rows
end Go.Proofs.YtpaadllbmhbnhaaDoor
