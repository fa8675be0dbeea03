/-
  DERIVED. GIVEN WITH THE SEED: THE CARDS: each row of YtajapklpdfikoaaDoorRows.lean that lists a variable, with what it lists TIED to the program's text (the seventh form; the later family's looks); each row that meets fmt, with fmt's text TOLD by the authors' own Lean function (tested against real Go, not proved from fmt's source: count such statements apart). THE CARD IS WHAT COUNTS. Prove the row's statement (the work); the ties are given (YtajapklpdfikoaaDoorTie.lean); close each card by the builder's one call (the guide's Derived/Test/ToyasCard.lean, 'card_holds'). Laid BY PROGRAM, IN A SANDBOX (cutbox-door.mjs). By AI agents, Wed Nov 11 2026. No macro, syntax, notation, axiom, sorry.
-/
import Derived.Test.YtajapklpdfikoaaDoorRows
import GoSem.ClaimSeven
namespace Go.Proofs.YtajapklpdfikoaaDoor
namespace Rows

/-- THE TIED CARD OF 'icehouselaw5.SuperAll'. -/
def superAllCard : Claim7 := { stood := { row := superAllRow, standIns := [], harness := (true, "02611ee58bd3e9101eaa0e1b9c654545d84ef1f0ef65d6ced5839083cc2046f1"), looks := false }, kinds := [], alts := [], laidByText := true, laidKinds := [.data], laidTests := true, laidLooks := .later }
def SuperAllCardSaid : Prop := Claim7.holds Tryd.pinned (.plain (OpenSpec.ofChange superAllSpec)) superAllCard

/-- THE TIED CARD OF 'icehouselaw5.SuperTorn'. -/
def superTornCard : Claim7 := { stood := { row := superTornRow, standIns := [], harness := (true, "02611ee58bd3e9101eaa0e1b9c654545d84ef1f0ef65d6ced5839083cc2046f1"), looks := false }, kinds := [], alts := [], laidByText := true, laidKinds := [.data], laidTests := true, laidLooks := .later }
def SuperTornCardSaid : Prop := Claim7.holds Tryd.pinned (.plain (OpenSpec.ofChange superTornSpec)) superTornCard

/-- THE TIED CARD OF 'icehouselaw5.SuperSpoilt'. -/
def superSpoiltCard : Claim7 := { stood := { row := superSpoiltRow, standIns := [], harness := (true, "02611ee58bd3e9101eaa0e1b9c654545d84ef1f0ef65d6ced5839083cc2046f1"), looks := false }, kinds := [], alts := [], laidByText := true, laidKinds := [.data], laidTests := true, laidLooks := .later }
def SuperSpoiltCardSaid : Prop := Claim7.holds Tryd.pinned (.plain (OpenSpec.ofChange superSpoiltSpec)) superSpoiltCard

/-- THE TIED CARD OF 'icehouselaw5.SuperNone'. -/
def superNoneCard : Claim7 := { stood := { row := superNoneRow, standIns := [], harness := (true, "02611ee58bd3e9101eaa0e1b9c654545d84ef1f0ef65d6ced5839083cc2046f1"), looks := false }, kinds := [], alts := [], laidByText := true, laidKinds := [.data], laidTests := true, laidLooks := .later }
def SuperNoneCardSaid : Prop := Claim7.holds Tryd.pinned (.plain (OpenSpec.ofChange superNoneSpec)) superNoneCard

/-- THE TIED CARD OF 'icehouselaw5.SuperPlace'. -/
def superPlaceCard : Claim7 := { stood := { row := superPlaceRow, standIns := [], harness := (true, "02611ee58bd3e9101eaa0e1b9c654545d84ef1f0ef65d6ced5839083cc2046f1"), looks := false }, kinds := [], alts := [], laidByText := true, laidKinds := [.data], laidTests := true, laidLooks := .later }
def SuperPlaceCardSaid : Prop := Claim7.holds Tryd.pinned (.plain (OpenSpec.ofChange superPlaceSpec)) superPlaceCard

/-- THE TIED CARD OF 'icehouselaw5.SuperMany'. -/
def superManyCard : Claim7 := { stood := { row := superManyRow, standIns := [], harness := (true, "02611ee58bd3e9101eaa0e1b9c654545d84ef1f0ef65d6ced5839083cc2046f1"), looks := false }, kinds := [], alts := [], laidByText := true, laidKinds := [.data], laidTests := true, laidLooks := .later }
def SuperManyCardSaid : Prop := Claim7.holds Tryd.pinned (.plain (OpenSpec.ofChange superManySpec)) superManyCard

/-- THE TIED CARD OF 'icehouselaw6.SlogAll'. -/
def slogAllCard : Claim7 := { stood := { row := slogAllRow, standIns := [], harness := (true, "02611ee58bd3e9101eaa0e1b9c654545d84ef1f0ef65d6ced5839083cc2046f1"), looks := false }, kinds := [], alts := [], laidByText := true, laidKinds := [.data], laidTests := true, laidLooks := .later }
def SlogAllCardSaid : Prop := Claim7.holds Tryd.pinned (.plain (OpenSpec.ofChange slogAllSpec)) slogAllCard

/-- THE TIED CARD OF 'icehouselaw6.SlogNone'. -/
def slogNoneCard : Claim7 := { stood := { row := slogNoneRow, standIns := [], harness := (true, "02611ee58bd3e9101eaa0e1b9c654545d84ef1f0ef65d6ced5839083cc2046f1"), looks := false }, kinds := [], alts := [], laidByText := true, laidKinds := [.data], laidTests := true, laidLooks := .later }
def SlogNoneCardSaid : Prop := Claim7.holds Tryd.pinned (.plain (OpenSpec.ofChange slogNoneSpec)) slogNoneCard

/-- THE TIED CARD OF 'icehouselaw6.SlogRound'. -/
def slogRoundCard : Claim7 := { stood := { row := slogRoundRow, standIns := [], harness := (true, "02611ee58bd3e9101eaa0e1b9c654545d84ef1f0ef65d6ced5839083cc2046f1"), looks := false }, kinds := [], alts := [], laidByText := true, laidKinds := [.data], laidTests := true, laidLooks := .later }
def SlogRoundCardSaid : Prop := Claim7.holds Tryd.pinned (.plain (OpenSpec.ofChange slogRoundSpec)) slogRoundCard

/-- THE TIED CARD OF 'icehouselaw6.SlogOwn'. -/
def slogOwnCard : Claim7 := { stood := { row := slogOwnRow, standIns := [], harness := (true, "02611ee58bd3e9101eaa0e1b9c654545d84ef1f0ef65d6ced5839083cc2046f1"), looks := false }, kinds := [], alts := [], laidByText := true, laidKinds := [.data], laidTests := true, laidLooks := .later }
def SlogOwnCardSaid : Prop := Claim7.holds Tryd.pinned (.plain (OpenSpec.ofChange slogOwnSpec)) slogOwnCard

/-- THE TIED CARD OF 'icehouselaw6.SlogApart'. -/
def slogApartCard : Claim7 := { stood := { row := slogApartRow, standIns := [], harness := (true, "02611ee58bd3e9101eaa0e1b9c654545d84ef1f0ef65d6ced5839083cc2046f1"), looks := false }, kinds := [], alts := [], laidByText := true, laidKinds := [.data], laidTests := true, laidLooks := .later }
def SlogApartCardSaid : Prop := Claim7.holds Tryd.pinned (.plain (OpenSpec.ofChange slogApartSpec)) slogApartCard

/-- THE SECOND FORM's CARD OF 'icehouselaw5.SuperAll'. -/
def superAllUptoCard : Claim7 := { stood := { row := superAllUptoRow, standIns := [], harness := (true, "02611ee58bd3e9101eaa0e1b9c654545d84ef1f0ef65d6ced5839083cc2046f1"), looks := false }, kinds := [], alts := [], laidByText := true, laidKinds := [.data], laidTests := true, laidLooks := .later }
def SuperAllUptoCardSaid : Prop := Claim7.holds Tryd.pinned (.plain (OpenSpec.upto superAllSpec)) superAllUptoCard

/-- THE SECOND FORM's CARD OF 'icehouselaw5.SuperTorn'. -/
def superTornUptoCard : Claim7 := { stood := { row := superTornUptoRow, standIns := [], harness := (true, "02611ee58bd3e9101eaa0e1b9c654545d84ef1f0ef65d6ced5839083cc2046f1"), looks := false }, kinds := [], alts := [], laidByText := true, laidKinds := [.data], laidTests := true, laidLooks := .later }
def SuperTornUptoCardSaid : Prop := Claim7.holds Tryd.pinned (.plain (OpenSpec.upto superTornSpec)) superTornUptoCard

/-- THE SECOND FORM's CARD OF 'icehouselaw5.SuperSpoilt'. -/
def superSpoiltUptoCard : Claim7 := { stood := { row := superSpoiltUptoRow, standIns := [], harness := (true, "02611ee58bd3e9101eaa0e1b9c654545d84ef1f0ef65d6ced5839083cc2046f1"), looks := false }, kinds := [], alts := [], laidByText := true, laidKinds := [.data], laidTests := true, laidLooks := .later }
def SuperSpoiltUptoCardSaid : Prop := Claim7.holds Tryd.pinned (.plain (OpenSpec.upto superSpoiltSpec)) superSpoiltUptoCard

/-- THE SECOND FORM's CARD OF 'icehouselaw5.SuperNone'. -/
def superNoneUptoCard : Claim7 := { stood := { row := superNoneUptoRow, standIns := [], harness := (true, "02611ee58bd3e9101eaa0e1b9c654545d84ef1f0ef65d6ced5839083cc2046f1"), looks := false }, kinds := [], alts := [], laidByText := true, laidKinds := [.data], laidTests := true, laidLooks := .later }
def SuperNoneUptoCardSaid : Prop := Claim7.holds Tryd.pinned (.plain (OpenSpec.upto superNoneSpec)) superNoneUptoCard

/-- THE SECOND FORM's CARD OF 'icehouselaw5.SuperPlace'. -/
def superPlaceUptoCard : Claim7 := { stood := { row := superPlaceUptoRow, standIns := [], harness := (true, "02611ee58bd3e9101eaa0e1b9c654545d84ef1f0ef65d6ced5839083cc2046f1"), looks := false }, kinds := [], alts := [], laidByText := true, laidKinds := [.data], laidTests := true, laidLooks := .later }
def SuperPlaceUptoCardSaid : Prop := Claim7.holds Tryd.pinned (.plain (OpenSpec.upto superPlaceSpec)) superPlaceUptoCard

/-- THE SECOND FORM's CARD OF 'icehouselaw5.SuperMany'. -/
def superManyUptoCard : Claim7 := { stood := { row := superManyUptoRow, standIns := [], harness := (true, "02611ee58bd3e9101eaa0e1b9c654545d84ef1f0ef65d6ced5839083cc2046f1"), looks := false }, kinds := [], alts := [], laidByText := true, laidKinds := [.data], laidTests := true, laidLooks := .later }
def SuperManyUptoCardSaid : Prop := Claim7.holds Tryd.pinned (.plain (OpenSpec.upto superManySpec)) superManyUptoCard

/-- THE SECOND FORM's CARD OF 'icehouselaw6.SlogAll'. -/
def slogAllUptoCard : Claim7 := { stood := { row := slogAllUptoRow, standIns := [], harness := (true, "02611ee58bd3e9101eaa0e1b9c654545d84ef1f0ef65d6ced5839083cc2046f1"), looks := false }, kinds := [], alts := [], laidByText := true, laidKinds := [.data], laidTests := true, laidLooks := .later }
def SlogAllUptoCardSaid : Prop := Claim7.holds Tryd.pinned (.plain (OpenSpec.upto slogAllSpec)) slogAllUptoCard

/-- THE SECOND FORM's CARD OF 'icehouselaw6.SlogNone'. -/
def slogNoneUptoCard : Claim7 := { stood := { row := slogNoneUptoRow, standIns := [], harness := (true, "02611ee58bd3e9101eaa0e1b9c654545d84ef1f0ef65d6ced5839083cc2046f1"), looks := false }, kinds := [], alts := [], laidByText := true, laidKinds := [.data], laidTests := true, laidLooks := .later }
def SlogNoneUptoCardSaid : Prop := Claim7.holds Tryd.pinned (.plain (OpenSpec.upto slogNoneSpec)) slogNoneUptoCard

/-- THE SECOND FORM's CARD OF 'icehouselaw6.SlogRound'. -/
def slogRoundUptoCard : Claim7 := { stood := { row := slogRoundUptoRow, standIns := [], harness := (true, "02611ee58bd3e9101eaa0e1b9c654545d84ef1f0ef65d6ced5839083cc2046f1"), looks := false }, kinds := [], alts := [], laidByText := true, laidKinds := [.data], laidTests := true, laidLooks := .later }
def SlogRoundUptoCardSaid : Prop := Claim7.holds Tryd.pinned (.plain (OpenSpec.upto slogRoundSpec)) slogRoundUptoCard

/-- THE SECOND FORM's CARD OF 'icehouselaw6.SlogOwn'. -/
def slogOwnUptoCard : Claim7 := { stood := { row := slogOwnUptoRow, standIns := [], harness := (true, "02611ee58bd3e9101eaa0e1b9c654545d84ef1f0ef65d6ced5839083cc2046f1"), looks := false }, kinds := [], alts := [], laidByText := true, laidKinds := [.data], laidTests := true, laidLooks := .later }
def SlogOwnUptoCardSaid : Prop := Claim7.holds Tryd.pinned (.plain (OpenSpec.upto slogOwnSpec)) slogOwnUptoCard

/-- THE SECOND FORM's CARD OF 'icehouselaw6.SlogApart'. -/
def slogApartUptoCard : Claim7 := { stood := { row := slogApartUptoRow, standIns := [], harness := (true, "02611ee58bd3e9101eaa0e1b9c654545d84ef1f0ef65d6ced5839083cc2046f1"), looks := false }, kinds := [], alts := [], laidByText := true, laidKinds := [.data], laidTests := true, laidLooks := .later }
def SlogApartUptoCardSaid : Prop := Claim7.holds Tryd.pinned (.plain (OpenSpec.upto slogApartSpec)) slogApartUptoCard
end Rows
end Go.Proofs.YtajapklpdfikoaaDoor
