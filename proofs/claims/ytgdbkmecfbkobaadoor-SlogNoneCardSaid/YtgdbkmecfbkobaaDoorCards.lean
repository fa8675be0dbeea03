/-
  DERIVED. GIVEN WITH THE SEED: THE CARDS: each row of YtgdbkmecfbkobaaDoorRows.lean that lists a variable, with what it lists TIED to the program's text (the seventh form; the later family's looks); each row that meets fmt, with fmt's text TOLD by the authors' own Lean function (tested against real Go, not proved from fmt's source: count such statements apart). THE CARD IS WHAT COUNTS. Prove the row's statement (the work); the ties are given (YtgdbkmecfbkobaaDoorTie.lean); close each card by the builder's one call (the guide's Derived/Test/ToyasCard.lean, 'card_holds'). Laid BY PROGRAM, IN A SANDBOX (cutbox-door.mjs). By AI agents, Wed Nov 11 2026. No macro, syntax, notation, axiom, sorry.
-/
import Derived.Test.YtgdbkmecfbkobaaDoorRows
import GoSem.ClaimSeven
namespace Go.Proofs.YtgdbkmecfbkobaaDoor
namespace Rows

/-- THE TIED CARD OF 'icehouselaw6.SlogAll'. -/
def slogAllCard : Claim7 := { stood := { row := slogAllRow, standIns := [], harness := (true, "91bbc9c8ec47dede79677767431874e9d3916e8c4ff11d42b3be17dbdfdacd9e"), looks := false }, kinds := [], alts := [], laidByText := true, laidKinds := [.data], laidTests := true, laidLooks := .later }
def SlogAllCardSaid : Prop := Claim7.holds Tryd.pinned (.plain (OpenSpec.ofChange slogAllSpec)) slogAllCard

/-- THE TIED CARD OF 'icehouselaw6.SlogNone'. -/
def slogNoneCard : Claim7 := { stood := { row := slogNoneRow, standIns := [], harness := (true, "91bbc9c8ec47dede79677767431874e9d3916e8c4ff11d42b3be17dbdfdacd9e"), looks := false }, kinds := [], alts := [], laidByText := true, laidKinds := [.data], laidTests := true, laidLooks := .later }
def SlogNoneCardSaid : Prop := Claim7.holds Tryd.pinned (.plain (OpenSpec.ofChange slogNoneSpec)) slogNoneCard

/-- THE TIED CARD OF 'icehouselaw6.SlogRound'. -/
def slogRoundCard : Claim7 := { stood := { row := slogRoundRow, standIns := [], harness := (true, "91bbc9c8ec47dede79677767431874e9d3916e8c4ff11d42b3be17dbdfdacd9e"), looks := false }, kinds := [], alts := [], laidByText := true, laidKinds := [.data], laidTests := true, laidLooks := .later }
def SlogRoundCardSaid : Prop := Claim7.holds Tryd.pinned (.plain (OpenSpec.ofChange slogRoundSpec)) slogRoundCard

/-- THE TIED CARD OF 'icehouselaw6.SlogOwn'. -/
def slogOwnCard : Claim7 := { stood := { row := slogOwnRow, standIns := [], harness := (true, "91bbc9c8ec47dede79677767431874e9d3916e8c4ff11d42b3be17dbdfdacd9e"), looks := false }, kinds := [], alts := [], laidByText := true, laidKinds := [.data], laidTests := true, laidLooks := .later }
def SlogOwnCardSaid : Prop := Claim7.holds Tryd.pinned (.plain (OpenSpec.ofChange slogOwnSpec)) slogOwnCard

/-- THE TIED CARD OF 'icehouselaw6.SlogApart'. -/
def slogApartCard : Claim7 := { stood := { row := slogApartRow, standIns := [], harness := (true, "91bbc9c8ec47dede79677767431874e9d3916e8c4ff11d42b3be17dbdfdacd9e"), looks := false }, kinds := [], alts := [], laidByText := true, laidKinds := [.data], laidTests := true, laidLooks := .later }
def SlogApartCardSaid : Prop := Claim7.holds Tryd.pinned (.plain (OpenSpec.ofChange slogApartSpec)) slogApartCard

/-- THE SECOND FORM's CARD OF 'icehouselaw6.SlogAll'. -/
def slogAllUptoCard : Claim7 := { stood := { row := slogAllUptoRow, standIns := [], harness := (true, "91bbc9c8ec47dede79677767431874e9d3916e8c4ff11d42b3be17dbdfdacd9e"), looks := false }, kinds := [], alts := [], laidByText := true, laidKinds := [.data], laidTests := true, laidLooks := .later }
def SlogAllUptoCardSaid : Prop := Claim7.holds Tryd.pinned (.plain (OpenSpec.upto slogAllSpec)) slogAllUptoCard

/-- THE SECOND FORM's CARD OF 'icehouselaw6.SlogNone'. -/
def slogNoneUptoCard : Claim7 := { stood := { row := slogNoneUptoRow, standIns := [], harness := (true, "91bbc9c8ec47dede79677767431874e9d3916e8c4ff11d42b3be17dbdfdacd9e"), looks := false }, kinds := [], alts := [], laidByText := true, laidKinds := [.data], laidTests := true, laidLooks := .later }
def SlogNoneUptoCardSaid : Prop := Claim7.holds Tryd.pinned (.plain (OpenSpec.upto slogNoneSpec)) slogNoneUptoCard

/-- THE SECOND FORM's CARD OF 'icehouselaw6.SlogRound'. -/
def slogRoundUptoCard : Claim7 := { stood := { row := slogRoundUptoRow, standIns := [], harness := (true, "91bbc9c8ec47dede79677767431874e9d3916e8c4ff11d42b3be17dbdfdacd9e"), looks := false }, kinds := [], alts := [], laidByText := true, laidKinds := [.data], laidTests := true, laidLooks := .later }
def SlogRoundUptoCardSaid : Prop := Claim7.holds Tryd.pinned (.plain (OpenSpec.upto slogRoundSpec)) slogRoundUptoCard

/-- THE SECOND FORM's CARD OF 'icehouselaw6.SlogOwn'. -/
def slogOwnUptoCard : Claim7 := { stood := { row := slogOwnUptoRow, standIns := [], harness := (true, "91bbc9c8ec47dede79677767431874e9d3916e8c4ff11d42b3be17dbdfdacd9e"), looks := false }, kinds := [], alts := [], laidByText := true, laidKinds := [.data], laidTests := true, laidLooks := .later }
def SlogOwnUptoCardSaid : Prop := Claim7.holds Tryd.pinned (.plain (OpenSpec.upto slogOwnSpec)) slogOwnUptoCard

/-- THE SECOND FORM's CARD OF 'icehouselaw6.SlogApart'. -/
def slogApartUptoCard : Claim7 := { stood := { row := slogApartUptoRow, standIns := [], harness := (true, "91bbc9c8ec47dede79677767431874e9d3916e8c4ff11d42b3be17dbdfdacd9e"), looks := false }, kinds := [], alts := [], laidByText := true, laidKinds := [.data], laidTests := true, laidLooks := .later }
def SlogApartUptoCardSaid : Prop := Claim7.holds Tryd.pinned (.plain (OpenSpec.upto slogApartSpec)) slogApartUptoCard
end Rows
end Go.Proofs.YtgdbkmecfbkobaaDoor
