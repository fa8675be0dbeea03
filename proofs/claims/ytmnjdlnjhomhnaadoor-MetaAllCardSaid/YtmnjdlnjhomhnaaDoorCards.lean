/-
  DERIVED. GIVEN WITH THE SEED: THE CARDS: each row of YtmnjdlnjhomhnaaDoorRows.lean that lists a variable, with what it lists TIED to the program's text (the seventh form; the later family's looks); each row that meets fmt, with fmt's text TOLD by the authors' own Lean function (tested against real Go, not proved from fmt's source: count such statements apart). THE CARD IS WHAT COUNTS. Prove the row's statement (the work); the ties are given (YtmnjdlnjhomhnaaDoorTie.lean); close each card by the builder's one call (the guide's Derived/Test/ToyasCard.lean, 'card_holds'). Laid BY PROGRAM, IN A SANDBOX (cutbox-door.mjs). By AI agents, Wed Nov 11 2026. No macro, syntax, notation, axiom, sorry.
-/
import Derived.Test.YtmnjdlnjhomhnaaDoorRows
import GoSem.ClaimSeven
namespace Go.Proofs.YtmnjdlnjhomhnaaDoor
namespace Rows

/-- THE TIED CARD OF 'icehouselaw12.MetaAll'. -/
def metaAllCard : Claim7 := { stood := { row := metaAllRow, standIns := [], harness := (true, "973f2ac92bbcf2ce45437e0302030ffd5df9919ec4b32d3fbdc1840dcd449486"), looks := false }, kinds := [], alts := [], laidByText := true, laidKinds := [.data], laidTests := true, laidLooks := .later }
def MetaAllCardSaid : Prop := Claim7.holds Tryd.pinned (.plain (OpenSpec.ofChange metaAllSpec)) metaAllCard

/-- THE TIED CARD OF 'icehouselaw12.MetaNone'. -/
def metaNoneCard : Claim7 := { stood := { row := metaNoneRow, standIns := [], harness := (true, "973f2ac92bbcf2ce45437e0302030ffd5df9919ec4b32d3fbdc1840dcd449486"), looks := false }, kinds := [], alts := [], laidByText := true, laidKinds := [.data], laidTests := true, laidLooks := .later }
def MetaNoneCardSaid : Prop := Claim7.holds Tryd.pinned (.plain (OpenSpec.ofChange metaNoneSpec)) metaNoneCard

/-- THE TIED CARD OF 'icehouselaw12.MetaFalls'. -/
def metaFallsCard : Claim7 := { stood := { row := metaFallsRow, standIns := [], harness := (true, "973f2ac92bbcf2ce45437e0302030ffd5df9919ec4b32d3fbdc1840dcd449486"), looks := false }, kinds := [], alts := [], laidByText := true, laidKinds := [.data], laidTests := true, laidLooks := .later }
def MetaFallsCardSaid : Prop := Claim7.holds Tryd.pinned (.plain (OpenSpec.ofChange metaFallsSpec)) metaFallsCard

/-- THE TIED CARD OF 'icehouselaw12.MetaMay'. -/
def metaMayCard : Claim7 := { stood := { row := metaMayRow, standIns := [], harness := (true, "973f2ac92bbcf2ce45437e0302030ffd5df9919ec4b32d3fbdc1840dcd449486"), looks := false }, kinds := [], alts := [], laidByText := true, laidKinds := [.data], laidTests := true, laidLooks := .later }
def MetaMayCardSaid : Prop := Claim7.holds Tryd.pinned (.plain (OpenSpec.ofChange metaMaySpec)) metaMayCard

/-- THE SECOND FORM's CARD OF 'icehouselaw12.MetaAll'. -/
def metaAllUptoCard : Claim7 := { stood := { row := metaAllUptoRow, standIns := [], harness := (true, "973f2ac92bbcf2ce45437e0302030ffd5df9919ec4b32d3fbdc1840dcd449486"), looks := false }, kinds := [], alts := [], laidByText := true, laidKinds := [.data], laidTests := true, laidLooks := .later }
def MetaAllUptoCardSaid : Prop := Claim7.holds Tryd.pinned (.plain (OpenSpec.upto metaAllSpec)) metaAllUptoCard

/-- THE SECOND FORM's CARD OF 'icehouselaw12.MetaNone'. -/
def metaNoneUptoCard : Claim7 := { stood := { row := metaNoneUptoRow, standIns := [], harness := (true, "973f2ac92bbcf2ce45437e0302030ffd5df9919ec4b32d3fbdc1840dcd449486"), looks := false }, kinds := [], alts := [], laidByText := true, laidKinds := [.data], laidTests := true, laidLooks := .later }
def MetaNoneUptoCardSaid : Prop := Claim7.holds Tryd.pinned (.plain (OpenSpec.upto metaNoneSpec)) metaNoneUptoCard

/-- THE SECOND FORM's CARD OF 'icehouselaw12.MetaFalls'. -/
def metaFallsUptoCard : Claim7 := { stood := { row := metaFallsUptoRow, standIns := [], harness := (true, "973f2ac92bbcf2ce45437e0302030ffd5df9919ec4b32d3fbdc1840dcd449486"), looks := false }, kinds := [], alts := [], laidByText := true, laidKinds := [.data], laidTests := true, laidLooks := .later }
def MetaFallsUptoCardSaid : Prop := Claim7.holds Tryd.pinned (.plain (OpenSpec.upto metaFallsSpec)) metaFallsUptoCard

/-- THE SECOND FORM's CARD OF 'icehouselaw12.MetaMay'. -/
def metaMayUptoCard : Claim7 := { stood := { row := metaMayUptoRow, standIns := [], harness := (true, "973f2ac92bbcf2ce45437e0302030ffd5df9919ec4b32d3fbdc1840dcd449486"), looks := false }, kinds := [], alts := [], laidByText := true, laidKinds := [.data], laidTests := true, laidLooks := .later }
def MetaMayUptoCardSaid : Prop := Claim7.holds Tryd.pinned (.plain (OpenSpec.upto metaMaySpec)) metaMayUptoCard
end Rows
end Go.Proofs.YtmnjdlnjhomhnaaDoor
