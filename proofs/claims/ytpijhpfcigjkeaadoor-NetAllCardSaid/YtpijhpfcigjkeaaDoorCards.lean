/-
  DERIVED. GIVEN WITH THE SEED: THE CARDS: each row of YtpijhpfcigjkeaaDoorRows.lean that lists a variable, with what it lists TIED to the program's text (the seventh form; the later family's looks); each row that meets fmt, with fmt's text TOLD by the authors' own Lean function (tested against real Go, not proved from fmt's source: count such statements apart). THE CARD IS WHAT COUNTS. Prove the row's statement (the work); the ties are given (YtpijhpfcigjkeaaDoorTie.lean); close each card by the builder's one call (the guide's Derived/Test/ToyasCard.lean, 'card_holds'). Laid BY PROGRAM, IN A SANDBOX (cutbox-door.mjs). By AI agents, Wed Nov 11 2026. No macro, syntax, notation, axiom, sorry.
-/
import Derived.Test.YtpijhpfcigjkeaaDoorRows
import GoSem.ClaimSeven
namespace Go.Proofs.YtpijhpfcigjkeaaDoor
namespace Rows

/-- THE TIED CARD OF 'icehouselaw20.NetAll'. -/
def netAllCard : Claim7 := { stood := { row := netAllRow, standIns := [], harness := (true, "e1896d7aa0cd1725a4470d69bf2b2b5353b87aa3172b37070187ef057b72168f"), looks := false }, kinds := [], alts := [], laidByText := true, laidKinds := [.data], laidTests := true, laidLooks := .later }
def NetAllCardSaid : Prop := Claim7.holds Tryd.pinned (.plain (OpenSpec.ofChange netAllSpec)) netAllCard

/-- THE TIED CARD OF 'icehouselaw20.NetFull'. -/
def netFullCard : Claim7 := { stood := { row := netFullRow, standIns := [], harness := (true, "e1896d7aa0cd1725a4470d69bf2b2b5353b87aa3172b37070187ef057b72168f"), looks := false }, kinds := [], alts := [], laidByText := true, laidKinds := [.data], laidTests := true, laidLooks := .later }
def NetFullCardSaid : Prop := Claim7.holds Tryd.pinned (.plain (OpenSpec.ofChange netFullSpec)) netFullCard

/-- THE TIED CARD OF 'icehouselaw20.NetOwn'. -/
def netOwnCard : Claim7 := { stood := { row := netOwnRow, standIns := [], harness := (true, "e1896d7aa0cd1725a4470d69bf2b2b5353b87aa3172b37070187ef057b72168f"), looks := false }, kinds := [], alts := [], laidByText := true, laidKinds := [.data], laidTests := true, laidLooks := .later }
def NetOwnCardSaid : Prop := Claim7.holds Tryd.pinned (.plain (OpenSpec.ofChange netOwnSpec)) netOwnCard

/-- THE TIED CARD OF 'icehouselaw20.NetNone'. -/
def netNoneCard : Claim7 := { stood := { row := netNoneRow, standIns := [], harness := (true, "e1896d7aa0cd1725a4470d69bf2b2b5353b87aa3172b37070187ef057b72168f"), looks := false }, kinds := [], alts := [], laidByText := true, laidKinds := [.data], laidTests := true, laidLooks := .later }
def NetNoneCardSaid : Prop := Claim7.holds Tryd.pinned (.plain (OpenSpec.ofChange netNoneSpec)) netNoneCard

/-- THE TIED CARD OF 'icehouselaw20.NetOrder'. -/
def netOrderCard : Claim7 := { stood := { row := netOrderRow, standIns := [], harness := (true, "e1896d7aa0cd1725a4470d69bf2b2b5353b87aa3172b37070187ef057b72168f"), looks := false }, kinds := [], alts := [], laidByText := true, laidKinds := [.data], laidTests := true, laidLooks := .later }
def NetOrderCardSaid : Prop := Claim7.holds Tryd.pinned (.plain (OpenSpec.ofChange netOrderSpec)) netOrderCard

/-- THE SECOND FORM's CARD OF 'icehouselaw20.NetAll'. -/
def netAllUptoCard : Claim7 := { stood := { row := netAllUptoRow, standIns := [], harness := (true, "e1896d7aa0cd1725a4470d69bf2b2b5353b87aa3172b37070187ef057b72168f"), looks := false }, kinds := [], alts := [], laidByText := true, laidKinds := [.data], laidTests := true, laidLooks := .later }
def NetAllUptoCardSaid : Prop := Claim7.holds Tryd.pinned (.plain (OpenSpec.upto netAllSpec)) netAllUptoCard

/-- THE SECOND FORM's CARD OF 'icehouselaw20.NetFull'. -/
def netFullUptoCard : Claim7 := { stood := { row := netFullUptoRow, standIns := [], harness := (true, "e1896d7aa0cd1725a4470d69bf2b2b5353b87aa3172b37070187ef057b72168f"), looks := false }, kinds := [], alts := [], laidByText := true, laidKinds := [.data], laidTests := true, laidLooks := .later }
def NetFullUptoCardSaid : Prop := Claim7.holds Tryd.pinned (.plain (OpenSpec.upto netFullSpec)) netFullUptoCard

/-- THE SECOND FORM's CARD OF 'icehouselaw20.NetOwn'. -/
def netOwnUptoCard : Claim7 := { stood := { row := netOwnUptoRow, standIns := [], harness := (true, "e1896d7aa0cd1725a4470d69bf2b2b5353b87aa3172b37070187ef057b72168f"), looks := false }, kinds := [], alts := [], laidByText := true, laidKinds := [.data], laidTests := true, laidLooks := .later }
def NetOwnUptoCardSaid : Prop := Claim7.holds Tryd.pinned (.plain (OpenSpec.upto netOwnSpec)) netOwnUptoCard

/-- THE SECOND FORM's CARD OF 'icehouselaw20.NetNone'. -/
def netNoneUptoCard : Claim7 := { stood := { row := netNoneUptoRow, standIns := [], harness := (true, "e1896d7aa0cd1725a4470d69bf2b2b5353b87aa3172b37070187ef057b72168f"), looks := false }, kinds := [], alts := [], laidByText := true, laidKinds := [.data], laidTests := true, laidLooks := .later }
def NetNoneUptoCardSaid : Prop := Claim7.holds Tryd.pinned (.plain (OpenSpec.upto netNoneSpec)) netNoneUptoCard

/-- THE SECOND FORM's CARD OF 'icehouselaw20.NetOrder'. -/
def netOrderUptoCard : Claim7 := { stood := { row := netOrderUptoRow, standIns := [], harness := (true, "e1896d7aa0cd1725a4470d69bf2b2b5353b87aa3172b37070187ef057b72168f"), looks := false }, kinds := [], alts := [], laidByText := true, laidKinds := [.data], laidTests := true, laidLooks := .later }
def NetOrderUptoCardSaid : Prop := Claim7.holds Tryd.pinned (.plain (OpenSpec.upto netOrderSpec)) netOrderUptoCard
end Rows
end Go.Proofs.YtpijhpfcigjkeaaDoor
