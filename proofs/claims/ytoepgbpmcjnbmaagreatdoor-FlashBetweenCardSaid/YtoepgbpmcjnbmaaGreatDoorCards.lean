/-
  DERIVED. GIVEN WITH THE SEED: THE CARDS: each row of YtoepgbpmcjnbmaaGreatDoorRows.lean that lists a variable, with what it lists TIED to the program's text (the seventh form; the later family's looks); each row that meets fmt, with fmt's text TOLD by the authors' own Lean function (tested against real Go, not proved from fmt's source: count such statements apart). THE CARD IS WHAT COUNTS. Prove the row's statement (the work); the ties are given (YtoepgbpmcjnbmaaGreatDoorTie.lean); close each card by the builder's one call (the guide's Derived/Test/ToyasCard.lean, 'card_holds'). Laid BY PROGRAM, IN A SANDBOX (cutbox-door.mjs). By AI agents, Wed Nov 11 2026. No macro, syntax, notation, axiom, sorry.
-/
import Derived.Test.YtoepgbpmcjnbmaaGreatDoorRows
import GoSem.ClaimSeven
namespace Go.Proofs.YtoepgbpmcjnbmaaGreatDoor
namespace Rows

/-- THE TIED CARD OF 'icehouselaw9.FlashAll'. -/
def flashAllCard : Claim7 := { stood := { row := flashAllRow, standIns := [], harness := (true, "05913bda7f02976ac03dc9741d7e1426d9a974d919812b2939149c6fdd5543e6"), looks := false }, kinds := [], alts := [], laidByText := true, laidKinds := [.data], laidTests := true, laidLooks := .later }
def FlashAllCardSaid : Prop := Claim7.holds Tryz.pinned (.plain (OpenSpec.ofChange flashAllSpec)) flashAllCard

/-- THE TIED CARD OF 'icehouselaw9.FlashBetween'. -/
def flashBetweenCard : Claim7 := { stood := { row := flashBetweenRow, standIns := [], harness := (true, "05913bda7f02976ac03dc9741d7e1426d9a974d919812b2939149c6fdd5543e6"), looks := false }, kinds := [], alts := [], laidByText := true, laidKinds := [.data], laidTests := true, laidLooks := .later }
def FlashBetweenCardSaid : Prop := Claim7.holds Tryz.pinned (.plain (OpenSpec.ofChange flashBetweenSpec)) flashBetweenCard

/-- THE TIED CARD OF 'icehouselaw9.FlashNone'. -/
def flashNoneCard : Claim7 := { stood := { row := flashNoneRow, standIns := [], harness := (true, "05913bda7f02976ac03dc9741d7e1426d9a974d919812b2939149c6fdd5543e6"), looks := false }, kinds := [], alts := [], laidByText := true, laidKinds := [.data], laidTests := true, laidLooks := .later }
def FlashNoneCardSaid : Prop := Claim7.holds Tryz.pinned (.plain (OpenSpec.ofChange flashNoneSpec)) flashNoneCard

/-- THE TIED CARD OF 'icehouselaw9.FlashMany'. -/
def flashManyCard : Claim7 := { stood := { row := flashManyRow, standIns := [], harness := (true, "05913bda7f02976ac03dc9741d7e1426d9a974d919812b2939149c6fdd5543e6"), looks := false }, kinds := [], alts := [], laidByText := true, laidKinds := [.data], laidTests := true, laidLooks := .later }
def FlashManyCardSaid : Prop := Claim7.holds Tryz.pinned (.plain (OpenSpec.ofChange flashManySpec)) flashManyCard

/-- THE TIED CARD OF 'icehouselaw9.FlashEnd'. -/
def flashEndCard : Claim7 := { stood := { row := flashEndRow, standIns := [], harness := (true, "05913bda7f02976ac03dc9741d7e1426d9a974d919812b2939149c6fdd5543e6"), looks := false }, kinds := [], alts := [], laidByText := true, laidKinds := [.data], laidTests := true, laidLooks := .later }
def FlashEndCardSaid : Prop := Claim7.holds Tryz.pinned (.plain (OpenSpec.ofChange flashEndSpec)) flashEndCard

/-- THE TIED CARD OF 'icehouselaw9.FlashDrop'. -/
def flashDropCard : Claim7 := { stood := { row := flashDropRow, standIns := [], harness := (true, "05913bda7f02976ac03dc9741d7e1426d9a974d919812b2939149c6fdd5543e6"), looks := false }, kinds := [], alts := [], laidByText := true, laidKinds := [.data], laidTests := true, laidLooks := .later }
def FlashDropCardSaid : Prop := Claim7.holds Tryz.pinned (.plain (OpenSpec.ofChange flashDropSpec)) flashDropCard

/-- THE TIED CARD OF 'icehouselaw9.FlashWipe'. -/
def flashWipeCard : Claim7 := { stood := { row := flashWipeRow, standIns := [], harness := (true, "05913bda7f02976ac03dc9741d7e1426d9a974d919812b2939149c6fdd5543e6"), looks := false }, kinds := [], alts := [], laidByText := true, laidKinds := [.data], laidTests := true, laidLooks := .later }
def FlashWipeCardSaid : Prop := Claim7.holds Tryz.pinned (.plain (OpenSpec.ofChange flashWipeSpec)) flashWipeCard

/-- THE SECOND FORM's CARD OF 'icehouselaw9.FlashAll'. -/
def flashAllUptoCard : Claim7 := { stood := { row := flashAllUptoRow, standIns := [], harness := (true, "05913bda7f02976ac03dc9741d7e1426d9a974d919812b2939149c6fdd5543e6"), looks := false }, kinds := [], alts := [], laidByText := true, laidKinds := [.data], laidTests := true, laidLooks := .later }
def FlashAllUptoCardSaid : Prop := Claim7.holds Tryz.pinned (.plain (OpenSpec.upto flashAllSpec)) flashAllUptoCard

/-- THE SECOND FORM's CARD OF 'icehouselaw9.FlashBetween'. -/
def flashBetweenUptoCard : Claim7 := { stood := { row := flashBetweenUptoRow, standIns := [], harness := (true, "05913bda7f02976ac03dc9741d7e1426d9a974d919812b2939149c6fdd5543e6"), looks := false }, kinds := [], alts := [], laidByText := true, laidKinds := [.data], laidTests := true, laidLooks := .later }
def FlashBetweenUptoCardSaid : Prop := Claim7.holds Tryz.pinned (.plain (OpenSpec.upto flashBetweenSpec)) flashBetweenUptoCard

/-- THE SECOND FORM's CARD OF 'icehouselaw9.FlashNone'. -/
def flashNoneUptoCard : Claim7 := { stood := { row := flashNoneUptoRow, standIns := [], harness := (true, "05913bda7f02976ac03dc9741d7e1426d9a974d919812b2939149c6fdd5543e6"), looks := false }, kinds := [], alts := [], laidByText := true, laidKinds := [.data], laidTests := true, laidLooks := .later }
def FlashNoneUptoCardSaid : Prop := Claim7.holds Tryz.pinned (.plain (OpenSpec.upto flashNoneSpec)) flashNoneUptoCard

/-- THE SECOND FORM's CARD OF 'icehouselaw9.FlashMany'. -/
def flashManyUptoCard : Claim7 := { stood := { row := flashManyUptoRow, standIns := [], harness := (true, "05913bda7f02976ac03dc9741d7e1426d9a974d919812b2939149c6fdd5543e6"), looks := false }, kinds := [], alts := [], laidByText := true, laidKinds := [.data], laidTests := true, laidLooks := .later }
def FlashManyUptoCardSaid : Prop := Claim7.holds Tryz.pinned (.plain (OpenSpec.upto flashManySpec)) flashManyUptoCard

/-- THE SECOND FORM's CARD OF 'icehouselaw9.FlashEnd'. -/
def flashEndUptoCard : Claim7 := { stood := { row := flashEndUptoRow, standIns := [], harness := (true, "05913bda7f02976ac03dc9741d7e1426d9a974d919812b2939149c6fdd5543e6"), looks := false }, kinds := [], alts := [], laidByText := true, laidKinds := [.data], laidTests := true, laidLooks := .later }
def FlashEndUptoCardSaid : Prop := Claim7.holds Tryz.pinned (.plain (OpenSpec.upto flashEndSpec)) flashEndUptoCard

/-- THE SECOND FORM's CARD OF 'icehouselaw9.FlashDrop'. -/
def flashDropUptoCard : Claim7 := { stood := { row := flashDropUptoRow, standIns := [], harness := (true, "05913bda7f02976ac03dc9741d7e1426d9a974d919812b2939149c6fdd5543e6"), looks := false }, kinds := [], alts := [], laidByText := true, laidKinds := [.data], laidTests := true, laidLooks := .later }
def FlashDropUptoCardSaid : Prop := Claim7.holds Tryz.pinned (.plain (OpenSpec.upto flashDropSpec)) flashDropUptoCard

/-- THE SECOND FORM's CARD OF 'icehouselaw9.FlashWipe'. -/
def flashWipeUptoCard : Claim7 := { stood := { row := flashWipeUptoRow, standIns := [], harness := (true, "05913bda7f02976ac03dc9741d7e1426d9a974d919812b2939149c6fdd5543e6"), looks := false }, kinds := [], alts := [], laidByText := true, laidKinds := [.data], laidTests := true, laidLooks := .later }
def FlashWipeUptoCardSaid : Prop := Claim7.holds Tryz.pinned (.plain (OpenSpec.upto flashWipeSpec)) flashWipeUptoCard
end Rows
end Go.Proofs.YtoepgbpmcjnbmaaGreatDoor
