/-
  DERIVED. GIVEN WITH THE SEED: THE CARDS: each row of YthkopnobekohcaaGreatDoorRows.lean that lists a variable, with what it lists TIED to the program's text (the seventh form; the later family's looks); each row that meets fmt, with fmt's text TOLD by the authors' own Lean function (tested against real Go, not proved from fmt's source: count such statements apart). THE CARD IS WHAT COUNTS. Prove the row's statement (the work); the ties are given (YthkopnobekohcaaGreatDoorTie.lean); close each card by the builder's one call (the guide's Derived/Test/ToyasCard.lean, 'card_holds'). Laid BY PROGRAM, IN A SANDBOX (cutbox-door.mjs). By AI agents, Wed Nov 11 2026. No macro, syntax, notation, axiom, sorry.
-/
import Derived.Test.YthkopnobekohcaaGreatDoorRows
import GoSem.ClaimSeven
namespace Go.Proofs.YthkopnobekohcaaGreatDoor
namespace Rows

/-- THE TIED CARD OF 'stoploglaw24.SettwoSays'. -/
def settwoSaysCard : Claim7 := { stood := { row := settwoSaysRow, standIns := [], harness := (true, "bbfd7bcd952e914875fb18b5fb3c5a3592810b61980ec53ca4a3b77ad0f70d53"), looks := false }, kinds := [], alts := [], laidByText := true, laidKinds := [.data, .data, .data, .data, .data, .data, .pinned], laidTests := true, laidLooks := .later }
def SettwoSaysCardSaid : Prop := Claim7.holds Tryz.pinned (.plain (OpenSpec.ofChange settwoSaysSpec)) settwoSaysCard

/-- THE TIED CARD OF 'stoploglaw24.SettwoSpoilt'. -/
def settwoSpoiltCard : Claim7 := { stood := { row := settwoSpoiltRow, standIns := [], harness := (true, "bbfd7bcd952e914875fb18b5fb3c5a3592810b61980ec53ca4a3b77ad0f70d53"), looks := false }, kinds := [], alts := [], laidByText := true, laidKinds := [.data, .data, .data, .data, .data, .data, .pinned], laidTests := true, laidLooks := .later }
def SettwoSpoiltCardSaid : Prop := Claim7.holds Tryz.pinned (.plain (OpenSpec.ofChange settwoSpoiltSpec)) settwoSpoiltCard

/-- THE SECOND FORM's CARD OF 'stoploglaw24.SettwoSays'. -/
def settwoSaysUptoCard : Claim7 := { stood := { row := settwoSaysUptoRow, standIns := [], harness := (true, "bbfd7bcd952e914875fb18b5fb3c5a3592810b61980ec53ca4a3b77ad0f70d53"), looks := false }, kinds := [], alts := [], laidByText := true, laidKinds := [.data, .data, .data, .data, .data, .data, .pinned], laidTests := true, laidLooks := .later }
def SettwoSaysUptoCardSaid : Prop := Claim7.holds Tryz.pinned (.plain (OpenSpec.upto settwoSaysSpec)) settwoSaysUptoCard

/-- THE SECOND FORM's CARD OF 'stoploglaw24.SettwoSpoilt'. -/
def settwoSpoiltUptoCard : Claim7 := { stood := { row := settwoSpoiltUptoRow, standIns := [], harness := (true, "bbfd7bcd952e914875fb18b5fb3c5a3592810b61980ec53ca4a3b77ad0f70d53"), looks := false }, kinds := [], alts := [], laidByText := true, laidKinds := [.data, .data, .data, .data, .data, .data, .pinned], laidTests := true, laidLooks := .later }
def SettwoSpoiltUptoCardSaid : Prop := Claim7.holds Tryz.pinned (.plain (OpenSpec.upto settwoSpoiltSpec)) settwoSpoiltUptoCard
end Rows
end Go.Proofs.YthkopnobekohcaaGreatDoor
