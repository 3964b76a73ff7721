/-
  DERIVED. GIVEN WITH THE SEED: THE CARDS: each row of YtehkiojohldlgaaGreatDoorRows.lean that lists a variable, with what it lists TIED to the program's text (the seventh form; the later family's looks); each row that meets fmt, with fmt's text TOLD by the authors' own Lean function (tested against real Go, not proved from fmt's source: count such statements apart). THE CARD IS WHAT COUNTS. Prove the row's statement (the work); the ties are given (YtehkiojohldlgaaGreatDoorTie.lean); close each card by the builder's one call (the guide's Derived/Test/ToyasCard.lean, 'card_holds'). Laid BY PROGRAM, IN A SANDBOX (cutbox-door.mjs). By AI agents, Wed Nov 11 2026. No macro, syntax, notation, axiom, sorry.
-/
import Derived.Test.YtehkiojohldlgaaGreatDoorRows
import GoSem.ClaimSeven
namespace Go.Proofs.YtehkiojohldlgaaGreatDoor
namespace Rows

/-- THE TIED CARD OF 'stoploglaw25.JsonthreeSays'. -/
def jsonthreeSaysCard : Claim7 := { stood := { row := jsonthreeSaysRow, standIns := [], harness := (true, "671e719aca07213f930c22a7721caf752a9b78643f08f164b7b32cde0fba1d28"), looks := false }, kinds := [], alts := [], laidByText := true, laidKinds := [.data, .data, .data, .data, .data, .pinned], laidTests := true, laidLooks := .later }
def JsonthreeSaysCardSaid : Prop := Claim7.holds Tryz.pinned (.plain (OpenSpec.ofChange jsonthreeSaysSpec)) jsonthreeSaysCard

/-- THE TIED CARD OF 'stoploglaw25.JsonthreeMembers'. -/
def jsonthreeMembersCard : Claim7 := { stood := { row := jsonthreeMembersRow, standIns := [], harness := (true, "671e719aca07213f930c22a7721caf752a9b78643f08f164b7b32cde0fba1d28"), looks := false }, kinds := [], alts := [], laidByText := true, laidKinds := [.data, .data, .data, .data, .data, .pinned], laidTests := true, laidLooks := .later }
def JsonthreeMembersCardSaid : Prop := Claim7.holds Tryz.pinned (.plain (OpenSpec.ofChange jsonthreeMembersSpec)) jsonthreeMembersCard

/-- THE TIED CARD OF 'stoploglaw25.JsonthreeBack'. -/
def jsonthreeBackCard : Claim7 := { stood := { row := jsonthreeBackRow, standIns := [], harness := (true, "671e719aca07213f930c22a7721caf752a9b78643f08f164b7b32cde0fba1d28"), looks := false }, kinds := [], alts := [], laidByText := true, laidKinds := [.data, .data, .data, .data, .data, .pinned], laidTests := true, laidLooks := .later }
def JsonthreeBackCardSaid : Prop := Claim7.holds Tryz.pinned (.plain (OpenSpec.ofChange jsonthreeBackSpec)) jsonthreeBackCard

/-- THE TIED CARD OF 'stoploglaw25.JsonthreeReads'. -/
def jsonthreeReadsCard : Claim7 := { stood := { row := jsonthreeReadsRow, standIns := [], harness := (true, "671e719aca07213f930c22a7721caf752a9b78643f08f164b7b32cde0fba1d28"), looks := false }, kinds := [], alts := [], laidByText := true, laidKinds := [.data, .data, .data, .data, .data, .pinned], laidTests := true, laidLooks := .later }
def JsonthreeReadsCardSaid : Prop := Claim7.holds Tryz.pinned (.plain (OpenSpec.ofChange jsonthreeReadsSpec)) jsonthreeReadsCard

/-- THE SECOND FORM's CARD OF 'stoploglaw25.JsonthreeSays'. -/
def jsonthreeSaysUptoCard : Claim7 := { stood := { row := jsonthreeSaysUptoRow, standIns := [], harness := (true, "671e719aca07213f930c22a7721caf752a9b78643f08f164b7b32cde0fba1d28"), looks := false }, kinds := [], alts := [], laidByText := true, laidKinds := [.data, .data, .data, .data, .data, .pinned], laidTests := true, laidLooks := .later }
def JsonthreeSaysUptoCardSaid : Prop := Claim7.holds Tryz.pinned (.plain (OpenSpec.upto jsonthreeSaysSpec)) jsonthreeSaysUptoCard

/-- THE SECOND FORM's CARD OF 'stoploglaw25.JsonthreeMembers'. -/
def jsonthreeMembersUptoCard : Claim7 := { stood := { row := jsonthreeMembersUptoRow, standIns := [], harness := (true, "671e719aca07213f930c22a7721caf752a9b78643f08f164b7b32cde0fba1d28"), looks := false }, kinds := [], alts := [], laidByText := true, laidKinds := [.data, .data, .data, .data, .data, .pinned], laidTests := true, laidLooks := .later }
def JsonthreeMembersUptoCardSaid : Prop := Claim7.holds Tryz.pinned (.plain (OpenSpec.upto jsonthreeMembersSpec)) jsonthreeMembersUptoCard

/-- THE SECOND FORM's CARD OF 'stoploglaw25.JsonthreeBack'. -/
def jsonthreeBackUptoCard : Claim7 := { stood := { row := jsonthreeBackUptoRow, standIns := [], harness := (true, "671e719aca07213f930c22a7721caf752a9b78643f08f164b7b32cde0fba1d28"), looks := false }, kinds := [], alts := [], laidByText := true, laidKinds := [.data, .data, .data, .data, .data, .pinned], laidTests := true, laidLooks := .later }
def JsonthreeBackUptoCardSaid : Prop := Claim7.holds Tryz.pinned (.plain (OpenSpec.upto jsonthreeBackSpec)) jsonthreeBackUptoCard

/-- THE SECOND FORM's CARD OF 'stoploglaw25.JsonthreeReads'. -/
def jsonthreeReadsUptoCard : Claim7 := { stood := { row := jsonthreeReadsUptoRow, standIns := [], harness := (true, "671e719aca07213f930c22a7721caf752a9b78643f08f164b7b32cde0fba1d28"), looks := false }, kinds := [], alts := [], laidByText := true, laidKinds := [.data, .data, .data, .data, .data, .pinned], laidTests := true, laidLooks := .later }
def JsonthreeReadsUptoCardSaid : Prop := Claim7.holds Tryz.pinned (.plain (OpenSpec.upto jsonthreeReadsSpec)) jsonthreeReadsUptoCard
end Rows
end Go.Proofs.YtehkiojohldlgaaGreatDoor
