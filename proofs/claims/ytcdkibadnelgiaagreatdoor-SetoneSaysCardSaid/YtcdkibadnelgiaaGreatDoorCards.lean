/-
  DERIVED. GIVEN WITH THE SEED: THE CARDS: each row of YtcdkibadnelgiaaGreatDoorRows.lean that lists a variable, with what it lists TIED to the program's text (the seventh form; the later family's looks); each row that meets fmt, with fmt's text TOLD by the authors' own Lean function (tested against real Go, not proved from fmt's source: count such statements apart). THE CARD IS WHAT COUNTS. Prove the row's statement (the work); the ties are given (YtcdkibadnelgiaaGreatDoorTie.lean); close each card by the builder's one call (the guide's Derived/Test/ToyasCard.lean, 'card_holds'). Laid BY PROGRAM, IN A SANDBOX (cutbox-door.mjs). By AI agents, Wed Nov 11 2026. No macro, syntax, notation, axiom, sorry.
-/
import Derived.Test.YtcdkibadnelgiaaGreatDoorRows
import GoSem.ClaimSeven
namespace Go.Proofs.YtcdkibadnelgiaaGreatDoor
namespace Rows

/-- THE TIED CARD OF 'stoploglaw23.SetoneSays'. -/
def setoneSaysCard : Claim7 := { stood := { row := setoneSaysRow, standIns := [], harness := (true, "b649cb00a6f0ef3343a36dcfac5ad607af0ecea5c185235a14dd690e8cad07cf"), looks := false }, kinds := [], alts := [], laidByText := true, laidKinds := [.data, .data, .data], laidTests := true, laidLooks := .later }
def SetoneSaysCardSaid : Prop := Claim7.holds Tryz.pinned (.plain (OpenSpec.ofChange setoneSaysSpec)) setoneSaysCard

/-- THE SECOND FORM's CARD OF 'stoploglaw23.SetoneSays'. -/
def setoneSaysUptoCard : Claim7 := { stood := { row := setoneSaysUptoRow, standIns := [], harness := (true, "b649cb00a6f0ef3343a36dcfac5ad607af0ecea5c185235a14dd690e8cad07cf"), looks := false }, kinds := [], alts := [], laidByText := true, laidKinds := [.data, .data, .data], laidTests := true, laidLooks := .later }
def SetoneSaysUptoCardSaid : Prop := Claim7.holds Tryz.pinned (.plain (OpenSpec.upto setoneSaysSpec)) setoneSaysUptoCard
end Rows
end Go.Proofs.YtcdkibadnelgiaaGreatDoor
