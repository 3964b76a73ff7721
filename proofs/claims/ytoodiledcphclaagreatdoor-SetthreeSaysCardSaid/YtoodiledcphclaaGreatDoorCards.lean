/-
  DERIVED. GIVEN WITH THE SEED: THE CARDS: each row of YtoodiledcphclaaGreatDoorRows.lean that lists a variable, with what it lists TIED to the program's text (the seventh form; the later family's looks); each row that meets fmt, with fmt's text TOLD by the authors' own Lean function (tested against real Go, not proved from fmt's source: count such statements apart). THE CARD IS WHAT COUNTS. Prove the row's statement (the work); the ties are given (YtoodiledcphclaaGreatDoorTie.lean); close each card by the builder's one call (the guide's Derived/Test/ToyasCard.lean, 'card_holds'). Laid BY PROGRAM, IN A SANDBOX (cutbox-door.mjs). By AI agents, Wed Nov 11 2026. No macro, syntax, notation, axiom, sorry.
-/
import Derived.Test.YtoodiledcphclaaGreatDoorRows
import GoSem.ClaimSeven
namespace Go.Proofs.YtoodiledcphclaaGreatDoor
namespace Rows

/-- THE TIED CARD OF 'stoploglaw22.SetthreeSays'. -/
def setthreeSaysCard : Claim7 := { stood := { row := setthreeSaysRow, standIns := [], harness := (true, "6f097fa02dd1c3a920e3f376cc3b22caaea18bbf4a57508c3bc3c9f4b67103b7"), looks := false }, kinds := [], alts := [], laidByText := true, laidKinds := [.data, .data, .data, .data, .data, .pinned], laidTests := true, laidLooks := .later }
def SetthreeSaysCardSaid : Prop := Claim7.holds Tryz.pinned (.plain (OpenSpec.ofChange setthreeSaysSpec)) setthreeSaysCard

/-- THE SECOND FORM's CARD OF 'stoploglaw22.SetthreeSays'. -/
def setthreeSaysUptoCard : Claim7 := { stood := { row := setthreeSaysUptoRow, standIns := [], harness := (true, "6f097fa02dd1c3a920e3f376cc3b22caaea18bbf4a57508c3bc3c9f4b67103b7"), looks := false }, kinds := [], alts := [], laidByText := true, laidKinds := [.data, .data, .data, .data, .data, .pinned], laidTests := true, laidLooks := .later }
def SetthreeSaysUptoCardSaid : Prop := Claim7.holds Tryz.pinned (.plain (OpenSpec.upto setthreeSaysSpec)) setthreeSaysUptoCard
end Rows
end Go.Proofs.YtoodiledcphclaaGreatDoor
