/-
  DERIVED. GIVEN WITH THE SEED: THE CARDS: each row of YtfefbfohenmajaaDoorRows.lean that lists a variable, with what it lists TIED to the program's text (the seventh form; the later family's looks); each row that meets fmt, with fmt's text TOLD by the authors' own Lean function (tested against real Go, not proved from fmt's source: count such statements apart). THE CARD IS WHAT COUNTS. Prove the row's statement (the work); the ties are given (YtfefbfohenmajaaDoorTie.lean); close each card by the builder's one call (the guide's Derived/Test/ToyasCard.lean, 'card_holds'). Laid BY PROGRAM, IN A SANDBOX (cutbox-door.mjs). By AI agents, Wed Nov 11 2026. No macro, syntax, notation, axiom, sorry.
-/
import Derived.Test.YtfefbfohenmajaaDoorRows
import GoSem.ClaimSeven
namespace Go.Proofs.YtfefbfohenmajaaDoor
namespace Rows

/-- THE TIED CARD OF 'stoploglaw15.PointerSays'. -/
def pointerSaysCard : Claim7 := { stood := { row := pointerSaysRow, standIns := [], harness := (true, "6613433c5cd91df1964f5e306f5c8ceb852799d1d193c5b7d43d8787470960af"), looks := true }, kinds := [], alts := [], laidByText := true, laidKinds := [.data, .data, .data, .data, .sentinel, .sentinel, .pinned], laidTests := true, laidLooks := .later }
def PointerSaysCardSaid : Prop := Claim7.holds Tryd.pinned (.plain (OpenSpec.ofChange pointerSaysSpec)) pointerSaysCard

/-- THE TIED CARD OF 'stoploglaw15.PointerBack'. -/
def pointerBackCard : Claim7 := { stood := { row := pointerBackRow, standIns := [], harness := (true, "6613433c5cd91df1964f5e306f5c8ceb852799d1d193c5b7d43d8787470960af"), looks := true }, kinds := [], alts := [], laidByText := true, laidKinds := [.data, .data, .data, .data, .sentinel, .sentinel, .pinned], laidTests := true, laidLooks := .later }
def PointerBackCardSaid : Prop := Claim7.holds Tryd.pinned (.plain (OpenSpec.ofChange pointerBackSpec)) pointerBackCard

/-- THE TIED CARD OF 'stoploglaw15.PointerGoes'. -/
def pointerGoesCard : Claim7 := { stood := { row := pointerGoesRow, standIns := [], harness := (true, "6613433c5cd91df1964f5e306f5c8ceb852799d1d193c5b7d43d8787470960af"), looks := true }, kinds := [], alts := [], laidByText := true, laidKinds := [.data, .data, .data, .data, .sentinel, .sentinel, .pinned], laidTests := true, laidLooks := .later }
def PointerGoesCardSaid : Prop := Claim7.holds Tryd.pinned (.plain (OpenSpec.ofChange pointerGoesSpec)) pointerGoesCard

/-- THE SECOND FORM's CARD OF 'stoploglaw15.PointerSays'. -/
def pointerSaysUptoCard : Claim7 := { stood := { row := pointerSaysUptoRow, standIns := [], harness := (true, "6613433c5cd91df1964f5e306f5c8ceb852799d1d193c5b7d43d8787470960af"), looks := true }, kinds := [], alts := [], laidByText := true, laidKinds := [.data, .data, .data, .data, .sentinel, .sentinel, .pinned], laidTests := true, laidLooks := .later }
def PointerSaysUptoCardSaid : Prop := Claim7.holds Tryd.pinned (.plain (OpenSpec.upto pointerSaysSpec)) pointerSaysUptoCard

/-- THE SECOND FORM's CARD OF 'stoploglaw15.PointerBack'. -/
def pointerBackUptoCard : Claim7 := { stood := { row := pointerBackUptoRow, standIns := [], harness := (true, "6613433c5cd91df1964f5e306f5c8ceb852799d1d193c5b7d43d8787470960af"), looks := true }, kinds := [], alts := [], laidByText := true, laidKinds := [.data, .data, .data, .data, .sentinel, .sentinel, .pinned], laidTests := true, laidLooks := .later }
def PointerBackUptoCardSaid : Prop := Claim7.holds Tryd.pinned (.plain (OpenSpec.upto pointerBackSpec)) pointerBackUptoCard

/-- THE SECOND FORM's CARD OF 'stoploglaw15.PointerGoes'. -/
def pointerGoesUptoCard : Claim7 := { stood := { row := pointerGoesUptoRow, standIns := [], harness := (true, "6613433c5cd91df1964f5e306f5c8ceb852799d1d193c5b7d43d8787470960af"), looks := true }, kinds := [], alts := [], laidByText := true, laidKinds := [.data, .data, .data, .data, .sentinel, .sentinel, .pinned], laidTests := true, laidLooks := .later }
def PointerGoesUptoCardSaid : Prop := Claim7.holds Tryd.pinned (.plain (OpenSpec.upto pointerGoesSpec)) pointerGoesUptoCard
end Rows
end Go.Proofs.YtfefbfohenmajaaDoor
