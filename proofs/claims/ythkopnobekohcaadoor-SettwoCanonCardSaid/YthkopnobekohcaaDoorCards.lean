/-
  DERIVED. GIVEN WITH THE SEED: THE CARDS: each row of YthkopnobekohcaaDoorRows.lean that lists a variable, with what it lists TIED to the program's text (the seventh form; the later family's looks); each row that meets fmt, with fmt's text TOLD by the authors' own Lean function (tested against real Go, not proved from fmt's source: count such statements apart). THE CARD IS WHAT COUNTS. Prove the row's statement (the work); the ties are given (YthkopnobekohcaaDoorTie.lean); close each card by the builder's one call (the guide's Derived/Test/ToyasCard.lean, 'card_holds'). Laid BY PROGRAM, IN A SANDBOX (cutbox-door.mjs). By AI agents, Wed Nov 11 2026. No macro, syntax, notation, axiom, sorry.
-/
import Derived.Test.YthkopnobekohcaaDoorRows
import GoSem.ClaimSeven
namespace Go.Proofs.YthkopnobekohcaaDoor
namespace Rows

/-- THE TIED CARD OF 'stoploglaw24.SettwoCanon'. -/
def settwoCanonCard : Claim7 := { stood := { row := settwoCanonRow, standIns := [], harness := (true, "dd3031cf9ec37a9983ff78b7b346fac98b656859cb03bf4c39f3e680ec92b812"), looks := false }, kinds := [], alts := [], laidByText := true, laidKinds := [.data, .data, .data, .data, .data, .data, .pinned], laidTests := true, laidLooks := .later }
def SettwoCanonCardSaid : Prop := Claim7.holds Tryd.pinned (.plain (OpenSpec.ofChange settwoCanonSpec)) settwoCanonCard

/-- THE SECOND FORM's CARD OF 'stoploglaw24.SettwoCanon'. -/
def settwoCanonUptoCard : Claim7 := { stood := { row := settwoCanonUptoRow, standIns := [], harness := (true, "dd3031cf9ec37a9983ff78b7b346fac98b656859cb03bf4c39f3e680ec92b812"), looks := false }, kinds := [], alts := [], laidByText := true, laidKinds := [.data, .data, .data, .data, .data, .data, .pinned], laidTests := true, laidLooks := .later }
def SettwoCanonUptoCardSaid : Prop := Claim7.holds Tryd.pinned (.plain (OpenSpec.upto settwoCanonSpec)) settwoCanonUptoCard
end Rows
end Go.Proofs.YthkopnobekohcaaDoor
