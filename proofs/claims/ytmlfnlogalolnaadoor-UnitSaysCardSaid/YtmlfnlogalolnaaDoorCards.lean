/-
  DERIVED. GIVEN WITH THE SEED: THE CARDS: each row of YtmlfnlogalolnaaDoorRows.lean that lists a variable, with what it lists TIED to the program's text (the seventh form; the later family's looks); each row that meets fmt, with fmt's text TOLD by the authors' own Lean function (tested against real Go, not proved from fmt's source: count such statements apart). THE CARD IS WHAT COUNTS. Prove the row's statement (the work); the ties are given (YtmlfnlogalolnaaDoorTie.lean); close each card by the builder's one call (the guide's Derived/Test/ToyasCard.lean, 'card_holds'). Laid BY PROGRAM, IN A SANDBOX (cutbox-door.mjs). By AI agents, Wed Nov 11 2026. No macro, syntax, notation, axiom, sorry.
-/
import Derived.Test.YtmlfnlogalolnaaDoorRows
import GoSem.ClaimSeven
namespace Go.Proofs.YtmlfnlogalolnaaDoor
namespace Rows

/-- THE TIED CARD OF 'stoploglaw20.UnitSays'. -/
def unitSaysCard : Claim7 := { stood := { row := unitSaysRow, standIns := [], harness := (true, "05ddce36c8dd3ffc876fd26a55a5542b9936fc7ec332f75871a6f17e95c7b762"), looks := false }, kinds := [], alts := [], laidByText := true, laidKinds := [.data], laidTests := true, laidLooks := .later }
def UnitSaysCardSaid : Prop := Claim7.holds Tryd.pinned (.plain (OpenSpec.ofChange unitSaysSpec)) unitSaysCard

/-- THE TIED CARD OF 'stoploglaw20.UnitBack'. -/
def unitBackCard : Claim7 := { stood := { row := unitBackRow, standIns := [], harness := (true, "05ddce36c8dd3ffc876fd26a55a5542b9936fc7ec332f75871a6f17e95c7b762"), looks := false }, kinds := [], alts := [], laidByText := true, laidKinds := [.data], laidTests := true, laidLooks := .later }
def UnitBackCardSaid : Prop := Claim7.holds Tryd.pinned (.plain (OpenSpec.ofChange unitBackSpec)) unitBackCard

/-- THE SECOND FORM's CARD OF 'stoploglaw20.UnitSays'. -/
def unitSaysUptoCard : Claim7 := { stood := { row := unitSaysUptoRow, standIns := [], harness := (true, "05ddce36c8dd3ffc876fd26a55a5542b9936fc7ec332f75871a6f17e95c7b762"), looks := false }, kinds := [], alts := [], laidByText := true, laidKinds := [.data], laidTests := true, laidLooks := .later }
def UnitSaysUptoCardSaid : Prop := Claim7.holds Tryd.pinned (.plain (OpenSpec.upto unitSaysSpec)) unitSaysUptoCard

/-- THE SECOND FORM's CARD OF 'stoploglaw20.UnitBack'. -/
def unitBackUptoCard : Claim7 := { stood := { row := unitBackUptoRow, standIns := [], harness := (true, "05ddce36c8dd3ffc876fd26a55a5542b9936fc7ec332f75871a6f17e95c7b762"), looks := false }, kinds := [], alts := [], laidByText := true, laidKinds := [.data], laidTests := true, laidLooks := .later }
def UnitBackUptoCardSaid : Prop := Claim7.holds Tryd.pinned (.plain (OpenSpec.upto unitBackSpec)) unitBackUptoCard
end Rows
end Go.Proofs.YtmlfnlogalolnaaDoor
