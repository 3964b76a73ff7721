/-
  DERIVED. GIVEN WITH THE SEED: THE CARDS: each row of YtoodiledcphclaaDoorRows.lean that lists a variable, with what it lists TIED to the program's text (the seventh form; the later family's looks); each row that meets fmt, with fmt's text TOLD by the authors' own Lean function (tested against real Go, not proved from fmt's source: count such statements apart). THE CARD IS WHAT COUNTS. Prove the row's statement (the work); the ties are given (YtoodiledcphclaaDoorTie.lean); close each card by the builder's one call (the guide's Derived/Test/ToyasCard.lean, 'card_holds'). Laid BY PROGRAM, IN A SANDBOX (cutbox-door.mjs). By AI agents, Wed Nov 11 2026. No macro, syntax, notation, axiom, sorry.
-/
import Derived.Test.YtoodiledcphclaaDoorRows
import GoSem.ClaimSeven
namespace Go.Proofs.YtoodiledcphclaaDoor
namespace Rows

/-- THE TIED CARD OF 'stoploglaw22.SetthreeCanon'. -/
def setthreeCanonCard : Claim7 := { stood := { row := setthreeCanonRow, standIns := [], harness := (true, "245e74d94855510084b06ca5b3ac9bd19c55755a8738a6d6198c2875ee1782dc"), looks := false }, kinds := [], alts := [], laidByText := true, laidKinds := [.data, .data, .data, .data, .data, .pinned], laidTests := true, laidLooks := .later }
def SetthreeCanonCardSaid : Prop := Claim7.holds Tryd.pinned (.plain (OpenSpec.ofChange setthreeCanonSpec)) setthreeCanonCard

/-- THE TIED CARD OF 'stoploglaw22.SetthreeSame'. -/
def setthreeSameCard : Claim7 := { stood := { row := setthreeSameRow, standIns := [], harness := (true, "245e74d94855510084b06ca5b3ac9bd19c55755a8738a6d6198c2875ee1782dc"), looks := false }, kinds := [], alts := [], laidByText := true, laidKinds := [.data, .data, .data, .data, .data, .pinned], laidTests := true, laidLooks := .later }
def SetthreeSameCardSaid : Prop := Claim7.holds Tryd.pinned (.plain (OpenSpec.ofChange setthreeSameSpec)) setthreeSameCard

/-- THE SECOND FORM's CARD OF 'stoploglaw22.SetthreeCanon'. -/
def setthreeCanonUptoCard : Claim7 := { stood := { row := setthreeCanonUptoRow, standIns := [], harness := (true, "245e74d94855510084b06ca5b3ac9bd19c55755a8738a6d6198c2875ee1782dc"), looks := false }, kinds := [], alts := [], laidByText := true, laidKinds := [.data, .data, .data, .data, .data, .pinned], laidTests := true, laidLooks := .later }
def SetthreeCanonUptoCardSaid : Prop := Claim7.holds Tryd.pinned (.plain (OpenSpec.upto setthreeCanonSpec)) setthreeCanonUptoCard

/-- THE SECOND FORM's CARD OF 'stoploglaw22.SetthreeSame'. -/
def setthreeSameUptoCard : Claim7 := { stood := { row := setthreeSameUptoRow, standIns := [], harness := (true, "245e74d94855510084b06ca5b3ac9bd19c55755a8738a6d6198c2875ee1782dc"), looks := false }, kinds := [], alts := [], laidByText := true, laidKinds := [.data, .data, .data, .data, .data, .pinned], laidTests := true, laidLooks := .later }
def SetthreeSameUptoCardSaid : Prop := Claim7.holds Tryd.pinned (.plain (OpenSpec.upto setthreeSameSpec)) setthreeSameUptoCard
end Rows
end Go.Proofs.YtoodiledcphclaaDoor
