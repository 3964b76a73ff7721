/-
  DERIVED. GIVEN WITH THE SEED: THE CARDS: each row of YtbpofhlnnldceaaDoorRows.lean that lists a variable, with what it lists TIED to the program's text (the seventh form; the later family's looks); each row that meets fmt, with fmt's text TOLD by the authors' own Lean function (tested against real Go, not proved from fmt's source: count such statements apart). THE CARD IS WHAT COUNTS. Prove the row's statement (the work); the ties are given (YtbpofhlnnldceaaDoorTie.lean); close each card by the builder's one call (the guide's Derived/Test/ToyasCard.lean, 'card_holds'). Laid BY PROGRAM, IN A SANDBOX (cutbox-door.mjs). By AI agents, Wed Nov 11 2026. No macro, syntax, notation, axiom, sorry.
-/
import Derived.Test.YtbpofhlnnldceaaDoorRows
import GoSem.ClaimSeven
namespace Go.Proofs.YtbpofhlnnldceaaDoor
namespace Rows

/-- THE TIED CARD OF 'stoploglaw14.RenderSays'. -/
def renderSaysCard : Claim7 := { stood := { row := renderSaysRow, standIns := [], harness := (true, "05c2d8bb90db19cf9b43670ce89fd7e1ee6a6ff0a53c26ba9023ec19617fb439"), looks := false }, kinds := [], alts := [], laidByText := true, laidKinds := [.data, .data, .data, .data, .pinned], laidTests := true, laidLooks := .later }
def RenderSaysCardSaid : Prop := Claim7.holds Tryd.pinned (.plain (OpenSpec.ofChange renderSaysSpec)) renderSaysCard

/-- THE TIED CARD OF 'stoploglaw14.RenderUnlike'. -/
def renderUnlikeCard : Claim7 := { stood := { row := renderUnlikeRow, standIns := [], harness := (true, "05c2d8bb90db19cf9b43670ce89fd7e1ee6a6ff0a53c26ba9023ec19617fb439"), looks := false }, kinds := [], alts := [], laidByText := true, laidKinds := [.data, .data, .data, .data, .pinned], laidTests := true, laidLooks := .later }
def RenderUnlikeCardSaid : Prop := Claim7.holds Tryd.pinned (.plain (OpenSpec.ofChange renderUnlikeSpec)) renderUnlikeCard

/-- THE SECOND FORM's CARD OF 'stoploglaw14.RenderSays'. -/
def renderSaysUptoCard : Claim7 := { stood := { row := renderSaysUptoRow, standIns := [], harness := (true, "05c2d8bb90db19cf9b43670ce89fd7e1ee6a6ff0a53c26ba9023ec19617fb439"), looks := false }, kinds := [], alts := [], laidByText := true, laidKinds := [.data, .data, .data, .data, .pinned], laidTests := true, laidLooks := .later }
def RenderSaysUptoCardSaid : Prop := Claim7.holds Tryd.pinned (.plain (OpenSpec.upto renderSaysSpec)) renderSaysUptoCard

/-- THE SECOND FORM's CARD OF 'stoploglaw14.RenderUnlike'. -/
def renderUnlikeUptoCard : Claim7 := { stood := { row := renderUnlikeUptoRow, standIns := [], harness := (true, "05c2d8bb90db19cf9b43670ce89fd7e1ee6a6ff0a53c26ba9023ec19617fb439"), looks := false }, kinds := [], alts := [], laidByText := true, laidKinds := [.data, .data, .data, .data, .pinned], laidTests := true, laidLooks := .later }
def RenderUnlikeUptoCardSaid : Prop := Claim7.holds Tryd.pinned (.plain (OpenSpec.upto renderUnlikeSpec)) renderUnlikeUptoCard
end Rows
end Go.Proofs.YtbpofhlnnldceaaDoor
