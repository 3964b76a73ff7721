/-
  DERIVED. GIVEN WITH THE SEED: THE CARDS: each row of YtggahjhjapnfeaaDoorRows.lean that lists a variable, with what it lists TIED to the program's text (the seventh form; the later family's looks); each row that meets fmt, with fmt's text TOLD by the authors' own Lean function (tested against real Go, not proved from fmt's source: count such statements apart). THE CARD IS WHAT COUNTS. Prove the row's statement (the work); the ties are given (YtggahjhjapnfeaaDoorTie.lean); close each card by the builder's one call (the guide's Derived/Test/ToyasCard.lean, 'card_holds'). Laid BY PROGRAM, IN A SANDBOX (cutbox-door.mjs). By AI agents, Wed Nov 11 2026. No macro, syntax, notation, axiom, sorry.
-/
import Derived.Test.YtggahjhjapnfeaaDoorRows
import GoSem.ClaimSeven
namespace Go.Proofs.YtggahjhjapnfeaaDoor
namespace Rows

/-- THE TIED CARD OF 'stoploglaw12.GrammarSays'. -/
def grammarSaysCard : Claim7 := { stood := { row := grammarSaysRow, standIns := [], harness := (true, "6735bb7fa3b63851c4dedde266160d0f3338c9996b4fc0352355a0d96587ef5d"), looks := true }, kinds := [], alts := [], laidByText := true, laidKinds := [.data, .data, .data, .data, .sentinel, .sentinel, .pinned], laidTests := true, laidLooks := .later }
def GrammarSaysCardSaid : Prop := Claim7.holds Tryd.pinned (.plain (OpenSpec.ofChange grammarSaysSpec)) grammarSaysCard

/-- THE TIED CARD OF 'stoploglaw12.GrammarWraps'. -/
def grammarWrapsCard : Claim7 := { stood := { row := grammarWrapsRow, standIns := [], harness := (true, "6735bb7fa3b63851c4dedde266160d0f3338c9996b4fc0352355a0d96587ef5d"), looks := true }, kinds := [], alts := [], laidByText := true, laidKinds := [.data, .data, .data, .data, .sentinel, .sentinel, .pinned], laidTests := true, laidLooks := .later }
def GrammarWrapsCardSaid : Prop := Claim7.holds Tryd.pinned (.plain (OpenSpec.ofChange grammarWrapsSpec)) grammarWrapsCard

/-- THE TIED CARD OF 'stoploglaw12.GrammarDeep'. -/
def grammarDeepCard : Claim7 := { stood := { row := grammarDeepRow, standIns := [], harness := (true, "6735bb7fa3b63851c4dedde266160d0f3338c9996b4fc0352355a0d96587ef5d"), looks := true }, kinds := [], alts := [], laidByText := true, laidKinds := [.data, .data, .data, .data, .sentinel, .sentinel, .pinned], laidTests := true, laidLooks := .later }
def GrammarDeepCardSaid : Prop := Claim7.holds Tryd.pinned (.plain (OpenSpec.ofChange grammarDeepSpec)) grammarDeepCard

/-- THE SECOND FORM's CARD OF 'stoploglaw12.GrammarSays'. -/
def grammarSaysUptoCard : Claim7 := { stood := { row := grammarSaysUptoRow, standIns := [], harness := (true, "6735bb7fa3b63851c4dedde266160d0f3338c9996b4fc0352355a0d96587ef5d"), looks := true }, kinds := [], alts := [], laidByText := true, laidKinds := [.data, .data, .data, .data, .sentinel, .sentinel, .pinned], laidTests := true, laidLooks := .later }
def GrammarSaysUptoCardSaid : Prop := Claim7.holds Tryd.pinned (.plain (OpenSpec.upto grammarSaysSpec)) grammarSaysUptoCard

/-- THE SECOND FORM's CARD OF 'stoploglaw12.GrammarWraps'. -/
def grammarWrapsUptoCard : Claim7 := { stood := { row := grammarWrapsUptoRow, standIns := [], harness := (true, "6735bb7fa3b63851c4dedde266160d0f3338c9996b4fc0352355a0d96587ef5d"), looks := true }, kinds := [], alts := [], laidByText := true, laidKinds := [.data, .data, .data, .data, .sentinel, .sentinel, .pinned], laidTests := true, laidLooks := .later }
def GrammarWrapsUptoCardSaid : Prop := Claim7.holds Tryd.pinned (.plain (OpenSpec.upto grammarWrapsSpec)) grammarWrapsUptoCard

/-- THE SECOND FORM's CARD OF 'stoploglaw12.GrammarDeep'. -/
def grammarDeepUptoCard : Claim7 := { stood := { row := grammarDeepUptoRow, standIns := [], harness := (true, "6735bb7fa3b63851c4dedde266160d0f3338c9996b4fc0352355a0d96587ef5d"), looks := true }, kinds := [], alts := [], laidByText := true, laidKinds := [.data, .data, .data, .data, .sentinel, .sentinel, .pinned], laidTests := true, laidLooks := .later }
def GrammarDeepUptoCardSaid : Prop := Claim7.holds Tryd.pinned (.plain (OpenSpec.upto grammarDeepSpec)) grammarDeepUptoCard
end Rows
end Go.Proofs.YtggahjhjapnfeaaDoor
