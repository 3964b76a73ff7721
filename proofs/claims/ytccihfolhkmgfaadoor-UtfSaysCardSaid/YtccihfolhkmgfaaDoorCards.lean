/-
  DERIVED. GIVEN WITH THE SEED: THE CARDS: each row of YtccihfolhkmgfaaDoorRows.lean that lists a variable, with what it lists TIED to the program's text (the seventh form; the later family's looks); each row that meets fmt, with fmt's text TOLD by the authors' own Lean function (tested against real Go, not proved from fmt's source: count such statements apart). THE CARD IS WHAT COUNTS. Prove the row's statement (the work); the ties are given (YtccihfolhkmgfaaDoorTie.lean); close each card by the builder's one call (the guide's Derived/Test/ToyasCard.lean, 'card_holds'). Laid BY PROGRAM, IN A SANDBOX (cutbox-door.mjs). By AI agents, Wed Nov 11 2026. No macro, syntax, notation, axiom, sorry.
-/
import Derived.Test.YtccihfolhkmgfaaDoorRows
import GoSem.ClaimSeven
namespace Go.Proofs.YtccihfolhkmgfaaDoor
namespace Rows

/-- THE TIED CARD OF 'stoploglaw05.UtfSays'. -/
def utfSaysCard : Claim7 := { stood := { row := utfSaysRow, standIns := [], harness := (true, "c90e485c7511e1ed6e316c7b34867fea0daee4dc8c9cee3e66867dd8e0c285f0"), looks := false }, kinds := [], alts := [], laidByText := true, laidKinds := [.data, .pinned], laidTests := true, laidLooks := .later }
def UtfSaysCardSaid : Prop := Claim7.holds Tryd.pinned (.plain (OpenSpec.ofChange utfSaysSpec)) utfSaysCard

/-- THE TIED CARD OF 'stoploglaw05.UtfBack'. -/
def utfBackCard : Claim7 := { stood := { row := utfBackRow, standIns := [], harness := (true, "c90e485c7511e1ed6e316c7b34867fea0daee4dc8c9cee3e66867dd8e0c285f0"), looks := false }, kinds := [], alts := [], laidByText := true, laidKinds := [.data, .pinned], laidTests := true, laidLooks := .later }
def UtfBackCardSaid : Prop := Claim7.holds Tryd.pinned (.plain (OpenSpec.ofChange utfBackSpec)) utfBackCard

/-- THE TIED CARD OF 'stoploglaw05.UtfGoes'. -/
def utfGoesCard : Claim7 := { stood := { row := utfGoesRow, standIns := [], harness := (true, "c90e485c7511e1ed6e316c7b34867fea0daee4dc8c9cee3e66867dd8e0c285f0"), looks := false }, kinds := [], alts := [], laidByText := true, laidKinds := [.data, .pinned], laidTests := true, laidLooks := .later }
def UtfGoesCardSaid : Prop := Claim7.holds Tryd.pinned (.plain (OpenSpec.ofChange utfGoesSpec)) utfGoesCard

/-- THE SECOND FORM's CARD OF 'stoploglaw05.UtfSays'. -/
def utfSaysUptoCard : Claim7 := { stood := { row := utfSaysUptoRow, standIns := [], harness := (true, "c90e485c7511e1ed6e316c7b34867fea0daee4dc8c9cee3e66867dd8e0c285f0"), looks := false }, kinds := [], alts := [], laidByText := true, laidKinds := [.data, .pinned], laidTests := true, laidLooks := .later }
def UtfSaysUptoCardSaid : Prop := Claim7.holds Tryd.pinned (.plain (OpenSpec.upto utfSaysSpec)) utfSaysUptoCard

/-- THE SECOND FORM's CARD OF 'stoploglaw05.UtfBack'. -/
def utfBackUptoCard : Claim7 := { stood := { row := utfBackUptoRow, standIns := [], harness := (true, "c90e485c7511e1ed6e316c7b34867fea0daee4dc8c9cee3e66867dd8e0c285f0"), looks := false }, kinds := [], alts := [], laidByText := true, laidKinds := [.data, .pinned], laidTests := true, laidLooks := .later }
def UtfBackUptoCardSaid : Prop := Claim7.holds Tryd.pinned (.plain (OpenSpec.upto utfBackSpec)) utfBackUptoCard

/-- THE SECOND FORM's CARD OF 'stoploglaw05.UtfGoes'. -/
def utfGoesUptoCard : Claim7 := { stood := { row := utfGoesUptoRow, standIns := [], harness := (true, "c90e485c7511e1ed6e316c7b34867fea0daee4dc8c9cee3e66867dd8e0c285f0"), looks := false }, kinds := [], alts := [], laidByText := true, laidKinds := [.data, .pinned], laidTests := true, laidLooks := .later }
def UtfGoesUptoCardSaid : Prop := Claim7.holds Tryd.pinned (.plain (OpenSpec.upto utfGoesSpec)) utfGoesUptoCard
end Rows
end Go.Proofs.YtccihfolhkmgfaaDoor
