/-
  DERIVED. GIVEN WITH THE SEED: THE CARDS: each row of YtaiafhepeleefaaDoorRows.lean that lists a variable, with what it lists TIED to the program's text (the seventh form; the later family's looks); each row that meets fmt, with fmt's text TOLD by the authors' own Lean function (tested against real Go, not proved from fmt's source: count such statements apart). THE CARD IS WHAT COUNTS. Prove the row's statement (the work); the ties are given (YtaiafhepeleefaaDoorTie.lean); close each card by the builder's one call (the guide's Derived/Test/ToyasCard.lean, 'card_holds'). Laid BY PROGRAM, IN A SANDBOX (cutbox-door.mjs). By AI agents, Wed Nov 11 2026. No macro, syntax, notation, axiom, sorry.
-/
import Derived.Test.YtaiafhepeleefaaDoorRows
import GoSem.ClaimSeven
namespace Go.Proofs.YtaiafhepeleefaaDoor
namespace Rows

/-- THE TIED CARD OF 'stoploglaw21.RuleSays'. -/
def ruleSaysCard : Claim7 := { stood := { row := ruleSaysRow, standIns := [], harness := (true, "4f4404f2bd4ea1318e6a6bc473b279819a5884b2931946b94bfa77f544c4ba32"), looks := false }, kinds := [], alts := [], laidByText := true, laidKinds := [.data, .data, .pinned], laidTests := true, laidLooks := .later }
def RuleSaysCardSaid : Prop := Claim7.holds Tryd.pinned (.plain (OpenSpec.ofChange ruleSaysSpec)) ruleSaysCard

/-- THE TIED CARD OF 'stoploglaw21.RuleCanon'. -/
def ruleCanonCard : Claim7 := { stood := { row := ruleCanonRow, standIns := [], harness := (true, "4f4404f2bd4ea1318e6a6bc473b279819a5884b2931946b94bfa77f544c4ba32"), looks := false }, kinds := [], alts := [], laidByText := true, laidKinds := [.data, .data, .pinned], laidTests := true, laidLooks := .later }
def RuleCanonCardSaid : Prop := Claim7.holds Tryd.pinned (.plain (OpenSpec.ofChange ruleCanonSpec)) ruleCanonCard

/-- THE TIED CARD OF 'stoploglaw21.RuleSpoilt'. -/
def ruleSpoiltCard : Claim7 := { stood := { row := ruleSpoiltRow, standIns := [], harness := (true, "4f4404f2bd4ea1318e6a6bc473b279819a5884b2931946b94bfa77f544c4ba32"), looks := false }, kinds := [], alts := [], laidByText := true, laidKinds := [.data, .data, .pinned], laidTests := true, laidLooks := .later }
def RuleSpoiltCardSaid : Prop := Claim7.holds Tryd.pinned (.plain (OpenSpec.ofChange ruleSpoiltSpec)) ruleSpoiltCard

/-- THE SECOND FORM's CARD OF 'stoploglaw21.RuleSays'. -/
def ruleSaysUptoCard : Claim7 := { stood := { row := ruleSaysUptoRow, standIns := [], harness := (true, "4f4404f2bd4ea1318e6a6bc473b279819a5884b2931946b94bfa77f544c4ba32"), looks := false }, kinds := [], alts := [], laidByText := true, laidKinds := [.data, .data, .pinned], laidTests := true, laidLooks := .later }
def RuleSaysUptoCardSaid : Prop := Claim7.holds Tryd.pinned (.plain (OpenSpec.upto ruleSaysSpec)) ruleSaysUptoCard

/-- THE SECOND FORM's CARD OF 'stoploglaw21.RuleCanon'. -/
def ruleCanonUptoCard : Claim7 := { stood := { row := ruleCanonUptoRow, standIns := [], harness := (true, "4f4404f2bd4ea1318e6a6bc473b279819a5884b2931946b94bfa77f544c4ba32"), looks := false }, kinds := [], alts := [], laidByText := true, laidKinds := [.data, .data, .pinned], laidTests := true, laidLooks := .later }
def RuleCanonUptoCardSaid : Prop := Claim7.holds Tryd.pinned (.plain (OpenSpec.upto ruleCanonSpec)) ruleCanonUptoCard

/-- THE SECOND FORM's CARD OF 'stoploglaw21.RuleSpoilt'. -/
def ruleSpoiltUptoCard : Claim7 := { stood := { row := ruleSpoiltUptoRow, standIns := [], harness := (true, "4f4404f2bd4ea1318e6a6bc473b279819a5884b2931946b94bfa77f544c4ba32"), looks := false }, kinds := [], alts := [], laidByText := true, laidKinds := [.data, .data, .pinned], laidTests := true, laidLooks := .later }
def RuleSpoiltUptoCardSaid : Prop := Claim7.holds Tryd.pinned (.plain (OpenSpec.upto ruleSpoiltSpec)) ruleSpoiltUptoCard
end Rows
end Go.Proofs.YtaiafhepeleefaaDoor
