/-
  DERIVED. GIVEN WITH THE SEED: THE CARDS: each row of YteinaclkpickaaaGreatDoorRows.lean that lists a variable, with what it lists TIED to the program's text (the seventh form; the later family's looks); each row that meets fmt, with fmt's text TOLD by the authors' own Lean function (tested against real Go, not proved from fmt's source: count such statements apart). THE CARD IS WHAT COUNTS. Prove the row's statement (the work); the ties are given (YteinaclkpickaaaGreatDoorTie.lean); close each card by the builder's one call (the guide's Derived/Test/ToyasCard.lean, 'card_holds'). Laid BY PROGRAM, IN A SANDBOX (cutbox-door.mjs). By AI agents, Wed Nov 11 2026. No macro, syntax, notation, axiom, sorry.
-/
import Derived.Test.YteinaclkpickaaaGreatDoorRows
import GoSem.ClaimSeven
namespace Go.Proofs.YteinaclkpickaaaGreatDoor
namespace Rows

/-- THE TIED CARD OF 'stoploglaw13.ParseSays'. -/
def parseSaysCard : Claim7 := { stood := { row := parseSaysRow, standIns := [], harness := (true, "b352b793f47cfcd1d9926b2e1ee567f1c2cc6bc991b890a345260f1205a47a94"), looks := true }, kinds := [], alts := [], laidByText := true, laidKinds := [.data, .data, .data, .data, .sentinel, .sentinel, .pinned], laidTests := true, laidLooks := .later }
def ParseSaysCardSaid : Prop := Claim7.holds Tryz.pinned (.plain (OpenSpec.ofChange parseSaysSpec)) parseSaysCard

/-- THE TIED CARD OF 'stoploglaw13.ParseGrammar'. -/
def parseGrammarCard : Claim7 := { stood := { row := parseGrammarRow, standIns := [], harness := (true, "b352b793f47cfcd1d9926b2e1ee567f1c2cc6bc991b890a345260f1205a47a94"), looks := true }, kinds := [], alts := [], laidByText := true, laidKinds := [.data, .data, .data, .data, .sentinel, .sentinel, .pinned], laidTests := true, laidLooks := .later }
def ParseGrammarCardSaid : Prop := Claim7.holds Tryz.pinned (.plain (OpenSpec.ofChange parseGrammarSpec)) parseGrammarCard

/-- THE SECOND FORM's CARD OF 'stoploglaw13.ParseSays'. -/
def parseSaysUptoCard : Claim7 := { stood := { row := parseSaysUptoRow, standIns := [], harness := (true, "b352b793f47cfcd1d9926b2e1ee567f1c2cc6bc991b890a345260f1205a47a94"), looks := true }, kinds := [], alts := [], laidByText := true, laidKinds := [.data, .data, .data, .data, .sentinel, .sentinel, .pinned], laidTests := true, laidLooks := .later }
def ParseSaysUptoCardSaid : Prop := Claim7.holds Tryz.pinned (.plain (OpenSpec.upto parseSaysSpec)) parseSaysUptoCard

/-- THE SECOND FORM's CARD OF 'stoploglaw13.ParseGrammar'. -/
def parseGrammarUptoCard : Claim7 := { stood := { row := parseGrammarUptoRow, standIns := [], harness := (true, "b352b793f47cfcd1d9926b2e1ee567f1c2cc6bc991b890a345260f1205a47a94"), looks := true }, kinds := [], alts := [], laidByText := true, laidKinds := [.data, .data, .data, .data, .sentinel, .sentinel, .pinned], laidTests := true, laidLooks := .later }
def ParseGrammarUptoCardSaid : Prop := Claim7.holds Tryz.pinned (.plain (OpenSpec.upto parseGrammarSpec)) parseGrammarUptoCard
end Rows
end Go.Proofs.YteinaclkpickaaaGreatDoor
