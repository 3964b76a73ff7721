/-
  DERIVED. GIVEN WITH THE SEED: THE CARDS: each row of YthnfbajdjkpbpaaDoorRows.lean that lists a variable, with what it lists TIED to the program's text (the seventh form; the later family's looks); each row that meets fmt, with fmt's text TOLD by the authors' own Lean function (tested against real Go, not proved from fmt's source: count such statements apart). THE CARD IS WHAT COUNTS. Prove the row's statement (the work); the ties are given (YthnfbajdjkpbpaaDoorTie.lean); close each card by the builder's one call (the guide's Derived/Test/ToyasCard.lean, 'card_holds'). Laid BY PROGRAM, IN A SANDBOX (cutbox-door.mjs). By AI agents, Wed Nov 11 2026. No macro, syntax, notation, axiom, sorry.
-/
import Derived.Test.YthnfbajdjkpbpaaDoorRows
import GoSem.ClaimSeven
namespace Go.Proofs.YthnfbajdjkpbpaaDoor
namespace Rows

/-- THE TIED CARD OF 'stoploglaw09.QuoteSays'. -/
def quoteSaysCard : Claim7 := { stood := { row := quoteSaysRow, standIns := [], harness := (true, "2a02203e94d3663fdd8d06356610142bd83f8030bff220f64fc16e549c7694b7"), looks := true }, kinds := [], alts := [], laidByText := true, laidKinds := [.data, .data, .data, .data, .sentinel, .sentinel, .pinned], laidTests := true, laidLooks := .later }
def QuoteSaysCardSaid : Prop := Claim7.holds Tryd.pinned (.plain (OpenSpec.ofChange quoteSaysSpec)) quoteSaysCard

/-- THE TIED CARD OF 'stoploglaw09.QuoteBack'. -/
def quoteBackCard : Claim7 := { stood := { row := quoteBackRow, standIns := [], harness := (true, "2a02203e94d3663fdd8d06356610142bd83f8030bff220f64fc16e549c7694b7"), looks := true }, kinds := [], alts := [], laidByText := true, laidKinds := [.data, .data, .data, .data, .sentinel, .sentinel, .pinned], laidTests := true, laidLooks := .later }
def QuoteBackCardSaid : Prop := Claim7.holds Tryd.pinned (.plain (OpenSpec.ofChange quoteBackSpec)) quoteBackCard

/-- THE TIED CARD OF 'stoploglaw09.QuoteTakes'. -/
def quoteTakesCard : Claim7 := { stood := { row := quoteTakesRow, standIns := [], harness := (true, "2a02203e94d3663fdd8d06356610142bd83f8030bff220f64fc16e549c7694b7"), looks := true }, kinds := [], alts := [], laidByText := true, laidKinds := [.data, .data, .data, .data, .sentinel, .sentinel, .pinned], laidTests := true, laidLooks := .later }
def QuoteTakesCardSaid : Prop := Claim7.holds Tryd.pinned (.plain (OpenSpec.ofChange quoteTakesSpec)) quoteTakesCard

/-- THE TIED CARD OF 'stoploglaw09.QuoteDigits'. -/
def quoteDigitsCard : Claim7 := { stood := { row := quoteDigitsRow, standIns := [], harness := (true, "2a02203e94d3663fdd8d06356610142bd83f8030bff220f64fc16e549c7694b7"), looks := true }, kinds := [], alts := [], laidByText := true, laidKinds := [.data, .data, .data, .data, .sentinel, .sentinel, .pinned], laidTests := true, laidLooks := .later }
def QuoteDigitsCardSaid : Prop := Claim7.holds Tryd.pinned (.plain (OpenSpec.ofChange quoteDigitsSpec)) quoteDigitsCard

/-- THE SECOND FORM's CARD OF 'stoploglaw09.QuoteSays'. -/
def quoteSaysUptoCard : Claim7 := { stood := { row := quoteSaysUptoRow, standIns := [], harness := (true, "2a02203e94d3663fdd8d06356610142bd83f8030bff220f64fc16e549c7694b7"), looks := true }, kinds := [], alts := [], laidByText := true, laidKinds := [.data, .data, .data, .data, .sentinel, .sentinel, .pinned], laidTests := true, laidLooks := .later }
def QuoteSaysUptoCardSaid : Prop := Claim7.holds Tryd.pinned (.plain (OpenSpec.upto quoteSaysSpec)) quoteSaysUptoCard

/-- THE SECOND FORM's CARD OF 'stoploglaw09.QuoteBack'. -/
def quoteBackUptoCard : Claim7 := { stood := { row := quoteBackUptoRow, standIns := [], harness := (true, "2a02203e94d3663fdd8d06356610142bd83f8030bff220f64fc16e549c7694b7"), looks := true }, kinds := [], alts := [], laidByText := true, laidKinds := [.data, .data, .data, .data, .sentinel, .sentinel, .pinned], laidTests := true, laidLooks := .later }
def QuoteBackUptoCardSaid : Prop := Claim7.holds Tryd.pinned (.plain (OpenSpec.upto quoteBackSpec)) quoteBackUptoCard

/-- THE SECOND FORM's CARD OF 'stoploglaw09.QuoteTakes'. -/
def quoteTakesUptoCard : Claim7 := { stood := { row := quoteTakesUptoRow, standIns := [], harness := (true, "2a02203e94d3663fdd8d06356610142bd83f8030bff220f64fc16e549c7694b7"), looks := true }, kinds := [], alts := [], laidByText := true, laidKinds := [.data, .data, .data, .data, .sentinel, .sentinel, .pinned], laidTests := true, laidLooks := .later }
def QuoteTakesUptoCardSaid : Prop := Claim7.holds Tryd.pinned (.plain (OpenSpec.upto quoteTakesSpec)) quoteTakesUptoCard

/-- THE SECOND FORM's CARD OF 'stoploglaw09.QuoteDigits'. -/
def quoteDigitsUptoCard : Claim7 := { stood := { row := quoteDigitsUptoRow, standIns := [], harness := (true, "2a02203e94d3663fdd8d06356610142bd83f8030bff220f64fc16e549c7694b7"), looks := true }, kinds := [], alts := [], laidByText := true, laidKinds := [.data, .data, .data, .data, .sentinel, .sentinel, .pinned], laidTests := true, laidLooks := .later }
def QuoteDigitsUptoCardSaid : Prop := Claim7.holds Tryd.pinned (.plain (OpenSpec.upto quoteDigitsSpec)) quoteDigitsUptoCard
end Rows
end Go.Proofs.YthnfbajdjkpbpaaDoor
