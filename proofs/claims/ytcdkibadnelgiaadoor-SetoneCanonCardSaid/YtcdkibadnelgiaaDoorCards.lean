/-
  DERIVED. GIVEN WITH THE SEED: THE CARDS: each row of YtcdkibadnelgiaaDoorRows.lean that lists a variable, with what it lists TIED to the program's text (the seventh form; the later family's looks); each row that meets fmt, with fmt's text TOLD by the authors' own Lean function (tested against real Go, not proved from fmt's source: count such statements apart). THE CARD IS WHAT COUNTS. Prove the row's statement (the work); the ties are given (YtcdkibadnelgiaaDoorTie.lean); close each card by the builder's one call (the guide's Derived/Test/ToyasCard.lean, 'card_holds'). Laid BY PROGRAM, IN A SANDBOX (cutbox-door.mjs). By AI agents, Wed Nov 11 2026. No macro, syntax, notation, axiom, sorry.
-/
import Derived.Test.YtcdkibadnelgiaaDoorRows
import GoSem.ClaimSeven
namespace Go.Proofs.YtcdkibadnelgiaaDoor
namespace Rows

/-- THE TIED CARD OF 'stoploglaw23.SetoneCanon'. -/
def setoneCanonCard : Claim7 := { stood := { row := setoneCanonRow, standIns := [], harness := (true, "2809066b50445192b7471c74ca29d5a2b4c7e05043a1d4bba427e26441229622"), looks := false }, kinds := [], alts := [], laidByText := true, laidKinds := [.data, .data, .data], laidTests := true, laidLooks := .later }
def SetoneCanonCardSaid : Prop := Claim7.holds Tryd.pinned (.plain (OpenSpec.ofChange setoneCanonSpec)) setoneCanonCard

/-- THE TIED CARD OF 'stoploglaw23.SetoneEdges'. -/
def setoneEdgesCard : Claim7 := { stood := { row := setoneEdgesRow, standIns := [], harness := (true, "2809066b50445192b7471c74ca29d5a2b4c7e05043a1d4bba427e26441229622"), looks := false }, kinds := [], alts := [], laidByText := true, laidKinds := [.data, .data, .data], laidTests := true, laidLooks := .later }
def SetoneEdgesCardSaid : Prop := Claim7.holds Tryd.pinned (.plain (OpenSpec.ofChange setoneEdgesSpec)) setoneEdgesCard

/-- THE SECOND FORM's CARD OF 'stoploglaw23.SetoneCanon'. -/
def setoneCanonUptoCard : Claim7 := { stood := { row := setoneCanonUptoRow, standIns := [], harness := (true, "2809066b50445192b7471c74ca29d5a2b4c7e05043a1d4bba427e26441229622"), looks := false }, kinds := [], alts := [], laidByText := true, laidKinds := [.data, .data, .data], laidTests := true, laidLooks := .later }
def SetoneCanonUptoCardSaid : Prop := Claim7.holds Tryd.pinned (.plain (OpenSpec.upto setoneCanonSpec)) setoneCanonUptoCard

/-- THE SECOND FORM's CARD OF 'stoploglaw23.SetoneEdges'. -/
def setoneEdgesUptoCard : Claim7 := { stood := { row := setoneEdgesUptoRow, standIns := [], harness := (true, "2809066b50445192b7471c74ca29d5a2b4c7e05043a1d4bba427e26441229622"), looks := false }, kinds := [], alts := [], laidByText := true, laidKinds := [.data, .data, .data], laidTests := true, laidLooks := .later }
def SetoneEdgesUptoCardSaid : Prop := Claim7.holds Tryd.pinned (.plain (OpenSpec.upto setoneEdgesSpec)) setoneEdgesUptoCard
end Rows
end Go.Proofs.YtcdkibadnelgiaaDoor
