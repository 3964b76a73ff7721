/-
  No cell of these rows narrows 'for every input' (looked for: loops, veiled, ifaces, maps, wideKeys, modest, calm, conditions, laid).
  DERIVED. THE GIVEN ROWS OF THIS SEAT. 3 by the template 'for every input the law returns true; each argument reads behind the call as it read before'; 0 by the template 'total and deterministic' (their statements: YtobedmdjkihfhaaTotals.lean).
  GIVEN WITH THE SEED: the statements are not yours to turn. If you find one false, say at which input.
  Laid BY PROGRAM, IN A SANDBOX (cutbox-rows.mjs): the forced cells as the released guide's own fill.sh prints them over the translation 31bfa3a9a6f1dbb2… (all of the seat's roots in one cut). By AI agents, Wed Nov 11 2026. No macro, syntax, notation, axiom, sorry.
-/
import Derived.Test.YtobedmdjkihfhaaChecked
import GoSem.Claim
import GoSem.ClaimJoined
import GoSem.ClaimMapViews
import Derived.JoinedTies
import Derived.KernelRfl
namespace Go.Proofs.Ytobedmdjkihfhaa
/- THE CELL 'sum', in the pinned program and in every row, IS THE sha256 OF THE DUMP (.gsa) THAT YtobedmdjkihfhaaProg.lean LOADS. Nothing in Lean hashes anything: it is a label: what it is worth is what the hold of that sum in a sandbox is worth. -/
noncomputable def Try.pinned : Pinned := { name := "ytobedmdjkihfhaa", sum := "31bfa3a9a6f1dbb2ba6029e832db60a097aad7c6aca79c95a5e94705eddd13eb", checked := Try.checked }
namespace Rows
def none {H : Type} : Left H := { results := [], args := [] }

/-- 'stoploglaw16.IdentSays': WHATEVER THE INPUT: true; the input reads as it did. -/
def identSaysSpec : ChangeSpec := { name := "identSays", fn := fun _ => fun
  | [d1, d2] => { results := [.lit (.bool true)], args := [d1, d2] }
  | _ => none }
def identSaysRow : OpenClaim := { program := "ytobedmdjkihfhaa", sum := "31bfa3a9a6f1dbb2ba6029e832db60a097aad7c6aca79c95a5e94705eddd13eb", func := "stoplog/stoploglaw16.IdentSays", spec := "identSays", apart := false }
def IdentSaysSaid : Prop := identSaysRow.holds Try.pinned (OpenSpec.ofChange identSaysSpec)

/-- ITS FALSE NEIGHBOUR: 'it returns false'. Refute it at one input. -/
def identSaysWrong : ChangeSpec := { name := "identSays", fn := fun _ => fun
  | [d1, d2] => { results := [.lit (.bool false)], args := [d1, d2] }
  | _ => none }
def IdentSaysWrongFalsely : Prop := identSaysRow.holds Try.pinned (OpenSpec.ofChange identSaysWrong)

/-- 'stoploglaw16.IdentRising': WHATEVER THE INPUT: true; the input reads as it did. -/
def identRisingSpec : ChangeSpec := { name := "identRising", fn := fun _ => fun
  | [d] => { results := [.lit (.bool true)], args := [d] }
  | _ => none }
def identRisingRow : OpenClaim := { program := "ytobedmdjkihfhaa", sum := "31bfa3a9a6f1dbb2ba6029e832db60a097aad7c6aca79c95a5e94705eddd13eb", func := "stoplog/stoploglaw16.IdentRising", spec := "identRising", apart := false }
def IdentRisingSaid : Prop := identRisingRow.holds Try.pinned (OpenSpec.ofChange identRisingSpec)

/-- ITS FALSE NEIGHBOUR: 'it returns false'. Refute it at one input. -/
def identRisingWrong : ChangeSpec := { name := "identRising", fn := fun _ => fun
  | [d] => { results := [.lit (.bool false)], args := [d] }
  | _ => none }
def IdentRisingWrongFalsely : Prop := identRisingRow.holds Try.pinned (OpenSpec.ofChange identRisingWrong)

/-- 'stoploglaw16.IdentGrows': WHATEVER THE INPUT: true; the input reads as it did. -/
def identGrowsSpec : ChangeSpec := { name := "identGrows", fn := fun _ => fun
  | [d1, d2] => { results := [.lit (.bool true)], args := [d1, d2] }
  | _ => none }
def identGrowsRow : OpenClaim := { program := "ytobedmdjkihfhaa", sum := "31bfa3a9a6f1dbb2ba6029e832db60a097aad7c6aca79c95a5e94705eddd13eb", func := "stoplog/stoploglaw16.IdentGrows", spec := "identGrows", apart := false }
def IdentGrowsSaid : Prop := identGrowsRow.holds Try.pinned (OpenSpec.ofChange identGrowsSpec)

/-- ITS FALSE NEIGHBOUR: 'it returns false'. Refute it at one input. -/
def identGrowsWrong : ChangeSpec := { name := "identGrows", fn := fun _ => fun
  | [d1, d2] => { results := [.lit (.bool false)], args := [d1, d2] }
  | _ => none }
def IdentGrowsWrongFalsely : Prop := identGrowsRow.holds Try.pinned (OpenSpec.ofChange identGrowsWrong)

/- THE SECOND FORM. 'bulk': how many values and letters a reading holds, each counted each time it is reached (what is shared counts as often as it is met; a slice's spare places count too). A statement '..UptoSaid' is the law's where the arguments, and the package variables that the reading takes, are together of bulk at most 1048576: NARROWER than '..Said'. Prove '..Said' where nothing that the law and all that it calls make is longer than what came in: it says more and counts as full. Else prove '..UptoSaid'. A law counts once. -/
mutual
def uptoBulk {H : Type} : DataW H → Nat
  | .lit (.string bytes) => bytes.length + 1
  | .lit _ => 1
  | .nil => 1
  | .ptr d => uptoBulk d + 1
  | .slice elems spare => uptoBulkAll elems + uptoBulkAll spare + 1
  | .agg parts => uptoBulkAll parts + 1
  | .iface _ d => uptoBulk d + 1
  | .map entries => uptoBulkEntries entries + 1
  | .held _ => 1
def uptoBulkAll {H : Type} : List (DataW H) → Nat
  | [] => 0
  | d :: r => uptoBulk d + uptoBulkAll r
def uptoBulkEntries {H : Type} : List (Lit × DataW H) → Nat
  | [] => 0
  | x :: r => uptoBulkEntry x + uptoBulkEntries r
def uptoBulkEntry {H : Type} : Lit × DataW H → Nat
  | (.string bytes, d) => bytes.length + uptoBulk d + 1
  | (_, d) => uptoBulk d + 1
 end
def uptoSmall : (H : Type) → List (DataW H) → Bool := fun _ ds => decide (uptoBulkAll ds ≤ 1048576)
def OpenSpec.upto (s : _root_.Go.ChangeSpec) : _root_.Go.OpenSpec := { _root_.Go.OpenSpec.ofChange s with cond := some uptoSmall }

/-- 'stoploglaw16.IdentSays', WHERE WHAT IT READS IS OF BULK AT MOST 1048576: true; the input reads as it did. -/
def identSaysUptoRow : OpenClaim := { program := "ytobedmdjkihfhaa", sum := "31bfa3a9a6f1dbb2ba6029e832db60a097aad7c6aca79c95a5e94705eddd13eb", func := "stoplog/stoploglaw16.IdentSays", spec := "identSays", apart := false, narrowed := true }
def IdentSaysUptoSaid : Prop := identSaysUptoRow.holds Try.pinned (OpenSpec.upto identSaysSpec)

/-- 'stoploglaw16.IdentRising', WHERE WHAT IT READS IS OF BULK AT MOST 1048576: true; the input reads as it did. -/
def identRisingUptoRow : OpenClaim := { program := "ytobedmdjkihfhaa", sum := "31bfa3a9a6f1dbb2ba6029e832db60a097aad7c6aca79c95a5e94705eddd13eb", func := "stoplog/stoploglaw16.IdentRising", spec := "identRising", apart := false, narrowed := true }
def IdentRisingUptoSaid : Prop := identRisingUptoRow.holds Try.pinned (OpenSpec.upto identRisingSpec)

/-- 'stoploglaw16.IdentGrows', WHERE WHAT IT READS IS OF BULK AT MOST 1048576: true; the input reads as it did. -/
def identGrowsUptoRow : OpenClaim := { program := "ytobedmdjkihfhaa", sum := "31bfa3a9a6f1dbb2ba6029e832db60a097aad7c6aca79c95a5e94705eddd13eb", func := "stoplog/stoploglaw16.IdentGrows", spec := "identGrows", apart := false, narrowed := true }
def IdentGrowsUptoSaid : Prop := identGrowsUptoRow.holds Try.pinned (OpenSpec.upto identGrowsSpec)

end Rows
end Go.Proofs.Ytobedmdjkihfhaa
