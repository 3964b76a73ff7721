/-
  NARROWER THAN 'FOR EVERY INPUT', by the rows' own cells (each row's printed sentence says how): UnitSays: laid · UnitBack: laid.
  DERIVED. THE GIVEN ROWS OF THIS SEAT. 2 by the template 'for every input the law returns true; each argument reads behind the call as it read before'; 0 by the template 'total and deterministic' (their statements: YtmlfnlogalolnaaDoorTotals.lean).
  GIVEN WITH THE SEED: the statements are not yours to turn. If you find one false, say at which input.
  Laid BY PROGRAM, IN A SANDBOX (cutbox-rows.mjs): the forced cells as the released guide's own fill.sh prints them over the translation fd092bb33b7d02e6… (all of the seat's roots in one cut). By AI agents, Wed Nov 11 2026. No macro, syntax, notation, axiom, sorry.
-/
import Derived.Test.YtmlfnlogalolnaaDoorChecked
import GoSem.Claim
import GoSem.ClaimJoined
import GoSem.ClaimMapViews
import Derived.JoinedTies
import Derived.KernelRfl
namespace Go.Proofs.YtmlfnlogalolnaaDoor
/- THE CELL 'sum', in the pinned program and in every row, IS THE sha256 OF THE DUMP (.gsa) THAT YtmlfnlogalolnaaDoorProg.lean LOADS. Nothing in Lean hashes anything: it is a label: what it is worth is what the hold of that sum in a sandbox is worth. -/
noncomputable def Tryd.pinned : Pinned := { name := "ytmlfnlogalolnaadoor", sum := "fd092bb33b7d02e6e654518e26f935370db972d86fe777419fd9537344da3c4e", checked := Tryd.checked }
namespace Rows
def none {H : Type} : Left H := { results := [], args := [] }

/- WHAT THE LISTED PACKAGE-LEVEL VARIABLES READ AS WHEN THE CALL BEGINS. Each datum BY PROGRAM (the guide's laid-datum.mjs) off the statement by which the dump's own 'gosem.cut.vars' lays the variable. In a bare row this is a premise. The card (YtmlfnlogalolnaaDoorCards.lean) ties it to the program's text. -/
def laid_stoplog_unit_units {H : Type} : DataW H := .agg [.agg [.lit (.string []), .lit (.int .i64 0)], .agg [.lit (.string [116, 105, 99, 107]), .lit (.int .i64 1)], .agg [.lit (.string [115, 101, 99, 111, 110, 100]), .lit (.int .i64 1000)], .agg [.lit (.string [109, 105, 110, 117, 116, 101]), .lit (.int .i64 60000)]]

/-- 'stoploglaw20.UnitSays': WHATEVER THE INPUT: true; the input reads as it did. -/
def unitSaysSpec : ChangeSpec := { name := "unitSays", fn := fun _ => fun
  | [d1, d2, d3] => { results := [.lit (.bool true)], args := [d1, d2, d3] }
  | _ => none }
def unitSaysRow : OpenClaim := { program := "ytmlfnlogalolnaadoor", sum := "fd092bb33b7d02e6e654518e26f935370db972d86fe777419fd9537344da3c4e", func := "stoplog/stoploglaw20.UnitSays", spec := "unitSays", named := ["stoplog/unit.units"], apart := false, laid := [("stoplog/unit.units", laid_stoplog_unit_units)] }
def UnitSaysSaid : Prop := unitSaysRow.holds Tryd.pinned (OpenSpec.ofChange unitSaysSpec)

/-- ITS FALSE NEIGHBOUR: 'it returns false'. Refute it at one input. -/
def unitSaysWrong : ChangeSpec := { name := "unitSays", fn := fun _ => fun
  | [d1, d2, d3] => { results := [.lit (.bool false)], args := [d1, d2, d3] }
  | _ => none }
def UnitSaysWrongFalsely : Prop := unitSaysRow.holds Tryd.pinned (OpenSpec.ofChange unitSaysWrong)

/-- 'stoploglaw20.UnitBack': WHATEVER THE INPUT: true; the input reads as it did. -/
def unitBackSpec : ChangeSpec := { name := "unitBack", fn := fun _ => fun
  | [d1, d2, d3] => { results := [.lit (.bool true)], args := [d1, d2, d3] }
  | _ => none }
def unitBackRow : OpenClaim := { program := "ytmlfnlogalolnaadoor", sum := "fd092bb33b7d02e6e654518e26f935370db972d86fe777419fd9537344da3c4e", func := "stoplog/stoploglaw20.UnitBack", spec := "unitBack", named := ["stoplog/unit.units"], apart := false, laid := [("stoplog/unit.units", laid_stoplog_unit_units)] }
def UnitBackSaid : Prop := unitBackRow.holds Tryd.pinned (OpenSpec.ofChange unitBackSpec)

/-- ITS FALSE NEIGHBOUR: 'it returns false'. Refute it at one input. -/
def unitBackWrong : ChangeSpec := { name := "unitBack", fn := fun _ => fun
  | [d1, d2, d3] => { results := [.lit (.bool false)], args := [d1, d2, d3] }
  | _ => none }
def UnitBackWrongFalsely : Prop := unitBackRow.holds Tryd.pinned (OpenSpec.ofChange unitBackWrong)

/- THE SECOND FORM. 'bulk': how many values and letters a reading holds, each counted each time it is reached (what is shared counts as often as it is met; a slice's spare places count too). A statement '..UptoSaid' is the law's where the arguments, and the package variables that the reading takes, are together of bulk at most 1048576: NARROWER than '..Said'. Prove '..Said' where nothing that the law and all that it calls make is longer than what came in: it says more and counts as full. Else prove '..UptoSaid'. A law counts once. -/
mutual
def uptoBulk {H : Type} : DataW H → Nat
  | .lit (.string bytes) => bytes.length + 1
  | .lit _ => 1
  | .nil => 1
  | .ptr d => uptoBulk d + 1
  | .slice elems spare => uptoBulkAll elems + uptoBulkAll spare + 1
  | .agg parts => uptoBulkAll parts + 1
  | .iface _ d => uptoBulk d + 1
  | .map entries => uptoBulkEntries entries + 1
  | .held _ => 1
def uptoBulkAll {H : Type} : List (DataW H) → Nat
  | [] => 0
  | d :: r => uptoBulk d + uptoBulkAll r
def uptoBulkEntries {H : Type} : List (Lit × DataW H) → Nat
  | [] => 0
  | x :: r => uptoBulkEntry x + uptoBulkEntries r
def uptoBulkEntry {H : Type} : Lit × DataW H → Nat
  | (.string bytes, d) => bytes.length + uptoBulk d + 1
  | (_, d) => uptoBulk d + 1
 end
def uptoSmall : (H : Type) → List (DataW H) → Bool := fun _ ds => decide (uptoBulkAll ds ≤ 1048576)
def OpenSpec.upto (s : _root_.Go.ChangeSpec) : _root_.Go.OpenSpec := { _root_.Go.OpenSpec.ofChange s with cond := some uptoSmall }

/-- 'stoploglaw20.UnitSays', WHERE WHAT IT READS IS OF BULK AT MOST 1048576: true; the input reads as it did. -/
def unitSaysUptoRow : OpenClaim := { program := "ytmlfnlogalolnaadoor", sum := "fd092bb33b7d02e6e654518e26f935370db972d86fe777419fd9537344da3c4e", func := "stoplog/stoploglaw20.UnitSays", spec := "unitSays", named := ["stoplog/unit.units"], apart := false, laid := [("stoplog/unit.units", laid_stoplog_unit_units)], narrowed := true }
def UnitSaysUptoSaid : Prop := unitSaysUptoRow.holds Tryd.pinned (OpenSpec.upto unitSaysSpec)

/-- 'stoploglaw20.UnitBack', WHERE WHAT IT READS IS OF BULK AT MOST 1048576: true; the input reads as it did. -/
def unitBackUptoRow : OpenClaim := { program := "ytmlfnlogalolnaadoor", sum := "fd092bb33b7d02e6e654518e26f935370db972d86fe777419fd9537344da3c4e", func := "stoplog/stoploglaw20.UnitBack", spec := "unitBack", named := ["stoplog/unit.units"], apart := false, laid := [("stoplog/unit.units", laid_stoplog_unit_units)], narrowed := true }
def UnitBackUptoSaid : Prop := unitBackUptoRow.holds Tryd.pinned (OpenSpec.upto unitBackSpec)

end Rows
end Go.Proofs.YtmlfnlogalolnaaDoor
