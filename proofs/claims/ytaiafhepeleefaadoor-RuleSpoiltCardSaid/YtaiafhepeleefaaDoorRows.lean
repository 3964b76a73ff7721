/-
  NARROWER THAN 'FOR EVERY INPUT', by the rows' own cells (each row's printed sentence says how): RuleSays: laid · RuleCanon: laid · RuleSpoilt: laid.
  DERIVED. THE GIVEN ROWS OF THIS SEAT. 3 by the template 'for every input the law returns true; each argument reads behind the call as it read before'; 0 by the template 'total and deterministic' (their statements: YtaiafhepeleefaaDoorTotals.lean).
  GIVEN WITH THE SEED: the statements are not yours to turn. If you find one false, say at which input.
  Laid BY PROGRAM, IN A SANDBOX (cutbox-rows.mjs): the forced cells as the released guide's own fill.sh prints them over the translation eb3d18947a42f5ed… (all of the seat's roots in one cut). By AI agents, Wed Nov 11 2026. No macro, syntax, notation, axiom, sorry.
-/
import Derived.Test.YtaiafhepeleefaaDoorChecked
import GoSem.PinnedTables
import GoSem.Claim
import GoSem.ClaimJoined
import GoSem.ClaimMapViews
import Derived.JoinedTies
import Derived.KernelRfl
namespace Go.Proofs.YtaiafhepeleefaaDoor
/- THE CELL 'sum', in the pinned program and in every row, IS THE sha256 OF THE DUMP (.gsa) THAT YtaiafhepeleefaaDoorProg.lean LOADS. Nothing in Lean hashes anything: it is a label: what it is worth is what the hold of that sum in a sandbox is worth. -/
noncomputable def Tryd.pinned : Pinned := { name := "ytaiafhepeleefaadoor", sum := "eb3d18947a42f5eddca6b2e5f5d6c18ebc2d11c1b3eac342e3ee3a0bc32142e6", checked := Tryd.checked }
namespace Rows
def none {H : Type} : Left H := { results := [], args := [] }

/- WHAT THE LISTED PACKAGE-LEVEL VARIABLES READ AS WHEN THE CALL BEGINS. Each datum BY PROGRAM (the guide's laid-datum.mjs) off the statement by which the dump's own 'gosem.cut.vars' lays the variable. In a bare row this is a premise. The card (YtaiafhepeleefaaDoorCards.lean) ties it to the program's text. -/
def laid_unicode_utf8_acceptRanges {H : Type} : DataW H := .agg [.agg [.lit (.int .u8 128), .lit (.int .u8 191)], .agg [.lit (.int .u8 160), .lit (.int .u8 191)], .agg [.lit (.int .u8 128), .lit (.int .u8 159)], .agg [.lit (.int .u8 144), .lit (.int .u8 191)], .agg [.lit (.int .u8 128), .lit (.int .u8 143)], .agg [.lit (.int .u8 0), .lit (.int .u8 0)], .agg [.lit (.int .u8 0), .lit (.int .u8 0)], .agg [.lit (.int .u8 0), .lit (.int .u8 0)], .agg [.lit (.int .u8 0), .lit (.int .u8 0)], .agg [.lit (.int .u8 0), .lit (.int .u8 0)], .agg [.lit (.int .u8 0), .lit (.int .u8 0)], .agg [.lit (.int .u8 0), .lit (.int .u8 0)], .agg [.lit (.int .u8 0), .lit (.int .u8 0)], .agg [.lit (.int .u8 0), .lit (.int .u8 0)], .agg [.lit (.int .u8 0), .lit (.int .u8 0)], .agg [.lit (.int .u8 0), .lit (.int .u8 0)]]
def laid_stoplog_rule_names {H : Type} : DataW H := .agg [.lit (.string []), .lit (.string [98, 117, 99, 107, 101, 116]), .lit (.string [99, 97, 112]), .lit (.string [98, 114, 101, 97, 107, 101, 114])]
/-- One of Go's own tables, pinned by name: the form's constant. -/
def laid_unicode_utf8_first : DataW Unit := Go.Pinned.utf8First

/-- 'stoploglaw21.RuleSays': WHATEVER THE INPUT: true; the input reads as it did. -/
def ruleSaysSpec : ChangeSpec := { name := "ruleSays", fn := fun _ => fun
  | [d1, d2] => { results := [.lit (.bool true)], args := [d1, d2] }
  | _ => none }
def ruleSaysRow : OpenClaim := { program := "ytaiafhepeleefaadoor", sum := "eb3d18947a42f5eddca6b2e5f5d6c18ebc2d11c1b3eac342e3ee3a0bc32142e6", func := "stoplog/stoploglaw21.RuleSays", spec := "ruleSays", inPlace := ["internal/bytealg.CountString", "internal/bytealg.IndexByteString", "internal/bytealg.IndexString"], unfollowed := true, recurses := true, named := ["unicode/utf8.first", "unicode/utf8.acceptRanges", "internal/bytealg.MaxLen", "stoplog/rule.names"], apart := false, laid := [("unicode/utf8.acceptRanges", laid_unicode_utf8_acceptRanges), ("stoplog/rule.names", laid_stoplog_rule_names), ("unicode/utf8.first", laid_unicode_utf8_first)] }
def RuleSaysSaid : Prop := ruleSaysRow.holds Tryd.pinned (OpenSpec.ofChange ruleSaysSpec)

/-- ITS FALSE NEIGHBOUR: 'it returns false'. Refute it at one input. -/
def ruleSaysWrong : ChangeSpec := { name := "ruleSays", fn := fun _ => fun
  | [d1, d2] => { results := [.lit (.bool false)], args := [d1, d2] }
  | _ => none }
def RuleSaysWrongFalsely : Prop := ruleSaysRow.holds Tryd.pinned (OpenSpec.ofChange ruleSaysWrong)

/-- 'stoploglaw21.RuleCanon': WHATEVER THE INPUT: true; the input reads as it did. -/
def ruleCanonSpec : ChangeSpec := { name := "ruleCanon", fn := fun _ => fun
  | [d] => { results := [.lit (.bool true)], args := [d] }
  | _ => none }
def ruleCanonRow : OpenClaim := { program := "ytaiafhepeleefaadoor", sum := "eb3d18947a42f5eddca6b2e5f5d6c18ebc2d11c1b3eac342e3ee3a0bc32142e6", func := "stoplog/stoploglaw21.RuleCanon", spec := "ruleCanon", inPlace := ["internal/bytealg.CountString", "internal/bytealg.IndexByteString", "internal/bytealg.IndexString"], unfollowed := true, recurses := true, named := ["unicode/utf8.first", "unicode/utf8.acceptRanges", "internal/bytealg.MaxLen", "stoplog/rule.names"], apart := false, laid := [("unicode/utf8.acceptRanges", laid_unicode_utf8_acceptRanges), ("stoplog/rule.names", laid_stoplog_rule_names), ("unicode/utf8.first", laid_unicode_utf8_first)] }
def RuleCanonSaid : Prop := ruleCanonRow.holds Tryd.pinned (OpenSpec.ofChange ruleCanonSpec)

/-- ITS FALSE NEIGHBOUR: 'it returns false'. Refute it at one input. -/
def ruleCanonWrong : ChangeSpec := { name := "ruleCanon", fn := fun _ => fun
  | [d] => { results := [.lit (.bool false)], args := [d] }
  | _ => none }
def RuleCanonWrongFalsely : Prop := ruleCanonRow.holds Tryd.pinned (OpenSpec.ofChange ruleCanonWrong)

/-- 'stoploglaw21.RuleSpoilt': WHATEVER THE INPUT: true; the input reads as it did. -/
def ruleSpoiltSpec : ChangeSpec := { name := "ruleSpoilt", fn := fun _ => fun
  | [d1, d2, d3] => { results := [.lit (.bool true)], args := [d1, d2, d3] }
  | _ => none }
def ruleSpoiltRow : OpenClaim := { program := "ytaiafhepeleefaadoor", sum := "eb3d18947a42f5eddca6b2e5f5d6c18ebc2d11c1b3eac342e3ee3a0bc32142e6", func := "stoplog/stoploglaw21.RuleSpoilt", spec := "ruleSpoilt", inPlace := ["internal/bytealg.CountString", "internal/bytealg.IndexByteString", "internal/bytealg.IndexString"], unfollowed := true, recurses := true, named := ["unicode/utf8.first", "unicode/utf8.acceptRanges", "internal/bytealg.MaxLen", "stoplog/rule.names"], apart := false, laid := [("unicode/utf8.acceptRanges", laid_unicode_utf8_acceptRanges), ("stoplog/rule.names", laid_stoplog_rule_names), ("unicode/utf8.first", laid_unicode_utf8_first)] }
def RuleSpoiltSaid : Prop := ruleSpoiltRow.holds Tryd.pinned (OpenSpec.ofChange ruleSpoiltSpec)

/-- ITS FALSE NEIGHBOUR: 'it returns false'. Refute it at one input. -/
def ruleSpoiltWrong : ChangeSpec := { name := "ruleSpoilt", fn := fun _ => fun
  | [d1, d2, d3] => { results := [.lit (.bool false)], args := [d1, d2, d3] }
  | _ => none }
def RuleSpoiltWrongFalsely : Prop := ruleSpoiltRow.holds Tryd.pinned (OpenSpec.ofChange ruleSpoiltWrong)

/- THE SECOND FORM. 'bulk': how many values and letters a reading holds, each counted each time it is reached (what is shared counts as often as it is met; a slice's spare places count too). A statement '..UptoSaid' is the law's where the arguments, and the package variables that the reading takes, are together of bulk at most 1048576: NARROWER than '..Said'. Prove '..Said' where nothing that the law and all that it calls make is longer than what came in: it says more and counts as full. Else prove '..UptoSaid'. A law counts once. -/
mutual
def uptoBulk {H : Type} : DataW H → Nat
  | .lit (.string bytes) => bytes.length + 1
  | .lit _ => 1
  | .nil => 1
  | .ptr d => uptoBulk d + 1
  | .slice elems spare => uptoBulkAll elems + uptoBulkAll spare + 1
  | .agg parts => uptoBulkAll parts + 1
  | .iface _ d => uptoBulk d + 1
  | .map entries => uptoBulkEntries entries + 1
  | .held _ => 1
def uptoBulkAll {H : Type} : List (DataW H) → Nat
  | [] => 0
  | d :: r => uptoBulk d + uptoBulkAll r
def uptoBulkEntries {H : Type} : List (Lit × DataW H) → Nat
  | [] => 0
  | x :: r => uptoBulkEntry x + uptoBulkEntries r
def uptoBulkEntry {H : Type} : Lit × DataW H → Nat
  | (.string bytes, d) => bytes.length + uptoBulk d + 1
  | (_, d) => uptoBulk d + 1
 end
def uptoSmall : (H : Type) → List (DataW H) → Bool := fun _ ds => decide (uptoBulkAll ds ≤ 1048576)
def OpenSpec.upto (s : _root_.Go.ChangeSpec) : _root_.Go.OpenSpec := { _root_.Go.OpenSpec.ofChange s with cond := some uptoSmall }

/-- 'stoploglaw21.RuleSays', WHERE WHAT IT READS IS OF BULK AT MOST 1048576: true; the input reads as it did. -/
def ruleSaysUptoRow : OpenClaim := { program := "ytaiafhepeleefaadoor", sum := "eb3d18947a42f5eddca6b2e5f5d6c18ebc2d11c1b3eac342e3ee3a0bc32142e6", func := "stoplog/stoploglaw21.RuleSays", spec := "ruleSays", inPlace := ["internal/bytealg.CountString", "internal/bytealg.IndexByteString", "internal/bytealg.IndexString"], unfollowed := true, recurses := true, named := ["unicode/utf8.first", "unicode/utf8.acceptRanges", "internal/bytealg.MaxLen", "stoplog/rule.names"], apart := false, laid := [("unicode/utf8.acceptRanges", laid_unicode_utf8_acceptRanges), ("stoplog/rule.names", laid_stoplog_rule_names), ("unicode/utf8.first", laid_unicode_utf8_first)], narrowed := true }
def RuleSaysUptoSaid : Prop := ruleSaysUptoRow.holds Tryd.pinned (OpenSpec.upto ruleSaysSpec)

/-- 'stoploglaw21.RuleCanon', WHERE WHAT IT READS IS OF BULK AT MOST 1048576: true; the input reads as it did. -/
def ruleCanonUptoRow : OpenClaim := { program := "ytaiafhepeleefaadoor", sum := "eb3d18947a42f5eddca6b2e5f5d6c18ebc2d11c1b3eac342e3ee3a0bc32142e6", func := "stoplog/stoploglaw21.RuleCanon", spec := "ruleCanon", inPlace := ["internal/bytealg.CountString", "internal/bytealg.IndexByteString", "internal/bytealg.IndexString"], unfollowed := true, recurses := true, named := ["unicode/utf8.first", "unicode/utf8.acceptRanges", "internal/bytealg.MaxLen", "stoplog/rule.names"], apart := false, laid := [("unicode/utf8.acceptRanges", laid_unicode_utf8_acceptRanges), ("stoplog/rule.names", laid_stoplog_rule_names), ("unicode/utf8.first", laid_unicode_utf8_first)], narrowed := true }
def RuleCanonUptoSaid : Prop := ruleCanonUptoRow.holds Tryd.pinned (OpenSpec.upto ruleCanonSpec)

/-- 'stoploglaw21.RuleSpoilt', WHERE WHAT IT READS IS OF BULK AT MOST 1048576: true; the input reads as it did. -/
def ruleSpoiltUptoRow : OpenClaim := { program := "ytaiafhepeleefaadoor", sum := "eb3d18947a42f5eddca6b2e5f5d6c18ebc2d11c1b3eac342e3ee3a0bc32142e6", func := "stoplog/stoploglaw21.RuleSpoilt", spec := "ruleSpoilt", inPlace := ["internal/bytealg.CountString", "internal/bytealg.IndexByteString", "internal/bytealg.IndexString"], unfollowed := true, recurses := true, named := ["unicode/utf8.first", "unicode/utf8.acceptRanges", "internal/bytealg.MaxLen", "stoplog/rule.names"], apart := false, laid := [("unicode/utf8.acceptRanges", laid_unicode_utf8_acceptRanges), ("stoplog/rule.names", laid_stoplog_rule_names), ("unicode/utf8.first", laid_unicode_utf8_first)], narrowed := true }
def RuleSpoiltUptoSaid : Prop := ruleSpoiltUptoRow.holds Tryd.pinned (OpenSpec.upto ruleSpoiltSpec)

end Rows
end Go.Proofs.YtaiafhepeleefaaDoor
