/- The three laws of sets of rules of version 2. Conditions: as each theorem states. -/
import Derived.Test.YthkopnobekohcaaDoorTwoCC
import Derived.Test.YthkopnobekohcaaDoorTwoL
import Derived.Test.YthkopnobekohcaaDoorTwoV
import Derived.Test.YthkopnobekohcaaDoorTwoJ
import Derived.Test.YthkopnobekohcaaDoorTwoK
import Derived.Test.YthkopnobekohcaaDoorTwoTabs
import Derived.Laws.Cover2
namespace Go.Proofs.YthkopnobekohcaaDoor.Two
open Go.RowKit Go.Lib Go.ChangeAt Go.WideShapes Go.ChangeShapes

theorem canon_any : CnP := canon_of1 canon1_any own_any
theorem is_any : IsP := is_of canon_any
theorem awake_any : AwP := awake_of check_any canon_any kind_any kindof_any
theorem u8_of {q : Int} (wq : (Lit.int .u8 q).wf = true) : 0 ≤ q ∧ q ≤ 255 := by
  simp only [Lit.wf, IntKind.min, IntKind.max, IntKind.signed, IntKind.bits, Bool.and_eq_true] at wq
  exact ⟨by simp at wq; omega, by simp at wq; omega⟩
theorem canon_law (L : List Rw) (q : Int) {v : Value} {W : World} (hr : Row W v L) (hl : L.length ≤ 9223372036854775807) (hs : ∀ x ∈ L, Fits x) (wq : (Lit.int .u8 q).wf = true) (hE : Ev W) :
    Calls Tryd.prog 3 #[v, .int .u8 q] W fun e w' => e = .returned (.bool true) ∧ Below W.heap.size W w' :=
  canon_of canon_any is_any awake_any L v q W hr hl (fit_of hs) hE (u8_of wq).1 (u8_of wq).2
end Go.Proofs.YthkopnobekohcaaDoor.Two
