/- The three laws of sets of rules of version 1. Conditions: as each theorem states. -/
import Derived.Test.YtcdkibadnelgiaaDoorOneC
import Derived.Test.YtcdkibadnelgiaaDoorOneS
import Derived.Test.YtcdkibadnelgiaaDoorOneJ
import Derived.Test.YtcdkibadnelgiaaDoorOneL
import Derived.Test.YtcdkibadnelgiaaDoorOneK
import Derived.Test.YtcdkibadnelgiaaDoorOneTabs
import Derived.Laws.Cover2
namespace Go.Proofs.YtcdkibadnelgiaaDoor.One
open Go.RowKit Go.Lib
open Go.Proofs.YtcdkibadnelgiaaDoor.Ren (Pw)

theorem is_any : IsP := is_of canon_any same_any
theorem awake_any : AwP := awake_of check_any canon_any is_any
theorem canon_law (L : List Ro) (q : Int) {v : Value} {W : World} (hr : Row W v L) (hl : L.length ≤ 9223372036854775807) (hs : ∀ x ∈ L, Fits x) (wq : (Lit.int .u8 q).wf = true) (hE : Pw W) :
    Calls Tryd.prog 3 #[v, .int .u8 q] W fun e w' => e = .returned (.bool true) ∧ Below W.heap.size W w' := by
  have h : 0 ≤ q ∧ q ≤ 255 := by
    simp only [Lit.wf, IntKind.min, IntKind.max, IntKind.signed, IntKind.bits, Bool.and_eq_true] at wq
    exact ⟨by simp at wq; omega, by simp at wq; omega⟩
  exact canon_of canon_any is_any same_any awake_any L v q W hr hl (fit_of hs) hE h.1 h.2
theorem edges_law (b : Nat) (q : Int) {W : World} (wb : (Lit.float .f64 b).wf = true) (_ : (Lit.int .i64 q).wf = true) (hE : Pw W) :
    Calls Tryd.prog 4 #[.float .f64 b, .int .i64 q] W fun e w' => e = .returned (.bool true) ∧ Below W.heap.size W w' :=
  edges_of check_any canon_any awake_any b q W (Real.lt_of_wf wb) hE
end Go.Proofs.YtcdkibadnelgiaaDoor.One
