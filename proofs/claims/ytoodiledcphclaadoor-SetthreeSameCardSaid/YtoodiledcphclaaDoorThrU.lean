/- The three laws of sets of rules. Conditions: as each theorem states. -/
import Derived.Test.YtoodiledcphclaaDoorThrT
import Derived.Test.YtoodiledcphclaaDoorThrJ
import Derived.Test.YtoodiledcphclaaDoorThrK
import Derived.Test.YtoodiledcphclaaDoorThrTabs
namespace Go.Proofs.YtoodiledcphclaaDoor.Thr
open Go.RowKit Go.Lib
open Go.Proofs.YtoodiledcphclaaDoor.Rul (Ru Row)

theorem awake_any : AwP := awake_of check_any canon_any is_any find_any
theorem canon_law (L : List Ru) (q : Int) {v : Value} {W : World} (hr : Row W v L) (hl : L.length ≤ 9223372036854775807) (hs : ∀ x ∈ L, Rul.Fits x) (wq : (Lit.int .u8 q).wf = true) (hE : Ev W) :
    Calls Tryd.prog 3 #[v, .int .u8 q] W fun e w' => e = .returned (.bool true) ∧ Below W.heap.size W w' := by
  have h : 0 ≤ q ∧ q ≤ 255 := by
    simp only [Lit.wf, IntKind.min, IntKind.max, IntKind.signed, IntKind.bits, Bool.and_eq_true] at wq
    exact ⟨by simp at wq; omega, by simp at wq; omega⟩
  exact canon_of canon_any is_any find_any same_any awake_any L v q W hr hl (fit_of hs) hE h.1 h.2
theorem same_law (L M : List Ru) {v u : Value} {W : World} (hr : Row W v L) (hl : L.length ≤ 9223372036854775807) (_ : ∀ x ∈ L, Rul.Fits x) (hq : Row W u M) (hm : M.length ≤ 9223372036854775807) (_ : ∀ x ∈ M, Rul.Fits x) (hE : Ev W) :
    Calls Tryd.prog 4 #[v, u] W fun e w' => e = .returned (.bool true) ∧ Below W.heap.size W w' :=
  same_of same_any awake_any L M v u W hr hl hq hm hE
end Go.Proofs.YtoodiledcphclaaDoor.Thr
