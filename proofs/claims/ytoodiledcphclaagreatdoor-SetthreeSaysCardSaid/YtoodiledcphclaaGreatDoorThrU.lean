/- The three laws of sets of rules. Conditions: as each theorem states. -/
import Derived.Test.YtoodiledcphclaaGreatDoorThrT
import Derived.Test.YtoodiledcphclaaGreatDoorThrK
import Derived.Test.YtoodiledcphclaaGreatDoorThrTabs
namespace Go.Proofs.YtoodiledcphclaaGreatDoor.Thr
open Go.RowKit Go.Lib
open Go.Proofs.YtoodiledcphclaaGreatDoor.Rul (Ru Row)

theorem awake_any : AwP := awake_of check_any canon_any is_any find_any
theorem says_law (L : List Ru) (s : ByteArray) {v : Value} {W : World} (hr : Row W v L) (hl : L.length ≤ 9223372036854775807) (hs : ∀ x ∈ L, Rul.Fits x) {Q : Prop} (_ : Q) (hE : Ev W) :
    Calls Tryz.prog 3 #[v, .string s] W fun e w' => e = .returned (.bool true) ∧ Below W.heap.size W w' :=
  says_of check_any canon_any is_any find_any awake_any L v s W hr hl (fit_of hs) hE
end Go.Proofs.YtoodiledcphclaaGreatDoor.Thr
