/- The three laws of sets of rules of version 1. Conditions: as each theorem states. -/
import Derived.Test.YtcdkibadnelgiaaGreatDoorOneC
import Derived.Test.YtcdkibadnelgiaaGreatDoorOneS
import Derived.Test.YtcdkibadnelgiaaGreatDoorOneK
import Derived.Test.YtcdkibadnelgiaaGreatDoorOneTabs
import Derived.Laws.Cover2
namespace Go.Proofs.YtcdkibadnelgiaaGreatDoor.One
open Go.RowKit Go.Lib
open Go.Proofs.YtcdkibadnelgiaaGreatDoor.Ren (Pw)

theorem is_any : IsP := is_of canon_any same_any
theorem awake_any : AwP := awake_of check_any canon_any is_any
theorem says_law (L M : List Ro) {v u : Value} {W : World} (hr : Row W v L) (hl : L.length ≤ 9223372036854775807) (hs : ∀ x ∈ L, Fits x) (hq : Row W u M) (hm : M.length ≤ 9223372036854775807) (ht : ∀ x ∈ M, Fits x) (hE : Pw W) :
    Calls Tryz.prog 3 #[v, u] W fun e w' => e = .returned (.bool true) ∧ Below W.heap.size W w' :=
  says_of check_any canon_any is_any same_any awake_any L M v u W hr hl (fit_of hs) hq hm (fit_of ht) hE
end Go.Proofs.YtcdkibadnelgiaaGreatDoor.One
