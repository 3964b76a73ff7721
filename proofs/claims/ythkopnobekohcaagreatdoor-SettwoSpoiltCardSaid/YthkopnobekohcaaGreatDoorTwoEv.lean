/- The tables that the code of sets of rules of version 2 reads. Conditions: none. -/
import Derived.Test.YthkopnobekohcaaGreatDoorTwoP2
import Derived.Test.YthkopnobekohcaaGreatDoorUniA
import Derived.Test.YthkopnobekohcaaGreatDoorUtfG1
import Derived.Test.YthkopnobekohcaaGreatDoorRenN
namespace Go.Proofs.YthkopnobekohcaaGreatDoor.Two
open Go.RowKit Go.Lib
open Go.Proofs.YthkopnobekohcaaGreatDoor.Ren (Pw)

/-- The code's table of kinds. -/
def Nt (w : World) : Prop := ∀ u : Nat, u < 3 → w.cell? ⟨0, u, none⟩ = some (.string (kB u))
theorem Nt.next {w W : World} (h : Nt w) (hb : Below w.heap.size w W) : Nt W := fun u hu => (hb.cell (lt_of_cell (h u hu))).trans (h u hu)
structure Ev (W : World) : Prop where
  utf : Utf.Tabs W
  uni : Uni.Tab W
  pow : Pw W
  nam : Nt W
theorem Ev.next {W W' : World} (h : Ev W) (hb : Below W.heap.size W W') : Ev W' := ⟨Utf.Tabs.next h.utf hb, h.uni.next hb, h.pow.next hb, h.nam.next hb⟩
theorem Ev.drew {W : World} (h : Ev W) : Ev W.drew := h.next ⟨rfl, rfl, rfl, Nat.le_refl _, fun _ _ => rfl⟩
end Go.Proofs.YthkopnobekohcaaGreatDoor.Two
