/- Texts of my own, packed: TreWs. Conditions: as each theorem states. -/
import Derived.Test.YtehkiojohldlgaaGreatDoorK20
namespace Go.Proofs.YtehkiojohldlgaaGreatDoor.Tre
open Go.RowKit Go.Lib Go.Proofs.YtehkiojohldlgaaGreatDoor.Byt

theorem InS_zero (S : Nat → Prop) (w : World) : InS S w V0 zeroC := (InS_iff V0 zeroC).2 ⟨none, 0, .slice none 0 0, rfl, fun _ hj => absurd hj (Nat.not_lt_zero _), ⟨Strs.Row.nil w, fun h => absurd rfl h⟩⟩
end Go.Proofs.YtehkiojohldlgaaGreatDoor.Tre
