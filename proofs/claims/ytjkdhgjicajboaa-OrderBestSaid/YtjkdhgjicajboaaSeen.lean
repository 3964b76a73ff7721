/- A map from texts to truths that is made by a call and only grows: which texts were put in. Conditions: as each theorem states. -/
import Derived.Test.YtjkdhgjicajboaaRowsA
import Derived.Maps.OwnSet
import Derived.Maps.OwnOps
import Derived.StringKeys
namespace Go.Proofs.Ytjkdhgjicajboaa.Sn
open Go.RowKit Go.Lib Go.Maps Go.WideMaps Go.Proofs.Ytjkdhgjicajboaa.Byt

def hasB (L : List ByteArray) (s : ByteArray) : Bool := L.any fun x => decide (x = s)
theorem hasB_app (L : List ByteArray) (t s : ByteArray) : hasB (L ++ [t]) s = (hasB L s || decide (t = s)) := by unfold hasB; simp
/-- Block b is a map of at most n entries that is true at the strings of L alone. -/
def Seen (w : World) (b n : Nat) (L : List ByteArray) : Prop :=
  ∃ D : DataW Unit, w.ownsMap Try.prog 9 (plainElem Try.prog 4) b n D ∧ ∀ s : ByteArray, D.atKey (.string s.data.toList) (.lit (.bool false)) = .lit (.bool (hasB L s))
theorem keyS : Keyed Try.prog 9 := string_keyed Try.underlying9
theorem zeroB (w : World) : (zeroValue 4).run Try.prog w = .ok (.bool false) w := by kernel_rfl
theorem seen_made (w : World) : Seen (w.alloc (.map #[] 0)) w.heap.size 0 [] :=
  ⟨.map [], World.ownsMap_made w _ _ _, fun s => by simp [DataW.atKey, hasB]⟩
section
variable {w w' : World} {b n : Nat} {L : List ByteArray}
theorem Seen.lt (h : Seen w b n L) : b < w.heap.size := h.elim fun _ h => h.1.lt
theorem Seen.next (h : Seen w b n L) (hb : Below w.heap.size w w') : Seen w' b n L := by
  have hlt := h.lt
  obtain ⟨D, ⟨es, clock, hk, rest⟩, h2⟩ := h
  exact ⟨D, ⟨es, clock, (hb.block b hlt).trans hk, rest⟩, h2⟩
end
end Go.Proofs.Ytjkdhgjicajboaa.Sn
