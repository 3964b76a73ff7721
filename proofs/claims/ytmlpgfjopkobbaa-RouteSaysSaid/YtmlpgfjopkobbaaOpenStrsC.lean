/- How a slice of strings that came in is opened, with its room. Conditions: as the theorem states. -/
import Derived.Test.YtmlpgfjopkobbaaOpenStrs
namespace Go.Proofs.Ytmlpgfjopkobbaa.Strs
open Go.ChangeShapes Go.WideShapes Go.ChangeAt Go.RowKit Go.Lib

set_option maxRecDepth 100000 in
theorem open_strsC {H : Type} {enc : TypeId × Value → H} {W : World} {base : Nat} {b0 : Nat} {held : Bool} {v : Value} {d : DataW H} {ps : List MemPlace} {r : Reach}
    (hval : Value.okWide Try.prog W r b0 22 v) (hd : DataW.Trod enc Try.prog W base (fun _ => true) held 22 v d ps) :
    ∃ xs : List ByteArray, Row W v xs ∧ (∃ a n c, v = .slice a n c ∧ n ≤ c) ∧ xs.length ≤ 9223372036854775807 ∧ ∀ n ∈ xs, n.size ≤ maxLen := by
  obtain ⟨xs, h1, h2, h3⟩ := open_strs hval hd
  refine ⟨xs, h1, ?_, h2, h3⟩
  obtain ⟨a0, len, cap, rfl⟩ := okWide_slice Try.underlying22 hval
  obtain ⟨fuel, hf⟩ := hd
  rcases open_strings Try.underlying22 Try.underlying9 (by kernel_rfl) hf with ⟨hcs, _⟩ | ⟨a, len', cap', zs, hcs, _, hl, hm, hz, _, hcell, hwz⟩
  · simp [Value.cells] at hcs
    obtain ⟨rfl, rfl, rfl⟩ := hcs
    exact ⟨_, _, _, rfl, Nat.le_refl _⟩
  · simp [Value.cells] at hcs
    obtain ⟨rfl, rfl, rfl⟩ := hcs
    exact ⟨_, _, _, rfl, by omega⟩
end Go.Proofs.Ytmlpgfjopkobbaa.Strs
