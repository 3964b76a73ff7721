/- From a row's listed variables to the two tables of unicode/utf8; how a slice of ints that came in is opened. Conditions: as each theorem states. -/
import Derived.Test.YtccihfolhkmgfaaDoorUtfF
import Derived.ProofKit
import Derived.OpenShut
import Derived.WideShapes
import Derived.ChangeSlices
import Derived.LaidMore
import Derived.Lib.LaidU8T
import Derived.PinnedBridge
namespace Go.Proofs.YtccihfolhkmgfaaDoor.Utf
open Go.ChangeShapes Go.WideShapes Go.ChangeAt Go.RowKit Go.Lib

theorem tabs_of {W : World} (h : laidMetH Tryd.prog Rows.utfSaysRow.laid W) : Tabs W := by
  rw [MakeChecks.laidMetH_plain _ _ _ (by kernel_rfl)] at h
  have e1 : (Rows.laid_unicode_utf8_acceptRanges : DataW Unit) = Lib.acceptData := by kernel_rfl
  have e2 : Rows.laid_unicode_utf8_first = Lib.firstData := Pinned.utf8First_eq
  have h1 := Lib.laidMet.reads h (.head _)
  have h2 := Lib.laidMet.reads h (.tail _ (.head _))
  rw [e1] at h1
  rw [e2] at h2
  exact utf8Tabs_of_readsT (U8Types.of260 Tryd.lays260) ⟨by kernel_rfl, by kernel_rfl, by kernel_rfl, by kernel_rfl, by kernel_rfl, by kernel_rfl, by kernel_rfl⟩ h2 h1

theorem open_nums {H : Type} {enc : TypeId × Value → H} {W : World} {base : Nat} {b0 : Nat} {held : Bool} {v : Value} {d : DataW H} {ps : List MemPlace} {r : Reach}
    (hval : Value.okWide Tryd.prog W r b0 22 v) (hd : DataW.Trod enc Tryd.prog W base (fun _ => true) held 22 v d ps) :
    ∃ xs : List Int, Num.Row W v xs ∧ xs.length ≤ 9223372036854775807 ∧ ∀ n ∈ xs, -9223372036854775808 ≤ n ∧ n ≤ 9223372036854775807 := by
  obtain ⟨a0, len, cap, rfl⟩ := okWide_slice Tryd.underlying22 hval
  obtain ⟨fuel, hf⟩ := hd
  rcases open_ints Tryd.underlying22 Tryd.underlying3 (by kernel_rfl) hf with ⟨hcs, _⟩ | ⟨a, len', cap', zs, hcs, _, hl, hm, hz, _, hcell, hwz⟩
  · simp [Value.cells] at hcs
    obtain ⟨rfl, rfl, rfl⟩ := hcs
    exact ⟨[], .inl ⟨rfl, _, _, rfl⟩, by simp, fun n hn => by cases hn⟩
  · simp [Value.cells] at hcs
    obtain ⟨rfl, rfl, rfl⟩ := hcs
    simp only [if_true] at hz
    have hlen : (zs.take len).length = len := by rw [List.length_take]; omega
    refine ⟨zs.take len, ?_, by rw [hlen]; unfold maxLen at hm; omega, fun n hn => bounds_i64 (hwz n (List.mem_of_mem_take hn))⟩
    by_cases h0 : len = 0
    · subst h0
      exact .inl ⟨List.take_zero, _, _, rfl⟩
    · obtain ⟨b, off, spot⟩ := a
      have hspot : spot = none := by simpa [Addr.add] using World.cell?_spot (hcell 0 (by omega))
      subst hspot
      refine .inr ⟨b, off, cap, by rw [hlen], fun j hj => ?_⟩
      have hc := hcell j (by omega)
      have e : ((⟨b, off, none⟩ : Addr).add j) = ⟨b, off + j, none⟩ := by
        rcases j with _ | j <;> simp [Addr.add]
      rw [e] at hc
      rw [hc]
      have e2 : (zs.take len).getD j 0 = zs.getD j 0 := by
        rw [List.getD, List.getD, List.getElem?_take_of_lt (by omega)]
      rw [e2]

theorem says_law {W : World} (s : ByteArray) (i : Int) (v : Value) (xs : List Int) (_ws : s.size ≤ maxLen) (_wi : (Lit.int .i64 i).wf = true) (hr : Num.Row W v xs) (hz : xs.length ≤ 9223372036854775807) (hbd : ∀ n ∈ xs, -9223372036854775808 ≤ n ∧ n ≤ 9223372036854775807) (hT : Tabs W) :
    Calls Tryd.prog 3 #[.string s, .int .i64 i, v] W fun e w' => e = .returned (.bool true) ∧ Below W.heap.size W w' := says_walk s i v xs W hT hr hz hbd
theorem back_law {W : World} (s : ByteArray) (v : Value) (xs : List Int) (_ws : s.size ≤ maxLen) (hr : Num.Row W v xs) (hz : xs.length ≤ 9223372036854775807) (_hbd : ∀ n ∈ xs, -9223372036854775808 ≤ n ∧ n ≤ 9223372036854775807) (hT : Tabs W) :
    Calls Tryd.prog 4 #[.string s, v] W fun e w' => e = .returned (.bool true) ∧ Below W.heap.size W w' := back_walk s v xs W hT hr hz
theorem goes_law {W : World} (s t : ByteArray) (_ws : s.size ≤ maxLen) (_wt : t.size ≤ maxLen) (hT : Tabs W) :
    Calls Tryd.prog 5 #[.string s, .string t] W fun e w' => e = .returned (.bool true) ∧ Below W.heap.size W w' := goes_walk s t W hT
end Go.Proofs.YtccihfolhkmgfaaDoor.Utf
