/- Numerals: the library's are those of the tokens; the table that they are made by. Conditions: as each theorem states. -/
import Derived.Test.YthkopnobekohcaaGreatDoorPlainA
import Derived.Test.YthkopnobekohcaaGreatDoorShelf
import Derived.Lib.ItoaMem
import Derived.Lib.AppendIntMem
import Derived.Lib.LaidTab
namespace Go.Proofs.YthkopnobekohcaaGreatDoor.Ren
open Go.RowKit Go.Lib Go.Proofs.YthkopnobekohcaaGreatDoor.Lx

theorem dec_is : ∀ u : Nat, u < 18446744073709551616 → decDigits u = dcL u := by
  intro u
  induction u using Nat.strongRecOn with
  | _ u ih =>
    intro h
    by_cases h10 : u < 10
    · rw [decDigits_one h10, dcL_low h10]; rfl
    · rw [decDigits, dif_neg h10, dcL_high h10 h, ih (u / 10) (by omega) (by omega)]
      rfl
theorem itoa_is (n : Int) (h1 : -9223372036854775808 ≤ n) (h2 : n ≤ 9223372036854775807) : itoa n = nL2 n := by
  unfold itoa nL2 sL
  split
  · rw [dec_is _ (by omega)]; rfl
  · rw [dec_is _ (by omega), show n.toNat = n.natAbs by omega]; rfl
/-- The table of powers reads as the library lays it. -/
def Pw (w : World) : Prop := TabIs Tryz.prog w "internal/strconv.uint64pow10" .u64 pow10Tab
theorem Pw.next {w w' : World} (h : Pw w) (hb : Below w.heap.size w w') : Pw w' := by
  unfold Pw TabIs World.var? at *
  cases hg : Tryz.prog.globalNamed "internal/strconv.uint64pow10" with
  | none => simp [hg] at h
  | some g =>
    simp only [hg, Option.bind_some] at h ⊢
    have hlt : g < w.heap.size := by
      rcases Nat.lt_or_ge g w.heap.size with h' | h'
      · exact h'
      · rw [Array.getElem?_eq_none h'] at h; simp at h
    rw [hb.block g hlt]
    exact h
end Go.Proofs.YthkopnobekohcaaGreatDoor.Ren
