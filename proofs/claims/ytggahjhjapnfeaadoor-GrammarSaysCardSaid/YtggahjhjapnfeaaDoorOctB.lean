/- Contracts of Put. Conditions: as each theorem states. -/
import Derived.Test.YtggahjhjapnfeaaDoorOctA
import Derived.Test.YtggahjhjapnfeaaDoorOctMath
namespace Go.Proofs.YtggahjhjapnfeaaDoor.Oct
open Go.RowKit Go.Lib Go.Proofs.YtggahjhjapnfeaaDoor.Byt

theorem set_zero (k i : Nat) (b : UInt8) (l : List UInt8) (h : i < k) :
    (List.replicate (k - i) 0 ++ l).set (k - 1 - i) b = List.replicate (k - (i + 1)) 0 ++ b :: l := by
  obtain ⟨m, rfl⟩ : ∃ m, k = m + 1 + i := ⟨k - 1 - i, by omega⟩
  rw [show m + 1 + i - i = m + 1 by omega, show m + 1 + i - 1 - i = m by omega, show m + 1 + i - (i + 1) = m by omega, List.replicate_succ', List.append_assoc, List.set_append_right _ _ (by simp)]
  simp
theorem get_zero (k i : Nat) (l : List UInt8) (h : i < k) : (List.replicate (k - i) (0 : UInt8) ++ l).getD (k - 1 - i) 0 = 0 := by
  rw [List.getD_eq_getElem?_getD, List.getElem?_append_left (by simp; omega), List.getElem?_replicate, if_pos (by omega)]
  rfl

theorem byte_at (n m : Nat) : (n : Int) / 2 ^ (8 * m) % 256 = ((UInt8.ofNat (n / 256 ^ m % 256)).toNat : Int) := by
  have e : (2 : Int) ^ (8 * m) = ((256 ^ m : Nat) : Int) := by rw [Int.pow_mul, Int.natCast_pow]; rfl
  rw [ofNat_toNat _ (by omega), e]
  omega

/-- The byte shifted out. -/
theorem putL_shift (n k : Nat) : UInt8.ofNat (n / 256 ^ k % 256) :: putL n k = putL n (k + 1) := rfl

end Go.Proofs.YtggahjhjapnfeaaDoor.Oct
