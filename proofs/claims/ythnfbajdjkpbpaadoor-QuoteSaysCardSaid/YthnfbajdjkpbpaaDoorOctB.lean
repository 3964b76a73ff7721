/- Contracts of Put. Conditions: as each theorem states. -/
import Derived.Test.YthnfbajdjkpbpaaDoorOctA
import Derived.Test.YthnfbajdjkpbpaaDoorOctMath
namespace Go.Proofs.YthnfbajdjkpbpaaDoor.Oct
open Go.RowKit Go.Lib Go.Proofs.YthnfbajdjkpbpaaDoor.Byt

theorem set_zero (k i : Nat) (b : UInt8) (l : List UInt8) (h : i < k) :
    (List.replicate (k - i) 0 ++ l).set (k - 1 - i) b = List.replicate (k - (i + 1)) 0 ++ b :: l := by
  obtain ⟨m, rfl⟩ : ∃ m, k = m + 1 + i := ⟨k - 1 - i, by omega⟩
  rw [show m + 1 + i - i = m + 1 by omega, show m + 1 + i - 1 - i = m by omega, show m + 1 + i - (i + 1) = m by omega, List.replicate_succ', List.append_assoc, List.set_append_right _ _ (by simp)]
  simp
theorem get_zero (k i : Nat) (l : List UInt8) (h : i < k) : (List.replicate (k - i) (0 : UInt8) ++ l).getD (k - 1 - i) 0 = 0 := by
  rw [List.getD_eq_getElem?_getD, List.getElem?_append_left (by simp; omega), List.getElem?_replicate, if_pos (by omega)]
  rfl

theorem byte_at (n m : Nat) : (n : Int) / 2 ^ (8 * m) % 256 = ((UInt8.ofNat (n / 256 ^ m % 256)).toNat : Int) := by
  have e : (2 : Int) ^ (8 * m) = ((256 ^ m : Nat) : Int) := by rw [Int.pow_mul, Int.natCast_pow]; rfl
  rw [ofNat_toNat _ (by omega), e]
  omega

set_option maxHeartbeats 400000 in
theorem put_any (n : Nat) (z : Int) (k : Nat) (w : World) (_hn : n < 18446744073709551616) (hz : max (min z 8) 0 = (k : Int)) :
    Calls Tryd.prog 17 #[.int .u64 (n : Int), .int .i64 z] w fun e w' => e = .returned (.string ⟨(putL n k).toArray⟩) ∧ Below w.heap.size w w' := by
  have hk : k ≤ 8 := by omega
  go_enter Tryd.func17, Tryd.ntmps17
  go_wp2_with (with_reducible refine wpList_made _ rfl _ _ rfl w.heap.size w (Below.refl _ _) (Nat.le_refl _) _ _ k rfl rfl (by omega) (by omega) (by omega) ?_; intro w1 hown1 hb1)
  go_loopw [14, 6] (fun i j wr => ∃ m : Nat, m ≤ k ∧ i = .int .i64 m ∧ Own wr w.heap.size (.slice (some ⟨w.heap.size, 0, none⟩) k k) (List.replicate (k - m) 0 ++ putL n m) ∧ Below w.heap.size w wr)
    (fun i _ _ => k - (RowKit.intOf i).toNat)
  case atStart => exact ⟨0, Nat.zero_le _, rfl, by simpa [putL] using hown1, hb1⟩
  case round =>
    obtain ⟨m, hm, rfl, hown, hb⟩ := hrel
    by_cases hlt : m < k
    · have hc := hown.cell (k - 1 - m) (by omega)
      have hf := hown.free (k - 1 - m)
      rw [get_zero k m _ hlt] at hc
      have hcl := hown.set_ (k - 1 - m) (UInt8.ofNat (n / 256 ^ m % 256)) ((n : Int) / 2 ^ (8 * m) % 256) (by rw [byte_at n m])
      rw [set_zero k m _ _ hlt] at hcl
      have hbl := below_set hb (Nat.le_refl _) (k - 1 - m) (.int .u8 ((n : Int) / 2 ^ (8 * m) % 256))
      go_wp2_with fail
      go_roundw
      case rel => exact ⟨m + 1, by omega, by go_num, hcl, hbl⟩
      case measure => simp [RowKit.intOf]; omega
    · obtain rfl : m = k := by omega
      rw [Nat.sub_self, List.replicate_zero, List.nil_append] at hown
      go_wp2_with (with_reducible refine wpList_string _ rfl _ rfl _ _ _ rfl hown ?_)
      go_ret
      exact ⟨rfl, hb⟩

/-- The byte shifted out. -/
theorem putL_shift (n k : Nat) : UInt8.ofNat (n / 256 ^ k % 256) :: putL n k = putL n (k + 1) := rfl

end Go.Proofs.YthnfbajdjkpbpaaDoor.Oct
