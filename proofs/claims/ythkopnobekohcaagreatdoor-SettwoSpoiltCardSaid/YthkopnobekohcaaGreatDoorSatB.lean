/- Contracts of the calls of package sat: the product, the division bit by bit, the quotient of a product, the greatest common divisor. Conditions: as each theorem states. -/
import Derived.Test.YthkopnobekohcaaGreatDoorSatA
namespace Go.Proofs.YthkopnobekohcaaGreatDoor.Sat
open Go.RowKit Go.Lib

theorem mul64_at (x y hi lo : Nat) (hx : x < 18446744073709551616) (hy : y < 18446744073709551616) (h : Hid (x * y = hi * 18446744073709551616 + lo)) (hl : lo < 18446744073709551616) (w : World) :
    Calls Tryz.prog 94 #[.int .u64 x, .int .u64 y] w fun e w' => e = .returned (.tuple #[.int .u64 (hi : Int), .int .u64 (lo : Int)]) ∧ w = w' := by
  refine (mul64_any x y hx hy w).mono fun e w' ⟨he, hw⟩ => ⟨?_, hw⟩
  have h' := h.out
  rw [he]
  exact ret_int2 (by rw [h']; omega) (by rw [h']; omega)

theorem split_prod (x y : Nat) (hx : x ≤ 9223372036854775808) (hy : y ≤ 9223372036854775808) :
    ∃ hi lo : Nat, Hid (x * y = hi * 18446744073709551616 + lo) ∧ lo < 18446744073709551616 ∧ hi < 18446744073709551616 := by
  refine ⟨x * y / 18446744073709551616, x * y % 18446744073709551616, Lib.hid (by omega), by omega, ?_⟩
  have := Nat.mul_le_mul hx hy
  omega

theorem abs_mul_same (a b : Int) (h : (a < 0) = (b < 0)) : a * b = ((a.natAbs * b.natAbs : Nat) : Int) := by
  rw [← Int.natAbs_mul]
  by_cases ha : a < 0
  · have hb : b < 0 := by rw [← h]; exact ha
    have := Int.mul_pos_of_neg_of_neg ha hb
    omega
  · have hb : ¬ b < 0 := by rw [← h]; exact ha
    have := Int.mul_nonneg (Int.not_lt.mp ha) (Int.not_lt.mp hb)
    omega
theorem abs_mul_other (a b : Int) (h : (a < 0) = ¬ (b < 0)) : a * b = -((a.natAbs * b.natAbs : Nat) : Int) := by
  rw [← Int.natAbs_mul]
  by_cases ha : a < 0
  · have hb : ¬ b < 0 := by rw [← h]; exact ha
    have := Int.mul_nonneg (a := -a) (b := b) (by omega) (by omega)
    rw [Int.neg_mul] at this
    omega
  · have hb : b < 0 := by simpa [ha] using h
    have := Int.mul_nonneg (a := a) (b := -b) (by omega) (by omega)
    rw [Int.mul_neg] at this
    omega

theorem mul_nn (a b : Int) (w : World) (a0 : -9223372036854775808 ≤ a) (a1 : a ≤ 9223372036854775807) (b0 : -9223372036854775808 ≤ b) (b1 : b ≤ 9223372036854775807) (ha : a < 0) (hb : b < 0) :
    Calls Tryz.prog 61 #[.int .i64 a, .int .i64 b] w fun e w' => e = .returned (.int .i64 (hold (a * b))) ∧ w = w' := by
  obtain ⟨hi, lo, hp, hlo, hhi⟩ := split_prod a.natAbs b.natAbs (by omega) (by omega)
  have he := abs_mul_same a b (by simp [ha, hb])
  rw [hp.out] at he
  have HE := Lib.hid he; clear he
  obtain ⟨V, hV⟩ : ∃ V : Int, hold (a * b) = V := ⟨_, rfl⟩
  rw [hV]
  have HV := Lib.hid hV; clear hV
  have da : decide (a < 0) = true := by simpa using ha
  have db : decide (b < 0) = true := by simpa using hb
  by_cases hh : 0 < hi
  all_goals by_cases hl : 9223372036854775808 < lo
  all_goals
    go_enter Tryz.func61, Tryz.ntmps61
    go_wp2_with (first
      | (go_at_call 95; refine (magnitude_any _ _ (by omega) (by omega)).mono ?_; rintro e w' ⟨rfl, rfl⟩)
      | (go_at_call 94; refine (mul64_at a.natAbs b.natAbs hi lo (by omega) (by omega) hp hlo _).mono ?_; rintro e w' ⟨rfl, rfl⟩)
      | (go_at_call 96; refine (held_any hi lo _ hhi hlo).mono ?_; rintro e w' ⟨rfl, rfl⟩))
    go_ret
    refine ⟨ret_int ?_, rfl⟩
    rw [← HV.out, HE.out]
    clear HV HE
    first
      | (simp only [hold]; (repeat' split) <;> omega)
      | (simp only [IntKind.wrap_u64, wrap64, hold]; (repeat' split) <;> omega)
      | (simp only [IntKind.wrap_u64, hold]; (repeat' split) <;> omega)

theorem mul_pp (a b : Int) (w : World) (a0 : -9223372036854775808 ≤ a) (a1 : a ≤ 9223372036854775807) (b0 : -9223372036854775808 ≤ b) (b1 : b ≤ 9223372036854775807) (ha : ¬ a < 0) (hb : ¬ b < 0) :
    Calls Tryz.prog 61 #[.int .i64 a, .int .i64 b] w fun e w' => e = .returned (.int .i64 (hold (a * b))) ∧ w = w' := by
  obtain ⟨hi, lo, hp, hlo, hhi⟩ := split_prod a.natAbs b.natAbs (by omega) (by omega)
  have he := abs_mul_same a b (by simp [ha, hb])
  rw [hp.out] at he
  have HE := Lib.hid he; clear he
  obtain ⟨V, hV⟩ : ∃ V : Int, hold (a * b) = V := ⟨_, rfl⟩
  rw [hV]
  have HV := Lib.hid hV; clear hV
  have da : decide (a < 0) = false := by simpa using ha
  have db : decide (b < 0) = false := by simpa using hb
  by_cases hh : 0 < hi
  all_goals by_cases hl : 9223372036854775808 < lo
  all_goals
    go_enter Tryz.func61, Tryz.ntmps61
    go_wp2_with (first
      | (go_at_call 95; refine (magnitude_any _ _ (by omega) (by omega)).mono ?_; rintro e w' ⟨rfl, rfl⟩)
      | (go_at_call 94; refine (mul64_at a.natAbs b.natAbs hi lo (by omega) (by omega) hp hlo _).mono ?_; rintro e w' ⟨rfl, rfl⟩)
      | (go_at_call 96; refine (held_any hi lo _ hhi hlo).mono ?_; rintro e w' ⟨rfl, rfl⟩))
    go_ret
    refine ⟨ret_int ?_, rfl⟩
    rw [← HV.out, HE.out]
    clear HV HE
    first
      | (simp only [hold]; (repeat' split) <;> omega)
      | (simp only [IntKind.wrap_u64, wrap64, hold]; (repeat' split) <;> omega)
      | (simp only [IntKind.wrap_u64, hold]; (repeat' split) <;> omega)

theorem mul_np (a b : Int) (w : World) (a0 : -9223372036854775808 ≤ a) (a1 : a ≤ 9223372036854775807) (b0 : -9223372036854775808 ≤ b) (b1 : b ≤ 9223372036854775807) (ha : a < 0) (hb : ¬ b < 0) :
    Calls Tryz.prog 61 #[.int .i64 a, .int .i64 b] w fun e w' => e = .returned (.int .i64 (hold (a * b))) ∧ w = w' := by
  obtain ⟨hi, lo, hp, hlo, hhi⟩ := split_prod a.natAbs b.natAbs (by omega) (by omega)
  have he := abs_mul_other a b (by simp [ha, hb])
  rw [hp.out] at he
  have HE := Lib.hid he; clear he
  obtain ⟨V, hV⟩ : ∃ V : Int, hold (a * b) = V := ⟨_, rfl⟩
  rw [hV]
  have HV := Lib.hid hV; clear hV
  have da : decide (a < 0) = true := by simpa using ha
  have db : decide (b < 0) = false := by simpa using hb
  by_cases hh : 0 < hi
  all_goals by_cases hl : 9223372036854775808 < lo
  all_goals
    go_enter Tryz.func61, Tryz.ntmps61
    go_wp2_with (first
      | (go_at_call 95; refine (magnitude_any _ _ (by omega) (by omega)).mono ?_; rintro e w' ⟨rfl, rfl⟩)
      | (go_at_call 94; refine (mul64_at a.natAbs b.natAbs hi lo (by omega) (by omega) hp hlo _).mono ?_; rintro e w' ⟨rfl, rfl⟩)
      | (go_at_call 96; refine (held_any hi lo _ hhi hlo).mono ?_; rintro e w' ⟨rfl, rfl⟩))
    go_ret
    refine ⟨ret_int ?_, rfl⟩
    rw [← HV.out, HE.out]
    clear HV HE
    first
      | (simp only [hold]; (repeat' split) <;> omega)
      | (simp only [IntKind.wrap_u64, wrap64, hold]; (repeat' split) <;> omega)
      | (simp only [IntKind.wrap_u64, hold]; (repeat' split) <;> omega)

theorem mul_pn (a b : Int) (w : World) (a0 : -9223372036854775808 ≤ a) (a1 : a ≤ 9223372036854775807) (b0 : -9223372036854775808 ≤ b) (b1 : b ≤ 9223372036854775807) (ha : ¬ a < 0) (hb : b < 0) :
    Calls Tryz.prog 61 #[.int .i64 a, .int .i64 b] w fun e w' => e = .returned (.int .i64 (hold (a * b))) ∧ w = w' := by
  obtain ⟨hi, lo, hp, hlo, hhi⟩ := split_prod a.natAbs b.natAbs (by omega) (by omega)
  have he := abs_mul_other a b (by simp [ha, hb])
  rw [hp.out] at he
  have HE := Lib.hid he; clear he
  obtain ⟨V, hV⟩ : ∃ V : Int, hold (a * b) = V := ⟨_, rfl⟩
  rw [hV]
  have HV := Lib.hid hV; clear hV
  have da : decide (a < 0) = false := by simpa using ha
  have db : decide (b < 0) = true := by simpa using hb
  by_cases hh : 0 < hi
  all_goals by_cases hl : 9223372036854775808 < lo
  all_goals
    go_enter Tryz.func61, Tryz.ntmps61
    go_wp2_with (first
      | (go_at_call 95; refine (magnitude_any _ _ (by omega) (by omega)).mono ?_; rintro e w' ⟨rfl, rfl⟩)
      | (go_at_call 94; refine (mul64_at a.natAbs b.natAbs hi lo (by omega) (by omega) hp hlo _).mono ?_; rintro e w' ⟨rfl, rfl⟩)
      | (go_at_call 96; refine (held_any hi lo _ hhi hlo).mono ?_; rintro e w' ⟨rfl, rfl⟩))
    go_ret
    refine ⟨ret_int ?_, rfl⟩
    rw [← HV.out, HE.out]
    clear HV HE
    first
      | (simp only [hold]; (repeat' split) <;> omega)
      | (simp only [IntKind.wrap_u64, wrap64, hold]; (repeat' split) <;> omega)
      | (simp only [IntKind.wrap_u64, hold]; (repeat' split) <;> omega)

theorem mul_any (a b : Int) (w : World) (a0 : -9223372036854775808 ≤ a) (a1 : a ≤ 9223372036854775807) (b0 : -9223372036854775808 ≤ b) (b1 : b ≤ 9223372036854775807) :
    Calls Tryz.prog 61 #[.int .i64 a, .int .i64 b] w fun e w' => e = .returned (.int .i64 (hold (a * b))) ∧ w = w' := by
  by_cases ha : a < 0
  · by_cases hb : b < 0
    · exact mul_nn a b w a0 a1 b0 b1 ha hb
    · exact mul_np a b w a0 a1 b0 b1 ha hb
  · by_cases hb : b < 0
    · exact mul_pn a b w a0 a1 b0 b1 ha hb
    · exact mul_pp a b w a0 a1 b0 b1 ha hb

theorem md_of (a b c : Int) (hi lo : Nat) (h : a.toNat * b.toNat = hi * 18446744073709551616 + lo) :
    md a b c = min 9223372036854775807 (((hi * 18446744073709551616 + lo) / (max c 1).toNat : Nat) : Int) := by
  unfold md
  have ea : max a 0 = (a.toNat : Int) := by omega
  have eb : max b 0 = (b.toNat : Int) := by omega
  have ec : max c 1 = ((max c 1).toNat : Int) := by omega
  rw [ea, eb, ← Int.natCast_mul, h]
  conv => lhs; rw [ec]
  rw [← Int.natCast_ediv]

theorem held_zero (l : Nat) (w : World) (h1 : l < 18446744073709551616) :
    Calls Tryz.prog 96 #[.int .u64 0, .int .u64 l] w fun e w' => e = .returned (.int .i64 (min 9223372036854775807 (l : Int))) ∧ w = w' := by
  have := held_any 0 l w (by omega) h1
  simpa using this
theorem quot_lt (h l c : Nat) (hc : h < c) (hl : l < 18446744073709551616) : (h * 18446744073709551616 + l) / c < 18446744073709551616 := by
  have := dpart_lt h l c 64 hc hl (by omega)
  rwa [dpart_end] at this

theorem gcd_step (x y : Nat) (_h : y ≠ 0) : Nat.gcd y (x % y) = Nat.gcd x y := by
  rw [Nat.gcd_comm x y, Nat.gcd_rec y x, Nat.gcd_comm]

end Go.Proofs.YthkopnobekohcaaGreatDoor.Sat
