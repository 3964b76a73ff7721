/- The law SatPlain as a contract over every input. Conditions: the arguments fit their kinds. -/
import Derived.Test.YtiakppioanoaaaaSatD
namespace Go.Proofs.Ytiakppioanoaaaa.Sat
open Go.RowKit Go.Lib

theorem add_plain (a b : Int) (w : World) (a0 : -9223372036854775808 ≤ a) (a1 : a ≤ 9223372036854775807) (b0 : -9223372036854775808 ≤ b) (b1 : b ≤ 9223372036854775807) (h0 : -9223372036854775808 ≤ a + b) (h1 : a + b ≤ 9223372036854775807) :
    Calls Try.prog 7 #[.int .i64 a, .int .i64 b] w fun e w' => e = .returned (.int .i64 (a + b)) ∧ w = w' := by
  have h := add_any a b w a0 a1 b0 b1
  rwa [show hold (a + b) = a + b by unfold hold; rw [if_neg (by omega), if_neg (by omega)]] at h
theorem sub_plain (a b : Int) (w : World) (a0 : -9223372036854775808 ≤ a) (a1 : a ≤ 9223372036854775807) (b0 : -9223372036854775808 ≤ b) (b1 : b ≤ 9223372036854775807) (h0 : -9223372036854775808 ≤ a - b) (h1 : a - b ≤ 9223372036854775807) :
    Calls Try.prog 9 #[.int .i64 a, .int .i64 b] w fun e w' => e = .returned (.int .i64 (a - b)) ∧ w = w' := by
  have h := sub_any a b w a0 a1 b0 b1
  rwa [show hold (a - b) = a - b by unfold hold; rw [if_neg (by omega), if_neg (by omega)]] at h
theorem mul_plain (a b : Int) (w : World) (a0 : -9223372036854775808 ≤ a) (a1 : a ≤ 9223372036854775807) (b0 : -9223372036854775808 ≤ b) (b1 : b ≤ 9223372036854775807) (h0 : -9223372036854775808 ≤ a * b) (h1 : a * b ≤ 9223372036854775807) :
    Calls Try.prog 11 #[.int .i64 a, .int .i64 b] w fun e w' => e = .returned (.int .i64 (a * b)) ∧ w = w' := by
  have h := mul_any a b w a0 a1 b0 b1
  rwa [show hold (a * b) = a * b by unfold hold; rw [if_neg (by omega), if_neg (by omega)]] at h
theorem muldiv_is (a b c v : Int) (w : World) (a0 : -9223372036854775808 ≤ a) (a1 : a ≤ 9223372036854775807) (b0 : -9223372036854775808 ≤ b) (b1 : b ≤ 9223372036854775807) (c0 : -9223372036854775808 ≤ c) (c1 : c ≤ 9223372036854775807) (hv : Hid (md a b c = v)) :
    Calls Try.prog 13 #[.int .i64 a, .int .i64 b, .int .i64 c] w fun e w' => e = .returned (.int .i64 v) ∧ w' = w := by
  rw [← hv.out]
  exact (muldiv_any a b c w a0 a1 b0 b1 c0 c1).mono fun _ _ ⟨h1, h2⟩ => ⟨h1, h2.symm⟩

theorem prod_range (a b : Int) (a0 : -2147483648 ≤ a) (a1 : a ≤ 2147483647) (b0 : -2147483648 ≤ b) (b1 : b ≤ 2147483647) : -4611686018427387904 ≤ a * b ∧ a * b ≤ 4611686018427387904 := by
  have h : (a * b).natAbs ≤ 2147483648 * 2147483648 := by
    rw [Int.natAbs_mul]; exact Nat.mul_le_mul (by omega) (by omega)
  omega

theorem md_neg (a b c : Int) (h : a ≤ 0 ∨ b ≤ 0) : md a b c = 0 := by
  unfold md
  have : max a 0 * max b 0 = 0 := by
    rcases h with h | h
    · rw [show max a 0 = 0 by omega, Int.zero_mul]
    · rw [show max b 0 = 0 by omega, Int.mul_zero]
  rw [this, Int.zero_ediv]; omega
theorem md_pos (a b c : Int) (ha : 0 ≤ a) (hb : 0 ≤ b) (hc : 1 ≤ c) (h1 : a * b ≤ 4611686018427387904) : md a b c = (a * b).tdiv c := by
  unfold md
  have h0 := Int.mul_nonneg ha hb
  rw [show max a 0 = a by omega, show max b 0 = b by omega, show max c 1 = c by omega, Int.tdiv_eq_ediv_of_nonneg h0]
  have := Int.ediv_le_self c h0
  omega

theorem plain_walk (a b z : Int) (wa : (Lit.int .i32 a).wf = true) (wb : (Lit.int .i32 b).wf = true) (wz : (Lit.int .u32 z).wf = true) (w : World) :
    Calls Try.prog 4 #[.int .i32 a, .int .i32 b, .int .u32 z] w fun e w' => e = .returned (.bool true) ∧ Below w.heap.size w w' := by
  obtain ⟨a0, a1⟩ := bounds_i32 wa
  obtain ⟨b0, b1⟩ := bounds_i32 wb
  obtain ⟨z0, z1⟩ := bounds_u32 wz
  clear wa wb wz
  obtain ⟨p0, p1⟩ := prod_range a b a0 a1 b0 b1
  by_cases hz : 1 ≤ z
  · by_cases h : 0 ≤ a ∧ 0 ≤ b
    · obtain ⟨ha, hb⟩ := h
      have HM : Hid (md a b z = (a * b).tdiv z) := Lib.hid (md_pos a b z ha hb hz p1)
      have HN := HM
      go_enter Try.func4, Try.ntmps4
      go_wp2_with (first
        | (go_at_call 7; refine (add_plain _ _ _ (by omega) (by omega) (by omega) (by omega) (by omega) (by omega)).mono ?_; rintro e w' ⟨rfl, rfl⟩)
        | (go_at_call 9; refine (sub_plain _ _ _ (by omega) (by omega) (by omega) (by omega) (by omega) (by omega)).mono ?_; rintro e w' ⟨rfl, rfl⟩)
        | (go_at_call 11; refine (mul_plain _ _ _ (by omega) (by omega) (by omega) (by omega) (by omega) (by omega)).mono ?_; rintro e w' ⟨rfl, rfl⟩))
      go_quiet (first
        | (go_at_call 13; exact Calls.quiet_of_same (muldiv_is _ _ _ _ _ (by omega) (by omega) (by omega) (by omega) (by omega) (by omega) HM))
        | (go_at_call 13; exact Calls.quiet_of_same (muldiv_is _ _ _ _ _ (by omega) (by omega) (by omega) (by omega) (by omega) (by omega) HN))
        | (go_at_call 19; exact Calls.quiet_of (awake_any _)))
      go_wp2
      go_ret
      exact ⟨rfl, bdrew (Below.refl _ _) _⟩
    · have HM : Hid (md a b z = 0) := Lib.hid (md_neg a b z (by omega))
      by_cases ha : 0 ≤ a
      · have hb : b < 0 := by omega
        have HN : Hid (md a 0 z = 0) := Lib.hid (md_neg _ _ z (by omega))
        clear h
        go_enter Try.func4, Try.ntmps4
        go_wp2_with (first
          | (go_at_call 7; refine (add_plain _ _ _ (by omega) (by omega) (by omega) (by omega) (by omega) (by omega)).mono ?_; rintro e w' ⟨rfl, rfl⟩)
          | (go_at_call 9; refine (sub_plain _ _ _ (by omega) (by omega) (by omega) (by omega) (by omega) (by omega)).mono ?_; rintro e w' ⟨rfl, rfl⟩)
          | (go_at_call 11; refine (mul_plain _ _ _ (by omega) (by omega) (by omega) (by omega) (by omega) (by omega)).mono ?_; rintro e w' ⟨rfl, rfl⟩))
        go_quiet (first
          | (go_at_call 13; exact Calls.quiet_of_same (muldiv_is _ _ _ _ _ (by omega) (by omega) (by omega) (by omega) (by omega) (by omega) HM))
          | (go_at_call 13; exact Calls.quiet_of_same (muldiv_is _ _ _ _ _ (by omega) (by omega) (by omega) (by omega) (by omega) (by omega) HN))
          | (go_at_call 19; exact Calls.quiet_of (awake_any _)))
        go_wp2
        go_ret
        exact ⟨rfl, bdrew (Below.refl _ _) _⟩
      · by_cases hb : 0 ≤ b
        · have HN : Hid (md 0 b z = 0) := Lib.hid (md_neg _ _ z (by omega))
          clear h
          go_enter Try.func4, Try.ntmps4
          go_wp2_with (first
            | (go_at_call 7; refine (add_plain _ _ _ (by omega) (by omega) (by omega) (by omega) (by omega) (by omega)).mono ?_; rintro e w' ⟨rfl, rfl⟩)
            | (go_at_call 9; refine (sub_plain _ _ _ (by omega) (by omega) (by omega) (by omega) (by omega) (by omega)).mono ?_; rintro e w' ⟨rfl, rfl⟩)
            | (go_at_call 11; refine (mul_plain _ _ _ (by omega) (by omega) (by omega) (by omega) (by omega) (by omega)).mono ?_; rintro e w' ⟨rfl, rfl⟩))
          go_quiet (first
            | (go_at_call 13; exact Calls.quiet_of_same (muldiv_is _ _ _ _ _ (by omega) (by omega) (by omega) (by omega) (by omega) (by omega) HM))
            | (go_at_call 13; exact Calls.quiet_of_same (muldiv_is _ _ _ _ _ (by omega) (by omega) (by omega) (by omega) (by omega) (by omega) HN))
            | (go_at_call 19; exact Calls.quiet_of (awake_any _)))
          go_wp2
          go_ret
          exact ⟨rfl, bdrew (Below.refl _ _) _⟩
        · have HN : Hid (md 0 0 z = 0) := Lib.hid (md_neg _ _ z (by omega))
          clear h
          go_enter Try.func4, Try.ntmps4
          go_wp2_with (first
            | (go_at_call 7; refine (add_plain _ _ _ (by omega) (by omega) (by omega) (by omega) (by omega) (by omega)).mono ?_; rintro e w' ⟨rfl, rfl⟩)
            | (go_at_call 9; refine (sub_plain _ _ _ (by omega) (by omega) (by omega) (by omega) (by omega) (by omega)).mono ?_; rintro e w' ⟨rfl, rfl⟩)
            | (go_at_call 11; refine (mul_plain _ _ _ (by omega) (by omega) (by omega) (by omega) (by omega) (by omega)).mono ?_; rintro e w' ⟨rfl, rfl⟩))
          go_quiet (first
            | (go_at_call 13; exact Calls.quiet_of_same (muldiv_is _ _ _ _ _ (by omega) (by omega) (by omega) (by omega) (by omega) (by omega) HM))
            | (go_at_call 13; exact Calls.quiet_of_same (muldiv_is _ _ _ _ _ (by omega) (by omega) (by omega) (by omega) (by omega) (by omega) HN))
            | (go_at_call 19; exact Calls.quiet_of (awake_any _)))
          go_wp2
          go_ret
          exact ⟨rfl, bdrew (Below.refl _ _) _⟩
  · by_cases h : 0 ≤ a ∧ 0 ≤ b
    · obtain ⟨ha, hb⟩ := h
      have HM : Hid (md a b 1 = a * b) := Lib.hid (by rw [md_pos a b 1 ha hb (by omega) p1, Int.tdiv_one])
      have HN := HM
      go_enter Try.func4, Try.ntmps4
      go_wp2_with (first
        | (go_at_call 7; refine (add_plain _ _ _ (by omega) (by omega) (by omega) (by omega) (by omega) (by omega)).mono ?_; rintro e w' ⟨rfl, rfl⟩)
        | (go_at_call 9; refine (sub_plain _ _ _ (by omega) (by omega) (by omega) (by omega) (by omega) (by omega)).mono ?_; rintro e w' ⟨rfl, rfl⟩)
        | (go_at_call 11; refine (mul_plain _ _ _ (by omega) (by omega) (by omega) (by omega) (by omega) (by omega)).mono ?_; rintro e w' ⟨rfl, rfl⟩))
      go_quiet (first
        | (go_at_call 13; exact Calls.quiet_of_same (muldiv_is _ _ _ _ _ (by omega) (by omega) (by omega) (by omega) (by omega) (by omega) HM))
        | (go_at_call 13; exact Calls.quiet_of_same (muldiv_is _ _ _ _ _ (by omega) (by omega) (by omega) (by omega) (by omega) (by omega) HN))
        | (go_at_call 19; exact Calls.quiet_of (awake_any _)))
      go_wp2
      go_ret
      exact ⟨rfl, bdrew (Below.refl _ _) _⟩
    · have HM : Hid (md a b 1 = 0) := Lib.hid (md_neg a b 1 (by omega))
      by_cases ha : 0 ≤ a
      · have hb : b < 0 := by omega
        have HN : Hid (md a 0 1 = 0) := Lib.hid (md_neg _ _ 1 (by omega))
        clear h
        go_enter Try.func4, Try.ntmps4
        go_wp2_with (first
          | (go_at_call 7; refine (add_plain _ _ _ (by omega) (by omega) (by omega) (by omega) (by omega) (by omega)).mono ?_; rintro e w' ⟨rfl, rfl⟩)
          | (go_at_call 9; refine (sub_plain _ _ _ (by omega) (by omega) (by omega) (by omega) (by omega) (by omega)).mono ?_; rintro e w' ⟨rfl, rfl⟩)
          | (go_at_call 11; refine (mul_plain _ _ _ (by omega) (by omega) (by omega) (by omega) (by omega) (by omega)).mono ?_; rintro e w' ⟨rfl, rfl⟩))
        go_quiet (first
          | (go_at_call 13; exact Calls.quiet_of_same (muldiv_is _ _ _ _ _ (by omega) (by omega) (by omega) (by omega) (by omega) (by omega) HM))
          | (go_at_call 13; exact Calls.quiet_of_same (muldiv_is _ _ _ _ _ (by omega) (by omega) (by omega) (by omega) (by omega) (by omega) HN))
          | (go_at_call 19; exact Calls.quiet_of (awake_any _)))
        go_wp2
        go_ret
        exact ⟨rfl, bdrew (Below.refl _ _) _⟩
      · by_cases hb : 0 ≤ b
        · have HN : Hid (md 0 b 1 = 0) := Lib.hid (md_neg _ _ 1 (by omega))
          clear h
          go_enter Try.func4, Try.ntmps4
          go_wp2_with (first
            | (go_at_call 7; refine (add_plain _ _ _ (by omega) (by omega) (by omega) (by omega) (by omega) (by omega)).mono ?_; rintro e w' ⟨rfl, rfl⟩)
            | (go_at_call 9; refine (sub_plain _ _ _ (by omega) (by omega) (by omega) (by omega) (by omega) (by omega)).mono ?_; rintro e w' ⟨rfl, rfl⟩)
            | (go_at_call 11; refine (mul_plain _ _ _ (by omega) (by omega) (by omega) (by omega) (by omega) (by omega)).mono ?_; rintro e w' ⟨rfl, rfl⟩))
          go_quiet (first
            | (go_at_call 13; exact Calls.quiet_of_same (muldiv_is _ _ _ _ _ (by omega) (by omega) (by omega) (by omega) (by omega) (by omega) HM))
            | (go_at_call 13; exact Calls.quiet_of_same (muldiv_is _ _ _ _ _ (by omega) (by omega) (by omega) (by omega) (by omega) (by omega) HN))
            | (go_at_call 19; exact Calls.quiet_of (awake_any _)))
          go_wp2
          go_ret
          exact ⟨rfl, bdrew (Below.refl _ _) _⟩
        · have HN : Hid (md 0 0 1 = 0) := Lib.hid (md_neg _ _ 1 (by omega))
          clear h
          go_enter Try.func4, Try.ntmps4
          go_wp2_with (first
            | (go_at_call 7; refine (add_plain _ _ _ (by omega) (by omega) (by omega) (by omega) (by omega) (by omega)).mono ?_; rintro e w' ⟨rfl, rfl⟩)
            | (go_at_call 9; refine (sub_plain _ _ _ (by omega) (by omega) (by omega) (by omega) (by omega) (by omega)).mono ?_; rintro e w' ⟨rfl, rfl⟩)
            | (go_at_call 11; refine (mul_plain _ _ _ (by omega) (by omega) (by omega) (by omega) (by omega) (by omega)).mono ?_; rintro e w' ⟨rfl, rfl⟩))
          go_quiet (first
            | (go_at_call 13; exact Calls.quiet_of_same (muldiv_is _ _ _ _ _ (by omega) (by omega) (by omega) (by omega) (by omega) (by omega) HM))
            | (go_at_call 13; exact Calls.quiet_of_same (muldiv_is _ _ _ _ _ (by omega) (by omega) (by omega) (by omega) (by omega) (by omega) HN))
            | (go_at_call 19; exact Calls.quiet_of (awake_any _)))
          go_wp2
          go_ret
          exact ⟨rfl, bdrew (Below.refl _ _) _⟩

end Go.Proofs.Ytiakppioanoaaaa.Sat
