/- The statements of layer 1 as contracts over every input. Conditions: the arguments fit their kinds. -/
import Derived.Test.YtiakppioanoaaaaSatC
import Derived.OpenShut
namespace Go.Proofs.Ytiakppioanoaaaa.Sat
open Go.RowKit Go.Lib

theorem bdrew {B : Nat} {a w : World} (h : Below B a w) (n : Nat) : Below B a (w.drewN n) := ⟨h.os, h.tape, h.output, h.size, h.block⟩
theorem bd {n : Int} (h : (Lit.int .i64 n).wf = true) : -9223372036854775808 ≤ n ∧ n ≤ 9223372036854775807 := bounds_i64 h

theorem aw_add (w : World) : Calls Try.prog 7 #[.int .i64 9223372036854775807, .int .i64 1] w fun e w' => e = .returned (.int .i64 9223372036854775807) ∧ w = w' := by
  have h := add_any 9223372036854775807 1 w (by omega) (by omega) (by omega) (by omega)
  rwa [show hold (9223372036854775807 + 1) = 9223372036854775807 by decide] at h
theorem aw_sub (w : World) : Calls Try.prog 9 #[.int .i64 (-9223372036854775808), .int .i64 1] w fun e w' => e = .returned (.int .i64 (-9223372036854775808)) ∧ w = w' := by
  have h := sub_any (-9223372036854775808) 1 w (by omega) (by omega) (by omega) (by omega)
  rwa [show hold (-9223372036854775808 - 1) = -9223372036854775808 by decide] at h
theorem aw_mul (w : World) : Calls Try.prog 11 #[.int .i64 (-1), .int .i64 (-9223372036854775808)] w fun e w' => e = .returned (.int .i64 9223372036854775807) ∧ w = w' := by
  have h := mul_any (-1) (-9223372036854775808) w (by omega) (by omega) (by omega) (by omega)
  rwa [show hold (-1 * -9223372036854775808) = 9223372036854775807 by decide] at h
theorem aw_muldiv (w : World) : Calls Try.prog 13 #[.int .i64 10, .int .i64 10, .int .i64 3] w fun e w' => e = .returned (.int .i64 33) ∧ w = w' := by
  have h := muldiv_any 10 10 3 w (by omega) (by omega) (by omega) (by omega) (by omega) (by omega)
  rwa [show md 10 10 3 = 33 by decide] at h
theorem aw_gcd (w : World) : Calls Try.prog 17 #[.int .i64 12, .int .i64 18] w fun e w' => e = .returned (.int .i64 6) ∧ ∃ n, w' = w.drewN n := by
  have h := gcd_any 12 18 w (by omega) (by omega) (by omega) (by omega)
  rwa [show gd 12 18 = 6 by decide] at h

theorem awake_any (w : World) : Calls Try.prog 19 #[] w fun e w' => e = .returned (.bool true) ∧ ∃ n, w' = w.drewN n := by
  go_enter Try.func19, Try.ntmps19
  go_wp2_with (first
    | (go_at_call 7; refine (aw_add _).mono ?_; rintro e w' ⟨rfl, rfl⟩)
    | (go_at_call 9; refine (aw_sub _).mono ?_; rintro e w' ⟨rfl, rfl⟩)
    | (go_at_call 11; refine (aw_mul _).mono ?_; rintro e w' ⟨rfl, rfl⟩)
    | (go_at_call 13; refine (aw_muldiv _).mono ?_; rintro e w' ⟨rfl, rfl⟩)
    | (go_at_call 17; refine (aw_gcd _).mono ?_; rintro e w' ⟨rfl, n, rfl⟩))
  go_ret
  exact ⟨rfl, _, rfl⟩

set_option maxHeartbeats 1000000 in
theorem says_walk (a b c : Int) (wa : (Lit.int .i64 a).wf = true) (wb : (Lit.int .i64 b).wf = true) (wc : (Lit.int .i64 c).wf = true) (w : World) :
    Calls Try.prog 3 #[.int .i64 a, .int .i64 b, .int .i64 c] w fun e w' => e = .returned (.bool true) ∧ Below w.heap.size w w' := by
  obtain ⟨a0, a1⟩ := bd wa
  obtain ⟨b0, b1⟩ := bd wb
  obtain ⟨c0, c1⟩ := bd wc
  clear wa wb wc
  go_enter Try.func3, Try.ntmps3
  go_wp2_with (first
    | (go_at_call 7; refine (add_any a b _ a0 a1 b0 b1).mono ?_; rintro e w' ⟨rfl, rfl⟩)
    | (go_at_call 8; refine (radd_any a b _ a0 a1 b0 b1).mono ?_; rintro e w' ⟨rfl, rfl⟩)
    | (go_at_call 9; refine (sub_any a b _ a0 a1 b0 b1).mono ?_; rintro e w' ⟨rfl, rfl⟩)
    | (go_at_call 10; refine (rsub_any a b _ a0 a1 b0 b1).mono ?_; rintro e w' ⟨rfl, rfl⟩)
    | (go_at_call 11; refine (mul_any a b _ a0 a1 b0 b1).mono ?_; rintro e w' ⟨rfl, rfl⟩)
    | (go_at_call 12; refine (rmul_any a b _ a0 a1 b0 b1).mono ?_; rintro e w' ⟨rfl, rfl⟩)
    | (go_at_call 13; refine (muldiv_any a b c _ a0 a1 b0 b1 c0 c1).mono ?_; rintro e w' ⟨rfl, rfl⟩)
    | (go_at_call 14; refine (rmuldiv_any a b c _ a0 a1 b0 b1 c0 c1).mono ?_; rintro e w' ⟨rfl, rfl⟩)
    | (go_at_call 15; refine (clamp_any a b c _).mono ?_; rintro e w' ⟨rfl, rfl⟩)
    | (go_at_call 16; refine (rclamp_any a b c _).mono ?_; rintro e w' ⟨rfl, rfl⟩)
    | (go_at_call 17; refine (gcd_any a b _ a0 a1 b0 b1).mono ?_; rintro e w' ⟨rfl, n, rfl⟩)
    | (go_at_call 18; refine (rgcd_any a b _ a0 a1 b0 b1).mono ?_; rintro e w' ⟨rfl, n, rfl⟩)
    | (go_at_call 19; refine (awake_any _).mono ?_; rintro e w' ⟨rfl, n, rfl⟩))
  go_ret
  exact ⟨rfl, bdrew (Below.refl _ _) _⟩

end Go.Proofs.Ytiakppioanoaaaa.Sat
