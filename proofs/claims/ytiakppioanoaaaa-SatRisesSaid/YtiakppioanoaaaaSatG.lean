/- The law SatRises as a contract over every input. Conditions: the arguments fit their kinds. -/
import Derived.Test.YtiakppioanoaaaaSatE
import Derived.RegionTactic
import Derived.BigRegion
import Derived.ChangeAlike
import Derived.WideKeyPair
namespace Go.Proofs.Ytiakppioanoaaaa.Sat
open Go.RowKit Go.Lib

theorem pairKey : Go.WideMaps.ArrKey Try.prog 28 3 2 := ⟨Try.underlying28, by kernel_rfl, by kernel_rfl, by kernel_rfl⟩

theorem md_comm (a b c : Int) : md a b c = md b a c := by unfold md; rw [Int.mul_comm]
theorem md_rises (x y c d : Int) (h : x ≤ y) : md x c d ≤ md y c d := by
  unfold md
  have h1 : max x 0 * max c 0 ≤ max y 0 * max c 0 := Int.mul_le_mul_of_nonneg_right (by omega) (by omega)
  have h2 := Int.ediv_le_ediv (c := max d 1) (by omega) h1
  omega
theorem md_falls (c d x y : Int) (h : x ≤ y) : md c d y ≤ md c d x := by
  unfold md
  have h0 : 0 ≤ max c 0 * max d 0 := Int.mul_nonneg (by omega) (by omega)
  generalize max c 0 * max d 0 = n at h0
  have hp : 1 ≤ max x 1 := by omega
  have hq : max x 1 ≤ max y 1 := by omega
  generalize max x 1 = p at hp hq
  generalize max y 1 = q at hq
  have h1 : 0 ≤ n / q := Int.ediv_nonneg h0 (by omega)
  have h2 : n / q * p ≤ n / q * q := Int.mul_le_mul_of_nonneg_left hq h1
  have h3 : n / q * q ≤ n := Int.ediv_mul_le n (by omega)
  have h4 : n / q ≤ n / p := by rw [Int.le_ediv_iff_mul_le (by omega)]; omega
  omega
theorem md_undo (x c : Int) (x1 : x ≤ 9223372036854775807) (hc : 1 ≤ c) : md x c c = max x 0 := by
  unfold md
  rw [show max c 0 = c by omega, show max c 1 = c by omega, Int.mul_ediv_cancel _ (by omega)]
  omega

theorem muldiv_is' (a b c v : Int) (w : World) (a0 : -9223372036854775808 ≤ a) (a1 : a ≤ 9223372036854775807) (b0 : -9223372036854775808 ≤ b) (b1 : b ≤ 9223372036854775807) (c0 : -9223372036854775808 ≤ c) (c1 : c ≤ 9223372036854775807) (hv : Hid (md a b c = v)) :
    Calls Try.prog 13 #[.int .i64 a, .int .i64 b, .int .i64 c] w fun e w' => e = .returned (.int .i64 v) ∧ w = w' :=
  (muldiv_is a b c v w a0 a1 b0 b1 c0 c1 hv).mono fun _ _ ⟨h1, h2⟩ => ⟨h1, h2.symm⟩

set_option maxHeartbeats 2000000 in
theorem rises_at (p q x y c d m1 m2 m3 m4 : Int) (p0 : -9223372036854775808 ≤ p) (p1 : p ≤ 9223372036854775807) (q0 : -9223372036854775808 ≤ q) (q1 : q ≤ 9223372036854775807) (c0 : -9223372036854775808 ≤ c) (c1 : c ≤ 9223372036854775807) (d0 : -9223372036854775808 ≤ d) (d1 : d ≤ 9223372036854775807)
    (h : (p ≤ q ∧ p = x ∧ q = y) ∨ (q < p ∧ q = x ∧ p = y)) (h1 : Hid (md x c d = m1)) (h2 : Hid (md y c d = m2)) (h3 : Hid (md c d x = m3)) (h4 : Hid (md c d y = m4)) (h5 : Hid (md c x d = m1)) (h12 : m1 ≤ m2) (h34 : m4 ≤ m3) (w : World)
    (h6 : Hid (c < 1 → md x c c = 0)) (h7 : Hid (1 ≤ c → md x c c = max x 0)) :
    Calls Try.prog 5 #[.agg #[.int .i64 p, .int .i64 q], .int .i64 c, .int .i64 d] w fun e w' => e = .returned (.bool true) ∧ Below w.heap.size w w' := by
  have X : (c < 1 ∨ (1 ≤ c ∧ x < 0) ∨ (1 ≤ c ∧ 0 ≤ x)) := by omega
  rcases h with ⟨hpq, rfl, rfl⟩ | ⟨hpq, rfl, rfl⟩
  · rcases X with hc | ⟨hc, hx⟩ | ⟨hc, hx⟩
    · have h8 : Hid (md p c c = 0) := Lib.hid (h6.out hc)
      by_cases hlt : p < q
      all_goals
        go_enter Try.func5, Try.ntmps5
        go_wp2
        go_quiet (fail)
        go_wp2_with (first
          | (go_at_call 13; with_reducible (first | refine (muldiv_is' _ _ _ _ _ ?_ ?_ ?_ ?_ ?_ ?_ h1).mono ?_ | refine (muldiv_is' _ _ _ _ _ ?_ ?_ ?_ ?_ ?_ ?_ h2).mono ?_ | refine (muldiv_is' _ _ _ _ _ ?_ ?_ ?_ ?_ ?_ ?_ h3).mono ?_ | refine (muldiv_is' _ _ _ _ _ ?_ ?_ ?_ ?_ ?_ ?_ h4).mono ?_ | refine (muldiv_is' _ _ _ _ _ ?_ ?_ ?_ ?_ ?_ ?_ h5).mono ?_ | refine (muldiv_is' _ _ _ _ _ ?_ ?_ ?_ ?_ ?_ ?_ h8).mono ?_); omega; omega; omega; omega; omega; omega; rintro e w' ⟨rfl, rfl⟩)
          | (go_at_call 19; refine (awake_any _).mono ?_; rintro e w' ⟨rfl, n, rfl⟩))
        go_ret
        exact ⟨rfl, bdrew (Below.refl _ _ |>.alloc (Nat.le_refl _) _) _⟩
    · have h8 : Hid (md p c c = 0) := Lib.hid (by rw [h7.out hc]; omega)
      by_cases hlt : p < q
      all_goals
        go_enter Try.func5, Try.ntmps5
        go_wp2
        go_quiet (fail)
        go_wp2_with (first
          | (go_at_call 13; with_reducible (first | refine (muldiv_is' _ _ _ _ _ ?_ ?_ ?_ ?_ ?_ ?_ h1).mono ?_ | refine (muldiv_is' _ _ _ _ _ ?_ ?_ ?_ ?_ ?_ ?_ h2).mono ?_ | refine (muldiv_is' _ _ _ _ _ ?_ ?_ ?_ ?_ ?_ ?_ h3).mono ?_ | refine (muldiv_is' _ _ _ _ _ ?_ ?_ ?_ ?_ ?_ ?_ h4).mono ?_ | refine (muldiv_is' _ _ _ _ _ ?_ ?_ ?_ ?_ ?_ ?_ h5).mono ?_ | refine (muldiv_is' _ _ _ _ _ ?_ ?_ ?_ ?_ ?_ ?_ h8).mono ?_); omega; omega; omega; omega; omega; omega; rintro e w' ⟨rfl, rfl⟩)
          | (go_at_call 19; refine (awake_any _).mono ?_; rintro e w' ⟨rfl, n, rfl⟩))
        go_ret
        exact ⟨rfl, bdrew (Below.refl _ _ |>.alloc (Nat.le_refl _) _) _⟩
    · have h8 : Hid (md p c c = p) := Lib.hid (by rw [h7.out hc]; omega)
      by_cases hlt : p < q
      all_goals
        go_enter Try.func5, Try.ntmps5
        go_wp2
        go_quiet (fail)
        go_wp2_with (first
          | (go_at_call 13; with_reducible (first | refine (muldiv_is' _ _ _ _ _ ?_ ?_ ?_ ?_ ?_ ?_ h1).mono ?_ | refine (muldiv_is' _ _ _ _ _ ?_ ?_ ?_ ?_ ?_ ?_ h2).mono ?_ | refine (muldiv_is' _ _ _ _ _ ?_ ?_ ?_ ?_ ?_ ?_ h3).mono ?_ | refine (muldiv_is' _ _ _ _ _ ?_ ?_ ?_ ?_ ?_ ?_ h4).mono ?_ | refine (muldiv_is' _ _ _ _ _ ?_ ?_ ?_ ?_ ?_ ?_ h5).mono ?_ | refine (muldiv_is' _ _ _ _ _ ?_ ?_ ?_ ?_ ?_ ?_ h8).mono ?_); omega; omega; omega; omega; omega; omega; rintro e w' ⟨rfl, rfl⟩)
          | (go_at_call 19; refine (awake_any _).mono ?_; rintro e w' ⟨rfl, n, rfl⟩))
        go_ret
        exact ⟨rfl, bdrew (Below.refl _ _ |>.alloc (Nat.le_refl _) _) _⟩
  · rcases X with hc | ⟨hc, hx⟩ | ⟨hc, hx⟩
    · have h8 : Hid (md q c c = 0) := Lib.hid (h6.out hc)
      have h9 : ¬ p < q := by omega
      go_enter Try.func5, Try.ntmps5
      go_wp2
      go_quiet (fail)
      go_wp2_with (first
        | (go_at_call 13; with_reducible (first | refine (muldiv_is' _ _ _ _ _ ?_ ?_ ?_ ?_ ?_ ?_ h1).mono ?_ | refine (muldiv_is' _ _ _ _ _ ?_ ?_ ?_ ?_ ?_ ?_ h2).mono ?_ | refine (muldiv_is' _ _ _ _ _ ?_ ?_ ?_ ?_ ?_ ?_ h3).mono ?_ | refine (muldiv_is' _ _ _ _ _ ?_ ?_ ?_ ?_ ?_ ?_ h4).mono ?_ | refine (muldiv_is' _ _ _ _ _ ?_ ?_ ?_ ?_ ?_ ?_ h5).mono ?_ | refine (muldiv_is' _ _ _ _ _ ?_ ?_ ?_ ?_ ?_ ?_ h8).mono ?_); omega; omega; omega; omega; omega; omega; rintro e w' ⟨rfl, rfl⟩)
        | (go_at_call 19; refine (awake_any _).mono ?_; rintro e w' ⟨rfl, n, rfl⟩))
      go_ret
      exact ⟨rfl, bdrew (Below.refl _ _ |>.alloc (Nat.le_refl _) _) _⟩
    · have h8 : Hid (md q c c = 0) := Lib.hid (by rw [h7.out hc]; omega)
      have h9 : ¬ p < q := by omega
      go_enter Try.func5, Try.ntmps5
      go_wp2
      go_quiet (fail)
      go_wp2_with (first
        | (go_at_call 13; with_reducible (first | refine (muldiv_is' _ _ _ _ _ ?_ ?_ ?_ ?_ ?_ ?_ h1).mono ?_ | refine (muldiv_is' _ _ _ _ _ ?_ ?_ ?_ ?_ ?_ ?_ h2).mono ?_ | refine (muldiv_is' _ _ _ _ _ ?_ ?_ ?_ ?_ ?_ ?_ h3).mono ?_ | refine (muldiv_is' _ _ _ _ _ ?_ ?_ ?_ ?_ ?_ ?_ h4).mono ?_ | refine (muldiv_is' _ _ _ _ _ ?_ ?_ ?_ ?_ ?_ ?_ h5).mono ?_ | refine (muldiv_is' _ _ _ _ _ ?_ ?_ ?_ ?_ ?_ ?_ h8).mono ?_); omega; omega; omega; omega; omega; omega; rintro e w' ⟨rfl, rfl⟩)
        | (go_at_call 19; refine (awake_any _).mono ?_; rintro e w' ⟨rfl, n, rfl⟩))
      go_ret
      exact ⟨rfl, bdrew (Below.refl _ _ |>.alloc (Nat.le_refl _) _) _⟩
    · have h8 : Hid (md q c c = q) := Lib.hid (by rw [h7.out hc]; omega)
      have h9 : ¬ p < q := by omega
      go_enter Try.func5, Try.ntmps5
      go_wp2
      go_quiet (fail)
      go_wp2_with (first
        | (go_at_call 13; with_reducible (first | refine (muldiv_is' _ _ _ _ _ ?_ ?_ ?_ ?_ ?_ ?_ h1).mono ?_ | refine (muldiv_is' _ _ _ _ _ ?_ ?_ ?_ ?_ ?_ ?_ h2).mono ?_ | refine (muldiv_is' _ _ _ _ _ ?_ ?_ ?_ ?_ ?_ ?_ h3).mono ?_ | refine (muldiv_is' _ _ _ _ _ ?_ ?_ ?_ ?_ ?_ ?_ h4).mono ?_ | refine (muldiv_is' _ _ _ _ _ ?_ ?_ ?_ ?_ ?_ ?_ h5).mono ?_ | refine (muldiv_is' _ _ _ _ _ ?_ ?_ ?_ ?_ ?_ ?_ h8).mono ?_); omega; omega; omega; omega; omega; omega; rintro e w' ⟨rfl, rfl⟩)
        | (go_at_call 19; refine (awake_any _).mono ?_; rintro e w' ⟨rfl, n, rfl⟩))
      go_ret
      exact ⟨rfl, bdrew (Below.refl _ _ |>.alloc (Nat.le_refl _) _) _⟩

theorem rises_walk (p q c d : Int) (wp : (Lit.int .i64 p).wf = true) (wq : (Lit.int .i64 q).wf = true) (wc : (Lit.int .i64 c).wf = true) (wd : (Lit.int .i64 d).wf = true) (w : World) :
    Calls Try.prog 5 #[.agg #[.int .i64 p, .int .i64 q], .int .i64 c, .int .i64 d] w fun e w' => e = .returned (.bool true) ∧ Below w.heap.size w w' := by
  obtain ⟨p0, p1⟩ := bd wp
  obtain ⟨q0, q1⟩ := bd wq
  obtain ⟨c0, c1⟩ := bd wc
  obtain ⟨d0, d1⟩ := bd wd
  have key : ∀ x y : Int, x ≤ y → x ≤ 9223372036854775807 → ((p ≤ q ∧ p = x ∧ q = y) ∨ (q < p ∧ q = x ∧ p = y)) →
      Calls Try.prog 5 #[.agg #[.int .i64 p, .int .i64 q], .int .i64 c, .int .i64 d] w fun e w' => e = .returned (.bool true) ∧ Below w.heap.size w w' :=
    fun x y hxy hx h => rises_at p q x y c d _ _ _ _ p0 p1 q0 q1 c0 c1 d0 d1 h (Lib.hid rfl) (Lib.hid rfl) (Lib.hid rfl) (Lib.hid rfl) (Lib.hid (md_comm c x d)) (md_rises x y c d hxy) (md_falls c d x y hxy) w
      (Lib.hid fun hc => md_neg x c c (Or.inr (by omega))) (Lib.hid fun hc => md_undo x c hx hc)
  by_cases hpq : p ≤ q
  · exact key p q hpq p1 (Or.inl ⟨hpq, rfl, rfl⟩)
  · exact key q p (by omega) q1 (Or.inr ⟨by omega, rfl, rfl⟩)

end Go.Proofs.Ytiakppioanoaaaa.Sat
