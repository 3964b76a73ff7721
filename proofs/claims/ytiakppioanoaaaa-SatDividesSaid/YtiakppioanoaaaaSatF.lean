/- The law SatDivides as a contract over every input. Conditions: the arguments fit their kinds. -/
import Derived.Test.YtiakppioanoaaaaSatD
namespace Go.Proofs.Ytiakppioanoaaaa.Sat
open Go.RowKit Go.Lib

theorem gd_zero (a b : Int) (ha : a ≤ 0) (hb : b ≤ 0) : gd a b = 0 := by
  unfold gd
  rw [show a.toNat = 0 by omega, show b.toNat = 0 by omega]; rfl
theorem gd_pos (a b : Int) (h : 0 < a ∨ 0 < b) : 1 ≤ gd a b := by
  unfold gd
  have : 0 < Nat.gcd a.toNat b.toNat := by
    rcases h with h | h
    · exact Nat.gcd_pos_of_pos_left _ (by omega)
    · exact Nat.gcd_pos_of_pos_right _ (by omega)
  omega
theorem gd_left (a b : Int) (ha : 0 ≤ a) : a % gd a b = 0 := by
  unfold gd
  obtain ⟨k, hk⟩ := Nat.gcd_dvd_left a.toNat b.toNat
  have : a = (a.toNat : Int) := by omega
  conv => lhs; lhs; rw [this, hk]
  rw [Int.natCast_mul, Int.mul_emod_right]
theorem gd_right (a b : Int) (hb : 0 ≤ b) : b % gd a b = 0 := by
  unfold gd
  obtain ⟨k, hk⟩ := Nat.gcd_dvd_right a.toNat b.toNat
  have : b = (b.toNat : Int) := by omega
  conv => lhs; lhs; rw [this, hk]
  rw [Int.natCast_mul, Int.mul_emod_right]
theorem gd_least (a b d : Int) (hd : 1 ≤ d) (ha : a < 0 ∨ a % d = 0) (hb : b < 0 ∨ b % d = 0) : gd a b % d = 0 := by
  unfold gd
  have e : ∀ c : Int, (c < 0 ∨ c % d = 0) → d.toNat ∣ c.toNat := by
    intro c hc
    by_cases h : c < 0
    · rw [show c.toNat = 0 by omega]; exact Nat.dvd_zero _
    · have hm : c % d = 0 := by omega
      apply Nat.dvd_of_mod_eq_zero
      have : ((c.toNat % d.toNat : Nat) : Int) = c % d := by
        rw [Int.natCast_emod, Int.toNat_of_nonneg (by omega), Int.toNat_of_nonneg (by omega)]
      omega
  have hg := Nat.dvd_gcd (e a ha) (e b hb)
  have := Nat.mod_eq_zero_of_dvd hg
  have h2 : ((Nat.gcd a.toNat b.toNat % d.toNat : Nat) : Int) = (Nat.gcd a.toNat b.toNat : Nat) % d := by
    rw [Int.natCast_emod, Int.toNat_of_nonneg (a := d) (by omega)]
  omega

theorem gcd_is (a b v : Int) (w : World) (a0 : -9223372036854775808 ≤ a) (a1 : a ≤ 9223372036854775807) (b0 : -9223372036854775808 ≤ b) (b1 : b ≤ 9223372036854775807) (h : Hid (gd a b = v)) :
    Calls Try.prog 17 #[.int .i64 a, .int .i64 b] w fun e w' => e = .returned (.int .i64 v) ∧ ∃ n, w' = w.drewN n := by
  rw [← h.out]; exact gcd_any a b w a0 a1 b0 b1

theorem divides_zero (a b d : Int) (w : World) (a0 : -9223372036854775808 ≤ a) (a1 : a ≤ 9223372036854775807) (b0 : -9223372036854775808 ≤ b) (b1 : b ≤ 9223372036854775807) (ha : a ≤ 0) (hb : b ≤ 0) :
    Calls Try.prog 6 #[.int .i64 a, .int .i64 b, .int .i64 d] w fun e w' => e = .returned (.bool true) ∧ Below w.heap.size w w' := by
  have HG : Hid (gd a b = 0) := Lib.hid (gd_zero a b ha hb)
  by_cases ha' : a < 0
  all_goals by_cases hb' : b < 0
  all_goals
    go_enter Try.func6, Try.ntmps6
    go_wp2_with (first
      | (go_at_call 17; refine (gcd_is a b 0 _ a0 a1 b0 b1 HG).mono ?_; rintro e w' ⟨rfl, n, rfl⟩)
      | (go_at_call 19; refine (awake_any _).mono ?_; rintro e w' ⟨rfl, n, rfl⟩))
    go_ret
    exact ⟨rfl, bdrew (Below.refl _ _) _⟩

set_option maxHeartbeats 4000000 in
theorem divides_pos (a b d g : Int) (w : World) (a0 : -9223372036854775808 ≤ a) (a1 : a ≤ 9223372036854775807) (b0 : -9223372036854775808 ≤ b) (b1 : b ≤ 9223372036854775807) (d0 : -9223372036854775808 ≤ d) (d1 : d ≤ 9223372036854775807)
    (h : 0 < a ∨ 0 < b) (HG : Hid (gd a b = g)) (g0 : 1 ≤ g) (g1 : g ≤ 9223372036854775807) (hl : Hid (0 ≤ a → a % g = 0)) (hr : Hid (0 ≤ b → b % g = 0)) (hd : Hid (1 ≤ d → (a < 0 ∨ a % d = 0) → (b < 0 ∨ b % d = 0) → g % d = 0)) :
    Calls Try.prog 6 #[.int .i64 a, .int .i64 b, .int .i64 d] w fun e w' => e = .returned (.bool true) ∧ Below w.heap.size w w' := by
  by_cases hd1 : d < 1
  · by_cases ha : 0 ≤ a
    all_goals by_cases hb : 0 ≤ b
    all_goals by_cases haz : 0 < a
    all_goals try omega
    all_goals
      have la : 0 ≤ a → a % g = 0 := hl.out
      have lb : 0 ≤ b → b % g = 0 := hr.out
      go_enter Try.func6, Try.ntmps6
      go_wp2_with (first
        | (go_at_call 17; refine (gcd_is a b g _ a0 a1 b0 b1 HG).mono ?_; rintro e w' ⟨rfl, n, rfl⟩)
        | (go_at_call 19; refine (awake_any _).mono ?_; rintro e w' ⟨rfl, n, rfl⟩))
      go_ret
      exact ⟨rfl, bdrew (Below.refl _ _) _⟩
  · have hd2 : 1 ≤ d := by omega
    have hd3 := hd.out hd2
    clear hd hd1
    by_cases hx : 0 ≤ a ∧ ¬ a % d = 0
    · obtain ⟨ha, hx1⟩ := hx
      have hx2 : (a % d != 0) = true := by simpa using hx1
      have hx3 : (a % d == 0) = false := by simpa using hx1
      have la : 0 ≤ a → a % g = 0 := hl.out
      have lb : 0 ≤ b → b % g = 0 := hr.out
      have haz : 0 < a := Decidable.byContradiction fun hh => hx1 (by rw [show a = 0 by omega]; exact Int.zero_emod d)
      clear hd3 hx1
      by_cases hb : 0 ≤ b
      all_goals
        go_enter Try.func6, Try.ntmps6
        go_wp2_with (first
          | (go_at_call 17; refine (gcd_is a b g _ a0 a1 b0 b1 HG).mono ?_; rintro e w' ⟨rfl, n, rfl⟩)
          | (go_at_call 19; refine (awake_any _).mono ?_; rintro e w' ⟨rfl, n, rfl⟩))
        go_ret
        exact ⟨rfl, bdrew (Below.refl _ _) _⟩
    · by_cases hy : 0 ≤ b ∧ ¬ b % d = 0
      · obtain ⟨hb, hy1⟩ := hy
        have hy2 : (b % d != 0) = true := by simpa using hy1
        have hy3 : (b % d == 0) = false := by simpa using hy1
        have la : 0 ≤ a → a % g = 0 := hl.out
        have lb : 0 ≤ b → b % g = 0 := hr.out
        have hbz : 0 < b := Decidable.byContradiction fun hh => hy1 (by rw [show b = 0 by omega]; exact Int.zero_emod d)
        clear hd3 hy1
        by_cases ha : 0 ≤ a
        · have hx4 : a % d = 0 := Decidable.byContradiction fun hh => hx ⟨ha, hh⟩
          clear hx
          by_cases haz : 0 < a
          all_goals try omega
          all_goals
            go_enter Try.func6, Try.ntmps6
            go_wp2_with (first
              | (go_at_call 17; refine (gcd_is a b g _ a0 a1 b0 b1 HG).mono ?_; rintro e w' ⟨rfl, n, rfl⟩)
              | (go_at_call 19; refine (awake_any _).mono ?_; rintro e w' ⟨rfl, n, rfl⟩))
            go_ret
            exact ⟨rfl, bdrew (Below.refl _ _) _⟩
        · clear hx
          go_enter Try.func6, Try.ntmps6
          go_wp2_with (first
            | (go_at_call 17; refine (gcd_is a b g _ a0 a1 b0 b1 HG).mono ?_; rintro e w' ⟨rfl, n, rfl⟩)
            | (go_at_call 19; refine (awake_any _).mono ?_; rintro e w' ⟨rfl, n, rfl⟩))
          go_ret
          exact ⟨rfl, bdrew (Below.refl _ _) _⟩
      · have hz := hd3 (by by_cases ha : a < 0; exact Or.inl ha; exact Or.inr (Decidable.byContradiction fun hh => hx ⟨by omega, hh⟩)) (by by_cases hb : b < 0; exact Or.inl hb; exact Or.inr (Decidable.byContradiction fun hh => hy ⟨by omega, hh⟩))
        have ma : 0 ≤ a → a % d = 0 := fun h0 => Decidable.byContradiction fun hh => hx ⟨h0, hh⟩
        have mb : 0 ≤ b → b % d = 0 := fun h0 => Decidable.byContradiction fun hh => hy ⟨h0, hh⟩
        have la : 0 ≤ a → a % g = 0 := hl.out
        have lb : 0 ≤ b → b % g = 0 := hr.out
        clear hx hy hd3
        by_cases ha : 0 ≤ a
        all_goals by_cases hb : 0 ≤ b
        all_goals by_cases haz : 0 < a
        all_goals try omega
        all_goals
          go_enter Try.func6, Try.ntmps6
          go_wp2_with (first
            | (go_at_call 17; refine (gcd_is a b g _ a0 a1 b0 b1 HG).mono ?_; rintro e w' ⟨rfl, n, rfl⟩)
            | (go_at_call 19; refine (awake_any _).mono ?_; rintro e w' ⟨rfl, n, rfl⟩))
          go_ret
          exact ⟨rfl, bdrew (Below.refl _ _) _⟩

theorem divides_walk (a b d : Int) (wa : (Lit.int .i64 a).wf = true) (wb : (Lit.int .i64 b).wf = true) (wd : (Lit.int .i64 d).wf = true) (w : World) :
    Calls Try.prog 6 #[.int .i64 a, .int .i64 b, .int .i64 d] w fun e w' => e = .returned (.bool true) ∧ Below w.heap.size w w' := by
  obtain ⟨a0, a1⟩ := bd wa
  obtain ⟨b0, b1⟩ := bd wb
  obtain ⟨d0, d1⟩ := bd wd
  by_cases h : 0 < a ∨ 0 < b
  · have g0 := gd_pos a b h
    have g1 : gd a b ≤ 9223372036854775807 := by
      unfold gd at g0 ⊢
      rcases h with h | h
      · have := Nat.gcd_le_left (n := b.toNat) (m := a.toNat) (by omega); omega
      · have := Nat.gcd_le_right (m := a.toNat) (n := b.toNat) (by omega); omega
    exact divides_pos a b d (gd a b) w a0 a1 b0 b1 d0 d1 h (Lib.hid rfl) g0 g1 (Lib.hid (gd_left a b)) (Lib.hid (gd_right a b)) (Lib.hid (gd_least a b d))
  · exact divides_zero a b d w a0 a1 b0 b1 (by omega) (by omega)

end Go.Proofs.Ytiakppioanoaaaa.Sat
