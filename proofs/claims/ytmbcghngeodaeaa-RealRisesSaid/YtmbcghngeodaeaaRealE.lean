/- Contracts of the document's own answers for the layer 'real', second part. Conditions: as each theorem states. -/
import Derived.Test.YtmbcghngeodaeaaRealD
namespace Go.Proofs.Ytmbcghngeodaeaa.Real
open Go.RowKit Go.Lib

/-- Where a number stands in the order of its class. -/
def pl (b : Nat) : Nat := if nan b then 6 else if ninf b then 0 else if pinf b then 5 else if rung b = 0 then (if neg b then 2 else 3) else if neg b then 1 else 4

theorem rplace_any (b : Nat) (hb : b < 18446744073709551616) (w : World) :
    Calls Try.prog 26 #[.float .f64 b] w fun e w' => e = .returned (.int .i64 (pl b : Nat)) ∧ ∃ n, w' = w.drewN n := by
  have HC : ∀ c : Nat, cls b = c → ∀ w, Calls Try.prog 13 #[.float .f64 b] w fun e w' => e = .returned (.int .i64 (c : Nat)) ∧ ∃ n, w' = w.drewN n := fun c h w => by rw [← h]; exact rClass_any b hb w
  unfold cls at HC
  unfold pl
  cases h1 : nan b
  · rw [h1] at HC
    cases h2 : ninf b
    · rw [h2] at HC
      cases h3 : pinf b
      · rw [h3] at HC
        by_cases h4 : rung b = 0
        · rw [if_pos h4] at HC ⊢
          cases h5 : neg b
          all_goals
            rw [h5] at HC
            have hc := HC _ rfl
            clear HC h4
            go_enter Try.func26, Try.ntmps26
            go_wp2_with (go_at_call 13; refine (hc _).mono ?_; rintro e w' ⟨rfl, n, rfl⟩)
            go_ret
            exact ⟨rfl, _, rfl⟩
        · rw [if_neg h4] at HC ⊢
          have hc := HC _ rfl
          clear HC
          cases h5 : neg b
          · have hk : 0 < key b := by rw [neg_f] at h5; unfold key; rw [if_neg (by omega)]; omega
            have ho := order0_gt b hb h1 hk
            clear h4 hk
            go_enter Try.func26, Try.ntmps26
            go_wp2_with (go_at_call 13; refine (hc _).mono ?_; rintro e w' ⟨rfl, n, rfl⟩)
            go_ret
            exact ⟨rfl, _, rfl⟩
          · have hk : key b < 0 := by rw [neg_t] at h5; unfold key; rw [if_pos h5]; omega
            have ho := order0_lt b hb h1 hk
            clear h4 hk
            go_enter Try.func26, Try.ntmps26
            go_wp2_with (go_at_call 13; refine (hc _).mono ?_; rintro e w' ⟨rfl, n, rfl⟩)
            go_ret
            exact ⟨rfl, _, rfl⟩
      · rw [h3] at HC
        have hc := HC _ rfl
        clear HC
        go_enter Try.func26, Try.ntmps26
        go_wp2_with (go_at_call 13; refine (hc _).mono ?_; rintro e w' ⟨rfl, n, rfl⟩)
        go_ret
        exact ⟨rfl, _, rfl⟩
    · rw [h2] at HC
      have hc := HC _ rfl
      clear HC
      go_enter Try.func26, Try.ntmps26
      go_wp2_with (go_at_call 13; refine (hc _).mono ?_; rintro e w' ⟨rfl, n, rfl⟩)
      go_ret
      exact ⟨rfl, _, rfl⟩
  · rw [h1] at HC
    have hc := HC _ rfl
    clear HC
    go_enter Try.func26, Try.ntmps26
    go_wp2_with (go_at_call 13; refine (hc _).mono ?_; rintro e w' ⟨rfl, n, rfl⟩)
    go_ret
    exact ⟨rfl, _, rfl⟩

theorem pl_spec (b : Nat) (hb : b < 18446744073709551616) :
    (pl b = 6 ∧ cls b = 0 ∧ nan b = true ∧ tk b = 36893488147419103232) ∨ (nan b = false ∧
      ((pl b = 0 ∧ cls b = 1 ∧ tk b = -9218868437227405313) ∨ (pl b = 5 ∧ cls b = 5 ∧ tk b = 9218868437227405312) ∨ (pl b = 2 ∧ cls b = 2 ∧ tk b = -1) ∨ (pl b = 3 ∧ cls b = 3 ∧ tk b = 0) ∨
       (pl b = 1 ∧ cls b = 4 ∧ tk b = key b - 1 ∧ -9218868437227405313 < tk b ∧ tk b < -1) ∨ (pl b = 4 ∧ cls b = 4 ∧ tk b = key b ∧ 0 < tk b ∧ tk b < 9218868437227405312))) := by
  unfold pl cls tk
  cases h1 : nan b
  · right
    refine ⟨rfl, ?_⟩
    have hr := nan_f.1 h1
    unfold key ninf pinf neg
    unfold rung inf at *
    by_cases h2 : b = 18442240474082181120
    · left; subst h2; decide
    by_cases h3 : b = 9218868437227405312
    · right; left; subst h3; decide
    simp only [h2, h3, decide_false, Bool.false_eq_true, if_false]
    right; right
    by_cases h4 : b % 9223372036854775808 = 0
    · by_cases h5 : 9223372036854775808 ≤ b
      · left; simp [h4, h5]
      · right; left; simp [h4, h5]
    · right; right
      by_cases h5 : 9223372036854775808 ≤ b
      · left; simp [h4, h5]; omega
      · right; simp [h4, h5]; omega
  · left; simp

theorem less_pl (a b : Nat) (ha : a < 18446744073709551616) (hb : b < 18446744073709551616) (h : pl a ≠ pl b) : lessB a b = decide ((pl a : Int) < (pl b : Int)) := by
  unfold lessB
  rw [decide_eq_decide]
  have h1 := pl_spec a ha
  have h2 := pl_spec b hb
  rcases h1 with h1 | ⟨_, h1 | h1 | h1 | h1 | h1 | h1⟩ <;> rcases h2 with h2 | ⟨_, h2 | h2 | h2 | h2 | h2 | h2⟩ <;> omega
theorem less_same (a b : Nat) (ha : a < 18446744073709551616) (hb : b < 18446744073709551616) (h : pl a = pl b) : (cls a ≠ 4 ∧ lessB a b = false ∧ tk a = tk b) ∨ (cls a = 4 ∧ lessB a b = decide (key a < key b) ∧ nan a = false ∧ nan b = false ∧ (tk a = tk b ↔ key a = key b)) := by
  unfold lessB
  rw [decide_eq_decide, decide_eq_false_iff_not]
  have h1 := pl_spec a ha
  have h2 := pl_spec b hb
  rcases h1 with h1 | ⟨n1, h1 | h1 | h1 | h1 | h1 | h1⟩ <;> rcases h2 with h2 | ⟨n2, h2 | h2 | h2 | h2 | h2 | h2⟩ <;> first | (left; omega) | (right; refine ⟨by omega, by omega, n1, n2, by omega⟩) | (exfalso; omega)

end Go.Proofs.Ytmbcghngeodaeaa.Real
