/- Contracts of the document's own answers for the layer 'real'. Conditions: as each theorem states. -/
import Derived.Test.YtmbcghngeodaeaaRealC
namespace Go.Proofs.Ytmbcghngeodaeaa.Real
open Go.RowKit Go.Lib

/-- Some bits of no number, as the world gives them. -/
def someNan (b : Nat) (w : World) : Nat := (Question.nanBits .f64 b b).cut (w.tape w.drawn (.nanBits .f64 b b))
theorem someNan_lt (b : Nat) (w : World) : someNan b w < 18446744073709551616 := by
  unfold someNan Question.cut
  simp only
  generalize w.tape w.drawn (Question.nanBits FloatKind.f64 b b) = t
  omega
theorem someNan_nan (b : Nat) (w : World) : nan (someNan b w) = true := by
  rw [nan_t]
  unfold rung inf someNan Question.cut
  simp only
  generalize w.tape w.drawn (Question.nanBits FloatKind.f64 b b) = t
  have h : t / 2 % (2 ^ 52 - 1) < 4503599627370495 := Nat.mod_lt _ (by decide)
  generalize t / 2 % (2 ^ 52 - 1) = k at *
  rcases Nat.mod_two_eq_zero_or_one t with e | e <;> rw [e] <;> omega
theorem sub_run_inf (b : Nat) (hb : b < 18446744073709551616) (h : rung b = inf) (t : TypeId) (w : World) :
    (binOp .sub t (.float .f64 b) (.float .f64 b)).run Try.prog w = .ok (.float .f64 (someNan b w)) w.drew := by
  have hs : FloatKind.f64.format.sub b b = none := sub_inf b hb h
  simp [binOp, Op.floatArith, hs, someNan, Question.forced]
theorem sub_run_fin (b : Nat) (hb : b < 18446744073709551616) (h : rung b < inf) (t : TypeId) (w : World) :
    (binOp .sub t (.float .f64 b) (.float .f64 b)).run Try.prog w = .ok (.float .f64 0) w :=
  run_float_arith w .sub t .f64 b b 0 (sub_self b hb h)
theorem order00 : FloatKind.f64.format.order 0 0 = some .eq := order0_eq 0 (by omega) nan_zero key_zero

theorem rClass_any (b : Nat) (hb : b < 18446744073709551616) (w : World) :
    Calls Try.prog 13 #[.float .f64 b] w fun e w' => e = .returned (.int .i64 (cls b : Nat)) ∧ ∃ n, w' = w.drewN n := by
  unfold cls
  cases h1 : nan b
  · have hbb := order_eq b b hb hb h1 h1 rfl
    by_cases hi : rung b = inf
    · have hs := sub_run_inf b hb hi
      have hn := fun w => order_nan_l (someNan b w) 0 (someNan_lt b w) (someNan_nan b w)
      by_cases h2 : neg b = true
      · have h3 : ninf b = true := by unfold ninf; rw [neg_t] at h2; unfold rung inf at hi; simp; omega
        rw [h3]
        have ho := order0_lt b hb h1 (by unfold key; rw [if_pos (neg_t.1 h2), hi]; decide)
        clear h2 h3 hi
        go_enter Try.func13, Try.ntmps13
        go_wp2
        go_ret
        exact ⟨rfl, 1, rfl⟩
      · have h2' := neg_f.1 (by simpa using h2)
        have h3 : ninf b = false := by unfold ninf; simp; omega
        have h4 : pinf b = true := by unfold pinf; unfold rung inf at hi; simp; omega
        rw [h3, h4]
        have ho := order0_gt b hb h1 (by unfold key; rw [if_neg (by omega), hi]; decide)
        clear h2 h2' h3 h4 hi
        go_enter Try.func13, Try.ntmps13
        go_wp2
        go_ret
        exact ⟨rfl, 2, rfl⟩
    · have hf : rung b < inf := by rw [nan_f] at h1; omega
      have hs := sub_run_fin b hb hf
      have h00 := order00
      have h3 : ninf b = false := by unfold ninf; unfold rung inf at hf; simp; omega
      have h4 : pinf b = false := by unfold pinf; unfold rung inf at hf; simp; omega
      rw [h3, h4]
      clear h3 h4 hi
      by_cases h5 : rung b = 0
      · rw [if_pos h5]
        have ho := order0_eq b hb h1 (by unfold key; rw [h5]; simp)
        cases h6 : neg b
        · obtain rfl : b = 0 := by rw [neg_f] at h6; unfold rung at h5; omega
          have hq := fun t w => run_float_arith (P := Try.prog) w .quo t .f64 4607182418800017408 0 9218868437227405312 (by decide +kernel)
          have hg := order0_gt 9218868437227405312 (by omega) (by decide) (by decide)
          clear h5 h6 hf
          go_enter Try.func13, Try.ntmps13
          go_wp2
          go_ret
          exact ⟨rfl, 0, rfl⟩
        · obtain rfl : b = 9223372036854775808 := by rw [neg_t] at h6; unfold rung at h5; omega
          have hq := fun t w => run_float_arith (P := Try.prog) w .quo t .f64 4607182418800017408 9223372036854775808 18442240474082181120 (by decide +kernel)
          have hg := order0_lt 18442240474082181120 (by omega) (by decide) (by decide)
          clear h5 h6 hf
          go_enter Try.func13, Try.ntmps13
          go_wp2
          go_ret
          exact ⟨rfl, 0, rfl⟩
      · rw [if_neg h5]
        have hk : key b < 0 ∨ 0 < key b := by unfold key; split <;> omega
        rcases hk with hk | hk
        · have ho := order0_lt b hb h1 hk
          clear h5 hk hf
          go_enter Try.func13, Try.ntmps13
          go_wp2
          go_ret
          exact ⟨rfl, 0, rfl⟩
        · have ho := order0_gt b hb h1 hk
          clear h5 hk hf
          go_enter Try.func13, Try.ntmps13
          go_wp2
          go_ret
          exact ⟨rfl, 0, rfl⟩
  · have hbb := order_nan_l b b hb h1
    go_enter Try.func13, Try.ntmps13
    go_wp2
    go_ret
    exact ⟨rfl, 0, rfl⟩

theorem rBits_any (b : Nat) (hb : b < 18446744073709551616) (w : World) :
    Calls Try.prog 18 #[.float .f64 b] w fun e w' => e = .returned (.int .u64 (bitsF b : Nat)) ∧ w = w' := by
  unfold bitsF
  cases h : nan b
  · have hbb := order_eq b b hb hb h h rfl
    go_enter Try.func18, Try.ntmps18
    go_wp2
    go_ret
    exact ⟨rfl, rfl⟩
  · have hbb := order_nan_l b b hb h
    go_enter Try.func18, Try.ntmps18
    go_wp2
    go_ret
    exact ⟨rfl, rfl⟩

theorem rFrom_any (u : Nat) (hu : u < 18446744073709551616) (w : World) :
    Calls Try.prog 10 #[.int .u64 (u : Int)] w fun e w' => e = .returned (.tuple #[.float .f64 (if okF u then u else 0), .bool (okF u)]) ∧ w = w' := by
  have hF : (((bitsF u : Nat) : Int) == (u : Int)) = okF u := by
    unfold okF bitsF quiet
    cases h : nan u
    · simp
    · rw [Bool.eq_iff_iff]; simp; omega
  cases h : okF u
  all_goals
    rw [h] at hF
    have hF' : (((bitsF u : Nat) : Int) != (u : Int)) = !(((bitsF u : Nat) : Int) == (u : Int)) := rfl
    rw [hF] at hF'
    go_enter Try.func10, Try.ntmps10
    go_wp2_with (go_at_call 18; refine (rBits_any _ hu _).mono ?_; rintro e w' ⟨rfl, rfl⟩)
    go_ret2
    exact ⟨rfl, rfl⟩

end Go.Proofs.Ytmbcghngeodaeaa.Real
