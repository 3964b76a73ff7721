/- The document's answer for thousandths, at every number. Conditions: as each theorem states. -/
import Derived.Test.YtmbcghngeodaeaaRealG
namespace Go.Proofs.Ytmbcghngeodaeaa.Real
open Go.RowKit Go.Lib

theorem rMilli_class (b c : Nat) (hb : b < 18446744073709551616) (hc : Hid (cls b = c)) (h : c = 0 ∨ c = 1 ∨ c = 5) (hm : mbad b = true) (w : World) :
    Calls Try.prog 8 #[.float .f64 b] w fun e w' => e = .returned (.tuple #[.int .i64 (mn b : Nat), .int .i64 (me b : Nat)]) ∧ ∃ n, w' = w.drewN n := by
  rw [mn_bad hm, me_bad hm]
  clear hm
  rcases h with rfl | rfl | rfl
  all_goals
    go_enter Try.func8, Try.ntmps8
    go_wp2_with (go_at_call 13; refine (rClass_at b _ hb hc _).mono ?_; rintro e w' ⟨rfl, dr, rfl⟩)
    go_ret2
    exact ⟨rfl, _, rfl⟩

theorem rMilli_neg (b : Nat) (hb : b < 18446744073709551616) (hc : Hid (cls b = 4)) (ho : FloatKind.f64.format.order b 0 = some .lt) (hm : mbad b = true) (w : World) :
    Calls Try.prog 8 #[.float .f64 b] w fun e w' => e = .returned (.tuple #[.int .i64 (mn b : Nat), .int .i64 (me b : Nat)]) ∧ ∃ n, w' = w.drewN n := by
  rw [mn_bad hm, me_bad hm]
  clear hm
  go_enter Try.func8, Try.ntmps8
  go_wp2_with (go_at_call 13; refine (rClass_at b _ hb hc _).mono ?_; rintro e w' ⟨rfl, dr, rfl⟩)
  go_ret2
  exact ⟨rfl, _, rfl⟩

theorem rMilli_over (b c : Nat) (hb : b < 18446744073709551616) (hc : Hid (cls b = c)) (c1 : 2 ≤ c) (c2 : c ≤ 4) (ho' : (FloatKind.f64.format.order b 0 == some .lt) = false)
    (h6 : FloatKind.f64.format.order b 4696837146684686336 = some .gt) (hn : mn b = 0) (he : me b = 6) (w : World) :
    Calls Try.prog 8 #[.float .f64 b] w fun e w' => e = .returned (.tuple #[.int .i64 (mn b : Nat), .int .i64 (me b : Nat)]) ∧ ∃ n, w' = w.drewN n := by
  rw [hn, he]
  clear hn he
  have hr : ((c : Int) == 0) = false := by simp; omega
  have hr1 : ((c : Int) == 1) = false := by simp; omega
  have hr5 : ((c : Int) == 5) = false := by simp; omega
  go_enter Try.func8, Try.ntmps8
  go_wp2_with (go_at_call 13; refine (rClass_at b _ hb hc _).mono ?_; rintro e w' ⟨rfl, dr, rfl⟩)
  go_ret2
  exact ⟨rfl, _, rfl⟩

theorem rMilli_any (b : Nat) (hb : b < 18446744073709551616) (w : World) :
    Calls Try.prog 8 #[.float .f64 b] w fun e w' => e = .returned (.tuple #[.int .i64 (mn b : Nat), .int .i64 (me b : Nat)]) ∧ ∃ n, w' = w.drewN n := by
  cases h1 : nan b
  · by_cases h2 : rung b = inf
    · have hm : mbad b = true := by
        have : oinf b = true := by unfold oinf; rw [h2]; decide
        unfold mbad; rw [this]; simp
      refine rMilli_class b (cls b) hb (Lib.hid rfl) ?_ hm w
      unfold cls
      rw [h1]
      unfold rung inf at h2
      by_cases h3 : b = 18442240474082181120
      · right; left
        have : ninf b = true := by unfold ninf; simpa using h3
        simp [this]
      · right; right
        have e1 : ninf b = false := by unfold ninf; simpa using h3
        have e2 : pinf b = true := by unfold pinf; simp; omega
        simp [e1, e2]
    · have hoi : oinf b = false := by unfold oinf; simpa [inf] using h2
      have hlt : rung b < inf := by rw [nan_f] at h1; omega
      have e1 : ninf b = false := by unfold ninf; unfold rung inf at hlt; simp; omega
      have e2 : pinf b = false := by unfold pinf; unfold rung inf at hlt; simp; omega
      by_cases h3 : key b < 0
      · have hm : mbad b = true := by unfold mbad; rw [h1, hoi]; simpa using h3
        refine rMilli_neg b hb (Lib.hid ?_) (order0_lt b hb h1 h3) hm w
        unfold cls; rw [h1, e1, e2]
        have : ¬ rung b = 0 := by unfold key at h3; split at h3 <;> omega
        simp [this]
      · have hm : mbad b = false := by unfold mbad; rw [h1, hoi]; simpa using h3
        have hk := key_rung (b := b) (by omega)
        have ho' : (FloatKind.f64.format.order b 0 == some .lt) = false := by
          rcases Int.lt_trichotomy (key b) 0 with h | h | h
          · omega
          · rw [order0_eq b hb h1 h]; rfl
          · rw [order0_gt b hb h1 h]; rfl
        have hcc : 2 ≤ cls b ∧ cls b ≤ 4 := by unfold cls; rw [h1, e1, e2]; simp; split <;> (try split) <;> omega
        by_cases h4 : 4696837146684686336 < rung b
        · have h5 : 1000000 < mil (rung b) := by
            have := mil_mono (Nat.le_of_lt h4)
            rw [mil_million] at this; omega
          have h6 := order_gt b 4696837146684686336 hb (by omega) h1 nan_million (by rw [hk, key_million]; omega)
          exact rMilli_over b (cls b) hb (Lib.hid rfl) hcc.1 hcc.2 ho' h6 (mn_over hm h5) (me_over hm h5) w
        · have h6 : (FloatKind.f64.format.order b 4696837146684686336 == some .gt) = false := by
            rcases Int.lt_or_eq_of_le (show key b ≤ 4696837146684686336 by omega) with h | h
            · rw [order_lt b _ hb (by omega) h1 nan_million (by rw [key_million]; exact h)]; rfl
            · rw [order_eq b _ hb (by omega) h1 nan_million (by rw [key_million]; exact h)]; rfl
          have hr : rung b < 18446744073709551616 := by unfold rung; omega
          have hmil := mil_at (rung b) (by unfold lift; omega)
          have hmag : (rung b / 4503599627370496 = 0 ∧ mag (rung b) = rung b % 4503599627370496) ∨ (0 < rung b / 4503599627370496 ∧ mag (rung b) = rung b % 4503599627370496 + 4503599627370496) := by
            unfold mag lift; omega
          have hK : ((1073 - lift (rung b) : Nat) : Int) + 1 = 1075 - max ((rung b / 4503599627370496 : Nat) : Int) 1 := by unfold lift; omega
          have hK1 : 1074 - lift (rung b) = (1073 - lift (rung b)) + 1 := by unfold lift; omega
          rw [hK1] at hmil
          refine rMilli_loop b hb w h1 (rung b) (cls b) (rung b / 4503599627370496) (rung b % 4503599627370496) (mil (rung b)) (1073 - lift (rung b)) (mag (rung b)) (mn b) (me b) (Lib.hid rfl) hcc.1 hcc.2 ho' h6
            (and_r63 b hb) (and_r52 _ hr) (by omega) (by omega) (by omega) hmag hK hmil.symm ?_
          by_cases h5 : 1000000 < mil (rung b)
          · exact Or.inl ⟨h5, mn_over hm h5, me_over hm h5⟩
          · exact Or.inr ⟨by omega, mn_ok hm (by omega), me_ok hm (by omega)⟩
  · refine rMilli_class b (cls b) hb (Lib.hid rfl) ?_ (by unfold mbad; rw [h1]; rfl) w
    left; unfold cls; rw [h1]; simp

end Go.Proofs.Ytmbcghngeodaeaa.Real
