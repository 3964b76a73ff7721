/- Contracts of the document's own answers for the layer 'real', third part. Conditions: as each theorem states. -/
import Derived.Test.YtmbcghngeodaeaaRealE
namespace Go.Proofs.Ytmbcghngeodaeaa.Real
open Go.RowKit Go.Lib

theorem rplace_at (b p : Nat) (hb : b < 18446744073709551616) (h : Hid (pl b = p)) (w : World) :
    Calls Try.prog 26 #[.float .f64 b] w fun e w' => e = .returned (.int .i64 (p : Nat)) ∧ ∃ n, w' = w.drewN n := by
  rw [← h.out]; exact rplace_any b hb w
theorem rClass_at (b p : Nat) (hb : b < 18446744073709551616) (h : Hid (cls b = p)) (w : World) :
    Calls Try.prog 13 #[.float .f64 b] w fun e w' => e = .returned (.int .i64 (p : Nat)) ∧ ∃ n, w' = w.drewN n := by
  rw [← h.out]; exact rClass_any b hb w

theorem rLess_any (a b : Nat) (ha : a < 18446744073709551616) (hb : b < 18446744073709551616) (w : World) :
    Calls Try.prog 16 #[.float .f64 a, .float .f64 b] w fun e w' => e = .returned (.bool (lessB a b)) ∧ ∃ n, w' = w.drewN n := by
  obtain ⟨p, hp⟩ : ∃ p, pl a = p := ⟨_, rfl⟩
  obtain ⟨q, hq⟩ : ∃ q, pl b = q := ⟨_, rfl⟩
  have HP := Lib.hid hp
  have HQ := Lib.hid hq
  by_cases h : p = q
  · rcases less_same a b ha hb (by omega) with ⟨h1, h2, _⟩ | ⟨h1, h2, h3, h4, _⟩
    · rw [h2]
      obtain ⟨c, hc⟩ : ∃ c, cls a = c := ⟨_, rfl⟩
      have HC := Lib.hid hc
      rw [hc] at h1
      have h5 : ((c : Int) == 4) = false := by simp; omega
      subst h
      clear hp hq hc h2 h1
      go_enter Try.func16, Try.ntmps16
      go_wp2_with (first
        | (go_at_call 26; (first | (with_reducible refine (rplace_at a p ha HP _).mono ?_) | (with_reducible refine (rplace_at b p hb HQ _).mono ?_)); rintro e w' ⟨rfl, n, rfl⟩)
        | (go_at_call 13; refine (rClass_at a c ha HC _).mono ?_; rintro e w' ⟨rfl, n, rfl⟩))
      go_ret
      exact ⟨rfl, _, rfl⟩
    · rw [h2]
      have HC := Lib.hid h1
      subst h
      rcases Int.lt_trichotomy (key a) (key b) with hk | hk | hk
      · have ho := order_lt a b ha hb h3 h4 hk
        rw [decide_eq_true hk]
        clear hp hq h1 h2 hk
        go_enter Try.func16, Try.ntmps16
        go_wp2_with (first
          | (go_at_call 26; (first | (with_reducible refine (rplace_at a p ha HP _).mono ?_) | (with_reducible refine (rplace_at b p hb HQ _).mono ?_)); rintro e w' ⟨rfl, n, rfl⟩)
          | (go_at_call 13; refine (rClass_at a 4 ha HC _).mono ?_; rintro e w' ⟨rfl, n, rfl⟩))
        go_ret
        exact ⟨rfl, _, rfl⟩
      · have ho := order_eq a b ha hb h3 h4 hk
        rw [decide_eq_false (by omega)]
        clear hp hq h1 h2 hk
        go_enter Try.func16, Try.ntmps16
        go_wp2_with (first
          | (go_at_call 26; (first | (with_reducible refine (rplace_at a p ha HP _).mono ?_) | (with_reducible refine (rplace_at b p hb HQ _).mono ?_)); rintro e w' ⟨rfl, n, rfl⟩)
          | (go_at_call 13; refine (rClass_at a 4 ha HC _).mono ?_; rintro e w' ⟨rfl, n, rfl⟩))
        go_ret
        exact ⟨rfl, _, rfl⟩
      · have ho := order_gt a b ha hb h3 h4 hk
        rw [decide_eq_false (by omega)]
        clear hp hq h1 h2 hk
        go_enter Try.func16, Try.ntmps16
        go_wp2_with (first
          | (go_at_call 26; (first | (with_reducible refine (rplace_at a p ha HP _).mono ?_) | (with_reducible refine (rplace_at b p hb HQ _).mono ?_)); rintro e w' ⟨rfl, n, rfl⟩)
          | (go_at_call 13; refine (rClass_at a 4 ha HC _).mono ?_; rintro e w' ⟨rfl, n, rfl⟩))
        go_ret
        exact ⟨rfl, _, rfl⟩
  · rw [less_pl a b ha hb (by omega), hp, hq]
    have hd : ((p : Int) == (q : Int)) = false := by simp; omega
    clear hp hq h
    go_enter Try.func16, Try.ntmps16
    go_wp2_with (go_at_call 26; (first | (with_reducible refine (rplace_at a p ha HP _).mono ?_) | (with_reducible refine (rplace_at b q hb HQ _).mono ?_)); rintro e w' ⟨rfl, n, rfl⟩)
    go_ret
    exact ⟨ret_bool (by rw [decide_eq_decide]; omega), _, rfl⟩

def sameB (a b : Nat) : Bool := decide (tk a = tk b)
theorem same_bits (a b : Nat) (ha : a < 18446744073709551616) (hb : b < 18446744073709551616) : (((bitsF a : Nat) : Int) == ((bitsF b : Nat) : Int)) = sameB a b := by
  unfold sameB
  rw [Bool.eq_iff_iff, beq_iff_eq, decide_eq_true_iff]
  unfold bitsF tk quiet
  cases h1 : nan a <;> cases h2 : nan b <;> simp only [Bool.false_eq_true, if_false, if_true]
  · unfold neg rung
    by_cases a1 : 9223372036854775808 ≤ a <;> by_cases b1 : 9223372036854775808 ≤ b <;> simp [a1, b1] <;> omega
  · have : ¬ a = 9221120237041090560 := by intro e; subst e; exact absurd h1 (by decide)
    have : rung a < 9223372036854775808 := by unfold rung; omega
    split <;> omega
  · have : ¬ b = 9221120237041090560 := by intro e; subst e; exact absurd h2 (by decide)
    have : rung b < 9223372036854775808 := by unfold rung; omega
    split <;> omega
theorem Same_is (a b : Nat) (ha : a < 18446744073709551616) (hb : b < 18446744073709551616) (w : World) :
    Calls Try.prog 14 #[.float .f64 a, .float .f64 b] w fun e w' => e = .returned (.bool (sameB a b)) ∧ w = w' := by
  rw [← same_bits a b ha hb]; exact Same_any a b ha hb w

theorem same_cls (a b : Nat) (ha : a < 18446744073709551616) (hb : b < 18446744073709551616) :
    (cls a ≠ cls b ∧ sameB a b = false) ∨ (cls a = cls b ∧ cls a ≠ 4 ∧ sameB a b = true) ∨ (cls a = 4 ∧ cls b = 4 ∧ nan a = false ∧ nan b = false ∧ sameB a b = decide (key a = key b)) := by
  unfold sameB
  rw [decide_eq_decide, decide_eq_false_iff_not, decide_eq_true_iff]
  have h1 := pl_spec a ha
  have h2 := pl_spec b hb
  rcases h1 with h1 | ⟨n1, h1 | h1 | h1 | h1 | h1 | h1⟩ <;> rcases h2 with h2 | ⟨n2, h2 | h2 | h2 | h2 | h2 | h2⟩ <;> first | (left; omega) | (right; left; omega) | (right; right; refine ⟨by omega, by omega, n1, n2, by omega⟩)

theorem rSame_any (a b : Nat) (ha : a < 18446744073709551616) (hb : b < 18446744073709551616) (w : World) :
    Calls Try.prog 11 #[.float .f64 a, .float .f64 b] w fun e w' => e = .returned (.bool (sameB a b)) ∧ ∃ n, w' = w.drewN n := by
  rcases same_cls a b ha hb with ⟨h1, h2⟩ | ⟨h1, h2, h3⟩ | ⟨h1, h2, h3, h4, h5⟩
  · rw [h2]
    obtain ⟨p, hp⟩ : ∃ p, cls a = p := ⟨_, rfl⟩
    obtain ⟨q, hq⟩ : ∃ q, cls b = q := ⟨_, rfl⟩
    have HP := Lib.hid hp
    have HQ := Lib.hid hq
    have hd : ((p : Int) == (q : Int)) = false := by simp; omega
    clear hp hq h1 h2
    go_enter Try.func11, Try.ntmps11
    go_wp2_with (go_at_call 13; (first | (with_reducible refine (rClass_at a p ha HP _).mono ?_) | (with_reducible refine (rClass_at b q hb HQ _).mono ?_)); rintro e w' ⟨rfl, n, rfl⟩)
    go_ret
    exact ⟨rfl, _, rfl⟩
  · rw [h3]
    obtain ⟨p, hp⟩ : ∃ p, cls a = p := ⟨_, rfl⟩
    rw [hp] at h1 h2
    have HP := Lib.hid hp
    have HQ := Lib.hid h1.symm
    have hd : ((p : Int) == 4) = false := by simp; omega
    have hd' : ((p : Int) != 4) = true := by simp; omega
    clear hp h1 h2 h3
    go_enter Try.func11, Try.ntmps11
    go_wp2_with (go_at_call 13; (first | (with_reducible refine (rClass_at a p ha HP _).mono ?_) | (with_reducible refine (rClass_at b p hb HQ _).mono ?_)); rintro e w' ⟨rfl, n, rfl⟩)
    go_ret
    exact ⟨rfl, _, rfl⟩
  · have HP := Lib.hid h1
    have HQ := Lib.hid h2
    rw [h5]
    clear h1 h2 h5
    by_cases hk : key a = key b
    · have ho := order_eq a b ha hb h3 h4 hk
      rw [decide_eq_true hk]
      clear hk
      go_enter Try.func11, Try.ntmps11
      go_wp2_with (go_at_call 13; (first | (with_reducible refine (rClass_at a 4 ha HP _).mono ?_) | (with_reducible refine (rClass_at b 4 hb HQ _).mono ?_)); rintro e w' ⟨rfl, n, rfl⟩)
      go_ret
      exact ⟨rfl, _, rfl⟩
    · have ho : (FloatKind.f64.format.order a b == some .eq) = false := by
        rcases Int.lt_or_gt_of_ne hk with h | h
        · rw [order_lt a b ha hb h3 h4 h]; rfl
        · rw [order_gt a b ha hb h3 h4 h]; rfl
      rw [decide_eq_false hk]
      clear hk
      go_enter Try.func11, Try.ntmps11
      go_wp2_with (go_at_call 13; (first | (with_reducible refine (rClass_at a 4 ha HP _).mono ?_) | (with_reducible refine (rClass_at b 4 hb HQ _).mono ?_)); rintro e w' ⟨rfl, n, rfl⟩)
      go_ret
      exact ⟨rfl, _, rfl⟩

theorem rBits_at (b : Nat) (hb : b < 18446744073709551616) (h : nan b = false) (w : World) :
    Calls Try.prog 18 #[.float .f64 b] w fun e w' => e = .returned (.int .u64 (b : Nat)) ∧ w = w' := by
  have := rBits_any b hb w
  unfold bitsF at this; rw [h] at this; exact this
theorem and_r63 (b : Nat) (hb : b < 18446744073709551616) : bits .and .u64 (b : Int) 9223372036854775807 = ((rung b : Nat) : Int) := by
  have h := bits_and_u64_nat b 9223372036854775807 hb (by omega)
  have c1 : ((9223372036854775807 : Nat) : Int) = 9223372036854775807 := by decide
  rw [c1] at h
  rw [h, show (9223372036854775807 : Nat) = 2 ^ 63 - 1 by decide, Nat.and_two_pow_sub_one_eq_mod]
  rfl
theorem and_r52 (r : Nat) (hr : r < 18446744073709551616) : bits .and .u64 (r : Int) 4503599627370495 = ((r % 4503599627370496 : Nat) : Int) := by
  have h := bits_and_u64_nat r 4503599627370495 hr (by omega)
  have c1 : ((4503599627370495 : Nat) : Int) = 4503599627370495 := by decide
  rw [c1] at h
  rw [h, show (4503599627370495 : Nat) = 2 ^ 52 - 1 by decide, Nat.and_two_pow_sub_one_eq_mod]

end Go.Proofs.Ytmbcghngeodaeaa.Real
