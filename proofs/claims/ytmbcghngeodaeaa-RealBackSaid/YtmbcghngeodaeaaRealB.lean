/- Contracts of the calls of package real, second part. Conditions: as each theorem states. -/
import Derived.Test.YtmbcghngeodaeaaRealA
namespace Go.Proofs.Ytmbcghngeodaeaa.Real
open Go.RowKit Go.Lib

def quiet : Nat := 9221120237041090560
/-- The bits that stand for a number. -/
def bitsF (b : Nat) : Nat := if nan b then quiet else b

theorem Bits_any (b : Nat) (hb : b < 18446744073709551616) (w : World) :
    Calls Try.prog 17 #[.float .f64 b] w fun e w' => e = .returned (.int .u64 (bitsF b : Nat)) ∧ w = w' := by
  unfold bitsF
  cases h : nan b
  all_goals
    go_enter Try.func17, Try.ntmps17
    go_wp2_with (go_at_call 21; refine (isNaN_any _ hb _).mono ?_; rintro e w' ⟨rfl, rfl⟩)
    go_ret
    exact ⟨rfl, rfl⟩

def okF (u : Nat) : Bool := !nan u || u == quiet
theorem From_any (u : Nat) (hu : u < 18446744073709551616) (w : World) :
    Calls Try.prog 9 #[.int .u64 (u : Int)] w fun e w' => e = .returned (.tuple #[.float .f64 (if okF u then u else 0), .bool (okF u)]) ∧ w = w' := by
  have hF : (((bitsF u : Nat) : Int) == (u : Int)) = okF u := by
    unfold okF bitsF quiet
    cases h : nan u
    · simp
    · rw [Bool.eq_iff_iff]; simp; omega
  cases h : okF u
  all_goals
    rw [h] at hF
    have hF' : (((bitsF u : Nat) : Int) != (u : Int)) = !(((bitsF u : Nat) : Int) == (u : Int)) := rfl
    rw [hF] at hF'
    go_enter Try.func9, Try.ntmps9
    go_wp2_with (go_at_call 17; refine (Bits_any _ hu _).mono ?_; rintro e w' ⟨rfl, rfl⟩)
    go_ret2
    exact ⟨rfl, rfl⟩

theorem Same_any (a b : Nat) (ha : a < 18446744073709551616) (hb : b < 18446744073709551616) (w : World) :
    Calls Try.prog 14 #[.float .f64 a, .float .f64 b] w fun e w' => e = .returned (.bool (((bitsF a : Nat) : Int) == ((bitsF b : Nat) : Int))) ∧ w = w' := by
  go_enter Try.func14, Try.ntmps14
  go_wp2_with (go_at_call 17; (first | (with_reducible refine (Bits_any a ha _).mono ?_) | (with_reducible refine (Bits_any b hb _).mono ?_)); rintro e w' ⟨rfl, rfl⟩)
  go_ret
  exact ⟨rfl, rfl⟩

theorem code_e (b : Nat) (hb : b < 18446744073709551616) : bits .and .u64 ((b : Int) / 4503599627370496) 2047 = ((b / 4503599627370496 % 2048 : Nat) : Int) := by
  have h := bits_and_u64_nat (b / 4503599627370496) 2047 (by omega) (by omega)
  rw [show (2047 : Nat) = 2 ^ 11 - 1 by decide, Nat.and_two_pow_sub_one_eq_mod] at h
  exact h
theorem code_m (b : Nat) (hb : b < 18446744073709551616) : bits .or .u64 (bits .and .u64 (b : Int) 4503599627370495) 4503599627370496 = ((4503599627370496 + b % 4503599627370496 : Nat) : Int) := by
  have h := bits_and_u64_nat b 4503599627370495 hb (by omega)
  rw [show (4503599627370495 : Nat) = 2 ^ 52 - 1 by decide, Nat.and_two_pow_sub_one_eq_mod] at h
  have h2 := bits_or_u64_nat (b % 2 ^ 52) 4503599627370496 (by omega) (by omega)
  have h3 := Nat.two_pow_add_eq_or_of_lt (i := 52) (b := b % 2 ^ 52) (by omega) 1
  rw [Nat.or_comm, Nat.mul_one] at h3
  have c1 : ((2 ^ 52 - 1 : Nat) : Int) = 4503599627370495 := by decide
  have c2 : ((4503599627370496 : Nat) : Int) = 4503599627370496 := by decide
  have c3 : (2 : Nat) ^ 52 = 4503599627370496 := by decide
  rw [c1] at h
  rw [c2] at h2
  rw [c3] at h h2 h3
  rw [h, h2, h3]

theorem thousandfold_zero (b : Nat) (hb : b < 18446744073709551616) (h : rung b / 4503599627370496 < 1012) (w : World) :
    Calls Try.prog 23 #[.float .f64 b] w fun e w' => e = .returned (.int .i64 (mil (rung b) : Nat)) ∧ w = w' := by
  rw [mil_zero _ h]
  have he := code_e b hb
  have hm := code_m b hb
  have h1 : b / 4503599627370496 % 2048 < 1012 := by unfold rung at h; omega
  have h2 : 4503599627370496 + b % 4503599627370496 < 9007199254740992 := by omega
  generalize b / 4503599627370496 % 2048 = e at *
  generalize 4503599627370496 + b % 4503599627370496 = M at *
  go_enter Try.func23, Try.ntmps23
  go_wp2
  go_ret
  exact ⟨rfl, rfl⟩

theorem half_facts (M q : Nat) (hM : M < 9007199254740992) (q1 : 42 ≤ q) (q2 : q ≤ 62) :
    ∃ W H S R : Nat, (M : Int) * 1000 / 2 ^ (q + 1) = (W : Int) ∧ (W : Int) * 2 ^ (q + 1) = (S : Int) ∧ (2 : Int) ^ q = (H : Int) ∧ S + R = M * 1000 ∧ H < 9223372036854775808 ∧ W < 1048576 ∧
      near (M * 1000) (2 ^ (q + 1)) = W + (if H < R ∨ (H = R ∧ W % 2 = 1) then 1 else 0) := by
  have d1 := Nat.div_add_mod (M * 1000) (2 ^ (q + 1))
  have d3 : M * 1000 / 2 ^ (q + 1) ≤ M * 1000 / 2 ^ 43 := Nat.div_le_div_left (Nat.pow_le_pow_right (by omega) (by omega)) (Nat.two_pow_pos _)
  have d4 : M * 1000 / 2 ^ 43 < 1048576 := by rw [show (2 : Nat) ^ 43 = 8796093022208 by decide]; omega
  have d5 : 2 ^ (q + 1) ≤ 2 ^ 63 := Nat.pow_le_pow_right (by omega) (by omega)
  have d6 : (2 : Nat) ^ (q + 1) = 2 * 2 ^ q := by rw [Nat.pow_succ, Nat.mul_comm]
  rw [show (2 : Nat) ^ 63 = 9223372036854775808 by decide] at d5
  have d7 := Nat.two_pow_pos q
  refine ⟨M * 1000 / 2 ^ (q + 1), 2 ^ q, 2 ^ (q + 1) * (M * 1000 / 2 ^ (q + 1)), M * 1000 % 2 ^ (q + 1), by simp, by simp [Int.mul_comm], by simp, d1, by omega, by omega, ?_⟩
  unfold near
  congr 1
  generalize M * 1000 % 2 ^ (q + 1) = R
  generalize M * 1000 / 2 ^ (q + 1) = W
  rw [d6]
  generalize 2 ^ q = H
  by_cases c : H < R ∨ (H = R ∧ W % 2 = 1)
  · rw [if_pos c, if_pos (by omega)]
  · rw [if_neg c, if_neg (by omega)]

theorem thousandfold_some (b : Nat) (hb : b < 18446744073709551616) (h : 1012 ≤ rung b / 4503599627370496) (h' : rung b / 4503599627370496 ≤ 1032) (w : World) :
    Calls Try.prog 23 #[.float .f64 b] w fun e w' => e = .returned (.int .i64 (mil (rung b) : Nat)) ∧ w = w' := by
  rw [mil_code _ h (by omega)]
  have he := code_e b hb
  have hm := code_m b hb
  have e0 : rung b / 4503599627370496 = b / 4503599627370496 % 2048 := by unfold rung; omega
  have e1 : rung b % 4503599627370496 = b % 4503599627370496 := by unfold rung; omega
  rw [e0] at h h' ⊢
  rw [e1]
  have h2 : 4503599627370496 + b % 4503599627370496 < 9007199254740992 := by omega
  generalize b / 4503599627370496 % 2048 = e at *
  generalize 4503599627370496 + b % 4503599627370496 = M at *
  obtain ⟨q, hq⟩ : ∃ q : Nat, 1075 - e = q + 1 := ⟨1074 - e, by omega⟩
  rw [hq]
  have hp : (1075 : Int) - (e : Int) = (q : Int) + 1 := by omega
  have q1 : 42 ≤ q := by omega
  have q2 : q ≤ 62 := by omega
  clear hq e0 e1
  obtain ⟨W, H, S, R, hW, hS, hH, hR, hH', hW', hn⟩ := half_facts M q h2 q1 q2
  rw [hn]
  have hR' : (M : Int) * 1000 - (S : Int) = (R : Int) := by omega
  have hS' : S < 18446744073709551616 := by omega
  clear hn hR
  by_cases c1 : H < R
  · rw [if_pos (Or.inl c1)]
    go_enter Try.func23, Try.ntmps23
    go_wp2
    go_ret
    exact ⟨ret_int (by omega), rfl⟩
  · by_cases c2 : H = R
    · subst c2
      by_cases c3 : W % 2 = 1
      · rw [if_pos (Or.inr ⟨rfl, c3⟩)]
        go_enter Try.func23, Try.ntmps23
        go_wp2
        all_goals go_ret
        all_goals exact ⟨ret_int (by omega), rfl⟩
      · rw [if_neg (by omega)]
        go_enter Try.func23, Try.ntmps23
        go_wp2
        all_goals go_ret
        all_goals exact ⟨ret_int (by omega), rfl⟩
    · rw [if_neg (by omega)]
      go_enter Try.func23, Try.ntmps23
      go_wp2
      all_goals go_ret
      all_goals exact ⟨ret_int (by omega), rfl⟩

theorem thousandfold_any (b : Nat) (hb : b < 18446744073709551616) (h : rung b / 4503599627370496 ≤ 1032) (w : World) :
    Calls Try.prog 23 #[.float .f64 b] w fun e w' => e = .returned (.int .i64 (mil (rung b) : Nat)) ∧ w = w' := by
  by_cases h' : rung b / 4503599627370496 < 1012
  · exact thousandfold_zero b hb h' w
  · exact thousandfold_some b hb (by omega) h w
end Go.Proofs.Ytmbcghngeodaeaa.Real
