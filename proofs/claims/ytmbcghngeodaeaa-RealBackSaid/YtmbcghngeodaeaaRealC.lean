/- Contracts of the calls of package real, third part. Conditions: as each theorem states. -/
import Derived.Test.YtmbcghngeodaeaaRealB
namespace Go.Proofs.Ytmbcghngeodaeaa.Real
open Go.RowKit Go.Lib

theorem ret_int2 {k : IntKind} {a b c d : Int} (h : a = b) (h' : c = d) : Ending.returned (.tuple #[.int k a, .int k c]) = .returned (.tuple #[.int k b, .int k d]) := by rw [h, h']

theorem key_zero : key 0 = 0 := by decide
theorem nan_zero : nan 0 = false := by decide
theorem order0_lt (b : Nat) (hb : b < 18446744073709551616) (hn : nan b = false) (h : key b < 0) : FloatKind.f64.format.order b 0 = some .lt :=
  order_lt b 0 hb (by omega) hn nan_zero (by rw [key_zero]; exact h)
theorem order0_eq (b : Nat) (hb : b < 18446744073709551616) (hn : nan b = false) (h : key b = 0) : FloatKind.f64.format.order b 0 = some .eq :=
  order_eq b 0 hb (by omega) hn nan_zero (by rw [key_zero]; exact h)
theorem order0_gt (b : Nat) (hb : b < 18446744073709551616) (hn : nan b = false) (h : 0 < key b) : FloatKind.f64.format.order b 0 = some .gt :=
  order_gt b 0 hb (by omega) hn nan_zero (by rw [key_zero]; exact h)

def cls (b : Nat) : Nat := if nan b then 0 else if ninf b then 1 else if pinf b then 5 else if rung b = 0 then (if neg b then 2 else 3) else 4

theorem Class_any (b : Nat) (hb : b < 18446744073709551616) (w : World) :
    Calls Try.prog 12 #[.float .f64 b] w fun e w' => e = .returned (.int .i64 (cls b : Nat)) ∧ w = w' := by
  unfold cls
  cases h1 : nan b
  · cases h2 : ninf b
    · cases h3 : pinf b
      · by_cases h4 : rung b = 0
        · have hk := order0_eq b hb h1 (by unfold key; rw [h4]; simp)
          rw [h4]
          have h4' := Lib.hid h4; clear h4
          cases h5 : neg b
          all_goals
            go_enter Try.func12, Try.ntmps12
            go_wp2_with (first
              | (go_at_call 21; refine (isNaN_any _ hb _).mono ?_; rintro e w' ⟨rfl, rfl⟩)
              | (go_at_call 25; refine (signbit_any _ hb _).mono ?_; rintro e w' ⟨rfl, rfl⟩)
              | (go_at_call 22; (first | (with_reducible refine (isInf_below _ hb _).mono ?_) | (with_reducible refine (isInf_above _ hb _).mono ?_)); rintro e w' ⟨rfl, rfl⟩))
            go_ret
            exact ⟨rfl, rfl⟩
        · rw [if_neg h4]
          rcases Int.lt_trichotomy (key b) 0 with hk | hk | hk
          · have ho := order0_lt b hb h1 hk
            go_enter Try.func12, Try.ntmps12
            go_wp2_with (first
              | (go_at_call 21; refine (isNaN_any _ hb _).mono ?_; rintro e w' ⟨rfl, rfl⟩)
              | (go_at_call 22; (first | (with_reducible refine (isInf_below _ hb _).mono ?_) | (with_reducible refine (isInf_above _ hb _).mono ?_)); rintro e w' ⟨rfl, rfl⟩))
            go_ret
            exact ⟨rfl, rfl⟩
          · exact absurd hk (by unfold key; split <;> omega)
          · have ho := order0_gt b hb h1 hk
            go_enter Try.func12, Try.ntmps12
            go_wp2_with (first
              | (go_at_call 21; refine (isNaN_any _ hb _).mono ?_; rintro e w' ⟨rfl, rfl⟩)
              | (go_at_call 22; (first | (with_reducible refine (isInf_below _ hb _).mono ?_) | (with_reducible refine (isInf_above _ hb _).mono ?_)); rintro e w' ⟨rfl, rfl⟩))
            go_ret
            exact ⟨rfl, rfl⟩
      · go_enter Try.func12, Try.ntmps12
        go_wp2_with (first
          | (go_at_call 21; refine (isNaN_any _ hb _).mono ?_; rintro e w' ⟨rfl, rfl⟩)
          | (go_at_call 22; (first | (with_reducible refine (isInf_below _ hb _).mono ?_) | (with_reducible refine (isInf_above _ hb _).mono ?_)); rintro e w' ⟨rfl, rfl⟩))
        go_ret
        exact ⟨rfl, rfl⟩
    · go_enter Try.func12, Try.ntmps12
      go_wp2_with (first
        | (go_at_call 21; refine (isNaN_any _ hb _).mono ?_; rintro e w' ⟨rfl, rfl⟩)
        | (go_at_call 22; refine (isInf_below _ hb _).mono ?_; rintro e w' ⟨rfl, rfl⟩))
      go_ret
      exact ⟨rfl, rfl⟩
  · go_enter Try.func12, Try.ntmps12
    go_wp2_with (go_at_call 21; refine (isNaN_any _ hb _).mono ?_; rintro e w' ⟨rfl, rfl⟩)
    go_ret
    exact ⟨rfl, rfl⟩

/-- The place of a number in the order of all. -/
def tk (b : Nat) : Int := if nan b then 36893488147419103232 else if neg b then -(rung b : Int) - 1 else rung b
def lessB (a b : Nat) : Bool := decide (tk a < tk b)
theorem neg_t {b : Nat} : neg b = true ↔ 9223372036854775808 ≤ b := by unfold neg; simp
theorem neg_f {b : Nat} : neg b = false ↔ b < 9223372036854775808 := by unfold neg; simp
theorem tk_nan {b : Nat} (h : nan b = true) : tk b = 36893488147419103232 := by unfold tk; rw [if_pos h]
theorem tk_key {b : Nat} (h : nan b = false) : tk b = if neg b then key b - 1 else key b := by
  unfold tk key; rw [h]
  cases hn : neg b
  · have := neg_f.1 hn
    simp [show ¬ 9223372036854775808 ≤ b by omega]
  · have := neg_t.1 hn
    simp [this]
theorem key_lt (b : Nat) : -9223372036854775808 < key b ∧ key b < 9223372036854775808 := by unfold key rung; split <;> omega
theorem key_neg {b : Nat} (h : neg b = true) : key b ≤ 0 := by rw [neg_t] at h; unfold key; rw [if_pos h]; omega
theorem key_pos {b : Nat} (h : neg b = false) : 0 ≤ key b := by rw [neg_f] at h; unfold key; rw [if_neg (by omega)]; omega

theorem Less_any (a b : Nat) (ha : a < 18446744073709551616) (hb : b < 18446744073709551616) (w : World) :
    Calls Try.prog 15 #[.float .f64 a, .float .f64 b] w fun e w' => e = .returned (.bool (lessB a b)) ∧ w = w' := by
  unfold lessB
  have la := key_lt a
  have lb := key_lt b
  cases na : nan a
  · have ta := tk_key na
    cases nb : nan b
    · have tb := tk_key nb
      rcases Int.lt_trichotomy (key a) (key b) with h | h | h
      · have ho := order_lt a b ha hb na nb h
        have hd : decide (tk a < tk b) = true := by
          rw [decide_eq_true_iff, ta, tb]
          cases sa : neg a <;> cases sb : neg b <;> simp <;> first | omega | (have := key_neg sb; have := key_pos sa; omega)
        rw [hd]
        clear ta tb hd
        go_enter Try.func15, Try.ntmps15
        go_wp2_with (go_at_call 21; (first | (with_reducible refine (isNaN_any a ha _).mono ?_) | (with_reducible refine (isNaN_any b hb _).mono ?_)); rintro e w' ⟨rfl, rfl⟩)
        go_ret
        exact ⟨rfl, rfl⟩
      · have ho := order_eq a b ha hb na nb h
        have hd : decide (tk a < tk b) = (neg a && !neg b) := by
          rw [ta, tb, h]
          cases sa : neg a <;> cases sb : neg b <;> simp <;> omega
        rw [hd]
        clear ta tb hd la lb
        have h' := Lib.hid h; clear h
        cases sa : neg a
        all_goals cases sb : neg b
        all_goals
          go_enter Try.func15, Try.ntmps15
          go_wp2_with (first
            | (go_at_call 21; (first | (with_reducible refine (isNaN_any a ha _).mono ?_) | (with_reducible refine (isNaN_any b hb _).mono ?_)); rintro e w' ⟨rfl, rfl⟩)
            | (go_at_call 25; (first | (with_reducible refine (signbit_any a ha _).mono ?_) | (with_reducible refine (signbit_any b hb _).mono ?_)); rintro e w' ⟨rfl, rfl⟩))
          go_ret
          exact ⟨rfl, rfl⟩
      · have ho := order_gt a b ha hb na nb h
        have hd : decide (tk a < tk b) = false := by
          rw [decide_eq_false_iff_not, ta, tb]
          cases sa : neg a <;> cases sb : neg b <;> simp <;> omega
        rw [hd]
        clear ta tb hd
        go_enter Try.func15, Try.ntmps15
        go_wp2_with (go_at_call 21; (first | (with_reducible refine (isNaN_any a ha _).mono ?_) | (with_reducible refine (isNaN_any b hb _).mono ?_)); rintro e w' ⟨rfl, rfl⟩)
        go_ret
        exact ⟨rfl, rfl⟩
    · have tb := tk_nan nb
      have hd : decide (tk a < tk b) = true := by
        rw [decide_eq_true_iff, ta, tb]; split <;> omega
      rw [hd]
      clear ta tb hd
      go_enter Try.func15, Try.ntmps15
      go_wp2_with (go_at_call 21; (first | (with_reducible refine (isNaN_any a ha _).mono ?_) | (with_reducible refine (isNaN_any b hb _).mono ?_)); rintro e w' ⟨rfl, rfl⟩)
      go_ret
      exact ⟨rfl, rfl⟩
  · have ta := tk_nan na
    have hd : decide (tk a < tk b) = false := by
      rw [decide_eq_false_iff_not, ta]
      cases nb : nan b
      · rw [tk_key nb]; split <;> omega
      · rw [tk_nan nb]; omega
    rw [hd]
    clear ta hd
    go_enter Try.func15, Try.ntmps15
    go_wp2_with (go_at_call 21; refine (isNaN_any a ha _).mono ?_; rintro e w' ⟨rfl, rfl⟩)
    go_ret
    exact ⟨rfl, rfl⟩

def mbad (b : Nat) : Bool := nan b || oinf b || decide (key b < 0)
def mn (b : Nat) : Nat := if mbad b then 0 else if 1000000 < mil (rung b) then 0 else mil (rung b)
def me (b : Nat) : Nat := if mbad b then 18 else if 1000000 < mil (rung b) then 6 else 0
theorem mn_bad {b : Nat} (h : mbad b = true) : mn b = 0 := by unfold mn; rw [if_pos h]
theorem me_bad {b : Nat} (h : mbad b = true) : me b = 18 := by unfold me; rw [if_pos h]
theorem mn_over {b : Nat} (h : mbad b = false) (h' : 1000000 < mil (rung b)) : mn b = 0 := by unfold mn; rw [h, if_neg (by simp), if_pos h']
theorem me_over {b : Nat} (h : mbad b = false) (h' : 1000000 < mil (rung b)) : me b = 6 := by unfold me; rw [h, if_neg (by simp), if_pos h']
theorem mn_ok {b : Nat} (h : mbad b = false) (h' : mil (rung b) ≤ 1000000) : mn b = mil (rung b) := by unfold mn; rw [h, if_neg (by simp), if_neg (by omega)]
theorem me_ok {b : Nat} (h : mbad b = false) (h' : mil (rung b) ≤ 1000000) : me b = 0 := by unfold me; rw [h, if_neg (by simp), if_neg (by omega)]

theorem key_rung {b : Nat} (h : 0 ≤ key b) : key b = rung b := by unfold key at *; split at h <;> simp_all <;> omega
theorem key_1001 : key 4652016104934211584 = 4652016104934211584 := by decide
theorem nan_1001 : nan 4652016104934211584 = false := by decide
theorem key_million : key 4696837146684686336 = 4696837146684686336 := by decide
theorem nan_million : nan 4696837146684686336 = false := by decide

theorem thousandfold_at (b x : Nat) (hb : b < 18446744073709551616) (h : rung b / 4503599627370496 ≤ 1032) (hx : Hid (mil (rung b) = x)) (w : World) :
    Calls Try.prog 23 #[.float .f64 b] w fun e w' => e = .returned (.int .i64 (x : Nat)) ∧ w = w' := by
  rw [← hx.out]; exact thousandfold_any b hb h w

theorem Milli_any (b : Nat) (hb : b < 18446744073709551616) (w : World) :
    Calls Try.prog 7 #[.float .f64 b] w fun e w' => e = .returned (.tuple #[.int .i64 (mn b : Nat), .int .i64 (me b : Nat)]) ∧ w = w' := by
  cases h1 : nan b
  · cases h2 : oinf b
    · by_cases h3 : key b < 0
      · have ho := order0_lt b hb h1 h3
        have hm : mbad b = true := by unfold mbad; rw [h1, h2]; simpa using h3
        rw [mn_bad hm, me_bad hm]
        clear hm h3
        go_enter Try.func7, Try.ntmps7
        go_wp2_with (first
          | (go_at_call 21; refine (isNaN_any _ hb _).mono ?_; rintro e w' ⟨rfl, rfl⟩)
          | (go_at_call 22; refine (isInf_both _ hb _).mono ?_; rintro e w' ⟨rfl, rfl⟩))
        go_ret2
        exact ⟨rfl, rfl⟩
      · have hk := key_rung (b := b) (by omega)
        have hm : mbad b = false := by unfold mbad; rw [h1, h2]; simpa using h3
        have ho : FloatKind.f64.format.order b 0 = some .eq ∨ FloatKind.f64.format.order b 0 = some .gt := by
          rcases Int.lt_trichotomy (key b) 0 with h | h | h
          · omega
          · exact Or.inl (order0_eq b hb h1 h)
          · exact Or.inr (order0_gt b hb h1 h)
        have ho' : (FloatKind.f64.format.order b 0 == some .lt) = false := by rcases ho with h | h <;> rw [h] <;> rfl
        clear ho
        by_cases h4 : 4652016104934211584 < rung b
        · have h5 : 1000000 < mil (rung b) := by
            have := mil_mono (Nat.le_of_lt h4)
            rw [mil_1001] at this; omega
          rw [mn_over hm h5, me_over hm h5]
          have h6 := order_gt b 4652016104934211584 hb (by omega) h1 nan_1001 (by rw [hk, key_1001]; omega)
          clear hm hk h3
          go_enter Try.func7, Try.ntmps7
          go_wp2_with (first
            | (go_at_call 21; refine (isNaN_any _ hb _).mono ?_; rintro e w' ⟨rfl, rfl⟩)
            | (go_at_call 22; refine (isInf_both _ hb _).mono ?_; rintro e w' ⟨rfl, rfl⟩))
          go_ret2
          exact ⟨rfl, rfl⟩
        · have h6 : (FloatKind.f64.format.order b 4652016104934211584 == some .gt) = false := by
            rcases Int.lt_or_eq_of_le (show key b ≤ 4652016104934211584 by omega) with h | h
            · rw [order_lt b _ hb (by omega) h1 nan_1001 (by rw [key_1001]; exact h)]; rfl
            · rw [order_eq b _ hb (by omega) h1 nan_1001 (by rw [key_1001]; exact h)]; rfl
          have h7 : rung b / 4503599627370496 ≤ 1032 := by omega
          clear hk h3
          obtain ⟨x, hx⟩ : ∃ x, mil (rung b) = x := ⟨_, rfl⟩
          have HX := Lib.hid hx
          by_cases h5 : 1000000 < x
          · rw [mn_over hm (by omega), me_over hm (by omega)]
            clear hm hx
            go_enter Try.func7, Try.ntmps7
            go_wp2_with (first
              | (go_at_call 21; refine (isNaN_any _ hb _).mono ?_; rintro e w' ⟨rfl, rfl⟩)
              | (go_at_call 22; refine (isInf_both _ hb _).mono ?_; rintro e w' ⟨rfl, rfl⟩)
              | (go_at_call 23; refine (thousandfold_at _ x hb h7 HX _).mono ?_; rintro e w' ⟨rfl, rfl⟩))
            go_ret2
            exact ⟨rfl, rfl⟩
          · rw [mn_ok hm (by omega), me_ok hm (by omega), hx]
            clear hm hx
            go_enter Try.func7, Try.ntmps7
            go_wp2_with (first
              | (go_at_call 21; refine (isNaN_any _ hb _).mono ?_; rintro e w' ⟨rfl, rfl⟩)
              | (go_at_call 22; refine (isInf_both _ hb _).mono ?_; rintro e w' ⟨rfl, rfl⟩)
              | (go_at_call 23; refine (thousandfold_at _ x hb h7 HX _).mono ?_; rintro e w' ⟨rfl, rfl⟩))
            go_ret2
            exact ⟨rfl, rfl⟩
    · have hm : mbad b = true := by unfold mbad; rw [h1, h2]; rfl
      rw [mn_bad hm, me_bad hm]
      clear hm
      go_enter Try.func7, Try.ntmps7
      go_wp2_with (first
        | (go_at_call 21; refine (isNaN_any _ hb _).mono ?_; rintro e w' ⟨rfl, rfl⟩)
        | (go_at_call 22; refine (isInf_both _ hb _).mono ?_; rintro e w' ⟨rfl, rfl⟩))
      go_ret2
      exact ⟨rfl, rfl⟩
  · have hm : mbad b = true := by unfold mbad; rw [h1]; rfl
    rw [mn_bad hm, me_bad hm]
    clear hm
    go_enter Try.func7, Try.ntmps7
    go_wp2_with (go_at_call 21; refine (isNaN_any _ hb _).mono ?_; rintro e w' ⟨rfl, rfl⟩)
    go_ret2
    exact ⟨rfl, rfl⟩

/-- The bits of a thousandth. -/
theorem Thousandth_any (n : Int) (h0 : -9223372036854775808 ≤ n) (h1 : n ≤ 9223372036854775807) (w : World) :
    Calls Try.prog 20 #[.int .i64 n] w fun e w' => ∃ b : Nat, e = .returned (.float .f64 b) ∧ b < inf ∧ mil b = (max (min n 1000000) 0).toNat ∧ w = w' := by
  obtain ⟨m, hm⟩ : ∃ m : Nat, max (min n 1000000) 0 = (m : Int) := ⟨(max (min n 1000000) 0).toNat, by omega⟩
  obtain ⟨b, hb, hi, hv⟩ := thou m (by omega)
  have hq := fun t w => run_float_arith (P := Try.prog) w .quo t .f64 _ _ _ hb
  rw [hm]
  by_cases h2 : n ≤ 1000000
  all_goals by_cases h3 : n < 0
  all_goals try omega
  · obtain rfl : m = 0 := by omega
    rw [show ((0 : Nat) : Int) = 0 from rfl] at hq
    go_enter Try.func20, Try.ntmps20
    go_wp2
    go_ret
    exact ⟨b, rfl, hi, hv, rfl⟩
  · obtain rfl : n = (m : Int) := by omega
    go_enter Try.func20, Try.ntmps20
    go_wp2
    go_ret
    exact ⟨b, rfl, hi, hv, rfl⟩
  · obtain rfl : m = 1000000 := by omega
    rw [show ((1000000 : Nat) : Int) = 1000000 from rfl] at hq
    go_enter Try.func20, Try.ntmps20
    go_wp2
    go_ret
    exact ⟨b, rfl, hi, hv, rfl⟩
end Go.Proofs.Ytmbcghngeodaeaa.Real
