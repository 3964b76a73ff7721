/- Contracts of the calls of package sat: the product, the division bit by bit, the quotient of a product, the greatest common divisor. Conditions: as each theorem states. -/
import Derived.Test.YtiakppioanoaaaaSatA
namespace Go.Proofs.Ytiakppioanoaaaa.Sat
open Go.RowKit Go.Lib

set_option maxHeartbeats 1000000 in
theorem divide_any (h l c : Nat) (w : World) (hc : h < c) (hc' : c ≤ 9223372036854775807) (hl : l < 18446744073709551616) :
    Calls Try.prog 24 #[.int .u64 h, .int .u64 l, .int .u64 c] w fun e w' => e = .returned (.int .u64 ((h * 18446744073709551616 + l) / c : Nat)) ∧ w = w' := by
  obtain ⟨V, hV⟩ : ∃ V : Nat, (h * 18446744073709551616 + l) / c = V := ⟨_, rfl⟩
  rw [hV]
  have HV := Lib.hid hV; clear hV
  go_enter Try.func24, Try.ntmps24
  go_wp2
  go_loop [7, 8, 11] (fun r q i => ∃ k R Q : Nat, k ≤ 64 ∧ Hid (dpart h l k % c = R ∧ dpart h l k / c = Q) ∧ i = .int .i64 k ∧ r = .int .u64 (R : Int) ∧ q = .int .u64 (Q : Int)) (fun _ _ i => 64 - (intOf i).toNat)
  case atStart =>
    have := dpart_zero h l hl
    exact ⟨0, h, 0, by omega, Lib.hid ⟨by rw [this, Nat.mod_eq_of_lt hc], by rw [this, Nat.div_eq_of_lt hc]⟩, rfl, rfl, rfl⟩
  case round =>
    obtain ⟨k, R, Q, hk, hRQ, rfl, rfl, rfl⟩ := hrel
    have hR : R < c := by rw [← hRQ.out.1]; exact Nat.mod_lt _ (by omega)
    by_cases hlt : k < 64
    · have hQ : Q < 9223372036854775808 := by
        rw [← hRQ.out.2]
        have h1 := dpart_lt h l c k hc hl hk
        have h2 : 2 ^ k ≤ 2 ^ 63 := Nat.pow_le_pow_right (by omega) (by omega)
        omega
      have hb := bit_step' R l (63 - k) (by omega) hl
      have hs := dpart_succ h l k hlt
      have hd := step_div (dpart h l k) c (l / 2 ^ (63 - k) % 2) (by omega) (by omega)
      rw [← hs, hRQ.out.1, hRQ.out.2] at hd
      have hq1 := or_bit' Q 1 (by omega) (by omega)
      have hbit : l / 2 ^ (63 - k) % 2 < 2 := by omega
      generalize l / 2 ^ (63 - k) % 2 = B at hb hd hbit
      have HD := Lib.hid hd
      have HQ := Lib.hid hq1
      clear hs hd hq1
      by_cases hcc : c ≤ 2 * R + B
      · go_wp2
        go_round
        case rel =>
          have e := HD.out
          rw [if_pos hcc, if_pos hcc] at e
          exact ⟨k + 1, 2 * R + B - c, 2 * Q + 1, by omega, Lib.hid ⟨e.2, e.1⟩, by go_num, by congr 1; omega, by have := HQ.out; congr 1⟩
        case measure => simp [intOf]; omega
      · go_wp2
        go_round
        case rel =>
          have e := HD.out
          rw [if_neg hcc, if_neg hcc] at e
          exact ⟨k + 1, 2 * R + B, 2 * Q, by omega, Lib.hid ⟨e.2, e.1⟩, by go_num, by congr 1, by congr 1; omega⟩
        case measure => simp [intOf]; omega
    · have hk' : k = 64 := by omega
      subst hk'
      go_wp2
      go_ret
      exact ⟨ret_int (by rw [← HV.out, ← hRQ.out.2, dpart_end]), rfl⟩

theorem mul64_at (x y hi lo : Nat) (hx : x < 18446744073709551616) (hy : y < 18446744073709551616) (h : Hid (x * y = hi * 18446744073709551616 + lo)) (hl : lo < 18446744073709551616) (w : World) :
    Calls Try.prog 20 #[.int .u64 x, .int .u64 y] w fun e w' => e = .returned (.tuple #[.int .u64 (hi : Int), .int .u64 (lo : Int)]) ∧ w = w' := by
  refine (mul64_any x y hx hy w).mono fun e w' ⟨he, hw⟩ => ⟨?_, hw⟩
  have h' := h.out
  rw [he]
  exact ret_int2 (by rw [h']; omega) (by rw [h']; omega)

theorem split_prod (x y : Nat) (hx : x ≤ 9223372036854775808) (hy : y ≤ 9223372036854775808) :
    ∃ hi lo : Nat, Hid (x * y = hi * 18446744073709551616 + lo) ∧ lo < 18446744073709551616 ∧ hi < 18446744073709551616 := by
  refine ⟨x * y / 18446744073709551616, x * y % 18446744073709551616, Lib.hid (by omega), by omega, ?_⟩
  have := Nat.mul_le_mul hx hy
  omega

theorem abs_mul_same (a b : Int) (h : (a < 0) = (b < 0)) : a * b = ((a.natAbs * b.natAbs : Nat) : Int) := by
  rw [← Int.natAbs_mul]
  by_cases ha : a < 0
  · have hb : b < 0 := by rw [← h]; exact ha
    have := Int.mul_pos_of_neg_of_neg ha hb
    omega
  · have hb : ¬ b < 0 := by rw [← h]; exact ha
    have := Int.mul_nonneg (Int.not_lt.mp ha) (Int.not_lt.mp hb)
    omega
theorem abs_mul_other (a b : Int) (h : (a < 0) = ¬ (b < 0)) : a * b = -((a.natAbs * b.natAbs : Nat) : Int) := by
  rw [← Int.natAbs_mul]
  by_cases ha : a < 0
  · have hb : ¬ b < 0 := by rw [← h]; exact ha
    have := Int.mul_nonneg (a := -a) (b := b) (by omega) (by omega)
    rw [Int.neg_mul] at this
    omega
  · have hb : b < 0 := by simpa [ha] using h
    have := Int.mul_nonneg (a := a) (b := -b) (by omega) (by omega)
    rw [Int.mul_neg] at this
    omega

theorem mul_nn (a b : Int) (w : World) (a0 : -9223372036854775808 ≤ a) (a1 : a ≤ 9223372036854775807) (b0 : -9223372036854775808 ≤ b) (b1 : b ≤ 9223372036854775807) (ha : a < 0) (hb : b < 0) :
    Calls Try.prog 11 #[.int .i64 a, .int .i64 b] w fun e w' => e = .returned (.int .i64 (hold (a * b))) ∧ w = w' := by
  obtain ⟨hi, lo, hp, hlo, hhi⟩ := split_prod a.natAbs b.natAbs (by omega) (by omega)
  have he := abs_mul_same a b (by simp [ha, hb])
  rw [hp.out] at he
  have HE := Lib.hid he; clear he
  obtain ⟨V, hV⟩ : ∃ V : Int, hold (a * b) = V := ⟨_, rfl⟩
  rw [hV]
  have HV := Lib.hid hV; clear hV
  have da : decide (a < 0) = true := by simpa using ha
  have db : decide (b < 0) = true := by simpa using hb
  by_cases hh : 0 < hi
  all_goals by_cases hl : 9223372036854775808 < lo
  all_goals
    go_enter Try.func11, Try.ntmps11
    go_wp2_with (first
      | (go_at_call 21; refine (magnitude_any _ _ (by omega) (by omega)).mono ?_; rintro e w' ⟨rfl, rfl⟩)
      | (go_at_call 20; refine (mul64_at a.natAbs b.natAbs hi lo (by omega) (by omega) hp hlo _).mono ?_; rintro e w' ⟨rfl, rfl⟩)
      | (go_at_call 22; refine (held_any hi lo _ hhi hlo).mono ?_; rintro e w' ⟨rfl, rfl⟩))
    go_ret
    refine ⟨ret_int ?_, rfl⟩
    rw [← HV.out, HE.out]
    clear HV HE
    first
      | (simp only [hold]; (repeat' split) <;> omega)
      | (simp only [IntKind.wrap_u64, wrap64, hold]; (repeat' split) <;> omega)
      | (simp only [IntKind.wrap_u64, hold]; (repeat' split) <;> omega)

theorem mul_pp (a b : Int) (w : World) (a0 : -9223372036854775808 ≤ a) (a1 : a ≤ 9223372036854775807) (b0 : -9223372036854775808 ≤ b) (b1 : b ≤ 9223372036854775807) (ha : ¬ a < 0) (hb : ¬ b < 0) :
    Calls Try.prog 11 #[.int .i64 a, .int .i64 b] w fun e w' => e = .returned (.int .i64 (hold (a * b))) ∧ w = w' := by
  obtain ⟨hi, lo, hp, hlo, hhi⟩ := split_prod a.natAbs b.natAbs (by omega) (by omega)
  have he := abs_mul_same a b (by simp [ha, hb])
  rw [hp.out] at he
  have HE := Lib.hid he; clear he
  obtain ⟨V, hV⟩ : ∃ V : Int, hold (a * b) = V := ⟨_, rfl⟩
  rw [hV]
  have HV := Lib.hid hV; clear hV
  have da : decide (a < 0) = false := by simpa using ha
  have db : decide (b < 0) = false := by simpa using hb
  by_cases hh : 0 < hi
  all_goals by_cases hl : 9223372036854775808 < lo
  all_goals
    go_enter Try.func11, Try.ntmps11
    go_wp2_with (first
      | (go_at_call 21; refine (magnitude_any _ _ (by omega) (by omega)).mono ?_; rintro e w' ⟨rfl, rfl⟩)
      | (go_at_call 20; refine (mul64_at a.natAbs b.natAbs hi lo (by omega) (by omega) hp hlo _).mono ?_; rintro e w' ⟨rfl, rfl⟩)
      | (go_at_call 22; refine (held_any hi lo _ hhi hlo).mono ?_; rintro e w' ⟨rfl, rfl⟩))
    go_ret
    refine ⟨ret_int ?_, rfl⟩
    rw [← HV.out, HE.out]
    clear HV HE
    first
      | (simp only [hold]; (repeat' split) <;> omega)
      | (simp only [IntKind.wrap_u64, wrap64, hold]; (repeat' split) <;> omega)
      | (simp only [IntKind.wrap_u64, hold]; (repeat' split) <;> omega)

theorem mul_np (a b : Int) (w : World) (a0 : -9223372036854775808 ≤ a) (a1 : a ≤ 9223372036854775807) (b0 : -9223372036854775808 ≤ b) (b1 : b ≤ 9223372036854775807) (ha : a < 0) (hb : ¬ b < 0) :
    Calls Try.prog 11 #[.int .i64 a, .int .i64 b] w fun e w' => e = .returned (.int .i64 (hold (a * b))) ∧ w = w' := by
  obtain ⟨hi, lo, hp, hlo, hhi⟩ := split_prod a.natAbs b.natAbs (by omega) (by omega)
  have he := abs_mul_other a b (by simp [ha, hb])
  rw [hp.out] at he
  have HE := Lib.hid he; clear he
  obtain ⟨V, hV⟩ : ∃ V : Int, hold (a * b) = V := ⟨_, rfl⟩
  rw [hV]
  have HV := Lib.hid hV; clear hV
  have da : decide (a < 0) = true := by simpa using ha
  have db : decide (b < 0) = false := by simpa using hb
  by_cases hh : 0 < hi
  all_goals by_cases hl : 9223372036854775808 < lo
  all_goals
    go_enter Try.func11, Try.ntmps11
    go_wp2_with (first
      | (go_at_call 21; refine (magnitude_any _ _ (by omega) (by omega)).mono ?_; rintro e w' ⟨rfl, rfl⟩)
      | (go_at_call 20; refine (mul64_at a.natAbs b.natAbs hi lo (by omega) (by omega) hp hlo _).mono ?_; rintro e w' ⟨rfl, rfl⟩)
      | (go_at_call 22; refine (held_any hi lo _ hhi hlo).mono ?_; rintro e w' ⟨rfl, rfl⟩))
    go_ret
    refine ⟨ret_int ?_, rfl⟩
    rw [← HV.out, HE.out]
    clear HV HE
    first
      | (simp only [hold]; (repeat' split) <;> omega)
      | (simp only [IntKind.wrap_u64, wrap64, hold]; (repeat' split) <;> omega)
      | (simp only [IntKind.wrap_u64, hold]; (repeat' split) <;> omega)

theorem mul_pn (a b : Int) (w : World) (a0 : -9223372036854775808 ≤ a) (a1 : a ≤ 9223372036854775807) (b0 : -9223372036854775808 ≤ b) (b1 : b ≤ 9223372036854775807) (ha : ¬ a < 0) (hb : b < 0) :
    Calls Try.prog 11 #[.int .i64 a, .int .i64 b] w fun e w' => e = .returned (.int .i64 (hold (a * b))) ∧ w = w' := by
  obtain ⟨hi, lo, hp, hlo, hhi⟩ := split_prod a.natAbs b.natAbs (by omega) (by omega)
  have he := abs_mul_other a b (by simp [ha, hb])
  rw [hp.out] at he
  have HE := Lib.hid he; clear he
  obtain ⟨V, hV⟩ : ∃ V : Int, hold (a * b) = V := ⟨_, rfl⟩
  rw [hV]
  have HV := Lib.hid hV; clear hV
  have da : decide (a < 0) = false := by simpa using ha
  have db : decide (b < 0) = true := by simpa using hb
  by_cases hh : 0 < hi
  all_goals by_cases hl : 9223372036854775808 < lo
  all_goals
    go_enter Try.func11, Try.ntmps11
    go_wp2_with (first
      | (go_at_call 21; refine (magnitude_any _ _ (by omega) (by omega)).mono ?_; rintro e w' ⟨rfl, rfl⟩)
      | (go_at_call 20; refine (mul64_at a.natAbs b.natAbs hi lo (by omega) (by omega) hp hlo _).mono ?_; rintro e w' ⟨rfl, rfl⟩)
      | (go_at_call 22; refine (held_any hi lo _ hhi hlo).mono ?_; rintro e w' ⟨rfl, rfl⟩))
    go_ret
    refine ⟨ret_int ?_, rfl⟩
    rw [← HV.out, HE.out]
    clear HV HE
    first
      | (simp only [hold]; (repeat' split) <;> omega)
      | (simp only [IntKind.wrap_u64, wrap64, hold]; (repeat' split) <;> omega)
      | (simp only [IntKind.wrap_u64, hold]; (repeat' split) <;> omega)

theorem mul_any (a b : Int) (w : World) (a0 : -9223372036854775808 ≤ a) (a1 : a ≤ 9223372036854775807) (b0 : -9223372036854775808 ≤ b) (b1 : b ≤ 9223372036854775807) :
    Calls Try.prog 11 #[.int .i64 a, .int .i64 b] w fun e w' => e = .returned (.int .i64 (hold (a * b))) ∧ w = w' := by
  by_cases ha : a < 0
  · by_cases hb : b < 0
    · exact mul_nn a b w a0 a1 b0 b1 ha hb
    · exact mul_np a b w a0 a1 b0 b1 ha hb
  · by_cases hb : b < 0
    · exact mul_pn a b w a0 a1 b0 b1 ha hb
    · exact mul_pp a b w a0 a1 b0 b1 ha hb

theorem md_of (a b c : Int) (hi lo : Nat) (h : a.toNat * b.toNat = hi * 18446744073709551616 + lo) :
    md a b c = min 9223372036854775807 (((hi * 18446744073709551616 + lo) / (max c 1).toNat : Nat) : Int) := by
  unfold md
  have ea : max a 0 = (a.toNat : Int) := by omega
  have eb : max b 0 = (b.toNat : Int) := by omega
  have ec : max c 1 = ((max c 1).toNat : Int) := by omega
  rw [ea, eb, ← Int.natCast_mul, h]
  conv => lhs; rw [ec]
  rw [← Int.natCast_ediv]

theorem divide_at (h l c q : Nat) (w : World) (hc : h < c) (hc' : c ≤ 9223372036854775807) (hl : l < 18446744073709551616) (hq : Hid ((h * 18446744073709551616 + l) / c = q)) :
    Calls Try.prog 24 #[.int .u64 h, .int .u64 l, .int .u64 c] w fun e w' => e = .returned (.int .u64 (q : Int)) ∧ w = w' := by
  rw [← hq.out]; exact divide_any h l c w hc hc' hl
theorem divide_one (l : Nat) (w : World) (hl : l < 18446744073709551616) :
    Calls Try.prog 24 #[.int .u64 0, .int .u64 l, .int .u64 1] w fun e w' => e = .returned (.int .u64 (l : Int)) ∧ w = w' := by
  have := divide_any 0 l 1 w (by omega) (by omega) hl
  simpa using this
theorem held_zero (l : Nat) (w : World) (h1 : l < 18446744073709551616) :
    Calls Try.prog 22 #[.int .u64 0, .int .u64 l] w fun e w' => e = .returned (.int .i64 (min 9223372036854775807 (l : Int))) ∧ w = w' := by
  have := held_any 0 l w (by omega) h1
  simpa using this
theorem quot_lt (h l c : Nat) (hc : h < c) (hl : l < 18446744073709551616) : (h * 18446744073709551616 + l) / c < 18446744073709551616 := by
  have := dpart_lt h l c 64 hc hl (by omega)
  rwa [dpart_end] at this

theorem natural_at (n : Int) (x : Nat) (w : World) (h0 : -9223372036854775808 ≤ n) (h1 : n ≤ 9223372036854775807) (h : Hid (n.toNat = x)) :
    Calls Try.prog 23 #[.int .i64 n] w fun e w' => e = .returned (.int .u64 (x : Int)) ∧ w = w' := by
  rw [← h.out]; exact natural_any n w h0 h1

theorem muldiv_big (a b : Int) (C : Nat) (w : World) (a0 : -9223372036854775808 ≤ a) (a1 : a ≤ 9223372036854775807) (b0 : -9223372036854775808 ≤ b) (b1 : b ≤ 9223372036854775807) (c0 : 1 ≤ C) (c1 : C ≤ 9223372036854775807) :
    Calls Try.prog 13 #[.int .i64 a, .int .i64 b, .int .i64 C] w fun e w' => e = .returned (.int .i64 (md a b C)) ∧ w = w' := by
  obtain ⟨hi, lo, hp, hlo, hhi⟩ := split_prod a.toNat b.toNat (by omega) (by omega)
  have hm := md_of a b C hi lo hp.out
  obtain ⟨x, hx⟩ : ∃ x : Nat, a.toNat = x := ⟨_, rfl⟩
  obtain ⟨y, hy⟩ : ∃ y : Nat, b.toNat = y := ⟨_, rfl⟩
  have hx' : x ≤ 9223372036854775807 := by omega
  have hy' : y ≤ 9223372036854775807 := by omega
  rw [hx, hy] at hp
  have HX := Lib.hid hx; clear hx
  have HY := Lib.hid hy; clear hy
  obtain ⟨q, hq⟩ : ∃ q : Nat, (hi * 18446744073709551616 + lo) / C = q := ⟨_, rfl⟩
  rw [show (max (C : Int) 1).toNat = C by omega, hq] at hm
  rw [hm]
  clear hm
  by_cases hh : C ≤ hi
  · have hge := mul_md hi lo C (by omega) hh
    rw [hq] at hge
    clear hq
    go_enter Try.func13, Try.ntmps13
    go_wp2_with (first
      | (go_at_call 23; (first | (with_reducible refine (natural_at a x _ a0 a1 HX).mono ?_) | (with_reducible refine (natural_at b y _ b0 b1 HY).mono ?_)); rintro e w' ⟨rfl, rfl⟩)
      | (go_at_call 20; refine (mul64_at x y hi lo (by omega) (by omega) hp hlo _).mono ?_; rintro e w' ⟨rfl, rfl⟩)
      | (go_at_call 24; refine (divide_any _ _ _ _ (by omega) (by omega) (by omega)).mono ?_; rintro e w' ⟨rfl, rfl⟩)
      | (go_at_call 22; refine (held_zero _ _ (by omega)).mono ?_; rintro e w' ⟨rfl, rfl⟩))
    go_ret
    exact ⟨ret_int (by omega), rfl⟩
  · have hlt := quot_lt hi lo C (by omega) hlo
    rw [hq] at hlt
    have HQ := Lib.hid hq; clear hq
    go_enter Try.func13, Try.ntmps13
    go_wp2_with (first
      | (go_at_call 23; (first | (with_reducible refine (natural_at a x _ a0 a1 HX).mono ?_) | (with_reducible refine (natural_at b y _ b0 b1 HY).mono ?_)); rintro e w' ⟨rfl, rfl⟩)
      | (go_at_call 20; refine (mul64_at x y hi lo (by omega) (by omega) hp hlo _).mono ?_; rintro e w' ⟨rfl, rfl⟩)
      | (go_at_call 24; refine (divide_at hi lo C q _ (by omega) (by omega) hlo HQ).mono ?_; rintro e w' ⟨rfl, rfl⟩)
      | (go_at_call 22; refine (held_zero q _ hlt).mono ?_; rintro e w' ⟨rfl, rfl⟩))
    go_ret
    exact ⟨rfl, rfl⟩

theorem muldiv_small (a b c : Int) (w : World) (a0 : -9223372036854775808 ≤ a) (a1 : a ≤ 9223372036854775807) (b0 : -9223372036854775808 ≤ b) (b1 : b ≤ 9223372036854775807) (c0 : -9223372036854775808 ≤ c) (c1 : c < 1) :
    Calls Try.prog 13 #[.int .i64 a, .int .i64 b, .int .i64 c] w fun e w' => e = .returned (.int .i64 (md a b c)) ∧ w = w' := by
  obtain ⟨hi, lo, hp, hlo, hhi⟩ := split_prod a.toNat b.toNat (by omega) (by omega)
  have hm := md_of a b c hi lo hp.out
  obtain ⟨x, hx⟩ : ∃ x : Nat, a.toNat = x := ⟨_, rfl⟩
  obtain ⟨y, hy⟩ : ∃ y : Nat, b.toNat = y := ⟨_, rfl⟩
  have hx' : x ≤ 9223372036854775807 := by omega
  have hy' : y ≤ 9223372036854775807 := by omega
  rw [hx, hy] at hp
  have HX := Lib.hid hx; clear hx
  have HY := Lib.hid hy; clear hy
  rw [show (max c 1).toNat = 1 by omega, Nat.div_one] at hm
  rw [hm]
  clear hm
  by_cases hh : 1 ≤ hi
  · go_enter Try.func13, Try.ntmps13
    go_wp2_with (first
      | (go_at_call 23; (first | (with_reducible refine (natural_at a x _ a0 a1 HX).mono ?_) | (with_reducible refine (natural_at b y _ b0 b1 HY).mono ?_)); rintro e w' ⟨rfl, rfl⟩)
      | (go_at_call 20; refine (mul64_at x y hi lo (by omega) (by omega) hp hlo _).mono ?_; rintro e w' ⟨rfl, rfl⟩)
      | (go_at_call 24; refine (divide_any _ _ _ _ (by omega) (by omega) (by omega)).mono ?_; rintro e w' ⟨rfl, rfl⟩)
      | (go_at_call 22; refine (held_zero _ _ (by omega)).mono ?_; rintro e w' ⟨rfl, rfl⟩))
    go_ret
    exact ⟨ret_int (by omega), rfl⟩
  · obtain rfl : hi = 0 := by omega
    go_enter Try.func13, Try.ntmps13
    go_wp2_with (first
      | (go_at_call 23; (first | (with_reducible refine (natural_at a x _ a0 a1 HX).mono ?_) | (with_reducible refine (natural_at b y _ b0 b1 HY).mono ?_)); rintro e w' ⟨rfl, rfl⟩)
      | (go_at_call 20; refine (mul64_at x y 0 lo (by omega) (by omega) hp hlo _).mono ?_; rintro e w' ⟨rfl, rfl⟩)
      | (go_at_call 24; refine (divide_one lo _ hlo).mono ?_; rintro e w' ⟨rfl, rfl⟩)
      | (go_at_call 22; refine (held_zero lo _ hlo).mono ?_; rintro e w' ⟨rfl, rfl⟩))
    go_ret
    exact ⟨ret_int (by omega), rfl⟩

theorem muldiv_any (a b c : Int) (w : World) (a0 : -9223372036854775808 ≤ a) (a1 : a ≤ 9223372036854775807) (b0 : -9223372036854775808 ≤ b) (b1 : b ≤ 9223372036854775807) (c0 : -9223372036854775808 ≤ c) (c1 : c ≤ 9223372036854775807) :
    Calls Try.prog 13 #[.int .i64 a, .int .i64 b, .int .i64 c] w fun e w' => e = .returned (.int .i64 (md a b c)) ∧ w = w' := by
  by_cases h : c < 1
  · exact muldiv_small a b c w a0 a1 b0 b1 c0 h
  · obtain ⟨C, rfl⟩ : ∃ C : Nat, c = C := ⟨c.toNat, by omega⟩
    exact muldiv_big a b C w a0 a1 b0 b1 (by omega) (by omega)

theorem gcd_step (x y : Nat) (_h : y ≠ 0) : Nat.gcd y (x % y) = Nat.gcd x y := by
  rw [Nat.gcd_comm x y, Nat.gcd_rec y x, Nat.gcd_comm]

theorem gcd_any (a b : Int) (w : World) (_a0 : -9223372036854775808 ≤ a) (a1 : a ≤ 9223372036854775807) (_b0 : -9223372036854775808 ≤ b) (b1 : b ≤ 9223372036854775807) :
    Calls Try.prog 17 #[.int .i64 a, .int .i64 b] w fun e w' => e = .returned (.int .i64 (gd a b)) ∧ ∃ n, w' = w.drewN n := by
  obtain ⟨V, hV⟩ : ∃ V : Int, gd a b = V := ⟨_, rfl⟩
  rw [hV]
  have HV := Lib.hid hV; clear hV
  go_enter Try.func17, Try.ntmps17
  go_wp2
  all_goals
    go_loopw [0, 1] (fun p q wr => ∃ x y : Nat, x ≤ 9223372036854775807 ∧ y ≤ 9223372036854775807 ∧ p = .int .i64 (x : Int) ∧ q = .int .i64 (y : Int) ∧ Hid (V = ((Nat.gcd x y : Nat) : Int)) ∧ ∃ n, wr = w.drewN n) (fun _ q _ => (intOf q).toNat)
    case atStart => 
      refine ⟨a.toNat, b.toNat, by omega, by omega, ?_, ?_, Lib.hid ?_, ⟨0, rfl⟩⟩
      · congr 1; omega
      · congr 1; omega
      · exact HV.out.symm
    case round =>
      obtain ⟨x, y, hx, hy, rfl, rfl, hg, n, rfl⟩ := hrel
      by_cases h0 : y = 0
      · subst h0
        go_wp2
        go_ret
        exact ⟨ret_int (by rw [hg.out, Nat.gcd_zero_right]), n, rfl⟩
      · have hs := gcd_step x y h0
        have hm : (x : Int) % (y : Int) = ((x % y : Nat) : Int) := (Int.natCast_emod x y).symm
        have hm2 : x % y < y := Nat.mod_lt _ (by omega)
        have HS := Lib.hid hs
        have HM := Lib.hid hm
        clear hs hm
        have hy0 : 0 < y := by omega
        clear h0
        go_wp2
        go_quiet (fail)
        go_wp2
        go_roundw
        case rel => exact ⟨y, x % y, hy, by omega, rfl, by rw [HM.out], Lib.hid (by rw [HS.out]; exact hg.out), n + nq, by rw [World.drewN_drewN]⟩
        case measure => have := HM.out; simp only [intOf]; omega

end Go.Proofs.Ytiakppioanoaaaa.Sat
