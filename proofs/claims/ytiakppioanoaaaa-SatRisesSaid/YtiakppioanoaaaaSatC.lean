/- Contracts of the document's own answers for the layer 'sat'. Conditions: as each theorem states. -/
import Derived.Test.YtiakppioanoaaaaSatB
namespace Go.Proofs.Ytiakppioanoaaaa.Sat
open Go.RowKit Go.Lib

theorem radd_any (a b : Int) (w : World) (a0 : -9223372036854775808 ≤ a) (a1 : a ≤ 9223372036854775807) (b0 : -9223372036854775808 ≤ b) (b1 : b ≤ 9223372036854775807) :
    Calls Try.prog 8 #[.int .i64 a, .int .i64 b] w fun e w' => e = .returned (.int .i64 (hold (a + b))) ∧ w = w' := by
  by_cases h : 0 < b
  all_goals by_cases h' : b < 0
  all_goals try omega
  all_goals
    go_enter Try.func8, Try.ntmps8
    go_wp2
    all_goals
      go_ret
      exact ⟨ret_int (by unfold hold; (repeat' split) <;> omega), rfl⟩

theorem rsub_any (a b : Int) (w : World) (a0 : -9223372036854775808 ≤ a) (a1 : a ≤ 9223372036854775807) (b0 : -9223372036854775808 ≤ b) (b1 : b ≤ 9223372036854775807) :
    Calls Try.prog 10 #[.int .i64 a, .int .i64 b] w fun e w' => e = .returned (.int .i64 (hold (a - b))) ∧ w = w' := by
  by_cases h : 0 < b
  all_goals by_cases h' : b < 0
  all_goals try omega
  all_goals
    go_enter Try.func10, Try.ntmps10
    go_wp2
    all_goals
      go_ret
      exact ⟨ret_int (by unfold hold; (repeat' split) <;> omega), rfl⟩

theorem rclamp_any (n lo hi : Int) (w : World) :
    Calls Try.prog 16 #[.int .i64 n, .int .i64 lo, .int .i64 hi] w fun e w' => e = .returned (.int .i64 (max (min n hi) lo)) ∧ w = w' := by
  by_cases h : n < hi
  all_goals
    go_enter Try.func16, Try.ntmps16
    go_wp2
    all_goals
      go_ret
      exact ⟨ret_int (by omega), rfl⟩

theorem rgcd_any (a b : Int) (w : World) (_a0 : -9223372036854775808 ≤ a) (a1 : a ≤ 9223372036854775807) (_b0 : -9223372036854775808 ≤ b) (b1 : b ≤ 9223372036854775807) :
    Calls Try.prog 18 #[.int .i64 a, .int .i64 b] w fun e w' => e = .returned (.int .i64 (gd a b)) ∧ ∃ n, w' = w.drewN n := by
  obtain ⟨V, hV⟩ : ∃ V : Int, gd a b = V := ⟨_, rfl⟩
  rw [hV]
  have HV := Lib.hid hV; clear hV
  go_enter Try.func18, Try.ntmps18
  go_wp2
  all_goals
    go_loopw [5, 6] (fun p q wr => ∃ x y : Nat, x ≤ 9223372036854775807 ∧ y ≤ 9223372036854775807 ∧ p = .int .i64 (x : Int) ∧ q = .int .i64 (y : Int) ∧ Hid (V = ((Nat.gcd x y : Nat) : Int)) ∧ ∃ n, wr = w.drewN n) (fun _ q _ => (intOf q).toNat)
    case atStart =>
      refine ⟨a.toNat, b.toNat, by omega, by omega, ?_, ?_, Lib.hid ?_, ⟨0, rfl⟩⟩
      · congr 1; omega
      · congr 1; omega
      · exact HV.out.symm
    case round =>
      obtain ⟨x, y, hx, hy, rfl, rfl, hg, n, rfl⟩ := hrel
      by_cases h0 : y = 0
      · subst h0
        go_wp2
        go_ret
        exact ⟨ret_int (by rw [hg.out, Nat.gcd_zero_right]), n, rfl⟩
      · have hs := gcd_step x y h0
        have hm : (x : Int) % (y : Int) = ((x % y : Nat) : Int) := (Int.natCast_emod x y).symm
        have hm2 : x % y < y := Nat.mod_lt _ (by omega)
        have HS := Lib.hid hs
        have HM := Lib.hid hm
        clear hs hm
        have hy0 : 0 < y := by omega
        clear h0
        go_wp2
        go_quiet (fail)
        go_wp2
        go_roundw
        case rel => exact ⟨y, x % y, hy, by omega, rfl, by rw [HM.out], Lib.hid (by rw [HS.out]; exact hg.out), n + nq, by rw [World.drewN_drewN]⟩
        case measure => have := HM.out; simp only [intOf]; omega

theorem rmul_zero (a b : Int) (w : World) (h : a = 0 ∨ b = 0) :
    Calls Try.prog 12 #[.int .i64 a, .int .i64 b] w fun e w' => e = .returned (.int .i64 (hold (a * b))) ∧ w = w' := by
  have hz : a * b = 0 := by rcases h with h | h <;> simp [h]
  rw [hz]; clear hz
  by_cases ha : a = 0
  · subst ha
    go_enter Try.func12, Try.ntmps12
    go_wp2
    go_ret
    exact ⟨ret_int (by simp [hold]), rfl⟩
  · obtain rfl : b = 0 := by omega
    go_enter Try.func12, Try.ntmps12
    go_wp2
    go_ret
    exact ⟨ret_int (by simp [hold]), rfl⟩

theorem rmul_gen (a b : Int) (w : World) (a0 : -9223372036854775808 ≤ a) (a1 : a ≤ 9223372036854775807) (b0 : -9223372036854775808 ≤ b) (b1 : b ≤ 9223372036854775807) (ha : a ≠ 0) (hb : b ≠ 0)
    (ha' : a ≠ -1) (hb' : b ≠ -1) :
    Calls Try.prog 12 #[.int .i64 a, .int .i64 b] w fun e w' => e = .returned (.int .i64 (hold (a * b))) ∧ w = w' := by
  obtain ⟨V, hV⟩ : ∃ V : Int, hold (a * b) = V := ⟨_, rfl⟩
  rw [hV]
  have HV := Lib.hid hV; clear hV
  have ea : (a == 0) = false := by simpa using ha
  have eb : (b == 0) = false := by simpa using hb
  by_cases hr : -9223372036854775808 ≤ a * b ∧ a * b ≤ 9223372036854775807
  · have ht := mul_test_in a b hb a0 a1 hr
    have hT : (wrap64 ((wrap64 (a * b)).tdiv b) == a) = true := by rw [ht]; simp
    have HR := Lib.hid hr; clear hr ht
    go_enter Try.func12, Try.ntmps12
    go_wp2
    go_ret
    refine ⟨ret_int ?_, rfl⟩
    have hr := HR.out
    rw [← HV.out]
    unfold wrap64 hold
    rw [if_neg (by omega), if_neg (by omega)]
    omega
  · have ht := mul_test_out a b hb hb' a0 a1 b0 b1 hr
    have hT : (wrap64 ((wrap64 (a * b)).tdiv b) == a) = false := by simpa using ht
    have HR := Lib.hid hr; clear hr ht
    by_cases hs : (decide (a < 0) == decide (b < 0)) = true
    · have hp := pos_of_same a b ha hb hs
      go_enter Try.func12, Try.ntmps12
      go_wp2
      go_ret
      refine ⟨ret_int ?_, rfl⟩
      have hr := HR.out
      rw [← HV.out]
      unfold hold
      rw [if_pos (by omega)]
    · have hs' : (decide (a < 0) == decide (b < 0)) = false := by simpa using hs
      have hp := neg_of_other a b ha hb hs'
      clear hs
      go_enter Try.func12, Try.ntmps12
      go_wp2
      go_ret
      refine ⟨ret_int ?_, rfl⟩
      have hr := HR.out
      rw [← HV.out]
      unfold hold
      rw [if_neg (by omega), if_pos (by omega)]

theorem rmul_m1 (b : Int) (w : World) (b0 : -9223372036854775808 ≤ b) (b1 : b ≤ 9223372036854775807) (hb : b ≠ 0) :
    Calls Try.prog 12 #[.int .i64 (-1), .int .i64 b] w fun e w' => e = .returned (.int .i64 (hold (-1 * b))) ∧ w = w' := by
  by_cases h : b = -9223372036854775808
  · subst h
    go_enter Try.func12, Try.ntmps12
    go_wp2
    go_ret
    exact ⟨ret_int (by decide), rfl⟩
  · have h' : (b == -9223372036854775808) = false := by simpa using h
    by_cases h1 : b = -1
    · subst h1
      go_enter Try.func12, Try.ntmps12
      go_wp2
      go_ret
      exact ⟨ret_int (by decide), rfl⟩
    · go_enter Try.func12, Try.ntmps12
      go_wp2
      all_goals
        go_ret
        exact ⟨ret_int (by unfold hold; (repeat' split) <;> omega), rfl⟩

theorem rmul_m2 (a : Int) (w : World) (a0 : -9223372036854775808 ≤ a) (a1 : a ≤ 9223372036854775807) (ha : a ≠ 0) (ha1 : a ≠ -1) :
    Calls Try.prog 12 #[.int .i64 a, .int .i64 (-1)] w fun e w' => e = .returned (.int .i64 (hold (a * -1))) ∧ w = w' := by
  by_cases h : a = -9223372036854775808
  · subst h
    go_enter Try.func12, Try.ntmps12
    go_wp2
    go_ret
    exact ⟨ret_int (by decide), rfl⟩
  · have h' : (a == -9223372036854775808) = false := by simpa using h
    go_enter Try.func12, Try.ntmps12
    go_wp2
    all_goals
      go_ret
      exact ⟨ret_int (by unfold hold; (repeat' split) <;> omega), rfl⟩

theorem rmul_any (a b : Int) (w : World) (a0 : -9223372036854775808 ≤ a) (a1 : a ≤ 9223372036854775807) (b0 : -9223372036854775808 ≤ b) (b1 : b ≤ 9223372036854775807) :
    Calls Try.prog 12 #[.int .i64 a, .int .i64 b] w fun e w' => e = .returned (.int .i64 (hold (a * b))) ∧ w = w' := by
  by_cases ha : a = 0
  · exact rmul_zero a b w (Or.inl ha)
  by_cases hb : b = 0
  · exact rmul_zero a b w (Or.inr hb)
  by_cases ha' : a = -1
  · subst ha'; exact rmul_m1 b w b0 b1 hb
  by_cases hb' : b = -1
  · subst hb'; exact rmul_m2 a w a0 a1 ha ha'
  exact rmul_gen a b w a0 a1 b0 b1 ha hb ha' hb'

set_option maxHeartbeats 1000000 in
theorem wide_any (x y : Nat) (hx : x < 18446744073709551616) (hy : y < 18446744073709551616) (w : World) :
    Calls Try.prog 25 #[.int .u64 x, .int .u64 y] w fun e w' => e = .returned (.tuple #[.int .u64 ((x * y / 18446744073709551616 : Nat) : Int), .int .u64 ((x * y % 18446744073709551616 : Nat) : Int)]) ∧ w = w' := by
  obtain ⟨bd, bt, bw, hhi⟩ := Lib.mul64_hi x y hx hy
  have hlo := wide_lo x y
  have ba := Lib.half_mul_le (a := x / 4294967296) (b := y / 4294967296) (by omega) (by omega)
  have bb := Lib.half_mul_le (a := x / 4294967296) (b := y % 4294967296) (by omega) (by omega)
  have bc := Lib.half_mul_le (a := x % 4294967296) (b := y / 4294967296) (by omega) (by omega)
  have ba' : x / 4294967296 * (y / 4294967296) < 18446744073709551616 := by omega
  have bb' : x / 4294967296 * (y % 4294967296) < 18446744073709551616 := by omega
  have bc' : x % 4294967296 * (y / 4294967296) < 18446744073709551616 := by omega
  have bh1 : x / 4294967296 * (y / 4294967296) + (x / 4294967296 * (y % 4294967296) + x % 4294967296 * (y % 4294967296) / 4294967296) / 4294967296 < 18446744073709551616 := by omega
  have bw' : (x % 4294967296) * (y / 4294967296) + ((x / 4294967296) * (y % 4294967296) + (x % 4294967296) * (y % 4294967296) / 4294967296) % 4294967296 < 18446744073709551616 := by omega
  rw [Nat.add_comm (_ % 4294967296) (x % 4294967296 * (y / 4294967296))] at hhi hlo
  have bh : x / 4294967296 * (y / 4294967296) + (x / 4294967296 * (y % 4294967296) + x % 4294967296 * (y % 4294967296) / 4294967296) / 4294967296 + (x % 4294967296 * (y / 4294967296) + (x / 4294967296 * (y % 4294967296) + x % 4294967296 * (y % 4294967296) / 4294967296) % 4294967296) / 4294967296 < 18446744073709551616 := by omega
  have HH := Lib.hid hhi; clear hhi
  have HL := Lib.hid hlo; clear hlo
  go_enter Try.func25, Try.ntmps25
  go_wp2
  simp only [maskN x hx, maskN y hy, divN, mulN, addN, wrapN _ bd, wrapN _ bb', wrapN _ bt, maskN _ bt, maskN _ bd, wrapN _ bc', wrapN _ bw', wrapN _ ba', wrapN _ bh1, wrapN _ bh]
  rw [shl32_or _ _ (by omega)]
  rw [HH.out, HL.out]
  go_ret2
  exact ⟨rfl, rfl⟩

theorem wide_at (a b : Int) (x y hi lo : Nat) (ha : a = x) (hb : b = y) (hx : x < 18446744073709551616) (hy : y < 18446744073709551616) (h : Hid (x * y = hi * 18446744073709551616 + lo)) (hl : lo < 18446744073709551616) (w : World) :
    Calls Try.prog 25 #[.int .u64 a, .int .u64 b] w fun e w' => e = .returned (.tuple #[.int .u64 (hi : Int), .int .u64 (lo : Int)]) ∧ w = w' := by
  subst ha; subst hb
  refine (wide_any x y hx hy w).mono fun e w' ⟨he, hw⟩ => ⟨?_, hw⟩
  have h' := h.out
  rw [he]
  exact ret_int2 (by rw [h']; omega) (by rw [h']; omega)

set_option maxHeartbeats 4000000 in
theorem rmuldiv_any (a b c : Int) (w : World) (a0 : -9223372036854775808 ≤ a) (a1 : a ≤ 9223372036854775807) (b0 : -9223372036854775808 ≤ b) (b1 : b ≤ 9223372036854775807) (c0 : -9223372036854775808 ≤ c) (c1 : c ≤ 9223372036854775807) :
    Calls Try.prog 14 #[.int .i64 a, .int .i64 b, .int .i64 c] w fun e w' => e = .returned (.int .i64 (md a b c)) ∧ w = w' := by
  obtain ⟨hi, lo, hp, hlo, hhi⟩ := split_prod a.toNat b.toNat (by omega) (by omega)
  have hm := md_of a b c hi lo hp.out
  obtain ⟨x, hx⟩ : ∃ x : Nat, a.toNat = x := ⟨_, rfl⟩
  obtain ⟨y, hy⟩ : ∃ y : Nat, b.toNat = y := ⟨_, rfl⟩
  obtain ⟨C, hC⟩ : ∃ C : Nat, (max c 1).toNat = C := ⟨_, rfl⟩
  rw [hx, hy] at hp
  rw [hC] at hm
  have x1 : (x : Int) ≤ max a 0 := by omega
  have x2 : max a 0 ≤ (x : Int) := by omega
  have y1 : (y : Int) ≤ max b 0 := by omega
  have y2 : max b 0 ≤ (y : Int) := by omega
  have C1 : (C : Int) ≤ max c 1 := by omega
  have C2 : max c 1 ≤ (C : Int) := by omega
  clear hx hy hC
  obtain ⟨q, hq⟩ : ∃ q : Nat, (hi * 18446744073709551616 + lo) / C = q := ⟨_, rfl⟩
  rw [hq] at hm
  rw [hm]
  clear hm
  by_cases hh : C ≤ hi
  · have hge := mul_md hi lo C (by omega) hh
    rw [hq] at hge
    clear hq
    by_cases ha : a < 0
    all_goals by_cases hb : b < 0
    all_goals by_cases hc : c < 1
    all_goals
      go_enter Try.func14, Try.ntmps14
      go_wp2_with (go_at_call 25; refine (wide_at _ _ x y hi lo ?_ ?_ (by omega) (by omega) hp hlo _).mono ?_; omega; omega; rintro e w' ⟨rfl, rfl⟩)
      go_ret
      exact ⟨ret_int (by omega), rfl⟩
  · have hc' : hi < C := by omega
    have hlt := quot_lt hi lo C hc' hlo
    rw [hq] at hlt
    have HQ := Lib.hid hq; clear hq
    by_cases ha : a < 0
    all_goals by_cases hb : b < 0
    all_goals by_cases hc : c < 1
    all_goals
      go_enter Try.func14, Try.ntmps14
      go_wp2_with (go_at_call 25; refine (wide_at _ _ x y hi lo ?_ ?_ (by omega) (by omega) hp hlo _).mono ?_; omega; omega; rintro e w' ⟨rfl, rfl⟩)
      go_loop [7, 10, 28] (fun r q i => ∃ k R Q : Nat, k ≤ 64 ∧ Hid (dpart hi lo k % C = R ∧ dpart hi lo k / C = Q) ∧ i = .int .i64 k ∧ r = .int .u64 (R : Int) ∧ q = .int .u64 (Q : Int)) (fun _ _ i => 64 - (intOf i).toNat)
      case atStart =>
        have := dpart_zero hi lo hlo
        exact ⟨0, hi, 0, by omega, Lib.hid ⟨by rw [this, Nat.mod_eq_of_lt hc'], by rw [this, Nat.div_eq_of_lt hc']⟩, rfl, rfl, rfl⟩
      case round =>
        obtain ⟨k, R, Q, hk, hRQ, rfl, rfl, rfl⟩ := hrel
        have hR : R < C := by rw [← hRQ.out.1]; exact Nat.mod_lt _ (by omega)
        by_cases hlt' : k < 64
        · have hQ : Q < 9223372036854775808 := by
            rw [← hRQ.out.2]
            have h1 := dpart_lt hi lo C k hc' hlo hk
            have h2 : 2 ^ k ≤ 2 ^ 63 := Nat.pow_le_pow_right (by omega) (by omega)
            omega
          have hb := bit_step' R lo (63 - k) (by omega) hlo
          have hs := dpart_succ hi lo k hlt'
          have hd := step_div (dpart hi lo k) C (lo / 2 ^ (63 - k) % 2) (by omega) (by omega)
          rw [← hs, hRQ.out.1, hRQ.out.2] at hd
          have hq1 := or_bit' Q 1 (by omega) (by omega)
          have hbit : lo / 2 ^ (63 - k) % 2 < 2 := by omega
          generalize lo / 2 ^ (63 - k) % 2 = B at hb hd hbit
          have HD := Lib.hid hd
          have HQ := Lib.hid hq1
          clear hs hd hq1
          by_cases hcc : C ≤ 2 * R + B
          · go_wp2
            go_round
            case rel =>
              have e := HD.out
              rw [if_pos hcc, if_pos hcc] at e
              exact ⟨k + 1, 2 * R + B - C, 2 * Q + 1, by omega, Lib.hid ⟨e.2, e.1⟩, by go_num, by congr 1; omega, by have := HQ.out; congr 1⟩
            case measure => simp [intOf]; omega
          · go_wp2
            go_round
            case rel =>
              have e := HD.out
              rw [if_neg hcc, if_neg hcc] at e
              exact ⟨k + 1, 2 * R + B, 2 * Q, by omega, Lib.hid ⟨e.2, e.1⟩, by go_num, by congr 1, by congr 1; omega⟩
            case measure => simp [intOf]; omega
        · have hk' : k = 64 := by omega
          subst hk'
          have hQ : Q = q := by rw [← HQ.out, ← hRQ.out.2, dpart_end]
          subst hQ
          go_wp2
          all_goals
            go_ret
            exact ⟨ret_int (by omega), rfl⟩

end Go.Proofs.Ytiakppioanoaaaa.Sat
