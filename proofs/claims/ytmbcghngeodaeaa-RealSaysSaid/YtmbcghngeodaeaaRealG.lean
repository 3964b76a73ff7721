/- The document's answer for thousandths. Conditions: as each theorem states. -/
import Derived.Test.YtmbcghngeodaeaaRealF
namespace Go.Proofs.Ytmbcghngeodaeaa.Real
open Go.RowKit Go.Lib

def oddF (P k : Nat) : Bool := if k = 0 then false else P / 2 ^ (k - 1) % 2 == 1
def restF (P k : Nat) : Bool := if k = 0 then false else P % 2 ^ (k - 1) != 0
theorem oddF_succ (P k : Nat) : oddF P (k + 1) = (P / 2 ^ k % 2 == 1) := by unfold oddF; simp
theorem restF_succ (P k : Nat) : restF P (k + 1) = (restF P k || oddF P k) := by
  unfold oddF restF
  rcases Nat.eq_zero_or_pos k with h | h
  · subst h; simp [Nat.mod_one]
  · obtain ⟨j, rfl⟩ : ∃ j, k = j + 1 := ⟨k - 1, by omega⟩
    simp only [Nat.add_sub_cancel, Nat.add_one_ne_zero, if_false]
    have e1 : P % 2 ^ (j + 1) = P % 2 ^ j + 2 ^ j * (P / 2 ^ j % 2) := by rw [Nat.pow_succ, Nat.mod_mul]
    have hp := Nat.two_pow_pos j
    rw [e1]
    generalize P % 2 ^ j = m
    rcases Nat.mod_two_eq_zero_or_one (P / 2 ^ j) with h2 | h2 <;> rw [h2]
    · simp
    · generalize 2 ^ j = d at *
      have : (m + d * 1 != 0) = true := by simp; omega
      rw [this]; simp
theorem near_fold (P k : Nat) : near P (2 ^ (k + 1)) = P / 2 ^ (k + 1) + (if oddF P (k + 1) && (restF P (k + 1) || P / 2 ^ (k + 1) % 2 == 1) then 1 else 0) := by
  have e : restF P (k + 1) = (P % 2 ^ k != 0) := by unfold restF; simp
  rw [near_bits, oddF_succ, e]
  congr 1
  by_cases c : P / 2 ^ k % 2 = 1 ∧ (P % 2 ^ k ≠ 0 ∨ P / 2 ^ (k + 1) % 2 = 1)
  · rw [if_pos c, if_pos (by simpa using c)]
  · rw [if_neg c, if_neg (by simpa using c)]

theorem ret_int2' {k : IntKind} {a b c d : Int} {A : Prop} (h : a = b) (h' : c = d) (hA : A) : Ending.returned (.tuple #[.int k a, .int k c]) = .returned (.tuple #[.int k b, .int k d]) ∧ A := ⟨by rw [h, h'], hA⟩

set_option maxRecDepth 100000 in
set_option maxHeartbeats 2000000 in
theorem rMilli_loop (b : Nat) (hb : b < 18446744073709551616) (w : World) (h1 : nan b = false) (r c e f n K M N E : Nat) (hc : Hid (cls b = c)) (c1 : 2 ≤ c) (c2 : c ≤ 4)
    (ho' : (FloatKind.f64.format.order b 0 == some .lt) = false) (h6 : (FloatKind.f64.format.order b 4696837146684686336 == some .gt) = false)
    (q1 : bits .and .u64 (b : Int) 9223372036854775807 = (r : Int)) (q2 : bits .and .u64 (r : Int) 4503599627370495 = (f : Int))
    (he' : (r : Int) / 4503599627370496 = (e : Int)) (e1 : e ≤ 1042) (f1 : f < 4503599627370496)
    (hM : (e = 0 ∧ M = f) ∨ (0 < e ∧ M = f + 4503599627370496)) (hK : (K : Int) + 1 = 1075 - max (e : Int) 1) (hn : near (M * 1000) (2 ^ (K + 1)) = n)
    (hN : (1000000 < n ∧ N = 0 ∧ E = 6) ∨ (n ≤ 1000000 ∧ N = n ∧ E = 0)) :
    Calls Try.prog 8 #[.float .f64 b] w fun e w' => e = .returned (.tuple #[.int .i64 (N : Nat), .int .i64 (E : Nat)]) ∧ ∃ n, w' = w.drewN n := by
  have hr : ((c : Int) == 0) = false := by simp; omega
  have hr1 : ((c : Int) == 1) = false := by simp; omega
  have hr5 : ((c : Int) == 5) = false := by simp; omega
  have HN := Lib.hid hn
  have hMlt : M < 9007199254740992 := by omega
  have hxK : M * 1000 / 2 ^ (K + 1) < 4294967296 := by
    have a1 : M * 1000 / 2 ^ (K + 1) ≤ M * 1000 / 2 ^ 33 := Nat.div_le_div_left (Nat.pow_le_pow_right (by omega) (by omega)) (Nat.two_pow_pos _)
    have a2 : (2 : Nat) ^ 33 = 8589934592 := by decide
    rw [a2] at a1
    omega
  clear hn
  rcases hM with ⟨h0, rfl⟩ | ⟨h0, rfl⟩
  · subst h0
    have k1 : (K : Int) + 1 ≤ 1074 := by omega
    have k2 : 1074 ≤ (K : Int) + 1 := by omega
    clear hK
    go_enter Try.func8, Try.ntmps8
    go_wp2_with (first
      | (go_at_call 13; refine (rClass_at b c hb hc _).mono ?_; rintro e w' ⟨rfl, dr, rfl⟩)
      | (go_at_call 18; refine (rBits_at b hb h1 _).mono ?_; rintro e w' ⟨rfl, rfl⟩))
    go_loop [8, 9, 10, 46] (fun p o s i => ∃ k x : Nat, k ≤ K + 1 ∧ Hid ((M * 1000) / 2 ^ k = x) ∧ x < 18446744073709551616 ∧ i = .int .i64 k ∧ p = .int .u64 (x : Int) ∧ ∃ u v : Bool, Hid (oddF (M * 1000) k = u ∧ restF (M * 1000) k = v) ∧ o = .bool u ∧ s = .bool v) (fun _ _ _ i => K + 1 - (intOf i).toNat)
    case atStart => exact ⟨0, _, by omega, Lib.hid rfl, by simp; omega, rfl, by simp, false, false, Lib.hid ⟨rfl, rfl⟩, rfl, rfl⟩
    case round =>
      obtain ⟨k, x, hk, HX, hx, rfl, rfl, u, v, HU, rfl, rfl⟩ := hrel
      by_cases hlt : k < K + 1
      · have hx2 : M * 1000 / 2 ^ (k + 1) = x / 2 := by rw [Nat.pow_succ, ← Nat.div_div_eq_div_mul, HX.out]
        have hu2 : oddF (M * 1000) (k + 1) = ((x : Int) % 2 == 1) := by rw [oddF_succ, HX.out, Bool.eq_iff_iff]; simp; omega
        have hv2 : restF (M * 1000) (k + 1) = (v || u) := by rw [restF_succ, HU.out.1, HU.out.2]
        have H2 := Lib.hid (And.intro hx2 (And.intro hu2 hv2))
        clear hx2 hu2 hv2
        cases u
        all_goals cases v
        all_goals
          go_wp2
          go_round
          case rel => exact ⟨k + 1, x / 2, by omega, Lib.hid H2.out.1, by omega, by go_num, by simp, _, _, Lib.hid ⟨H2.out.2.1, H2.out.2.2⟩, by simp, rfl⟩
          case measure => simp only [intOf]; omega
      · obtain rfl : k = K + 1 := by omega
        have hnf := near_fold (M * 1000) K
        rw [HN.out, HX.out, HU.out.1, HU.out.2] at hnf
        rw [HX.out] at hxK
        clear hx
        by_cases hp : x % 2 = 1
        · have hp' : (x : Int) % 2 = 1 := by omega
          have hpb : (x % 2 == 1) = true := by simpa using hp
          rw [hpb] at hnf
          clear hp hpb
          cases u
          all_goals cases v
          all_goals
            simp at hnf
            clear HN
            first
            | (have hx1 : (x : Int) + 1 = (n : Int) := by omega
               clear hnf
               rcases hN with ⟨n1, rfl, rfl⟩ | ⟨n1, rfl, rfl⟩
               all_goals
                 go_wp2
                 go_ret2
                 exact ret_int2' (by omega) (by omega) ⟨_, rfl⟩)
            | (subst hnf
               rcases hN with ⟨n1, rfl, rfl⟩ | ⟨n1, rfl, rfl⟩
               all_goals
                 go_wp2
                 go_ret2
                 exact ret_int2' (by omega) (by omega) ⟨_, rfl⟩)
        · have hp' : (x : Int) % 2 = 0 := by omega
          have hpb : (x % 2 == 1) = false := by simpa using hp
          rw [hpb] at hnf
          clear hp hpb
          cases u
          all_goals cases v
          all_goals
            simp at hnf
            clear HN
            first
            | (have hx1 : (x : Int) + 1 = (n : Int) := by omega
               clear hnf
               rcases hN with ⟨n1, rfl, rfl⟩ | ⟨n1, rfl, rfl⟩
               all_goals
                 go_wp2
                 go_ret2
                 exact ret_int2' (by omega) (by omega) ⟨_, rfl⟩)
            | (subst hnf
               rcases hN with ⟨n1, rfl, rfl⟩ | ⟨n1, rfl, rfl⟩
               all_goals
                 go_wp2
                 go_ret2
                 exact ret_int2' (by omega) (by omega) ⟨_, rfl⟩)
  · have k1 : (K : Int) + 1 ≤ 1075 - (e : Int) := by omega
    have k2 : 1075 - (e : Int) ≤ (K : Int) + 1 := by omega
    clear hK
    obtain ⟨M, hM2⟩ : ∃ M : Nat, f + 4503599627370496 = M := ⟨_, rfl⟩
    have hM3 : (f : Int) + 4503599627370496 = (M : Int) := by omega
    rw [hM2] at HN hMlt hxK
    clear hM2
    go_enter Try.func8, Try.ntmps8
    go_wp2_with (first
      | (go_at_call 13; refine (rClass_at b c hb hc _).mono ?_; rintro e w' ⟨rfl, dr, rfl⟩)
      | (go_at_call 18; refine (rBits_at b hb h1 _).mono ?_; rintro e w' ⟨rfl, rfl⟩))
    go_loop [8, 9, 10, 46] (fun p o s i => ∃ k x : Nat, k ≤ K + 1 ∧ Hid ((M * 1000) / 2 ^ k = x) ∧ x < 18446744073709551616 ∧ i = .int .i64 k ∧ p = .int .u64 (x : Int) ∧ ∃ u v : Bool, Hid (oddF (M * 1000) k = u ∧ restF (M * 1000) k = v) ∧ o = .bool u ∧ s = .bool v) (fun _ _ _ i => K + 1 - (intOf i).toNat)
    case atStart => exact ⟨0, _, by omega, Lib.hid rfl, by simp; omega, rfl, by simp, false, false, Lib.hid ⟨rfl, rfl⟩, rfl, rfl⟩
    case round =>
      obtain ⟨k, x, hk, HX, hx, rfl, rfl, u, v, HU, rfl, rfl⟩ := hrel
      by_cases hlt : k < K + 1
      · have hx2 : M * 1000 / 2 ^ (k + 1) = x / 2 := by rw [Nat.pow_succ, ← Nat.div_div_eq_div_mul, HX.out]
        have hu2 : oddF (M * 1000) (k + 1) = ((x : Int) % 2 == 1) := by rw [oddF_succ, HX.out, Bool.eq_iff_iff]; simp; omega
        have hv2 : restF (M * 1000) (k + 1) = (v || u) := by rw [restF_succ, HU.out.1, HU.out.2]
        have H2 := Lib.hid (And.intro hx2 (And.intro hu2 hv2))
        clear hx2 hu2 hv2
        cases u
        all_goals cases v
        all_goals
          go_wp2
          go_round
          case rel => exact ⟨k + 1, x / 2, by omega, Lib.hid H2.out.1, by omega, by go_num, by simp, _, _, Lib.hid ⟨H2.out.2.1, H2.out.2.2⟩, by simp, rfl⟩
          case measure => simp only [intOf]; omega
      · obtain rfl : k = K + 1 := by omega
        have hnf := near_fold (M * 1000) K
        rw [HN.out, HX.out, HU.out.1, HU.out.2] at hnf
        rw [HX.out] at hxK
        clear hx
        by_cases hp : x % 2 = 1
        · have hp' : (x : Int) % 2 = 1 := by omega
          have hpb : (x % 2 == 1) = true := by simpa using hp
          rw [hpb] at hnf
          clear hp hpb
          cases u
          all_goals cases v
          all_goals
            simp at hnf
            clear HN
            first
            | (have hx1 : (x : Int) + 1 = (n : Int) := by omega
               clear hnf
               rcases hN with ⟨n1, rfl, rfl⟩ | ⟨n1, rfl, rfl⟩
               all_goals
                 go_wp2
                 go_ret2
                 exact ret_int2' (by omega) (by omega) ⟨_, rfl⟩)
            | (subst hnf
               rcases hN with ⟨n1, rfl, rfl⟩ | ⟨n1, rfl, rfl⟩
               all_goals
                 go_wp2
                 go_ret2
                 exact ret_int2' (by omega) (by omega) ⟨_, rfl⟩)
        · have hp' : (x : Int) % 2 = 0 := by omega
          have hpb : (x % 2 == 1) = false := by simpa using hp
          rw [hpb] at hnf
          clear hp hpb
          cases u
          all_goals cases v
          all_goals
            simp at hnf
            clear HN
            first
            | (have hx1 : (x : Int) + 1 = (n : Int) := by omega
               clear hnf
               rcases hN with ⟨n1, rfl, rfl⟩ | ⟨n1, rfl, rfl⟩
               all_goals
                 go_wp2
                 go_ret2
                 exact ret_int2' (by omega) (by omega) ⟨_, rfl⟩)
            | (subst hnf
               rcases hN with ⟨n1, rfl, rfl⟩ | ⟨n1, rfl, rfl⟩
               all_goals
                 go_wp2
                 go_ret2
                 exact ret_int2' (by omega) (by omega) ⟨_, rfl⟩)

end Go.Proofs.Ytmbcghngeodaeaa.Real
