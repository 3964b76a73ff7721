/- Plain facts on quotients of small whole numbers for the layer 'real': no program in this text. Conditions: as each theorem states. -/
import Derived.Test.YtmbcghngeodaeaaRealMil
namespace Go.Proofs.Ytmbcghngeodaeaa.Real
open Go.RowKit

theorem log2_is (n k : Nat) (h1 : 2 ^ k ≤ n) (h2 : n < 2 ^ (k + 1)) : n.log2 = k := by
  have hn : n ≠ 0 := by have := Nat.two_pow_pos k; omega
  have a := (Nat.le_log2 hn).2 h1
  have b := (Nat.log2_lt hn).2 h2
  omega
theorem cut_near (s : Bool) (n d : Nat) (h : d ≤ n.log2 + 2) : Ieee.Toward.even.cut s n d = near n (2 ^ d) := by
  unfold Ieee.Toward.cut near
  simp only [Nat.min_eq_left h, Nat.one_shiftLeft]
  congr 1
  generalize 2 ^ d = D
  by_cases c : D < 2 * (n % D) ∨ (D = 2 * (n % D) ∧ n / D % 2 = 1)
  · rw [if_pos c]
    have : (decide (D < 2 * (n % D)) || (D == 2 * (n % D) && n / D % 2 == 1)) = true := by simpa using c
    rw [this]; rfl
  · rw [if_neg c]
    have : (decide (D < 2 * (n % D)) || (D == 2 * (n % D) && n / D % 2 == 1)) = false := by simpa using c
    rw [this]; rfl
theorem near_err (p d : Nat) (hd : 0 < d) : 2 * (near p d * d) ≤ 2 * p + d ∧ 2 * p ≤ 2 * (near p d * d) + d := by
  have h := Nat.div_add_mod p d
  have h' := Nat.mod_lt p hd
  unfold near
  rw [Nat.add_mul, Nat.mul_comm (p / d) d]
  split <;> simp <;> omega
theorem near_range (p k d : Nat) (h1 : 2 ^ (k + d) ≤ p) (h2 : p < 2 ^ (k + 1 + d)) : 2 ^ k ≤ near p (2 ^ d) ∧ near p (2 ^ d) ≤ 2 ^ (k + 1) := by
  have a : 2 ^ k ≤ p / 2 ^ d := by rw [Nat.le_div_iff_mul_le (Nat.two_pow_pos _), ← Nat.pow_add]; exact h1
  have b : p / 2 ^ d < 2 ^ (k + 1) := by rw [Nat.div_lt_iff_lt_mul (Nat.two_pow_pos _), ← Nat.pow_add]; exact h2
  unfold near
  split <;> omega
theorem val_rung (t k : Nat) (h1 : 4503599627370496 ≤ k) (h2 : k ≤ 9007199254740992) : val (t * 4503599627370496 + k) = k * 2 ^ t := by
  by_cases e : k = 9007199254740992
  · have e1 : lift (t * 4503599627370496 + k) = t + 1 := by unfold lift; omega
    have e2 : mag (t * 4503599627370496 + k) = 4503599627370496 := by unfold mag; rw [e1]; omega
    unfold val; rw [e1, e2, e, Nat.pow_succ]; omega
  · have e1 : lift (t * 4503599627370496 + k) = t := by unfold lift; omega
    have e2 : mag (t * 4503599627370496 + k) = k := by unfold mag; rw [e1]; omega
    unfold val; rw [e1, e2]

theorem two52 : (2 : Nat) ^ 52 = 4503599627370496 := by decide
theorem two53 : (2 : Nat) ^ 53 = 9007199254740992 := by decide
theorem word_min (r : Nat) (h : r ≤ 9218868437227405312) : Ieee.double.word false (min r 9218868437227405312) = r := by
  rw [Nat.min_eq_left h]; rfl
theorem nearest_at (M d t : Nat) (place : Int) (h1 : 2 ^ (52 + d) ≤ M) (h2 : M < 2 ^ (53 + d)) (ht : place + d = -1074 + t) (hm : t ≤ 2000) :
    Ieee.double.nearest false M place = t * 4503599627370496 + near M (2 ^ d) := by
  have hM : M ≠ 0 := by have := Nat.two_pow_pos (52 + d); omega
  have hl : M.log2 = 52 + d := log2_is M (52 + d) h1 (by rw [show 52 + d + 1 = 53 + d by omega]; exact h2)
  have hi : Ieee.double.infRung = 9218868437227405312 := by decide
  have hbi : Ieee.double.binade = 4503599627370496 := by decide
  have hlp : Ieee.double.leastPlace = -1074 := by decide
  have hf : Ieee.double.fractionBits = 52 := rfl
  obtain ⟨r1, r2⟩ := near_range M 52 d h1 h2
  rw [two52] at r1
  rw [show 52 + 1 = 53 from rfl, two53] at r2
  unfold Ieee.Format.nearest
  rw [if_neg hM, hl, hi, hbi, hlp, hf]
  simp only
  have e1 : max (place + ((52 + d : Nat) : Int) - ((52 : Nat) : Int)) (-1074) = -1074 + (t : Int) := by omega
  rw [e1]
  have e2 : (place - (-1074 + (t : Int))).toNat = 0 := by omega
  have e3 : (-1074 + (t : Int) - place).toNat = d := by omega
  have e4 : (-1074 + (t : Int) - -1074).toNat = t := by omega
  rw [e2, e3, e4, Nat.shiftLeft_zero, cut_near _ _ _ (by rw [hl]; omega)]
  generalize near M (2 ^ d) = K at *
  exact word_min (t * 4503599627370496 + K) (by omega)

theorem ofInt_zero : floatOfInt .f64 0 = 0 := by decide +kernel
theorem ofInt_read (m : Nat) (h0 : 0 < m) (h1 : m < 1048576) : Ieee.double.read (floatOfInt .f64 (m : Int)) = .number false (m * 2 ^ (52 - m.log2)) ((m.log2 : Int) - 52) := by
  have hL : m.log2 < 20 := (Nat.log2_lt (by omega)).2 (by simpa using h1)
  have a1 := Nat.log2_self_le (show m ≠ 0 by omega)
  have a2 := Nat.lt_log2_self (n := m)
  generalize m.log2 = L at *
  have hk1 : 4503599627370496 ≤ m * 2 ^ (52 - L) := by
    have := Nat.mul_le_mul_right (2 ^ (52 - L)) a1
    rw [← Nat.pow_add, show L + (52 - L) = 52 by omega, two52] at this
    exact this
  have hk2 : m * 2 ^ (52 - L) < 9007199254740992 := by
    have := Nat.mul_lt_mul_of_pos_right a2 (Nat.two_pow_pos (52 - L))
    rw [← Nat.pow_add, show L + 1 + (52 - L) = 53 by omega, two53] at this
    exact this
  have e : floatOfInt .f64 (m : Int) = (L + 1022) * 4503599627370496 + m * 2 ^ (52 - L) := by
    show Ieee.double.nearest (decide ((m : Int) < 0)) (m : Int).natAbs 0 = _
    rw [show decide ((m : Int) < 0) = false by simp, show (m : Int).natAbs = m by omega]
    have hl2 : m.log2 = L := log2_is m L a1 a2
    have hi : Ieee.double.infRung = 9218868437227405312 := by decide
    have hbi : Ieee.double.binade = 4503599627370496 := by decide
    have hlp : Ieee.double.leastPlace = -1074 := by decide
    have hf : Ieee.double.fractionBits = 52 := rfl
    unfold Ieee.Format.nearest
    rw [if_neg (by omega), hl2, hi, hbi, hlp, hf]
    simp only
    rw [show max ((0 : Int) + (L : Int) - ((52 : Nat) : Int)) (-1074) = (L : Int) - 52 by omega]
    rw [show (0 - ((L : Int) - 52)).toNat = 52 - L by omega, show ((L : Int) - 52 - 0).toNat = 0 by omega, show ((L : Int) - 52 - -1074).toNat = L + 1022 by omega]
    rw [cut_near _ _ _ (by omega), Nat.shiftLeft_eq]
    generalize m * 2 ^ (52 - L) = k at *
    have : near k (2 ^ 0) = k := by unfold near; simp [Nat.mod_one]
    rw [this]
    exact word_min ((L + 1022) * 4503599627370496 + k) (by omega)
  rw [e]
  generalize m * 2 ^ (52 - L) = k at *
  have hr : rung ((L + 1022) * 4503599627370496 + k) = (L + 1022) * 4503599627370496 + k := by unfold rung; omega
  have hlift : lift ((L + 1022) * 4503599627370496 + k) = L + 1022 := by unfold lift; omega
  have hmag : mag ((L + 1022) * 4503599627370496 + k) = k := by unfold mag; rw [hlift]; omega
  have hneg : neg ((L + 1022) * 4503599627370496 + k) = false := by unfold neg; simp; omega
  rw [read_fin _ (by omega) (by rw [hr]; unfold inf; omega), hr, hlift, hmag, hneg, show -1074 + ((L + 1022 : Nat) : Int) = (L : Int) - 52 by omega]

theorem quo_close (m w N J : Nat) (h0 : 0 < m) (h1 : m < 1048576) (h : Ieee.double.read w = .number false N (-(J : Int))) (n1 : 4503599627370496 ≤ N) (n2 : N < 9007199254740992) (hJ : J ≤ 60) :
    ∃ b, floatBits .quo .f64 (floatOfInt .f64 (m : Int)) w = some b ∧ b < inf ∧ val b * N ≤ m * 2 ^ (1074 + J) + 6 * (N * 2 ^ (m.log2 + J + 967)) ∧ m * 2 ^ (1074 + J) ≤ val b * N + 6 * (N * 2 ^ (m.log2 + J + 967)) := by
  have hL : m.log2 < 20 := (Nat.log2_lt (by omega)).2 (by simpa using h1)
  have a1 := Nat.log2_self_le (show m ≠ 0 by omega)
  have a2 := Nat.lt_log2_self (n := m)
  have hrd := ofInt_read m h0 h1
  generalize m.log2 = L at *
  have hE : m * 2 ^ (1074 + J) = m * 2 ^ (52 - L) * 36028797018963968 * 2 ^ (L + J + 967) := by
    rw [show (36028797018963968 : Nat) = 2 ^ 55 by decide, Nat.mul_assoc, Nat.mul_assoc, ← Nat.pow_add, ← Nat.pow_add]
    congr 2
    omega
  have hk1 : 4503599627370496 ≤ m * 2 ^ (52 - L) := by
    have := Nat.mul_le_mul_right (2 ^ (52 - L)) a1
    rw [← Nat.pow_add, show L + (52 - L) = 52 by omega, two52] at this
    exact this
  have hk2 : m * 2 ^ (52 - L) < 9007199254740992 := by
    have := Nat.mul_lt_mul_of_pos_right a2 (Nat.two_pow_pos (52 - L))
    rw [← Nat.pow_add, show L + 1 + (52 - L) = 53 by omega, two53] at this
    exact this
  show ∃ b, Ieee.double.div (floatOfInt .f64 (m : Int)) w = some b ∧ _
  rw [hE]
  unfold Ieee.Format.div
  rw [hrd, h]
  generalize m * 2 ^ (52 - L) = A at *
  have lA : A.log2 = 52 := log2_is A 52 (by rw [two52]; exact hk1) (by rw [show 52 + 1 = 53 from rfl, two53]; exact hk2)
  have lN : N.log2 = 52 := log2_is N 52 (by rw [two52]; exact n1) (by rw [show 52 + 1 = 53 from rfl, two53]; exact n2)
  unfold Ieee.Datum.quotient
  simp only
  rw [if_neg (by omega), lA, lN]
  have hf : Ieee.double.fractionBits = 52 := rfl
  rw [hf]
  simp only [show 52 + 2 + 52 - 52 = 54 from rfl, Nat.shiftLeft_eq, Bool.xor_self, Option.map_some]
  rw [show (2 : Nat) ^ 54 = 18014398509481984 by decide]
  have hs : (A * 18014398509481984 % N != 0).toNat ≤ 1 := Bool.toNat_le _
  generalize (A * 18014398509481984 % N != 0).toNat = s at hs
  have q1 := Nat.div_add_mod (A * 18014398509481984) N
  have q2 := Nat.mod_lt (A * 18014398509481984) (show 0 < N by omega)
  have q3 : 9007199254740992 ≤ A * 18014398509481984 / N := by
    rw [Nat.le_div_iff_mul_le (by omega)]; omega
  have q4 : A * 18014398509481984 / N < 36028797018963968 := by
    rw [Nat.div_lt_iff_lt_mul (by omega)]; omega
  generalize A * 18014398509481984 / N = q at *
  generalize A * 18014398509481984 % N = rem at *
  have hM : ∃ d, 2 ≤ d ∧ d ≤ 3 ∧ 2 ^ (52 + d) ≤ 2 * q + s ∧ 2 * q + s < 2 ^ (53 + d) := by
    by_cases c : q < 18014398509481984
    · exact ⟨2, by omega, by omega, by rw [show (2 : Nat) ^ (52 + 2) = 18014398509481984 by decide]; omega, by rw [show (2 : Nat) ^ (53 + 2) = 36028797018963968 by decide]; omega⟩
    · exact ⟨3, by omega, by omega, by rw [show (2 : Nat) ^ (52 + 3) = 36028797018963968 by decide]; omega, by rw [show (2 : Nat) ^ (53 + 3) = 72057594037927936 by decide]; omega⟩
  obtain ⟨d, d2, d3, m1, m2⟩ := hM
  refine ⟨_, rfl, ?_⟩
  show Ieee.double.nearest false (2 * q + s) ((L : Int) - 52 - -(J : Int) - ((54 : Nat) : Int) - 1) < inf ∧ _
  have hn := nearest_at (2 * q + s) d (L + J + 967 + d) ((L : Int) - 52 - -(J : Int) - ((54 : Nat) : Int) - 1) m1 m2 (by omega) (by omega)
  have hw : Ieee.double.write (.number false (2 * q + s) ((L : Int) - 52 - -(J : Int) - ((54 : Nat) : Int) - 1)) = (L + J + 967 + d) * 4503599627370496 + near (2 * q + s) (2 ^ d) := hn
  rw [hn]
  obtain ⟨r1, r2⟩ := near_range (2 * q + s) 52 d m1 m2
  rw [two52] at r1
  rw [show 52 + 1 = 53 from rfl, two53] at r2
  obtain ⟨x1, x2⟩ := near_err (2 * q + s) (2 ^ d) (Nat.two_pow_pos _)
  have hd4 : 2 ^ d ≤ 8 := by
    have := Nat.pow_le_pow_right (n := 2) (by omega) d3
    simpa using this
  refine ⟨by unfold inf; omega, ?_⟩
  have hv := val_rung (L + J + 967 + d) (near (2 * q + s) (2 ^ d)) r1 r2
  rw [hw, hv, Nat.pow_add 2 (L + J + 967) d, Nat.mul_comm (2 ^ (L + J + 967)) (2 ^ d), ← Nat.mul_assoc]
  generalize near (2 * q + s) (2 ^ d) * 2 ^ d = X at *
  have e1 : X * 2 ^ (L + J + 967) * N = X * N * 2 ^ (L + J + 967) := Nat.mul_right_comm ..
  have e2 : 6 * (N * 2 ^ (L + J + 967)) = 6 * N * 2 ^ (L + J + 967) := (Nat.mul_assoc ..).symm
  rw [e1, e2, ← Nat.add_mul, ← Nat.add_mul]
  have y1 : X * N ≤ (2 * q + s + 4) * N := Nat.mul_le_mul_right _ (by omega)
  have y2 : (2 * q + s) * N ≤ (X + 4) * N := Nat.mul_le_mul_right _ (by omega)
  have y3 : s * N ≤ 1 * N := Nat.mul_le_mul_right _ hs
  simp only [Nat.add_mul, Nat.mul_assoc 2 q N, Nat.mul_comm q N] at y1 y2 y3
  constructor <;> refine Nat.mul_le_mul_right _ ?_
  · omega
  · omega

theorem quo_close' (m w N J : Nat) (h0 : 0 < m) (h1 : m < 1048576) (h : Ieee.double.read w = .number false N (-(J : Int))) (n1 : 4503599627370496 ≤ N) (n2 : N < 9007199254740992) (hJ : J ≤ 60) :
    ∃ b, floatBits .quo .f64 (floatOfInt .f64 (m : Int)) w = some b ∧ b < inf ∧ val b * N ≤ m * (unit * 2 ^ J) + 6 * (N * 2 ^ (m.log2 + J + 967)) ∧ m * (unit * 2 ^ J) ≤ val b * N + 6 * (N * 2 ^ (m.log2 + J + 967)) := by
  rw [← pow_unit J]
  exact quo_close m w N J h0 h1 h n1 n2 hJ

theorem thou (m : Nat) (h : m ≤ 1000000) : ∃ b, floatBits .quo .f64 (floatOfInt .f64 (m : Int)) 4652007308841189376 = some b ∧ b < inf ∧ mil b = m := by
  rcases Nat.eq_zero_or_pos m with h0 | h0
  · subst h0
    refine ⟨0, ?_, by decide, by decide +kernel⟩
    rw [show ((0 : Nat) : Int) = 0 from rfl, ofInt_zero]
    decide +kernel
  · have hr : Ieee.double.read 4652007308841189376 = .number false 8796093022208000 (-((43 : Nat) : Int)) := by decide +kernel
    obtain ⟨J, hJ⟩ : ∃ J : Nat, J = 43 := ⟨_, rfl⟩
    obtain ⟨T, hT⟩ : ∃ T : Nat, T = 1029 := ⟨_, rfl⟩
    rw [← hJ] at hr
    obtain ⟨b, hb, hi, c1, c2⟩ := quo_close' m _ _ J h0 (by omega) hr (by omega) (by omega) (by omega)
    refine ⟨b, hb, hi, ?_⟩
    have hL : m.log2 < 20 := (Nat.log2_lt (by omega)).2 (Nat.lt_of_le_of_lt h (by decide))
    have hp : 2 ^ (m.log2 + J + 967) ≤ 2 ^ T := Nat.pow_le_pow_right (by omega) (by omega)
    have hu := unit_split T (by omega)
    rw [show (2 : Nat) ^ (1074 - T) = 35184372088832 by rw [hT]] at hu
    rw [show (2 : Nat) ^ J = 8796093022208 by rw [hJ], ← Nat.mul_assoc] at c1 c2
    generalize 2 ^ (m.log2 + J + 967) = F at *
    generalize (2 : Nat) ^ T = E at *
    have hE : 0 < E := by have := unit_pos; omega
    unfold mil
    apply near_close
    · generalize m * unit = mu at *
      omega
    · generalize m * unit = mu at *
      omega

theorem eighth (j : Nat) (h : j < 8000) : ∃ b, floatBits .quo .f64 (floatOfInt .f64 (j : Int)) 4620693217682128896 = some b ∧ b < inf ∧ mil b = 125 * j := by
  rcases Nat.eq_zero_or_pos j with h0 | h0
  · subst h0
    refine ⟨0, ?_, by decide, by decide +kernel⟩
    rw [show ((0 : Nat) : Int) = 0 from rfl, ofInt_zero]
    decide +kernel
  · have hr : Ieee.double.read 4620693217682128896 = .number false 4503599627370496 (-((49 : Nat) : Int)) := by decide +kernel
    obtain ⟨J, hJ⟩ : ∃ J : Nat, J = 49 := ⟨_, rfl⟩
    obtain ⟨T, hT⟩ : ∃ T : Nat, T = 1028 := ⟨_, rfl⟩
    rw [← hJ] at hr
    obtain ⟨b, hb, hi, c1, c2⟩ := quo_close' j _ _ J h0 (by omega) hr (by omega) (by omega) (by omega)
    refine ⟨b, hb, hi, ?_⟩
    have hL : j.log2 < 13 := (Nat.log2_lt (by omega)).2 (Nat.lt_of_lt_of_le h (by decide))
    have hp : 2 ^ (j.log2 + J + 967) ≤ 2 ^ T := Nat.pow_le_pow_right (by omega) (by omega)
    have hu := unit_split T (by omega)
    rw [show (2 : Nat) ^ (1074 - T) = 70368744177664 by rw [hT]] at hu
    rw [show (2 : Nat) ^ J = 562949953421312 by rw [hJ], ← Nat.mul_assoc] at c1 c2
    generalize 2 ^ (j.log2 + J + 967) = F at *
    generalize (2 : Nat) ^ T = E at *
    have hE : 0 < E := by have := unit_pos; omega
    unfold mil
    apply near_close <;> rw [Nat.mul_assoc]
    · generalize j * unit = mu at *
      omega
    · generalize j * unit = mu at *
      omega

end Go.Proofs.Ytmbcghngeodaeaa.Real
