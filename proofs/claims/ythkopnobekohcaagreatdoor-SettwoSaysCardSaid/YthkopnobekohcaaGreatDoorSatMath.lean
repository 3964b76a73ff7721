/- Plain facts on whole numbers for the layer 'sat': no program in this text. Conditions: as each theorem states. -/
import Derived.WalkKit
import Derived.Laws.Bits64b
import Derived.Lib.Mul64
namespace Go.Proofs.YthkopnobekohcaaGreatDoor.Sat
open Go.RowKit

/-- A number held at the limits of int. -/
def hold (n : Int) : Int := if 9223372036854775807 < n then 9223372036854775807 else if n < -9223372036854775808 then -9223372036854775808 else n

theorem hold_range (n : Int) : -9223372036854775808 ≤ hold n ∧ hold n ≤ 9223372036854775807 := by
  unfold hold; split
  · omega
  · split <;> omega

/-- a times b by c, rounded down, held at the greatest int. -/
def md (a b c : Int) : Int := min 9223372036854775807 (max a 0 * max b 0 / max c 1)

/-- The greatest common divisor, negatives as 0. -/
def gd (a b : Int) : Int := (Nat.gcd a.toNat b.toNat : Nat)

theorem nat_two_pow_succ (n : Nat) : 2 ^ (n + 1) = 2 * 2 ^ n := by rw [Nat.pow_succ, Nat.mul_comm]
def dpart (h l i : Nat) : Nat := h * 2 ^ i + l / 2 ^ (64 - i)

theorem dpart_zero (h l : Nat) (hl : l < 18446744073709551616) : dpart h l 0 = h := by
  unfold dpart
  have : l / 2 ^ (64 - 0) = 0 := Nat.div_eq_of_lt (by simpa using hl)
  simp [this]

theorem dpart_end (h l : Nat) : dpart h l 64 = h * 18446744073709551616 + l := by unfold dpart; simp

theorem dpart_succ (h l i : Nat) (hi : i < 64) : dpart h l (i + 1) = 2 * dpart h l i + l / 2 ^ (63 - i) % 2 := by
  unfold dpart
  have e : 64 - i = (63 - i) + 1 := by omega
  have e' : 64 - (i + 1) = 63 - i := by omega
  rw [e, e', nat_two_pow_succ i, Nat.pow_succ 2 (63 - i), ← Nat.div_div_eq_div_mul]
  generalize l / 2 ^ (63 - i) = q
  generalize 2 ^ i = p
  rw [Nat.mul_left_comm]
  generalize h * p = r
  omega
/-- One step of the division: rest and quotient of the doubled number with one more bit. -/
theorem step_div (N c b : Nat) (hc : 0 < c) (hb : b < 2) :
    (2 * N + b) / c = 2 * (N / c) + (if c ≤ 2 * (N % c) + b then 1 else 0) ∧
    (2 * N + b) % c = 2 * (N % c) + b - (if c ≤ 2 * (N % c) + b then c else 0) := by
  have h1 := Nat.div_add_mod N c
  have h2 := Nat.mod_lt N hc
  generalize N / c = q at *
  generalize N % c = r at *
  have e : 2 * N + b = c * (2 * q) + (2 * r + b) := by rw [← h1, Nat.mul_left_comm]; omega
  rw [e, Nat.mul_add_div hc, Nat.mul_add_mod]
  split
  · have : (2 * r + b) / c = 1 := by
      rw [Nat.div_eq_iff hc]; omega
    refine ⟨by omega, ?_⟩
    rw [Nat.mod_eq_sub_mod ‹_›, Nat.mod_eq_of_lt (by omega)]
  · rw [Nat.div_eq_of_lt (by omega), Nat.mod_eq_of_lt (by omega)]; exact ⟨rfl, by omega⟩

theorem dpart_lt (h l c k : Nat) (hc : h < c) (hl : l < 18446744073709551616) (hk : k ≤ 64) : dpart h l k / c < 2 ^ k := by
  rw [Nat.div_lt_iff_lt_mul (by omega)]
  unfold dpart
  have h1 : l / 2 ^ (64 - k) < 2 ^ k := by
    rw [Nat.div_lt_iff_lt_mul (Nat.two_pow_pos _), ← Nat.pow_add, show k + (64 - k) = 64 by omega]
    exact hl
  have h2 : (h + 1) * 2 ^ k ≤ c * 2 ^ k := Nat.mul_le_mul_right _ hc
  rw [Nat.add_mul] at h2
  rw [Nat.mul_comm (2 ^ k) c]
  omega
theorem two_or (r b : Nat) (hb : b < 2) : 2 * r ||| b = 2 * r + b := by
  have := Nat.two_pow_add_eq_or_of_lt (i := 1) (b := b) (by simpa using hb) r
  simpa using this.symm
theorem or_bit (r b : Nat) (hr : 2 * r + 1 < 18446744073709551616) (hb : b < 2) : bits .or .u64 (IntKind.u64.wrap ((r : Int) * 2)) (b : Int) = ((2 * r + b : Nat) : Int) := by
  have e : IntKind.u64.wrap ((r : Int) * 2) = ((2 * r : Nat) : Int) := by rw [IntKind.wrap_u64]; omega
  rw [e, bits_or_u64_nat _ _ (by omega) (by omega), two_or r b hb]
theorem and_bit (x : Nat) (hx : x < 18446744073709551616) : bits .and .u64 (x : Int) 1 = ((x % 2 : Nat) : Int) := by
  have h := bits_and_u64_nat x 1 hx (by omega)
  rw [Nat.and_one_is_mod] at h
  exact h
theorem shr_nat (l j : Nat) : (l : Int) / 2 ^ j = ((l / 2 ^ j : Nat) : Int) := by
  rw [Int.natCast_ediv]; simp
theorem bit_step (r l j : Nat) (hr : 2 * r + 1 < 18446744073709551616) (hl : l < 18446744073709551616) :
    bits .or .u64 (IntKind.u64.wrap ((r : Int) * 2)) (bits .and .u64 ((l : Int) / 2 ^ j) 1) = ((2 * r + l / 2 ^ j % 2 : Nat) : Int) := by
  rw [shr_nat, and_bit _ (Nat.lt_of_le_of_lt (Nat.div_le_self _ _) hl), or_bit _ _ hr (by omega)]
/-- .. where the walk has seen that the doubled number does not wrap. -/
theorem or_bit' (r b : Nat) (hr : 2 * r + 1 < 18446744073709551616) (hb : b < 2) : bits .or .u64 ((r : Int) * 2) (b : Int) = ((2 * r + b : Nat) : Int) := by
  have h := or_bit r b hr hb
  rwa [IntKind.wrap_u64, Int.emod_eq_of_lt (by omega) (by omega)] at h
theorem bit_step' (r l j : Nat) (hr : 2 * r + 1 < 18446744073709551616) (hl : l < 18446744073709551616) :
    bits .or .u64 ((r : Int) * 2) (bits .and .u64 ((l : Int) / 2 ^ j) 1) = ((2 * r + l / 2 ^ j % 2 : Nat) : Int) := by
  have h := bit_step r l j hr hl
  rwa [IntKind.wrap_u64, Int.emod_eq_of_lt (by omega) (by omega)] at h
theorem mul_md (h l c : Nat) (hc : 0 < c) (hh : c ≤ h) : 18446744073709551616 ≤ (h * 18446744073709551616 + l) / c := by
  rw [Nat.le_div_iff_mul_le hc, Nat.mul_comm]
  exact Nat.le_trans (Nat.mul_le_mul_right _ hh) (Nat.le_add_right _ _)

theorem wide_lo (x y : Nat) :
    ((((x / 4294967296) * (y % 4294967296) + (x % 4294967296) * (y % 4294967296) / 4294967296) % 4294967296 + (x % 4294967296) * (y / 4294967296)) % 4294967296) * 4294967296 + (x % 4294967296) * (y % 4294967296) % 4294967296 = x * y % 18446744073709551616 := by
  have e : x * y = (x / 4294967296) * (y / 4294967296) * (4294967296 * 4294967296) + ((x / 4294967296) * (y % 4294967296) + (x % 4294967296) * (y / 4294967296)) * 4294967296 + (x % 4294967296) * (y % 4294967296) := by
    rw [← Lib.split_mul, Nat.div_add_mod' x 4294967296, Nat.div_add_mod' y 4294967296]
  rw [e]
  generalize (x / 4294967296) * (y / 4294967296) = a
  generalize (x / 4294967296) * (y % 4294967296) = b
  generalize (x % 4294967296) * (y / 4294967296) = c
  generalize (x % 4294967296) * (y % 4294967296) = d
  omega
theorem shl32_or (n d : Nat) (hd : d < 4294967296) : bits .or .u64 (IntKind.u64.wrap ((n : Int) * 4294967296)) (d : Int) = ((n % 4294967296 * 4294967296 + d : Nat) : Int) := by
  have e : IntKind.u64.wrap ((n : Int) * 4294967296) = ((n % 4294967296 * 4294967296 : Nat) : Int) := by rw [IntKind.wrap_u64]; omega
  rw [e, bits_or_u64_nat _ _ (by omega) (by omega)]
  have := Nat.two_pow_add_eq_or_of_lt (i := 32) (b := d) hd (n % 4294967296)
  simp only [show 2 ^ 32 = 4294967296 from rfl, Nat.mul_comm 4294967296] at this
  rw [this]

theorem wrap64_diff (n : Int) : ∃ k : Int, wrap64 n = n + k * 18446744073709551616 ∧ -9223372036854775808 ≤ wrap64 n ∧ wrap64 n ≤ 9223372036854775807 := by
  unfold wrap64
  exact ⟨-((n + 9223372036854775808) / 18446744073709551616), by omega, by omega, by omega⟩
theorem tdiv_range (v b : Int) (hb : b ≠ 0) (hb1 : b ≠ -1) (v0 : -9223372036854775808 ≤ v) (v1 : v ≤ 9223372036854775807) : -9223372036854775808 ≤ v.tdiv b ∧ v.tdiv b ≤ 9223372036854775807 := by
  by_cases h : b = 1
  · subst h; simp; omega
  · have h2 : 2 ≤ b.natAbs := by omega
    have e : (v.tdiv b).natAbs = v.natAbs / b.natAbs := Int.natAbs_tdiv v b
    have : v.natAbs / b.natAbs ≤ v.natAbs / 2 := Nat.div_le_div_left h2 (by omega)
    omega
theorem mul_test_in (a b : Int) (hb : b ≠ 0) (a0 : -9223372036854775808 ≤ a) (a1 : a ≤ 9223372036854775807) (h : -9223372036854775808 ≤ a * b ∧ a * b ≤ 9223372036854775807) :
    wrap64 ((wrap64 (a * b)).tdiv b) = a := by
  have e : wrap64 (a * b) = a * b := by unfold wrap64; omega
  rw [e, Int.mul_tdiv_cancel _ hb]
  unfold wrap64; omega
theorem mul_test_out (a b : Int) (hb : b ≠ 0) (hb1 : b ≠ -1) (_a0 : -9223372036854775808 ≤ a) (_a1 : a ≤ 9223372036854775807) (b0 : -9223372036854775808 ≤ b) (b1 : b ≤ 9223372036854775807) (h : ¬ (-9223372036854775808 ≤ a * b ∧ a * b ≤ 9223372036854775807)) :
    wrap64 ((wrap64 (a * b)).tdiv b) ≠ a := by
  obtain ⟨k, hk, h0, h1⟩ := wrap64_diff (a * b)
  generalize wrap64 (a * b) = v at *
  obtain ⟨t0, t1⟩ := tdiv_range v b hb hb1 h0 h1
  have e : wrap64 (v.tdiv b) = v.tdiv b := by unfold wrap64; omega
  rw [e]
  intro hq
  have hm := Int.mul_tdiv_add_tmod v b
  have hr : (v.tmod b).natAbs < b.natAbs := by
    rw [Int.natAbs_tmod]; exact Nat.mod_lt _ (by omega)
  rw [hq, Int.mul_comm b a] at hm
  omega
theorem pos_of_same (a b : Int) (ha : a ≠ 0) (hb : b ≠ 0) (h : (decide (a < 0) == decide (b < 0)) = true) : 0 < a * b := by
  simp only [beq_iff_eq, decide_eq_decide] at h
  by_cases ha' : a < 0
  · exact Int.mul_pos_of_neg_of_neg ha' (h.mp ha')
  · exact Int.mul_pos (by omega) (by have := fun hh => ha' (h.mpr hh); omega)
theorem neg_of_other (a b : Int) (ha : a ≠ 0) (hb : b ≠ 0) (h : (decide (a < 0) == decide (b < 0)) = false) : a * b < 0 := by
  by_cases ha' : a < 0
  · by_cases hb' : b < 0
    · simp [ha', hb'] at h
    · exact Int.mul_neg_of_neg_of_pos ha' (by omega)
  · by_cases hb' : b < 0
    · exact Int.mul_neg_of_pos_of_neg (by omega) hb'
    · simp [ha', hb'] at h

end Go.Proofs.YthkopnobekohcaaGreatDoor.Sat
