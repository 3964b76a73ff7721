/- Plain facts on the bits of numbers of 64 bits for the layer 'real': no program in this text. Conditions: as each theorem states. · Plain facts on thousandths for the layer 'real': no program in this text. Conditions: as each theorem states. · Plain facts on quotients of small whole numbers for the layer 'real': no program in this text. Conditions: as each theorem states. -/
import Derived.WalkKit
import Derived.Laws.FloatArith
namespace Go.Proofs.YtcdkibadnelgiaaGreatDoor.Real
open Go.RowKit

/-- The lower bits, exponent and fraction in one number. -/
def rung (b : Nat) : Nat := b % 9223372036854775808
def inf : Nat := 9218868437227405312
def nan (b : Nat) : Bool := decide (inf < rung b)
def neg (b : Nat) : Bool := decide (9223372036854775808 ≤ b)
theorem nan_t {b : Nat} : nan b = true ↔ inf < rung b := by unfold nan; simp
theorem nan_f {b : Nat} : nan b = false ↔ rung b ≤ inf := by unfold nan; simp
/-- Numbers in the order of floats: both noughts are 0. -/
def key (b : Nat) : Int := if 9223372036854775808 ≤ b then -(rung b : Int) else rung b
def lift (r : Nat) : Nat := r / 4503599627370496 - 1
def mag (r : Nat) : Nat := r - lift r * 4503599627370496

theorem mag_lt (r : Nat) : mag r < 9007199254740992 := by unfold mag lift; omega
theorem mag_ge (r : Nat) (h : 0 < lift r) : 4503599627370496 ≤ mag r := by unfold mag; unfold lift at *; omega
theorem mag_small (r : Nat) (h : r < 4503599627370496) : mag r = r := by unfold mag lift; omega
theorem lift_mono {r s : Nat} (h : r ≤ s) : lift r ≤ lift s := by unfold lift; omega

theorem read_fin (b : Nat) (hb : b < 18446744073709551616) (h : rung b < inf) :
    Ieee.double.read b = .number (neg b) (mag (rung b)) (-1074 + (lift (rung b) : Int)) := by
  unfold rung inf at h
  have hs : Ieee.double.signWeight = 9223372036854775808 := by decide
  have hi : Ieee.double.infRung = 9218868437227405312 := by decide
  have hbi : Ieee.double.binade = 4503599627370496 := by decide
  have hl : Ieee.double.leastPlace = -1074 := by decide
  unfold Ieee.Format.read
  simp only [hs, hi, hbi, hl]
  have e : (b / 9223372036854775808 % 2 == 1) = neg b := by
    unfold neg; rw [Bool.eq_iff_iff, beq_iff_eq, decide_eq_true_iff]; constructor <;> intro _ <;> omega
  rw [e]
  by_cases h1 : b % 9223372036854775808 < 4503599627370496
  · rw [if_pos h1, mag_small _ (by unfold rung; exact h1)]
    unfold rung lift
    congr 1
    omega
  · rw [if_neg h1, if_pos h]
    unfold rung mag lift
    congr 1
    omega
theorem read_inf (b : Nat) (hb : b < 18446744073709551616) (h : rung b = inf) : Ieee.double.read b = .infinity (neg b) := by
  unfold rung inf at h
  have hs : Ieee.double.signWeight = 9223372036854775808 := by decide
  have hi : Ieee.double.infRung = 9218868437227405312 := by decide
  have hbi : Ieee.double.binade = 4503599627370496 := by decide
  unfold Ieee.Format.read
  simp only [hs, hi, hbi]
  have e : (b / 9223372036854775808 % 2 == 1) = neg b := by
    unfold neg; rw [Bool.eq_iff_iff, beq_iff_eq, decide_eq_true_iff]; constructor <;> intro _ <;> omega
  rw [e, if_neg (by omega), if_neg (by omega), if_pos (by omega)]
theorem read_nan (b : Nat) (_hb : b < 18446744073709551616) (h : nan b = true) : ∃ s t, Ieee.double.read b = .nan s t := by
  rw [nan_t] at h; unfold rung inf at h
  have hs : Ieee.double.signWeight = 9223372036854775808 := by decide
  have hi : Ieee.double.infRung = 9218868437227405312 := by decide
  have hbi : Ieee.double.binade = 4503599627370496 := by decide
  unfold Ieee.Format.read
  simp only [hs, hi, hbi]
  rw [if_neg (by omega), if_neg (by omega), if_neg (by omega)]
  exact ⟨_, _, rfl⟩

/-- What a rung is worth in units of which 2^base make one of the least place. -/
def worth (r l : Nat) : Nat := mag r * 2 ^ (lift r - l)
theorem worth_lt {r s l : Nat} (h : r < s) (hl : l ≤ lift r) : worth r l < worth s l := by
  unfold worth
  have hm := lift_mono (Nat.le_of_lt h)
  by_cases e : lift r = lift s
  · rw [e]
    refine Nat.mul_lt_mul_of_pos_right ?_ (Nat.two_pow_pos _)
    unfold mag; rw [e]
    have : lift s * 4503599627370496 ≤ r := by rw [← e]; unfold lift; omega
    omega
  · have h1 := mag_lt r
    have h2 := mag_ge s (by omega)
    have h3 : lift s - l = (lift s - lift r - 1) + 1 + (lift r - l) := by omega
    rw [h3, Nat.pow_add]
    have h4 : 2 ≤ 2 ^ (lift s - lift r - 1 + 1) := by
      rw [Nat.pow_succ]; have := Nat.two_pow_pos (lift s - lift r - 1); omega
    have h5 : 4503599627370496 * 2 ≤ mag s * 2 ^ (lift s - lift r - 1 + 1) := Nat.mul_le_mul h2 h4
    rw [← Nat.mul_assoc]
    refine Nat.mul_lt_mul_of_pos_right ?_ (Nat.two_pow_pos _)
    omega
theorem worth_pos {r l : Nat} (h : 0 < r) : 0 < worth r l := by
  unfold worth
  refine Nat.mul_pos ?_ (Nat.two_pow_pos _)
  unfold mag lift; omega
theorem worth_zero (l : Nat) : worth 0 l = 0 := by unfold worth mag; simp

theorem cmp_lt {a b : Int} (h : a < b) : compare a b = .lt := by simp [compare, compareOfLessAndEq, h]
theorem cmp_eq {a b : Int} (h : a = b) : compare a b = .eq := by simp [compare, compareOfLessAndEq, h]
theorem cmp_gt {a b : Int} (h : b < a) : compare a b = .gt := by
  have h1 : ¬ a < b := by omega
  have h2 : ¬ a = b := by omega
  simp [compare, compareOfLessAndEq, h1, h2]

theorem worth_cmp (r s l : Nat) (h1 : l ≤ lift r) (h2 : l ≤ lift s) : (r < s → worth r l < worth s l) ∧ (r = s → worth r l = worth s l) ∧ (s < r → worth s l < worth r l) :=
  ⟨fun h => worth_lt h h1, fun h => by rw [h], fun h => worth_lt h h2⟩

theorem sgn_cmp (x y : Prop) [Decidable x] [Decidable y] (p q r s : Nat) (w : (r < s → p < q) ∧ (r = s → p = q) ∧ (s < r → q < p)) (z1 : 0 < r → 0 < p) (z2 : 0 < s → 0 < q) (z3 : r = 0 → p = 0) (z4 : s = 0 → q = 0) :
    compare (if x then -(p : Int) else p) (if y then -(q : Int) else q) = compare (if x then -(r : Int) else r) (if y then -(s : Int) else s) := by
  rcases Nat.lt_trichotomy r s with h | h | h
  · have h9 := w.1 h
    clear w
    by_cases sa : x <;> by_cases sb : y <;> simp only [sa, sb, if_true, if_false]
    · exact (cmp_gt (by omega)).trans (cmp_gt (by omega)).symm
    · exact (cmp_lt (by omega)).trans (cmp_lt (by omega)).symm
    · exact (cmp_gt (by omega)).trans (cmp_gt (by omega)).symm
    · exact (cmp_lt (by omega)).trans (cmp_lt (by omega)).symm
  · have h9 := w.2.1 h
    subst h; subst h9
    clear w
    by_cases sa : x <;> by_cases sb : y <;> simp only [sa, sb, if_true, if_false]
    · exact (cmp_eq rfl).trans (cmp_eq rfl).symm
    · by_cases h0 : r = 0
      · have := z3 h0
        exact (cmp_eq (by omega)).trans (cmp_eq (by omega)).symm
      · have := z1 (by omega)
        exact (cmp_lt (by omega)).trans (cmp_lt (by omega)).symm
    · by_cases h0 : r = 0
      · have := z3 h0
        exact (cmp_eq (by omega)).trans (cmp_eq (by omega)).symm
      · have := z1 (by omega)
        exact (cmp_gt (by omega)).trans (cmp_gt (by omega)).symm
    · exact (cmp_eq rfl).trans (cmp_eq rfl).symm
  · have h9 := w.2.2 h
    clear w
    by_cases sa : x <;> by_cases sb : y <;> simp only [sa, sb, if_true, if_false]
    · exact (cmp_lt (by omega)).trans (cmp_lt (by omega)).symm
    · exact (cmp_lt (by omega)).trans (cmp_lt (by omega)).symm
    · exact (cmp_gt (by omega)).trans (cmp_gt (by omega)).symm
    · exact (cmp_gt (by omega)).trans (cmp_gt (by omega)).symm

/-- The order of floats is the order of their keys. -/
theorem order_key (a b : Nat) (ha : a < 18446744073709551616) (hb : b < 18446744073709551616) (na : nan a = false) (nb : nan b = false) :
    FloatKind.f64.format.order a b = some (compare (key a) (key b)) := by
  show Ieee.double.order a b = _
  unfold Ieee.Format.order
  rw [nan_f] at na nb
  by_cases ia : rung a = inf
  · rw [read_inf a ha ia]
    by_cases ib : rung b = inf
    · rw [read_inf b hb ib]
      unfold Ieee.Datum.order key
      rw [ia, ib]
      unfold neg
      by_cases sa : 9223372036854775808 ≤ a <;> by_cases sb : 9223372036854775808 ≤ b <;> simp [sa, sb] <;> decide
    · rw [read_fin b hb (by omega)]
      unfold Ieee.Datum.order key
      rw [ia]
      unfold neg
      have : (0 : Int) ≤ (rung b : Int) := by omega
      have : (rung b : Int) < (inf : Int) := by omega
      have : (0 : Int) < (inf : Int) := by unfold inf; omega
      by_cases sa : 9223372036854775808 ≤ a <;> simp only [sa, decide_true, decide_false, if_true, if_false] <;> congr 1 <;> symm
      · exact cmp_lt (by split <;> omega)
      · exact cmp_gt (by split <;> omega)
  · rw [read_fin a ha (by omega)]
    by_cases ib : rung b = inf
    · rw [read_inf b hb ib]
      unfold Ieee.Datum.order key
      rw [ib]
      unfold neg
      have : (0 : Int) ≤ (rung a : Int) := by omega
      have : (rung a : Int) < (inf : Int) := by omega
      have : (0 : Int) < (inf : Int) := by unfold inf; omega
      by_cases sb : 9223372036854775808 ≤ b <;> simp only [sb, decide_true, decide_false, if_true, if_false] <;> congr 1 <;> symm
      · exact cmp_gt (by split <;> omega)
      · exact cmp_lt (by split <;> omega)
    · rw [read_fin b hb (by omega)]
      unfold Ieee.Datum.order
      simp only
      generalize hA : rung a = r at *
      generalize hB : rung b = s at *
      have hmin : ∃ l : Nat, min (-1074 + (lift r : Int)) (-1074 + (lift s : Int)) = -1074 + (l : Int) ∧ l ≤ lift r ∧ l ≤ lift s := ⟨min (lift r) (lift s), by omega, by omega, by omega⟩
      obtain ⟨l, hl, l1, l2⟩ := hmin
      rw [hl]
      have e1 : (-1074 + (lift r : Int) - (-1074 + (l : Int))).toNat = lift r - l := by omega
      have e2 : (-1074 + (lift s : Int) - (-1074 + (l : Int))).toNat = lift s - l := by omega
      rw [e1, e2]
      unfold Ieee.signed neg
      rw [Nat.shiftLeft_eq, Nat.shiftLeft_eq]
      obtain ⟨w1, w2, w3⟩ := worth_cmp r s l l1 l2
      have z1 : 0 < r → 0 < worth r l := fun h => worth_pos h
      have z2 : 0 < s → 0 < worth s l := fun h => worth_pos h
      have z3 : r = 0 → worth r l = 0 := fun h => by rw [h, worth_zero]
      have z4 : s = 0 → worth s l = 0 := fun h => by rw [h, worth_zero]
      change some (compare (if _ then -((worth r l : Nat) : Int) else ((worth r l : Nat) : Int)) (if _ then -((worth s l : Nat) : Int) else ((worth s l : Nat) : Int))) = _
      generalize worth r l = p at *
      generalize worth s l = q at *
      unfold key
      rw [hA, hB]
      congr 1
      simp only [decide_eq_true_eq]
      exact sgn_cmp (9223372036854775808 ≤ a) (9223372036854775808 ≤ b) p q r s ⟨w1, w2, w3⟩ z1 z2 z3 z4

theorem order_lt (a b : Nat) (ha : a < 18446744073709551616) (hb : b < 18446744073709551616) (na : nan a = false) (nb : nan b = false) (h : key a < key b) : FloatKind.f64.format.order a b = some .lt := by
  rw [order_key a b ha hb na nb, cmp_lt h]
theorem order_eq (a b : Nat) (ha : a < 18446744073709551616) (hb : b < 18446744073709551616) (na : nan a = false) (nb : nan b = false) (h : key a = key b) : FloatKind.f64.format.order a b = some .eq := by
  rw [order_key a b ha hb na nb, cmp_eq h]
theorem order_gt (a b : Nat) (ha : a < 18446744073709551616) (hb : b < 18446744073709551616) (na : nan a = false) (nb : nan b = false) (h : key b < key a) : FloatKind.f64.format.order a b = some .gt := by
  rw [order_key a b ha hb na nb, cmp_gt h]
theorem order_nan_l (a b : Nat) (ha : a < 18446744073709551616) (na : nan a = true) : FloatKind.f64.format.order a b = none := by
  show Ieee.double.order a b = _
  obtain ⟨s, t, h⟩ := read_nan a ha na
  unfold Ieee.Format.order
  rw [h]; rfl
theorem order_nan_r (a b : Nat) (hb : b < 18446744073709551616) (nb : nan b = true) : FloatKind.f64.format.order a b = none := by
  show Ieee.double.order a b = _
  obtain ⟨s, t, h⟩ := read_nan b hb nb
  unfold Ieee.Format.order
  rw [h]
  cases Ieee.double.read a <;> rfl

/-- A finite number less itself is 0. -/
theorem sub_self (b : Nat) (hb : b < 18446744073709551616) (h : rung b < inf) : floatBits .sub .f64 b b = some 0 := by
  show Ieee.double.sub b b = _
  unfold Ieee.Format.sub
  rw [read_fin b hb h]
  unfold Ieee.Datum.opposite Ieee.Datum.sum
  simp only
  generalize mag (rung b) = m
  generalize hl : (-1074 + (lift (rung b) : Int)) = i
  rw [show min i i = i by omega, show (i - i).toNat = 0 by omega]
  have e : Ieee.signed (neg b) m 0 + Ieee.signed (!neg b) m 0 = 0 := by
    unfold Ieee.signed; by_cases h : neg b <;> simp [h] <;> omega
  rw [e]
  simp only [if_true]
  have e2 : (neg b && !neg b) = false := by cases neg b <;> rfl
  rw [e2]
  show some (Ieee.Format.nearest _ _ _ _) = _
  unfold Ieee.Format.nearest
  simp [Ieee.Format.word]
/-- An infinite number less itself is none. -/
theorem sub_inf (b : Nat) (hb : b < 18446744073709551616) (h : rung b = inf) : Ieee.double.sub b b = none := by
  unfold Ieee.Format.sub
  rw [read_inf b hb h]
  unfold Ieee.Datum.opposite Ieee.Datum.sum
  simp

end Go.Proofs.YtcdkibadnelgiaaGreatDoor.Real

namespace Go.Proofs.YtcdkibadnelgiaaGreatDoor.Real
open Go.RowKit

/-- p by d, rounded to the nearest, of two the even one. -/
def near (p d : Nat) : Nat := p / d + (if d < 2 * (p % d) ∨ (d = 2 * (p % d) ∧ p / d % 2 = 1) then 1 else 0)
def expo : Nat := 1074
def unit : Nat := 2 ^ expo
def val (r : Nat) : Nat := mag r * 2 ^ lift r
/-- Thousandths of a number of that rung. -/
def mil (r : Nat) : Nat := near (1000 * val r) unit

theorem unit_split (t : Nat) (h : t ≤ 1074) : unit = 2 ^ t * 2 ^ (1074 - t) := by
  have e : expo = t + (1074 - t) := by unfold expo; omega
  rw [← Nat.pow_add, ← e]; rfl
theorem unit_pos : 0 < unit := Nat.two_pow_pos _

theorem near_scale (p d k : Nat) (hk : 0 < k) : near (k * p) (k * d) = near p d := by
  unfold near
  rw [Nat.mul_div_mul_left _ _ hk, Nat.mul_mod_mul_left]
  congr 1
  have e : 2 * (k * (p % d)) = k * (2 * (p % d)) := Nat.mul_left_comm ..
  rw [e]
  have a : (k * d < k * (2 * (p % d))) ↔ d < 2 * (p % d) := Nat.mul_lt_mul_left hk
  have b : (k * d = k * (2 * (p % d))) ↔ d = 2 * (p % d) := Nat.mul_right_inj (by omega)
  simp only [a, b]
theorem near_mono (p q d : Nat) (h : p ≤ q) : near p d ≤ near q d := by
  unfold near
  have h1 : p / d ≤ q / d := Nat.div_le_div_right h
  have h2 := Nat.div_add_mod p d
  have h3 := Nat.div_add_mod q d
  by_cases e : p / d = q / d
  · rw [e] at h2 ⊢
    have : p % d ≤ q % d := by omega
    split
    · rename_i c
      rw [if_pos (by omega)]; exact Nat.le_refl _
    · omega
  · have : p / d + 1 ≤ q / d := by omega
    split <;> omega
theorem near_small (p d : Nat) (h : 2 * p < d) : near p d = 0 := by
  unfold near
  rw [Nat.div_eq_of_lt (by omega), Nat.mod_eq_of_lt (by omega), if_neg (by omega)]
theorem near_close (p d n : Nat) (h1 : 2 * p < 2 * (n * d) + d) (h2 : 2 * (n * d) < 2 * p + d) : near p d = n := by
  have hd : 0 < d := by omega
  by_cases h : n * d ≤ p
  · have e : p / d = n := by
      rw [Nat.div_eq_iff hd]; omega
    have h3 := Nat.div_add_mod p d
    rw [e, Nat.mul_comm d n] at h3
    unfold near
    rw [e, if_neg (by omega)]; rfl
  · have hn : 1 ≤ n := by
      rcases Nat.eq_zero_or_pos n with h0 | h0
      · subst h0; simp at h
      · exact h0
    obtain ⟨k, rfl⟩ : ∃ k, n = k + 1 := ⟨n - 1, by omega⟩
    rw [Nat.add_mul, Nat.one_mul] at h h1 h2
    have e : p / d = k := by
      rw [Nat.div_eq_iff hd]; omega
    have h3 := Nat.div_add_mod p d
    rw [e, Nat.mul_comm d k] at h3
    unfold near
    rw [e, if_pos (by omega)]
theorem near_bits (p k : Nat) : near p (2 ^ (k + 1)) = p / 2 ^ (k + 1) + (if p / 2 ^ k % 2 = 1 ∧ (p % 2 ^ k ≠ 0 ∨ p / 2 ^ (k + 1) % 2 = 1) then 1 else 0) := by
  unfold near
  congr 1
  have hp := Nat.two_pow_pos k
  have e1 : p % 2 ^ (k + 1) = p % 2 ^ k + 2 ^ k * (p / 2 ^ k % 2) := by rw [Nat.pow_succ, Nat.mod_mul]
  have e2 := Nat.mod_lt p hp
  rw [e1]
  rw [show 2 ^ (k + 1) = 2 * 2 ^ k by rw [Nat.pow_succ, Nat.mul_comm]]
  generalize p / (2 * 2 ^ k) % 2 = z
  generalize p % 2 ^ k = m at *
  generalize 2 ^ k = d at *
  rcases Nat.mod_two_eq_zero_or_one (p / d) with h | h <;> rw [h]
  · rw [if_neg (by omega), if_neg (by omega)]
  · by_cases hm : m = 0
    · subst hm
      by_cases hz : z = 1
      · rw [if_pos (by omega), if_pos (by omega)]
      · rw [if_neg (by omega), if_neg (by omega)]
    · rw [if_pos (by omega), if_pos (by omega)]

theorem val_mono {r s : Nat} (h : r ≤ s) : val r ≤ val s := by
  rcases Nat.lt_or_eq_of_le h with h | h
  · exact Nat.le_of_lt (worth_lt (l := 0) h (by omega))
  · rw [h]; exact Nat.le_refl _
theorem mil_mono {r s : Nat} (h : r ≤ s) : mil r ≤ mil s := near_mono _ _ _ (Nat.mul_le_mul_left _ (val_mono h))

theorem mil_at (r : Nat) (h : lift r ≤ 1074) : mil r = near (mag r * 1000) (2 ^ (1074 - lift r)) := by
  unfold mil val
  rw [unit_split (lift r) h, show 1000 * (mag r * 2 ^ lift r) = 2 ^ lift r * (mag r * 1000) by rw [Nat.mul_left_comm (2 ^ lift r) (mag r) 1000, Nat.mul_left_comm 1000, Nat.mul_comm 1000]]
  exact near_scale _ _ _ (Nat.two_pow_pos _)
theorem mil_code (r : Nat) (h1 : 1012 ≤ r / 4503599627370496) (h2 : r / 4503599627370496 ≤ 1075) :
    mil r = near ((4503599627370496 + r % 4503599627370496) * 1000) (2 ^ (1075 - r / 4503599627370496)) := by
  rw [mil_at r (by unfold lift; omega)]
  have e1 : mag r = 4503599627370496 + r % 4503599627370496 := by unfold mag lift; omega
  have e2 : 1074 - lift r = 1075 - r / 4503599627370496 := by unfold lift; omega
  rw [e1, e2]
theorem mil_zero (r : Nat) (h : r / 4503599627370496 < 1012) : mil r = 0 := by
  have hl : lift r ≤ 1010 := by unfold lift; omega
  rw [mil_at r (by omega)]
  apply near_small
  have := mag_lt r
  have h64 : (2 : Nat) ^ 64 ≤ 2 ^ (1074 - lift r) := Nat.pow_le_pow_right (by omega) (by omega)
  have : (2 : Nat) ^ 64 = 18446744073709551616 := by decide
  omega

theorem pow_unit (J : Nat) : 2 ^ (expo + J) = unit * 2 ^ J := by rw [Nat.pow_add]; rfl
attribute [irreducible] mil val unit near
theorem mil_1001 : mil 4652016104934211584 = 1001000 := by decide +kernel
theorem mil_million : mil 4696837146684686336 = 1000000000 := by decide +kernel

end Go.Proofs.YtcdkibadnelgiaaGreatDoor.Real

namespace Go.Proofs.YtcdkibadnelgiaaGreatDoor.Real
open Go.RowKit

theorem log2_is (n k : Nat) (h1 : 2 ^ k ≤ n) (h2 : n < 2 ^ (k + 1)) : n.log2 = k := by
  have hn : n ≠ 0 := by have := Nat.two_pow_pos k; omega
  have a := (Nat.le_log2 hn).2 h1
  have b := (Nat.log2_lt hn).2 h2
  omega
theorem cut_near (s : Bool) (n d : Nat) (h : d ≤ n.log2 + 2) : Ieee.Toward.even.cut s n d = near n (2 ^ d) := by
  unfold Ieee.Toward.cut near
  simp only [Nat.min_eq_left h, Nat.one_shiftLeft]
  congr 1
  generalize 2 ^ d = D
  by_cases c : D < 2 * (n % D) ∨ (D = 2 * (n % D) ∧ n / D % 2 = 1)
  · rw [if_pos c]
    have : (decide (D < 2 * (n % D)) || (D == 2 * (n % D) && n / D % 2 == 1)) = true := by simpa using c
    rw [this]; rfl
  · rw [if_neg c]
    have : (decide (D < 2 * (n % D)) || (D == 2 * (n % D) && n / D % 2 == 1)) = false := by simpa using c
    rw [this]; rfl
theorem near_err (p d : Nat) (hd : 0 < d) : 2 * (near p d * d) ≤ 2 * p + d ∧ 2 * p ≤ 2 * (near p d * d) + d := by
  have h := Nat.div_add_mod p d
  have h' := Nat.mod_lt p hd
  unfold near
  rw [Nat.add_mul, Nat.mul_comm (p / d) d]
  split <;> simp <;> omega
theorem near_range (p k d : Nat) (h1 : 2 ^ (k + d) ≤ p) (h2 : p < 2 ^ (k + 1 + d)) : 2 ^ k ≤ near p (2 ^ d) ∧ near p (2 ^ d) ≤ 2 ^ (k + 1) := by
  have a : 2 ^ k ≤ p / 2 ^ d := by rw [Nat.le_div_iff_mul_le (Nat.two_pow_pos _), ← Nat.pow_add]; exact h1
  have b : p / 2 ^ d < 2 ^ (k + 1) := by rw [Nat.div_lt_iff_lt_mul (Nat.two_pow_pos _), ← Nat.pow_add]; exact h2
  unfold near
  split <;> omega
theorem val_rung (t k : Nat) (h1 : 4503599627370496 ≤ k) (h2 : k ≤ 9007199254740992) : val (t * 4503599627370496 + k) = k * 2 ^ t := by
  by_cases e : k = 9007199254740992
  · have e1 : lift (t * 4503599627370496 + k) = t + 1 := by unfold lift; omega
    have e2 : mag (t * 4503599627370496 + k) = 4503599627370496 := by unfold mag; rw [e1]; omega
    unfold val; rw [e1, e2, e, Nat.pow_succ]; omega
  · have e1 : lift (t * 4503599627370496 + k) = t := by unfold lift; omega
    have e2 : mag (t * 4503599627370496 + k) = k := by unfold mag; rw [e1]; omega
    unfold val; rw [e1, e2]

theorem two52 : (2 : Nat) ^ 52 = 4503599627370496 := by decide
theorem two53 : (2 : Nat) ^ 53 = 9007199254740992 := by decide
theorem word_min (r : Nat) (h : r ≤ 9218868437227405312) : Ieee.double.word false (min r 9218868437227405312) = r := by
  rw [Nat.min_eq_left h]; rfl
theorem nearest_at (M d t : Nat) (place : Int) (h1 : 2 ^ (52 + d) ≤ M) (h2 : M < 2 ^ (53 + d)) (ht : place + d = -1074 + t) (hm : t ≤ 2000) :
    Ieee.double.nearest false M place = t * 4503599627370496 + near M (2 ^ d) := by
  have hM : M ≠ 0 := by have := Nat.two_pow_pos (52 + d); omega
  have hl : M.log2 = 52 + d := log2_is M (52 + d) h1 (by rw [show 52 + d + 1 = 53 + d by omega]; exact h2)
  have hi : Ieee.double.infRung = 9218868437227405312 := by decide
  have hbi : Ieee.double.binade = 4503599627370496 := by decide
  have hlp : Ieee.double.leastPlace = -1074 := by decide
  have hf : Ieee.double.fractionBits = 52 := rfl
  obtain ⟨r1, r2⟩ := near_range M 52 d h1 h2
  rw [two52] at r1
  rw [show 52 + 1 = 53 from rfl, two53] at r2
  unfold Ieee.Format.nearest
  rw [if_neg hM, hl, hi, hbi, hlp, hf]
  simp only
  have e1 : max (place + ((52 + d : Nat) : Int) - ((52 : Nat) : Int)) (-1074) = -1074 + (t : Int) := by omega
  rw [e1]
  have e2 : (place - (-1074 + (t : Int))).toNat = 0 := by omega
  have e3 : (-1074 + (t : Int) - place).toNat = d := by omega
  have e4 : (-1074 + (t : Int) - -1074).toNat = t := by omega
  rw [e2, e3, e4, Nat.shiftLeft_zero, cut_near _ _ _ (by rw [hl]; omega)]
  generalize near M (2 ^ d) = K at *
  exact word_min (t * 4503599627370496 + K) (by omega)

theorem ofInt_zero : floatOfInt .f64 0 = 0 := by decide +kernel
theorem ofInt_read (m : Nat) (h0 : 0 < m) (h1 : m < 1048576) : Ieee.double.read (floatOfInt .f64 (m : Int)) = .number false (m * 2 ^ (52 - m.log2)) ((m.log2 : Int) - 52) := by
  have hL : m.log2 < 20 := (Nat.log2_lt (by omega)).2 (by simpa using h1)
  have a1 := Nat.log2_self_le (show m ≠ 0 by omega)
  have a2 := Nat.lt_log2_self (n := m)
  generalize m.log2 = L at *
  have hk1 : 4503599627370496 ≤ m * 2 ^ (52 - L) := by
    have := Nat.mul_le_mul_right (2 ^ (52 - L)) a1
    rw [← Nat.pow_add, show L + (52 - L) = 52 by omega, two52] at this
    exact this
  have hk2 : m * 2 ^ (52 - L) < 9007199254740992 := by
    have := Nat.mul_lt_mul_of_pos_right a2 (Nat.two_pow_pos (52 - L))
    rw [← Nat.pow_add, show L + 1 + (52 - L) = 53 by omega, two53] at this
    exact this
  have e : floatOfInt .f64 (m : Int) = (L + 1022) * 4503599627370496 + m * 2 ^ (52 - L) := by
    show Ieee.double.nearest (decide ((m : Int) < 0)) (m : Int).natAbs 0 = _
    rw [show decide ((m : Int) < 0) = false by simp, show (m : Int).natAbs = m by omega]
    have hl2 : m.log2 = L := log2_is m L a1 a2
    have hi : Ieee.double.infRung = 9218868437227405312 := by decide
    have hbi : Ieee.double.binade = 4503599627370496 := by decide
    have hlp : Ieee.double.leastPlace = -1074 := by decide
    have hf : Ieee.double.fractionBits = 52 := rfl
    unfold Ieee.Format.nearest
    rw [if_neg (by omega), hl2, hi, hbi, hlp, hf]
    simp only
    rw [show max ((0 : Int) + (L : Int) - ((52 : Nat) : Int)) (-1074) = (L : Int) - 52 by omega]
    rw [show (0 - ((L : Int) - 52)).toNat = 52 - L by omega, show ((L : Int) - 52 - 0).toNat = 0 by omega, show ((L : Int) - 52 - -1074).toNat = L + 1022 by omega]
    rw [cut_near _ _ _ (by omega), Nat.shiftLeft_eq]
    generalize m * 2 ^ (52 - L) = k at *
    have : near k (2 ^ 0) = k := by unfold near; simp [Nat.mod_one]
    rw [this]
    exact word_min ((L + 1022) * 4503599627370496 + k) (by omega)
  rw [e]
  generalize m * 2 ^ (52 - L) = k at *
  have hr : rung ((L + 1022) * 4503599627370496 + k) = (L + 1022) * 4503599627370496 + k := by unfold rung; omega
  have hlift : lift ((L + 1022) * 4503599627370496 + k) = L + 1022 := by unfold lift; omega
  have hmag : mag ((L + 1022) * 4503599627370496 + k) = k := by unfold mag; rw [hlift]; omega
  have hneg : neg ((L + 1022) * 4503599627370496 + k) = false := by unfold neg; simp; omega
  rw [read_fin _ (by omega) (by rw [hr]; unfold inf; omega), hr, hlift, hmag, hneg, show -1074 + ((L + 1022 : Nat) : Int) = (L : Int) - 52 by omega]

theorem quo_close (m w N J : Nat) (h0 : 0 < m) (h1 : m < 1048576) (h : Ieee.double.read w = .number false N (-(J : Int))) (n1 : 4503599627370496 ≤ N) (n2 : N < 9007199254740992) (hJ : J ≤ 60) :
    ∃ b, floatBits .quo .f64 (floatOfInt .f64 (m : Int)) w = some b ∧ b < inf ∧ val b * N ≤ m * 2 ^ (1074 + J) + 6 * (N * 2 ^ (m.log2 + J + 967)) ∧ m * 2 ^ (1074 + J) ≤ val b * N + 6 * (N * 2 ^ (m.log2 + J + 967)) := by
  have hL : m.log2 < 20 := (Nat.log2_lt (by omega)).2 (by simpa using h1)
  have a1 := Nat.log2_self_le (show m ≠ 0 by omega)
  have a2 := Nat.lt_log2_self (n := m)
  have hrd := ofInt_read m h0 h1
  generalize m.log2 = L at *
  have hE : m * 2 ^ (1074 + J) = m * 2 ^ (52 - L) * 36028797018963968 * 2 ^ (L + J + 967) := by
    rw [show (36028797018963968 : Nat) = 2 ^ 55 by decide, Nat.mul_assoc, Nat.mul_assoc, ← Nat.pow_add, ← Nat.pow_add]
    congr 2
    omega
  have hk1 : 4503599627370496 ≤ m * 2 ^ (52 - L) := by
    have := Nat.mul_le_mul_right (2 ^ (52 - L)) a1
    rw [← Nat.pow_add, show L + (52 - L) = 52 by omega, two52] at this
    exact this
  have hk2 : m * 2 ^ (52 - L) < 9007199254740992 := by
    have := Nat.mul_lt_mul_of_pos_right a2 (Nat.two_pow_pos (52 - L))
    rw [← Nat.pow_add, show L + 1 + (52 - L) = 53 by omega, two53] at this
    exact this
  show ∃ b, Ieee.double.div (floatOfInt .f64 (m : Int)) w = some b ∧ _
  rw [hE]
  unfold Ieee.Format.div
  rw [hrd, h]
  generalize m * 2 ^ (52 - L) = A at *
  have lA : A.log2 = 52 := log2_is A 52 (by rw [two52]; exact hk1) (by rw [show 52 + 1 = 53 from rfl, two53]; exact hk2)
  have lN : N.log2 = 52 := log2_is N 52 (by rw [two52]; exact n1) (by rw [show 52 + 1 = 53 from rfl, two53]; exact n2)
  unfold Ieee.Datum.quotient
  simp only
  rw [if_neg (by omega), lA, lN]
  have hf : Ieee.double.fractionBits = 52 := rfl
  rw [hf]
  simp only [show 52 + 2 + 52 - 52 = 54 from rfl, Nat.shiftLeft_eq, Bool.xor_self, Option.map_some]
  rw [show (2 : Nat) ^ 54 = 18014398509481984 by decide]
  have hs : (A * 18014398509481984 % N != 0).toNat ≤ 1 := Bool.toNat_le _
  generalize (A * 18014398509481984 % N != 0).toNat = s at hs
  have q1 := Nat.div_add_mod (A * 18014398509481984) N
  have q2 := Nat.mod_lt (A * 18014398509481984) (show 0 < N by omega)
  have q3 : 9007199254740992 ≤ A * 18014398509481984 / N := by
    rw [Nat.le_div_iff_mul_le (by omega)]; omega
  have q4 : A * 18014398509481984 / N < 36028797018963968 := by
    rw [Nat.div_lt_iff_lt_mul (by omega)]; omega
  generalize A * 18014398509481984 / N = q at *
  generalize A * 18014398509481984 % N = rem at *
  have hM : ∃ d, 2 ≤ d ∧ d ≤ 3 ∧ 2 ^ (52 + d) ≤ 2 * q + s ∧ 2 * q + s < 2 ^ (53 + d) := by
    by_cases c : q < 18014398509481984
    · exact ⟨2, by omega, by omega, by rw [show (2 : Nat) ^ (52 + 2) = 18014398509481984 by decide]; omega, by rw [show (2 : Nat) ^ (53 + 2) = 36028797018963968 by decide]; omega⟩
    · exact ⟨3, by omega, by omega, by rw [show (2 : Nat) ^ (52 + 3) = 36028797018963968 by decide]; omega, by rw [show (2 : Nat) ^ (53 + 3) = 72057594037927936 by decide]; omega⟩
  obtain ⟨d, d2, d3, m1, m2⟩ := hM
  refine ⟨_, rfl, ?_⟩
  show Ieee.double.nearest false (2 * q + s) ((L : Int) - 52 - -(J : Int) - ((54 : Nat) : Int) - 1) < inf ∧ _
  have hn := nearest_at (2 * q + s) d (L + J + 967 + d) ((L : Int) - 52 - -(J : Int) - ((54 : Nat) : Int) - 1) m1 m2 (by omega) (by omega)
  have hw : Ieee.double.write (.number false (2 * q + s) ((L : Int) - 52 - -(J : Int) - ((54 : Nat) : Int) - 1)) = (L + J + 967 + d) * 4503599627370496 + near (2 * q + s) (2 ^ d) := hn
  rw [hn]
  obtain ⟨r1, r2⟩ := near_range (2 * q + s) 52 d m1 m2
  rw [two52] at r1
  rw [show 52 + 1 = 53 from rfl, two53] at r2
  obtain ⟨x1, x2⟩ := near_err (2 * q + s) (2 ^ d) (Nat.two_pow_pos _)
  have hd4 : 2 ^ d ≤ 8 := by
    have := Nat.pow_le_pow_right (n := 2) (by omega) d3
    simpa using this
  refine ⟨by unfold inf; omega, ?_⟩
  have hv := val_rung (L + J + 967 + d) (near (2 * q + s) (2 ^ d)) r1 r2
  rw [hw, hv, Nat.pow_add 2 (L + J + 967) d, Nat.mul_comm (2 ^ (L + J + 967)) (2 ^ d), ← Nat.mul_assoc]
  generalize near (2 * q + s) (2 ^ d) * 2 ^ d = X at *
  have e1 : X * 2 ^ (L + J + 967) * N = X * N * 2 ^ (L + J + 967) := Nat.mul_right_comm ..
  have e2 : 6 * (N * 2 ^ (L + J + 967)) = 6 * N * 2 ^ (L + J + 967) := (Nat.mul_assoc ..).symm
  rw [e1, e2, ← Nat.add_mul, ← Nat.add_mul]
  have y1 : X * N ≤ (2 * q + s + 4) * N := Nat.mul_le_mul_right _ (by omega)
  have y2 : (2 * q + s) * N ≤ (X + 4) * N := Nat.mul_le_mul_right _ (by omega)
  have y3 : s * N ≤ 1 * N := Nat.mul_le_mul_right _ hs
  simp only [Nat.add_mul, Nat.mul_assoc 2 q N, Nat.mul_comm q N] at y1 y2 y3
  constructor <;> refine Nat.mul_le_mul_right _ ?_
  · omega
  · omega

theorem quo_close' (m w N J : Nat) (h0 : 0 < m) (h1 : m < 1048576) (h : Ieee.double.read w = .number false N (-(J : Int))) (n1 : 4503599627370496 ≤ N) (n2 : N < 9007199254740992) (hJ : J ≤ 60) :
    ∃ b, floatBits .quo .f64 (floatOfInt .f64 (m : Int)) w = some b ∧ b < inf ∧ val b * N ≤ m * (unit * 2 ^ J) + 6 * (N * 2 ^ (m.log2 + J + 967)) ∧ m * (unit * 2 ^ J) ≤ val b * N + 6 * (N * 2 ^ (m.log2 + J + 967)) := by
  rw [← pow_unit J]
  exact quo_close m w N J h0 h1 h n1 n2 hJ

theorem thou (m : Nat) (h : m ≤ 1000000) : ∃ b, floatBits .quo .f64 (floatOfInt .f64 (m : Int)) 4652007308841189376 = some b ∧ b < inf ∧ mil b = m := by
  rcases Nat.eq_zero_or_pos m with h0 | h0
  · subst h0
    refine ⟨0, ?_, by decide, by decide +kernel⟩
    rw [show ((0 : Nat) : Int) = 0 from rfl, ofInt_zero]
    decide +kernel
  · have hr : Ieee.double.read 4652007308841189376 = .number false 8796093022208000 (-((43 : Nat) : Int)) := by decide +kernel
    obtain ⟨J, hJ⟩ : ∃ J : Nat, J = 43 := ⟨_, rfl⟩
    obtain ⟨T, hT⟩ : ∃ T : Nat, T = 1029 := ⟨_, rfl⟩
    rw [← hJ] at hr
    obtain ⟨b, hb, hi, c1, c2⟩ := quo_close' m _ _ J h0 (by omega) hr (by omega) (by omega) (by omega)
    refine ⟨b, hb, hi, ?_⟩
    have hL : m.log2 < 20 := (Nat.log2_lt (by omega)).2 (Nat.lt_of_le_of_lt h (by decide))
    have hp : 2 ^ (m.log2 + J + 967) ≤ 2 ^ T := Nat.pow_le_pow_right (by omega) (by omega)
    have hu := unit_split T (by omega)
    rw [show (2 : Nat) ^ (1074 - T) = 35184372088832 by rw [hT]] at hu
    rw [show (2 : Nat) ^ J = 8796093022208 by rw [hJ], ← Nat.mul_assoc] at c1 c2
    generalize 2 ^ (m.log2 + J + 967) = F at *
    generalize (2 : Nat) ^ T = E at *
    have hE : 0 < E := by have := unit_pos; omega
    unfold mil
    apply near_close
    · generalize m * unit = mu at *
      omega
    · generalize m * unit = mu at *
      omega

theorem eighth (j : Nat) (h : j < 8000) : ∃ b, floatBits .quo .f64 (floatOfInt .f64 (j : Int)) 4620693217682128896 = some b ∧ b < inf ∧ mil b = 125 * j := by
  rcases Nat.eq_zero_or_pos j with h0 | h0
  · subst h0
    refine ⟨0, ?_, by decide, by decide +kernel⟩
    rw [show ((0 : Nat) : Int) = 0 from rfl, ofInt_zero]
    decide +kernel
  · have hr : Ieee.double.read 4620693217682128896 = .number false 4503599627370496 (-((49 : Nat) : Int)) := by decide +kernel
    obtain ⟨J, hJ⟩ : ∃ J : Nat, J = 49 := ⟨_, rfl⟩
    obtain ⟨T, hT⟩ : ∃ T : Nat, T = 1028 := ⟨_, rfl⟩
    rw [← hJ] at hr
    obtain ⟨b, hb, hi, c1, c2⟩ := quo_close' j _ _ J h0 (by omega) hr (by omega) (by omega) (by omega)
    refine ⟨b, hb, hi, ?_⟩
    have hL : j.log2 < 13 := (Nat.log2_lt (by omega)).2 (Nat.lt_of_lt_of_le h (by decide))
    have hp : 2 ^ (j.log2 + J + 967) ≤ 2 ^ T := Nat.pow_le_pow_right (by omega) (by omega)
    have hu := unit_split T (by omega)
    rw [show (2 : Nat) ^ (1074 - T) = 70368744177664 by rw [hT]] at hu
    rw [show (2 : Nat) ^ J = 562949953421312 by rw [hJ], ← Nat.mul_assoc] at c1 c2
    generalize 2 ^ (j.log2 + J + 967) = F at *
    generalize (2 : Nat) ^ T = E at *
    have hE : 0 < E := by have := unit_pos; omega
    unfold mil
    apply near_close <;> rw [Nat.mul_assoc]
    · generalize j * unit = mu at *
      omega
    · generalize j * unit = mu at *
      omega

end Go.Proofs.YtcdkibadnelgiaaGreatDoor.Real
