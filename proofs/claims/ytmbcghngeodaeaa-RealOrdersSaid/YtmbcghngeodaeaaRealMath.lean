/- Plain facts on the bits of numbers of 64 bits for the layer 'real': no program in this text. Conditions: as each theorem states. -/
import Derived.WalkKit
import Derived.Laws.FloatArith
namespace Go.Proofs.Ytmbcghngeodaeaa.Real
open Go.RowKit

/-- The lower bits, exponent and fraction in one number. -/
def rung (b : Nat) : Nat := b % 9223372036854775808
def inf : Nat := 9218868437227405312
def nan (b : Nat) : Bool := decide (inf < rung b)
def neg (b : Nat) : Bool := decide (9223372036854775808 ≤ b)
theorem nan_t {b : Nat} : nan b = true ↔ inf < rung b := by unfold nan; simp
theorem nan_f {b : Nat} : nan b = false ↔ rung b ≤ inf := by unfold nan; simp
/-- Numbers in the order of floats: both noughts are 0. -/
def key (b : Nat) : Int := if 9223372036854775808 ≤ b then -(rung b : Int) else rung b
def lift (r : Nat) : Nat := r / 4503599627370496 - 1
def mag (r : Nat) : Nat := r - lift r * 4503599627370496

theorem mag_lt (r : Nat) : mag r < 9007199254740992 := by unfold mag lift; omega
theorem mag_ge (r : Nat) (h : 0 < lift r) : 4503599627370496 ≤ mag r := by unfold mag; unfold lift at *; omega
theorem mag_small (r : Nat) (h : r < 4503599627370496) : mag r = r := by unfold mag lift; omega
theorem lift_mono {r s : Nat} (h : r ≤ s) : lift r ≤ lift s := by unfold lift; omega

theorem read_fin (b : Nat) (hb : b < 18446744073709551616) (h : rung b < inf) :
    Ieee.double.read b = .number (neg b) (mag (rung b)) (-1074 + (lift (rung b) : Int)) := by
  unfold rung inf at h
  have hs : Ieee.double.signWeight = 9223372036854775808 := by decide
  have hi : Ieee.double.infRung = 9218868437227405312 := by decide
  have hbi : Ieee.double.binade = 4503599627370496 := by decide
  have hl : Ieee.double.leastPlace = -1074 := by decide
  unfold Ieee.Format.read
  simp only [hs, hi, hbi, hl]
  have e : (b / 9223372036854775808 % 2 == 1) = neg b := by
    unfold neg; rw [Bool.eq_iff_iff, beq_iff_eq, decide_eq_true_iff]; constructor <;> intro _ <;> omega
  rw [e]
  by_cases h1 : b % 9223372036854775808 < 4503599627370496
  · rw [if_pos h1, mag_small _ (by unfold rung; exact h1)]
    unfold rung lift
    congr 1
    omega
  · rw [if_neg h1, if_pos h]
    unfold rung mag lift
    congr 1
    omega
theorem read_inf (b : Nat) (hb : b < 18446744073709551616) (h : rung b = inf) : Ieee.double.read b = .infinity (neg b) := by
  unfold rung inf at h
  have hs : Ieee.double.signWeight = 9223372036854775808 := by decide
  have hi : Ieee.double.infRung = 9218868437227405312 := by decide
  have hbi : Ieee.double.binade = 4503599627370496 := by decide
  unfold Ieee.Format.read
  simp only [hs, hi, hbi]
  have e : (b / 9223372036854775808 % 2 == 1) = neg b := by
    unfold neg; rw [Bool.eq_iff_iff, beq_iff_eq, decide_eq_true_iff]; constructor <;> intro _ <;> omega
  rw [e, if_neg (by omega), if_neg (by omega), if_pos (by omega)]
theorem read_nan (b : Nat) (_hb : b < 18446744073709551616) (h : nan b = true) : ∃ s t, Ieee.double.read b = .nan s t := by
  rw [nan_t] at h; unfold rung inf at h
  have hs : Ieee.double.signWeight = 9223372036854775808 := by decide
  have hi : Ieee.double.infRung = 9218868437227405312 := by decide
  have hbi : Ieee.double.binade = 4503599627370496 := by decide
  unfold Ieee.Format.read
  simp only [hs, hi, hbi]
  rw [if_neg (by omega), if_neg (by omega), if_neg (by omega)]
  exact ⟨_, _, rfl⟩

/-- What a rung is worth in units of which 2^base make one of the least place. -/
def worth (r l : Nat) : Nat := mag r * 2 ^ (lift r - l)
theorem worth_lt {r s l : Nat} (h : r < s) (hl : l ≤ lift r) : worth r l < worth s l := by
  unfold worth
  have hm := lift_mono (Nat.le_of_lt h)
  by_cases e : lift r = lift s
  · rw [e]
    refine Nat.mul_lt_mul_of_pos_right ?_ (Nat.two_pow_pos _)
    unfold mag; rw [e]
    have : lift s * 4503599627370496 ≤ r := by rw [← e]; unfold lift; omega
    omega
  · have h1 := mag_lt r
    have h2 := mag_ge s (by omega)
    have h3 : lift s - l = (lift s - lift r - 1) + 1 + (lift r - l) := by omega
    rw [h3, Nat.pow_add]
    have h4 : 2 ≤ 2 ^ (lift s - lift r - 1 + 1) := by
      rw [Nat.pow_succ]; have := Nat.two_pow_pos (lift s - lift r - 1); omega
    have h5 : 4503599627370496 * 2 ≤ mag s * 2 ^ (lift s - lift r - 1 + 1) := Nat.mul_le_mul h2 h4
    rw [← Nat.mul_assoc]
    refine Nat.mul_lt_mul_of_pos_right ?_ (Nat.two_pow_pos _)
    omega
theorem worth_pos {r l : Nat} (h : 0 < r) : 0 < worth r l := by
  unfold worth
  refine Nat.mul_pos ?_ (Nat.two_pow_pos _)
  unfold mag lift; omega
theorem worth_zero (l : Nat) : worth 0 l = 0 := by unfold worth mag; simp

theorem cmp_lt {a b : Int} (h : a < b) : compare a b = .lt := by simp [compare, compareOfLessAndEq, h]
theorem cmp_eq {a b : Int} (h : a = b) : compare a b = .eq := by simp [compare, compareOfLessAndEq, h]
theorem cmp_gt {a b : Int} (h : b < a) : compare a b = .gt := by
  have h1 : ¬ a < b := by omega
  have h2 : ¬ a = b := by omega
  simp [compare, compareOfLessAndEq, h1, h2]

theorem worth_cmp (r s l : Nat) (h1 : l ≤ lift r) (h2 : l ≤ lift s) : (r < s → worth r l < worth s l) ∧ (r = s → worth r l = worth s l) ∧ (s < r → worth s l < worth r l) :=
  ⟨fun h => worth_lt h h1, fun h => by rw [h], fun h => worth_lt h h2⟩

theorem sgn_cmp (x y : Prop) [Decidable x] [Decidable y] (p q r s : Nat) (w : (r < s → p < q) ∧ (r = s → p = q) ∧ (s < r → q < p)) (z1 : 0 < r → 0 < p) (z2 : 0 < s → 0 < q) (z3 : r = 0 → p = 0) (z4 : s = 0 → q = 0) :
    compare (if x then -(p : Int) else p) (if y then -(q : Int) else q) = compare (if x then -(r : Int) else r) (if y then -(s : Int) else s) := by
  rcases Nat.lt_trichotomy r s with h | h | h
  · have h9 := w.1 h
    clear w
    by_cases sa : x <;> by_cases sb : y <;> simp only [sa, sb, if_true, if_false]
    · exact (cmp_gt (by omega)).trans (cmp_gt (by omega)).symm
    · exact (cmp_lt (by omega)).trans (cmp_lt (by omega)).symm
    · exact (cmp_gt (by omega)).trans (cmp_gt (by omega)).symm
    · exact (cmp_lt (by omega)).trans (cmp_lt (by omega)).symm
  · have h9 := w.2.1 h
    subst h; subst h9
    clear w
    by_cases sa : x <;> by_cases sb : y <;> simp only [sa, sb, if_true, if_false]
    · exact (cmp_eq rfl).trans (cmp_eq rfl).symm
    · by_cases h0 : r = 0
      · have := z3 h0
        exact (cmp_eq (by omega)).trans (cmp_eq (by omega)).symm
      · have := z1 (by omega)
        exact (cmp_lt (by omega)).trans (cmp_lt (by omega)).symm
    · by_cases h0 : r = 0
      · have := z3 h0
        exact (cmp_eq (by omega)).trans (cmp_eq (by omega)).symm
      · have := z1 (by omega)
        exact (cmp_gt (by omega)).trans (cmp_gt (by omega)).symm
    · exact (cmp_eq rfl).trans (cmp_eq rfl).symm
  · have h9 := w.2.2 h
    clear w
    by_cases sa : x <;> by_cases sb : y <;> simp only [sa, sb, if_true, if_false]
    · exact (cmp_lt (by omega)).trans (cmp_lt (by omega)).symm
    · exact (cmp_lt (by omega)).trans (cmp_lt (by omega)).symm
    · exact (cmp_gt (by omega)).trans (cmp_gt (by omega)).symm
    · exact (cmp_gt (by omega)).trans (cmp_gt (by omega)).symm

/-- The order of floats is the order of their keys. -/
theorem order_key (a b : Nat) (ha : a < 18446744073709551616) (hb : b < 18446744073709551616) (na : nan a = false) (nb : nan b = false) :
    FloatKind.f64.format.order a b = some (compare (key a) (key b)) := by
  show Ieee.double.order a b = _
  unfold Ieee.Format.order
  rw [nan_f] at na nb
  by_cases ia : rung a = inf
  · rw [read_inf a ha ia]
    by_cases ib : rung b = inf
    · rw [read_inf b hb ib]
      unfold Ieee.Datum.order key
      rw [ia, ib]
      unfold neg
      by_cases sa : 9223372036854775808 ≤ a <;> by_cases sb : 9223372036854775808 ≤ b <;> simp [sa, sb] <;> decide
    · rw [read_fin b hb (by omega)]
      unfold Ieee.Datum.order key
      rw [ia]
      unfold neg
      have : (0 : Int) ≤ (rung b : Int) := by omega
      have : (rung b : Int) < (inf : Int) := by omega
      have : (0 : Int) < (inf : Int) := by unfold inf; omega
      by_cases sa : 9223372036854775808 ≤ a <;> simp only [sa, decide_true, decide_false, if_true, if_false] <;> congr 1 <;> symm
      · exact cmp_lt (by split <;> omega)
      · exact cmp_gt (by split <;> omega)
  · rw [read_fin a ha (by omega)]
    by_cases ib : rung b = inf
    · rw [read_inf b hb ib]
      unfold Ieee.Datum.order key
      rw [ib]
      unfold neg
      have : (0 : Int) ≤ (rung a : Int) := by omega
      have : (rung a : Int) < (inf : Int) := by omega
      have : (0 : Int) < (inf : Int) := by unfold inf; omega
      by_cases sb : 9223372036854775808 ≤ b <;> simp only [sb, decide_true, decide_false, if_true, if_false] <;> congr 1 <;> symm
      · exact cmp_gt (by split <;> omega)
      · exact cmp_lt (by split <;> omega)
    · rw [read_fin b hb (by omega)]
      unfold Ieee.Datum.order
      simp only
      generalize hA : rung a = r at *
      generalize hB : rung b = s at *
      have hmin : ∃ l : Nat, min (-1074 + (lift r : Int)) (-1074 + (lift s : Int)) = -1074 + (l : Int) ∧ l ≤ lift r ∧ l ≤ lift s := ⟨min (lift r) (lift s), by omega, by omega, by omega⟩
      obtain ⟨l, hl, l1, l2⟩ := hmin
      rw [hl]
      have e1 : (-1074 + (lift r : Int) - (-1074 + (l : Int))).toNat = lift r - l := by omega
      have e2 : (-1074 + (lift s : Int) - (-1074 + (l : Int))).toNat = lift s - l := by omega
      rw [e1, e2]
      unfold Ieee.signed neg
      rw [Nat.shiftLeft_eq, Nat.shiftLeft_eq]
      obtain ⟨w1, w2, w3⟩ := worth_cmp r s l l1 l2
      have z1 : 0 < r → 0 < worth r l := fun h => worth_pos h
      have z2 : 0 < s → 0 < worth s l := fun h => worth_pos h
      have z3 : r = 0 → worth r l = 0 := fun h => by rw [h, worth_zero]
      have z4 : s = 0 → worth s l = 0 := fun h => by rw [h, worth_zero]
      change some (compare (if _ then -((worth r l : Nat) : Int) else ((worth r l : Nat) : Int)) (if _ then -((worth s l : Nat) : Int) else ((worth s l : Nat) : Int))) = _
      generalize worth r l = p at *
      generalize worth s l = q at *
      unfold key
      rw [hA, hB]
      congr 1
      simp only [decide_eq_true_eq]
      exact sgn_cmp (9223372036854775808 ≤ a) (9223372036854775808 ≤ b) p q r s ⟨w1, w2, w3⟩ z1 z2 z3 z4

theorem order_lt (a b : Nat) (ha : a < 18446744073709551616) (hb : b < 18446744073709551616) (na : nan a = false) (nb : nan b = false) (h : key a < key b) : FloatKind.f64.format.order a b = some .lt := by
  rw [order_key a b ha hb na nb, cmp_lt h]
theorem order_eq (a b : Nat) (ha : a < 18446744073709551616) (hb : b < 18446744073709551616) (na : nan a = false) (nb : nan b = false) (h : key a = key b) : FloatKind.f64.format.order a b = some .eq := by
  rw [order_key a b ha hb na nb, cmp_eq h]
theorem order_gt (a b : Nat) (ha : a < 18446744073709551616) (hb : b < 18446744073709551616) (na : nan a = false) (nb : nan b = false) (h : key b < key a) : FloatKind.f64.format.order a b = some .gt := by
  rw [order_key a b ha hb na nb, cmp_gt h]
theorem order_nan_l (a b : Nat) (ha : a < 18446744073709551616) (na : nan a = true) : FloatKind.f64.format.order a b = none := by
  show Ieee.double.order a b = _
  obtain ⟨s, t, h⟩ := read_nan a ha na
  unfold Ieee.Format.order
  rw [h]; rfl
theorem order_nan_r (a b : Nat) (hb : b < 18446744073709551616) (nb : nan b = true) : FloatKind.f64.format.order a b = none := by
  show Ieee.double.order a b = _
  obtain ⟨s, t, h⟩ := read_nan b hb nb
  unfold Ieee.Format.order
  rw [h]
  cases Ieee.double.read a <;> rfl

/-- A finite number less itself is 0. -/
theorem sub_self (b : Nat) (hb : b < 18446744073709551616) (h : rung b < inf) : floatBits .sub .f64 b b = some 0 := by
  show Ieee.double.sub b b = _
  unfold Ieee.Format.sub
  rw [read_fin b hb h]
  unfold Ieee.Datum.opposite Ieee.Datum.sum
  simp only
  generalize mag (rung b) = m
  generalize hl : (-1074 + (lift (rung b) : Int)) = i
  rw [show min i i = i by omega, show (i - i).toNat = 0 by omega]
  have e : Ieee.signed (neg b) m 0 + Ieee.signed (!neg b) m 0 = 0 := by
    unfold Ieee.signed; by_cases h : neg b <;> simp [h] <;> omega
  rw [e]
  simp only [if_true]
  have e2 : (neg b && !neg b) = false := by cases neg b <;> rfl
  rw [e2]
  show some (Ieee.Format.nearest _ _ _ _) = _
  unfold Ieee.Format.nearest
  simp [Ieee.Format.word]
/-- An infinite number less itself is none. -/
theorem sub_inf (b : Nat) (hb : b < 18446744073709551616) (h : rung b = inf) : Ieee.double.sub b b = none := by
  unfold Ieee.Format.sub
  rw [read_inf b hb h]
  unfold Ieee.Datum.opposite Ieee.Datum.sum
  simp

end Go.Proofs.Ytmbcghngeodaeaa.Real
