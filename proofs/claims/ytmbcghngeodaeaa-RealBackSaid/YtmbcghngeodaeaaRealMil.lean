/- Plain facts on thousandths for the layer 'real': no program in this text. Conditions: as each theorem states. -/
import Derived.Test.YtmbcghngeodaeaaRealMath
namespace Go.Proofs.Ytmbcghngeodaeaa.Real
open Go.RowKit

/-- p by d, rounded to the nearest, of two the even one. -/
def near (p d : Nat) : Nat := p / d + (if d < 2 * (p % d) ∨ (d = 2 * (p % d) ∧ p / d % 2 = 1) then 1 else 0)
def expo : Nat := 1074
def unit : Nat := 2 ^ expo
def val (r : Nat) : Nat := mag r * 2 ^ lift r
/-- Thousandths of a number of that rung. -/
def mil (r : Nat) : Nat := near (1000 * val r) unit

theorem unit_split (t : Nat) (h : t ≤ 1074) : unit = 2 ^ t * 2 ^ (1074 - t) := by
  have e : expo = t + (1074 - t) := by unfold expo; omega
  rw [← Nat.pow_add, ← e]; rfl
theorem unit_pos : 0 < unit := Nat.two_pow_pos _

theorem near_scale (p d k : Nat) (hk : 0 < k) : near (k * p) (k * d) = near p d := by
  unfold near
  rw [Nat.mul_div_mul_left _ _ hk, Nat.mul_mod_mul_left]
  congr 1
  have e : 2 * (k * (p % d)) = k * (2 * (p % d)) := Nat.mul_left_comm ..
  rw [e]
  have a : (k * d < k * (2 * (p % d))) ↔ d < 2 * (p % d) := Nat.mul_lt_mul_left hk
  have b : (k * d = k * (2 * (p % d))) ↔ d = 2 * (p % d) := Nat.mul_right_inj (by omega)
  simp only [a, b]
theorem near_mono (p q d : Nat) (h : p ≤ q) : near p d ≤ near q d := by
  unfold near
  have h1 : p / d ≤ q / d := Nat.div_le_div_right h
  have h2 := Nat.div_add_mod p d
  have h3 := Nat.div_add_mod q d
  by_cases e : p / d = q / d
  · rw [e] at h2 ⊢
    have : p % d ≤ q % d := by omega
    split
    · rename_i c
      rw [if_pos (by omega)]; exact Nat.le_refl _
    · omega
  · have : p / d + 1 ≤ q / d := by omega
    split <;> omega
theorem near_small (p d : Nat) (h : 2 * p < d) : near p d = 0 := by
  unfold near
  rw [Nat.div_eq_of_lt (by omega), Nat.mod_eq_of_lt (by omega), if_neg (by omega)]
theorem near_close (p d n : Nat) (h1 : 2 * p < 2 * (n * d) + d) (h2 : 2 * (n * d) < 2 * p + d) : near p d = n := by
  have hd : 0 < d := by omega
  by_cases h : n * d ≤ p
  · have e : p / d = n := by
      rw [Nat.div_eq_iff hd]; omega
    have h3 := Nat.div_add_mod p d
    rw [e, Nat.mul_comm d n] at h3
    unfold near
    rw [e, if_neg (by omega)]; rfl
  · have hn : 1 ≤ n := by
      rcases Nat.eq_zero_or_pos n with h0 | h0
      · subst h0; simp at h
      · exact h0
    obtain ⟨k, rfl⟩ : ∃ k, n = k + 1 := ⟨n - 1, by omega⟩
    rw [Nat.add_mul, Nat.one_mul] at h h1 h2
    have e : p / d = k := by
      rw [Nat.div_eq_iff hd]; omega
    have h3 := Nat.div_add_mod p d
    rw [e, Nat.mul_comm d k] at h3
    unfold near
    rw [e, if_pos (by omega)]
theorem near_bits (p k : Nat) : near p (2 ^ (k + 1)) = p / 2 ^ (k + 1) + (if p / 2 ^ k % 2 = 1 ∧ (p % 2 ^ k ≠ 0 ∨ p / 2 ^ (k + 1) % 2 = 1) then 1 else 0) := by
  unfold near
  congr 1
  have hp := Nat.two_pow_pos k
  have e1 : p % 2 ^ (k + 1) = p % 2 ^ k + 2 ^ k * (p / 2 ^ k % 2) := by rw [Nat.pow_succ, Nat.mod_mul]
  have e2 := Nat.mod_lt p hp
  rw [e1]
  rw [show 2 ^ (k + 1) = 2 * 2 ^ k by rw [Nat.pow_succ, Nat.mul_comm]]
  generalize p / (2 * 2 ^ k) % 2 = z
  generalize p % 2 ^ k = m at *
  generalize 2 ^ k = d at *
  rcases Nat.mod_two_eq_zero_or_one (p / d) with h | h <;> rw [h]
  · rw [if_neg (by omega), if_neg (by omega)]
  · by_cases hm : m = 0
    · subst hm
      by_cases hz : z = 1
      · rw [if_pos (by omega), if_pos (by omega)]
      · rw [if_neg (by omega), if_neg (by omega)]
    · rw [if_pos (by omega), if_pos (by omega)]

theorem val_mono {r s : Nat} (h : r ≤ s) : val r ≤ val s := by
  rcases Nat.lt_or_eq_of_le h with h | h
  · exact Nat.le_of_lt (worth_lt (l := 0) h (by omega))
  · rw [h]; exact Nat.le_refl _
theorem mil_mono {r s : Nat} (h : r ≤ s) : mil r ≤ mil s := near_mono _ _ _ (Nat.mul_le_mul_left _ (val_mono h))

theorem mil_at (r : Nat) (h : lift r ≤ 1074) : mil r = near (mag r * 1000) (2 ^ (1074 - lift r)) := by
  unfold mil val
  rw [unit_split (lift r) h, show 1000 * (mag r * 2 ^ lift r) = 2 ^ lift r * (mag r * 1000) by rw [Nat.mul_left_comm (2 ^ lift r) (mag r) 1000, Nat.mul_left_comm 1000, Nat.mul_comm 1000]]
  exact near_scale _ _ _ (Nat.two_pow_pos _)
theorem mil_code (r : Nat) (h1 : 1012 ≤ r / 4503599627370496) (h2 : r / 4503599627370496 ≤ 1075) :
    mil r = near ((4503599627370496 + r % 4503599627370496) * 1000) (2 ^ (1075 - r / 4503599627370496)) := by
  rw [mil_at r (by unfold lift; omega)]
  have e1 : mag r = 4503599627370496 + r % 4503599627370496 := by unfold mag lift; omega
  have e2 : 1074 - lift r = 1075 - r / 4503599627370496 := by unfold lift; omega
  rw [e1, e2]
theorem mil_zero (r : Nat) (h : r / 4503599627370496 < 1012) : mil r = 0 := by
  have hl : lift r ≤ 1010 := by unfold lift; omega
  rw [mil_at r (by omega)]
  apply near_small
  have := mag_lt r
  have h64 : (2 : Nat) ^ 64 ≤ 2 ^ (1074 - lift r) := Nat.pow_le_pow_right (by omega) (by omega)
  have : (2 : Nat) ^ 64 = 18446744073709551616 := by decide
  omega

theorem pow_unit (J : Nat) : 2 ^ (expo + J) = unit * 2 ^ J := by rw [Nat.pow_add]; rfl
attribute [irreducible] mil val unit near
theorem mil_1001 : mil 4652016104934211584 = 1001000 := by decide +kernel
theorem mil_million : mil 4696837146684686336 = 1000000000 := by decide +kernel

end Go.Proofs.Ytmbcghngeodaeaa.Real
