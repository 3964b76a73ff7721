/- Plain facts on numbers of seven bits a byte. No program. -/
import Derived.Test.YtpjopidmcahbdaaDoorRows
namespace Go.Proofs.YtpjopidmcahbdaaDoor.Var

theorem ofNat_toNat (n : Nat) (h : n < 256) : (UInt8.ofNat n).toNat = n := by
  rw [UInt8.toNat_ofNat']; omega
theorem toNat_lt (b : UInt8) : b.toNat < 256 := b.toNat_lt

/-- The shortest bytes of n. -/
def putV (n : Nat) : List UInt8 := if n < 128 then [UInt8.ofNat n] else UInt8.ofNat (n % 128 + 128) :: putV (n / 128)
decreasing_by omega
theorem putV_lt {n : Nat} (h : n < 128) : putV n = [UInt8.ofNat n] := by rw [putV, if_pos h]
theorem putV_ge {n : Nat} (h : ¬ n < 128) : putV n = UInt8.ofNat (n % 128 + 128) :: putV (n / 128) := by rw [putV, if_neg h]
theorem putV_300 : putV 300 = [172, 2] := by
  rw [putV_ge (by decide), putV_lt (by decide)]; decide
theorem putV_len (k : Nat) : ∀ n, n < 128 ^ (k + 1) → (putV n).length ≤ k + 1 := by
  induction k with
  | zero => intro n h; rw [putV_lt (by omega)]; simp
  | succ k ih =>
    intro n h
    by_cases h1 : n < 128
    · rw [putV_lt h1]; simp
    · rw [putV_ge h1, List.length_cons]
      have := ih (n / 128) (by rw [Nat.pow_succ] at h; omega)
      omega
theorem putV_len10 (n : Nat) (h : n < 18446744073709551616) : (putV n).length ≤ 10 := putV_len 9 n (by omega)
theorem putV_pos (n : Nat) : 1 ≤ (putV n).length := by
  by_cases h1 : n < 128
  · rw [putV_lt h1]; simp
  · rw [putV_ge h1]; simp

/-- The number of bytes. -/
def decV : List UInt8 → Nat
  | [] => 0
  | b :: l => b.toNat % 128 + 128 * decV l
theorem decV_putV (n : Nat) : decV (putV n) = n := by
  induction n using Nat.strongRecOn with
  | ind n ih =>
    by_cases h1 : n < 128
    · rw [putV_lt h1]; simp only [decV]; rw [ofNat_toNat _ (by omega)]; omega
    · rw [putV_ge h1, decV, ih _ (by omega), ofNat_toNat _ (by omega)]; omega
theorem putV_inj {a b : Nat} (h : putV a = putV b) : a = b := by rw [← decV_putV a, h, decV_putV]
theorem putV_mono (b : Nat) : ∀ a, a ≤ b → (putV a).length ≤ (putV b).length := by
  induction b using Nat.strongRecOn with
  | ind b ih =>
    intro a hab
    by_cases h1 : a < 128
    · rw [putV_lt h1]; exact putV_pos b
    · have h2 : ¬ b < 128 := by omega
      rw [putV_ge h1, putV_ge h2, List.length_cons, List.length_cons]
      have := ih (b / 128) (by omega) (a / 128) (by omega)
      omega

/-- What the bytes from the i-th on tell, behind i bytes that made n: the number, how many bytes in all, the error. -/
def tkR (i n : Nat) : List UInt8 → Nat × Nat × Nat
  | [] => (0, 0, 3)
  | b :: l => if i = 9 ∧ 1 < b.toNat then (0, 0, 6) else if 0 < i ∧ b.toNat = 0 then (0, 0, 5) else if b.toNat < 128 then (n + b.toNat * 128 ^ i, i + 1, 0) else tkR (i + 1) (n + b.toNat % 128 * 128 ^ i) l

theorem tkR_put (x : Nat) : ∀ (i n : Nat) (rest : List UInt8), i ≤ 9 → (0 < i → x ≠ 0) → x * 128 ^ i < 18446744073709551616 → tkR i n (putV x ++ rest) = (n + x * 128 ^ i, i + (putV x).length, 0) := by
  induction x using Nat.strongRecOn with
  | ind x ih =>
    intro i n rest hi h0 hx
    have h9 : i = 9 → x < 2 := by
      rintro rfl
      have : (128 : Nat) ^ 9 = 9223372036854775808 := by decide
      rw [this] at hx
      omega
    by_cases h1 : x < 128
    · rw [putV_lt h1, List.cons_append, tkR, ofNat_toNat _ (by omega)]
      rw [if_neg (by intro h; have := h9 h.1; omega), if_neg (by intro h; exact h0 h.1 h.2), if_pos h1]
      rfl
    · rw [putV_ge h1, List.cons_append, tkR, ofNat_toNat _ (by omega)]
      rw [if_neg (by intro h; have := h9 h.1; omega), if_neg (by omega), if_neg (by omega)]
      have hi9 : i ≠ 9 := fun h => by have := h9 h; omega
      have e : 128 * (x / 128) + x % 128 = x := Nat.div_add_mod x 128
      have hp : x / 128 * 128 ^ (i + 1) + x % 128 * 128 ^ i = x * 128 ^ i := by
        rw [Nat.pow_succ, Nat.mul_comm (128 ^ i) 128, ← Nat.mul_assoc, ← Nat.add_mul]
        congr 1; omega
      rw [ih (x / 128) (by omega) (i + 1) _ rest (by omega) (fun _ => by omega) (by omega)]
      rw [show (x % 128 + 128) % 128 = x % 128 by omega, List.length_cons]
      simp only [Prod.mk.injEq, and_true]
      omega

theorem tkR_back (l : List UInt8) : ∀ (i n m c : Nat), tkR i n l = (m, c, 0) → ∃ x, m = n + x * 128 ^ i ∧ i < c ∧ c ≤ i + l.length ∧ putV x = l.take (c - i) ∧ (0 < i → x ≠ 0) := by
  induction l with
  | nil => intro i n m c h; simp [tkR] at h
  | cons b l ih =>
    intro i n m c h
    have hb := toNat_lt b
    rw [tkR] at h
    split at h
    · simp at h
    split at h
    · simp at h
    rename_i h9 h0
    split at h
    · rename_i h1
      simp only [Prod.mk.injEq] at h
      obtain ⟨rfl, rfl, _⟩ := h
      refine ⟨b.toNat, rfl, by omega, by simp, ?_, fun hi hz => h0 ⟨hi, hz⟩⟩
      rw [putV_lt h1, show i + 1 - i = 1 by omega]
      simp
    · rename_i h1
      obtain ⟨x, rfl, hc1, hc2, hp, hx⟩ := ih _ _ _ _ h
      have hx0 := hx (by omega)
      refine ⟨b.toNat % 128 + 128 * x, ?_, by omega, by rw [List.length_cons]; omega, ?_, fun _ => by omega⟩
      · rw [Nat.pow_succ, Nat.add_mul, Nat.mul_comm (128 ^ i) 128, ← Nat.mul_assoc, Nat.mul_comm 128 x]
        omega
      · rw [putV_ge (by omega), show (b.toNat % 128 + 128 * x) % 128 + 128 = b.toNat by omega, show (b.toNat % 128 + 128 * x) / 128 = x by omega, hp]
        rw [show c - i = (c - (i + 1)) + 1 by omega, List.take_succ_cons]
        simp

/-- The number is one of 64 bits. -/
theorem tkR_lt (l : List UInt8) : ∀ (i n : Nat), i ≤ 9 → n < 128 ^ i → (tkR i n l).1 < 18446744073709551616 := by
  induction l with
  | nil => intro i n _ _; simp [tkR]
  | cons b l ih =>
    intro i n hi hn
    have hb := toNat_lt b
    rw [tkR]
    split
    · simp
    split
    · simp
    rename_i h9 h0
    split
    · rename_i h1
      show n + b.toNat * 128 ^ i < _
      by_cases hi9 : i = 9
      · subst hi9
        have e : (128 : Nat) ^ 9 = 9223372036854775808 := by decide
        rw [e] at hn ⊢
        have : b.toNat ≤ 1 := by omega
        omega
      · have h3 : 128 ^ (i + 1) ≤ 128 ^ 9 := Nat.pow_le_pow_right (by decide) (by omega)
        have e : (128 : Nat) ^ 9 = 9223372036854775808 := by decide
        rw [e, Nat.pow_succ] at h3
        have h4 : b.toNat * 128 ^ i ≤ 127 * 128 ^ i := Nat.mul_le_mul_right _ (by omega)
        omega
    · rename_i h1
      have hi9 : i ≠ 9 := fun h => h9 ⟨h, by omega⟩
      refine ih _ _ (by omega) ?_
      have h4 : b.toNat % 128 * 128 ^ i ≤ 127 * 128 ^ i := Nat.mul_le_mul_right _ (by omega)
      rw [Nat.pow_succ]
      omega
/-- Where there is an error there is no number. -/
theorem tkR_err (l : List UInt8) : ∀ (i n : Nat), (tkR i n l).2.2 ≠ 0 → (tkR i n l).1 = 0 ∧ (tkR i n l).2.1 = 0 := by
  induction l with
  | nil => intro i n _; simp [tkR]
  | cons b l ih =>
    intro i n
    rw [tkR]
    split
    · intro _; exact ⟨rfl, rfl⟩
    split
    · intro _; exact ⟨rfl, rfl⟩
    split
    · intro h; exact absurd rfl h
    · exact ih _ _
theorem tkR_code (l : List UInt8) : ∀ (i n : Nat), (tkR i n l).2.2 ≤ 6 := by
  induction l with
  | nil => intro i n; simp [tkR]
  | cons b l ih =>
    intro i n
    rw [tkR]
    (repeat' split) <;> first | exact ih _ _ | simp
/-- To and fro. -/
def zg (n : Int) : Nat := if n < 0 then (2 * (-1 - n) + 1).toNat else (2 * n).toNat
def za (u : Nat) : Int := if u % 2 = 1 then -1 - ((u / 2 : Nat) : Int) else ((u / 2 : Nat) : Int)
theorem za_zg (n : Int) : za (zg n) = n := by
  unfold za zg
  split <;> split <;> omega
theorem zg_za (u : Nat) : zg (za u) = u := by
  unfold za zg
  split <;> split <;> omega
theorem zg_odd (n : Int) : (zg n % 2 = 1) ↔ n < 0 := by
  unfold zg
  split <;> omega
theorem zg_pos (n : Int) (h : 0 ≤ n) : (zg n : Int) = 2 * n := by unfold zg; rw [if_neg (by omega)]; omega
theorem zg_lt (n : Int) (h : -9223372036854775808 ≤ n) (h' : n ≤ 9223372036854775807) : zg n < 18446744073709551616 := by unfold zg; split <;> omega
theorem za_bd (u : Nat) (h : u < 18446744073709551616) : -9223372036854775808 ≤ za u ∧ za u ≤ 9223372036854775807 := by unfold za; split <;> omega
end Go.Proofs.YtpjopidmcahbdaaDoor.Var
