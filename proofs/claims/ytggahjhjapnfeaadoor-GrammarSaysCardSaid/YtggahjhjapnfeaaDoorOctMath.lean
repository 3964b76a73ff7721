/- Plain facts on bytes of numbers and hexadecimal digits. No program. -/
import Derived.Test.YtggahjhjapnfeaaDoorRows
namespace Go.Proofs.YtggahjhjapnfeaaDoor.Oct

theorem ofNat_toNat (n : Nat) (h : n < 256) : (UInt8.ofNat n).toNat = n := by
  rw [UInt8.toNat_ofNat']; omega
theorem toNat_lt (b : UInt8) : b.toNat < 256 := b.toNat_lt

/-- The k last bytes of n, the greatest first. -/
def putL (n : Nat) : Nat → List UInt8
  | 0 => []
  | k + 1 => UInt8.ofNat (n / 256 ^ k % 256) :: putL n k
theorem putL_length (n k : Nat) : (putL n k).length = k := by
  induction k with
  | zero => rfl
  | succ k ih => simp [putL, ih]
/-- The number of the bytes l, the greatest first. -/
def takeL (n : Nat) : List UInt8 → Nat
  | [] => n
  | b :: l => takeL (n * 256 + b.toNat) l
theorem takeL_append (n : Nat) (x y : List UInt8) : takeL n (x ++ y) = takeL (takeL n x) y := by
  induction x generalizing n with
  | nil => rfl
  | cons b x ih => simp [takeL, ih]
theorem takeL_lt (l : List UInt8) : ∀ n m, n < 256 ^ m → takeL n l < 256 ^ (m + l.length) := by
  induction l with
  | nil => intro n m h; simpa [takeL] using h
  | cons b l ih =>
    intro n m h
    have hb := toNat_lt b
    have := ih (n * 256 + b.toNat) (m + 1) (by rw [Nat.pow_succ]; omega)
    rw [takeL, List.length_cons, show m + (l.length + 1) = m + 1 + l.length by omega]
    exact this
theorem takeL_putL (n : Nat) : ∀ k a, takeL a (putL n k) = a * 256 ^ k + n % 256 ^ k := by
  intro k
  induction k with
  | zero => intro a; simp [putL, takeL, Nat.mod_one]
  | succ k ih =>
    intro a
    rw [putL, takeL, ih, ofNat_toNat _ (by omega), Nat.add_mul, Nat.pow_succ]
    have h1 : n % (256 ^ k * 256) = n % 256 ^ k + 256 ^ k * (n / 256 ^ k % 256) := Nat.mod_mul
    rw [h1, Nat.mul_assoc, Nat.mul_comm 256 (256 ^ k), Nat.mul_comm (256 ^ k) (n / 256 ^ k % 256)]
    omega

/-- A digit of a half byte. -/
def hexd (n : Nat) : UInt8 := UInt8.ofNat (if n < 10 then 48 + n else 87 + n)
def hexL : List UInt8 → List UInt8
  | [] => []
  | b :: l => hexd (b.toNat / 16) :: hexd (b.toNat % 16) :: hexL l
theorem hexL_append (x y : List UInt8) : hexL (x ++ y) = hexL x ++ hexL y := by
  induction x with
  | nil => rfl
  | cons b x ih => simp [hexL, ih]
theorem hexL_length (l : List UInt8) : (hexL l).length = 2 * l.length := by
  induction l with
  | nil => rfl
  | cons b x ih => simp [hexL, ih]; omega
/-- What a digit is worth; 16: it is none. -/
def dig (c : UInt8) : Nat := if 48 ≤ c.toNat ∧ c.toNat ≤ 57 then c.toNat - 48 else if 97 ≤ c.toNat ∧ c.toNat ≤ 102 then c.toNat - 87 else 16
theorem dig_le (c : UInt8) : dig c ≤ 16 := by unfold dig; split <;> (try split) <;> omega
theorem dig_hexd (n : Nat) (h : n < 16) : dig (hexd n) = n := by
  unfold dig hexd
  rw [ofNat_toNat _ (by split <;> omega)]
  (repeat' split) <;> omega
theorem hexd_dig (c : UInt8) (h : dig c < 16) : hexd (dig c) = c := by
  apply UInt8.toNat_inj.1
  unfold hexd
  rw [ofNat_toNat _ (by split <;> omega)]
  unfold dig at h ⊢
  have := toNat_lt c
  (repeat' split) <;> (repeat' split at h) <;> omega
/-- Bytes of digits. -/
def unL : List UInt8 → Option (List UInt8)
  | [] => some []
  | [_] => none
  | a :: b :: l => if dig a < 16 ∧ dig b < 16 then (unL l).map (UInt8.ofNat (16 * dig a + dig b) :: ·) else none
theorem unL_hexL (l : List UInt8) : unL (hexL l) = some l := by
  induction l with
  | nil => rfl
  | cons b l ih =>
    have hb := toNat_lt b
    rw [hexL, unL, dig_hexd _ (by omega), dig_hexd _ (by omega), if_pos ⟨by omega, by omega⟩, ih]
    simp only [Option.map_some, Option.some.injEq, List.cons.injEq, and_true]
    apply UInt8.toNat_inj.1
    rw [ofNat_toNat _ (by omega)]
    omega
theorem hexL_unL : ∀ (l v : List UInt8), unL l = some v → hexL v = l
  | [], v, h => by simp [unL] at h; subst h; rfl
  | [a], v, h => by simp [unL] at h
  | a :: b :: l, v, h => by
    rw [unL] at h
    split at h
    · rename_i hd
      obtain ⟨u, hu, rfl⟩ := Option.map_eq_some_iff.1 h
      have ih := hexL_unL l u hu
      have e : (UInt8.ofNat (16 * dig a + dig b)).toNat = 16 * dig a + dig b := ofNat_toNat _ (by omega)
      rw [hexL, e, show (16 * dig a + dig b) / 16 = dig a by omega, show (16 * dig a + dig b) % 16 = dig b by omega, hexd_dig a hd.1, hexd_dig b hd.2, ih]
    · cases h
theorem unL_length : ∀ (l v : List UInt8), unL l = some v → l.length = 2 * v.length := fun l v h => by rw [← hexL_unL l v h, hexL_length]
theorem unL_append : ∀ (x y u : List UInt8), unL x = some u → unL (x ++ y) = (unL y).map (u ++ ·)
  | [], y, u, h => by simp [unL] at h; subst h; cases hy : unL y <;> simp [hy]
  | [a], y, u, h => by simp [unL] at h
  | a :: b :: l, y, u, h => by
    rw [unL] at h
    split at h
    · rename_i hd
      obtain ⟨v, hv, rfl⟩ := Option.map_eq_some_iff.1 h
      rw [List.cons_append, List.cons_append, unL, if_pos hd, unL_append l y v hv]
      cases unL y <;> simp
    · cases h
theorem unL_odd : ∀ (l : List UInt8), l.length % 2 = 1 → unL l = none := fun l h => by
  cases hu : unL l with
  | none => rfl
  | some v => have := unL_length l v hu; omega
/-- One pair more. -/
theorem unL_step (l : List UInt8) (k : Nat) (u : List UInt8) (a b : UInt8) (h : unL (l.take (2 * k)) = some u) (ha : l[2 * k]? = some a) (hb : l[2 * k + 1]? = some b) (hd : dig a < 16 ∧ dig b < 16) :
    unL (l.take (2 * (k + 1))) = some (u ++ [UInt8.ofNat (16 * dig a + dig b)]) := by
  have e : l.take (2 * (k + 1)) = l.take (2 * k) ++ [a, b] := by
    rw [show 2 * (k + 1) = 2 * k + 1 + 1 by omega, List.take_add_one, List.take_add_one, ha, hb]
    simp
  rw [e, unL_append _ _ u h]
  simp [unL, hd]
theorem unL_stop (l : List UInt8) (k : Nat) (u : List UInt8) (a b : UInt8) (h : unL (l.take (2 * k)) = some u) (ha : l[2 * k]? = some a) (hb : l[2 * k + 1]? = some b) (hd : ¬ (dig a < 16 ∧ dig b < 16)) : unL l = none := by
  have hk : 2 * k + 1 < l.length := by
    rcases Nat.lt_or_ge (2 * k + 1) l.length with h1 | h1
    · exact h1
    · rw [List.getElem?_eq_none h1] at hb; cases hb
  have e : l = l.take (2 * k) ++ (a :: b :: l.drop (2 * k + 2)) := by
    have h1 : l.drop (2 * k) = a :: b :: l.drop (2 * k + 2) := by
      rw [List.drop_eq_getElem_cons (by omega), List.drop_eq_getElem_cons (by omega)]
      rw [List.getElem?_eq_getElem (by omega)] at ha hb
      simp only [Option.some.injEq] at ha hb
      rw [ha, hb]
    rw [← h1, List.take_append_drop]
  rw [e, unL_append _ _ u h, unL, if_neg hd]
  rfl

end Go.Proofs.YtggahjhjapnfeaaDoor.Oct
