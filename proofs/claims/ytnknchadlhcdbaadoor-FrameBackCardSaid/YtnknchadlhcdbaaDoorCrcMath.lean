/- Plain facts of the sum of 32 bits: a bit at a time, by half bytes, over bytes; that it is linear, and finds a burst; no program. Conditions: as each theorem states. -/
import Derived.Test.YtnknchadlhcdbaaDoorRows
namespace Go.Proofs.YtnknchadlhcdbaaDoor.Crc

/-- One bit. -/
def st (x : Nat) : Nat := if x % 2 = 1 then x / 2 ^^^ 3988292384 else x / 2
def stn : Nat → Nat → Nat
  | 0, x => x
  | n + 1, x => stn n (st x)
theorem xor_div (x y : Nat) : (x ^^^ y) / 2 = x / 2 ^^^ y / 2 := by
  have := Nat.shiftRight_xor_distrib (a := x) (b := y) (i := 1)
  simpa [Nat.shiftRight_eq_div_pow] using this
theorem xor_odd (x y : Nat) : (x ^^^ y) % 2 = (x % 2 + y % 2) % 2 := by
  have := Nat.xor_mod_two_pow (a := x) (b := y) (n := 1)
  rw [Nat.pow_one] at this
  rw [this]
  have hx : x % 2 = 0 ∨ x % 2 = 1 := by omega
  have hy : y % 2 = 0 ∨ y % 2 = 1 := by omega
  rcases hx with hx | hx <;> rcases hy with hy | hy <;> rw [hx, hy] <;> rfl
theorem xor_same {a b : Nat} (h : a ^^^ b = 0) : a = b := by
  have h2 : a ^^^ b ^^^ b = b := by rw [h, Nat.zero_xor]
  rwa [Nat.xor_assoc, Nat.xor_self, Nat.xor_zero] at h2
theorem st_zero : st 0 = 0 := rfl
theorem st_xor (x y : Nat) : st (x ^^^ y) = st x ^^^ st y := by
  unfold st
  rw [xor_div, xor_odd]
  have hx : x % 2 = 0 ∨ x % 2 = 1 := by omega
  have hy : y % 2 = 0 ∨ y % 2 = 1 := by omega
  generalize x / 2 = a
  generalize y / 2 = b
  generalize (3988292384 : Nat) = p
  rcases hx with hx | hx <;> rcases hy with hy | hy <;> rw [hx, hy]
  · rfl
  · simp [Nat.xor_assoc]
  · have e : a ^^^ b ^^^ p = a ^^^ p ^^^ b := by rw [Nat.xor_assoc, Nat.xor_comm b p, ← Nat.xor_assoc]
    simp [e]
  · have e : a ^^^ p ^^^ (b ^^^ p) = a ^^^ b := by
      rw [Nat.xor_assoc, Nat.xor_comm b p, ← Nat.xor_assoc p p b, Nat.xor_self, Nat.zero_xor]
    rw [if_pos rfl, if_pos rfl, e]
    simp
theorem st_lt {x : Nat} (h : x < 4294967296) : st x < 4294967296 := by
  unfold st
  split
  · exact Nat.xor_lt_two_pow (n := 32) (by omega) (by omega)
  · omega
theorem st_ker {x : Nat} (h : x < 4294967296) (h0 : st x = 0) : x = 0 := by
  unfold st at h0
  split at h0
  · have := xor_same h0
    omega
  · omega
theorem stn_zero : ∀ n, stn n 0 = 0
  | 0 => rfl
  | n + 1 => by rw [stn, st_zero, stn_zero n]
theorem stn_xor : ∀ n x y, stn n (x ^^^ y) = stn n x ^^^ stn n y
  | 0, _, _ => rfl
  | n + 1, x, y => by rw [stn, st_xor, stn_xor n, stn, stn]
theorem stn_lt : ∀ n {x : Nat}, x < 4294967296 → stn n x < 4294967296
  | 0, _, h => h
  | n + 1, _, h => stn_lt n (st_lt h)
theorem stn_ker : ∀ n {x : Nat}, x < 4294967296 → stn n x = 0 → x = 0
  | 0, _, _, h0 => h0
  | n + 1, _, h, h0 => st_ker h (stn_ker n (st_lt h) h0)
theorem stn_add : ∀ m n x, stn (m + n) x = stn n (stn m x)
  | 0, n, x => by rw [Nat.zero_add]; rfl
  | m + 1, n, x => by rw [show m + 1 + n = (m + n) + 1 by omega, stn, stn, stn_add m n]
theorem stn_shift : ∀ n y, stn n (y * 2 ^ n) = y
  | 0, y => by simp [stn]
  | n + 1, y => by
    have e : st (y * 2 ^ (n + 1)) = y * 2 ^ n := by
      have : y * 2 ^ (n + 1) = 2 * (y * 2 ^ n) := by rw [Nat.pow_succ]; rw [Nat.mul_comm (2 ^ n) 2, Nat.mul_left_comm]
      unfold st
      rw [this, if_neg (by omega)]
      omega
    rw [stn, e, stn_shift n y]
/-- By n bits at once: what is shifted out decides alone. -/
theorem stn_split (n x : Nat) : stn n x = x / 2 ^ n ^^^ stn n (x % 2 ^ n) := by
  have e : x = x / 2 ^ n * 2 ^ n ^^^ x % 2 ^ n := by
    have h1 := Nat.shiftLeft_add_eq_or_of_lt (i := n) (b := x % 2 ^ n) (Nat.mod_lt _ (Nat.two_pow_pos n)) (x / 2 ^ n)
    have h2 : x / 2 ^ n * 2 ^ n ^^^ x % 2 ^ n = x / 2 ^ n * 2 ^ n + x % 2 ^ n := by
      rw [Nat.shiftLeft_eq] at h1
      rw [h1]
      apply Nat.eq_of_testBit_eq
      intro i
      rw [Nat.testBit_xor, Nat.testBit_or]
      by_cases hi : i < n
      · have : (x / 2 ^ n * 2 ^ n).testBit i = false := by
          rw [Nat.mul_comm, Nat.testBit_two_pow_mul]; simp; omega
        rw [this]; simp
      · have : (x % 2 ^ n).testBit i = false := by
          rw [Nat.testBit_mod_two_pow]; simp; omega
        rw [this]; simp
    rw [h2]
    have := Nat.div_add_mod x (2 ^ n)
    rw [Nat.mul_comm] at this
    omega
  have h := stn_xor n (x / 2 ^ n * 2 ^ n) (x % 2 ^ n)
  rw [← e, stn_shift] at h
  exact h
theorem stn4 (x : Nat) : stn 4 x = x / 16 ^^^ stn 4 (x % 16) := stn_split 4 x
theorem stn8 (x : Nat) : stn 8 x = x / 256 ^^^ stn 8 (x % 256) := stn_split 8 x

theorem stn0 (x : Nat) : stn 0 x = x := rfl
theorem stn1 (x : Nat) : stn 1 x = st x := rfl
/-- The effects of half a byte. -/
def effL : List Int := [0, 498536548, 997073096, 651767980, 1994146192, 1802195444, 1303535960, 1342533948, 3988292384, 4027552580, 3604390888, 3412177804, 2607071920, 2262029012, 2685067896, 3183342108]
theorem eff_at : ∀ k : Fin 16, effL.getD k.val 0 = ((stn 4 k.val : Nat) : Int) := by decide +kernel
theorem eff_is (n : Nat) (h : n < 16) : effL.getD n 0 = ((stn 4 n : Nat) : Int) := eff_at ⟨n, h⟩
attribute [irreducible] stn
/-! ### over bytes -/
/-- The register behind the bytes l. -/
def mo (x : Nat) (l : List UInt8) : Nat := l.foldl (fun x b => stn 8 (x ^^^ b.toNat)) x
theorem mo_nil (x : Nat) : mo x [] = x := rfl
theorem mo_cons (x : Nat) (b : UInt8) (l : List UInt8) : mo x (b :: l) = mo (stn 8 (x ^^^ b.toNat)) l := List.foldl_cons ..
theorem byte32 (b : UInt8) : b.toNat < 4294967296 := Nat.lt_of_lt_of_le b.toNat_lt (by decide)
theorem xor32 {x y : Nat} (h : x < 4294967296) (h' : y < 4294967296) : x ^^^ y < 4294967296 := Nat.xor_lt_two_pow (n := 32) h h'
theorem mo_lt : ∀ (l : List UInt8) {x : Nat}, x < 4294967296 → mo x l < 4294967296
  | [], _, h => h
  | b :: l, _, h => by rw [mo_cons]; exact mo_lt l (stn_lt 8 (xor32 h (byte32 b)))
theorem mo_append : ∀ (l m : List UInt8) (x : Nat), mo x (l ++ m) = mo (mo x l) m
  | [], _, _ => rfl
  | b :: l, m, x => by rw [List.cons_append, mo_cons, mo_append l m, mo_cons]
/-- Two rows of one length, laid over one another. -/
def over : List UInt8 → List UInt8 → List UInt8
  | a :: l, b :: m => (a ^^^ b) :: over l m
  | _, _ => []
theorem xor4 (a b c d : Nat) : a ^^^ b ^^^ (c ^^^ d) = a ^^^ c ^^^ (b ^^^ d) := by
  rw [Nat.xor_assoc, Nat.xor_assoc, ← Nat.xor_assoc b c d, Nat.xor_comm b c, Nat.xor_assoc c b d]
theorem mo_over : ∀ (l m : List UInt8) (x y : Nat), l.length = m.length → mo (x ^^^ y) (over l m) = mo x l ^^^ mo y m
  | [], [], _, _, _ => rfl
  | [], _ :: _, _, _, h => by simp at h
  | _ :: _, [], _, _, h => by simp at h
  | a :: l, b :: m, x, y, h => by
    have h2 : l.length = m.length := by simpa using h
    rw [over, mo_cons, mo_cons, mo_cons, UInt8.toNat_xor, xor4, stn_xor, mo_over l m _ _ h2]
theorem over_length : ∀ (l m : List UInt8), l.length = m.length → (over l m).length = l.length
  | [], [], _ => rfl
  | [], _ :: _, h => by simp at h
  | _ :: _, [], h => by simp at h
  | a :: l, b :: m, h => by
    have h2 : l.length = m.length := by simpa using h
    rw [over, List.length_cons, over_length l m h2, List.length_cons]

/-- The bytes as one number, the first one lowest. -/
def word : List UInt8 → Nat
  | [] => 0
  | b :: l => b.toNat ^^^ word l * 256
theorem word_lt : ∀ l : List UInt8, word l < 2 ^ (8 * l.length)
  | [] => by simp [word]
  | b :: l => by
    have h := word_lt l
    rw [word, List.length_cons]
    have e : 2 ^ (8 * (l.length + 1)) = 2 ^ (8 * l.length) * 256 := by rw [show 8 * (l.length + 1) = 8 * l.length + 8 by omega, Nat.pow_add]
    have hb := b.toNat_lt
    refine Nat.xor_lt_two_pow ?_ ?_
    · have : 256 ≤ 2 ^ (8 * (l.length + 1)) := by rw [e]; have := Nat.two_pow_pos (8 * l.length); omega
      omega
    · rw [e]; omega
theorem mo_word : ∀ (l : List UInt8) (x : Nat), mo x l = stn (8 * l.length) (x ^^^ word l)
  | [], x => by rw [mo_nil, word, Nat.xor_zero, List.length_nil, Nat.mul_zero, stn0]
  | b :: l, x => by
    have h := stn_shift 8 (word l)
    rw [show (2 : Nat) ^ 8 = 256 from rfl] at h
    rw [mo_cons, mo_word l, word, List.length_cons, show 8 * (l.length + 1) = 8 + 8 * l.length by omega, stn_add, ← Nat.xor_assoc, stn_xor 8 (x ^^^ b.toNat), h]
theorem word_zero : ∀ l : List UInt8, word l = 0 → ∀ b ∈ l, b = 0
  | [], _, b, hb => by cases hb
  | c :: l, h, b, hb => by
    rw [word] at h
    have h1 := xor_same h
    have hc := c.toNat_lt
    have h2 : word l = 0 := by omega
    have h3 : c.toNat = 0 := by omega
    rcases List.mem_cons.1 hb with rfl | hb
    · exact UInt8.toNat_inj.1 h3
    · exact word_zero l h2 b hb
theorem word_zeros : ∀ n, word (List.replicate n 0) = 0
  | 0 => rfl
  | n + 1 => by rw [List.replicate_succ, word, word_zeros n]; rfl
theorem mo_zeros (n x : Nat) : mo x (List.replicate n 0) = stn (8 * n) x := by
  rw [mo_word, word_zeros, Nat.xor_zero, List.length_replicate]
/-- A burst of at most four bytes is found. -/
theorem burst (a c : Nat) (d : List UInt8) (hd : d.length ≤ 4) (h : mo 0 (List.replicate a 0 ++ d ++ List.replicate c 0) = 0) : ∀ b ∈ d, b = 0 := by
  rw [mo_append, mo_append, mo_zeros c, mo_zeros a, stn_zero] at h
  have hw : word d < 4294967296 := by
    have h1 := word_lt d
    have h2 : 2 ^ (8 * d.length) ≤ 2 ^ 32 := Nat.pow_le_pow_right (by decide) (by omega)
    have : (2 : Nat) ^ 32 = 4294967296 := by decide
    omega
  rw [mo_word, Nat.zero_xor] at h
  have h3 := stn_ker _ (stn_lt _ hw) h
  exact word_zero d (stn_ker _ hw h3)

/-! ### sums -/
def inv (c : Nat) : Nat := 4294967295 - c
theorem inv_xor {c : Nat} (h : c < 4294967296) : inv c = 4294967295 ^^^ c := by
  have e : (BitVec.ofNat 32 c).toNat = c := by rw [BitVec.toNat_ofNat]; omega
  have h2 : (~~~ (BitVec.ofNat 32 c)).toNat = 2 ^ 32 - 1 - c := by rw [BitVec.toNat_not, e]
  have h3 : (~~~ (BitVec.ofNat 32 c)).toNat = 4294967295 ^^^ c := by
    rw [← BitVec.allOnes_xor, BitVec.toNat_xor, e, BitVec.toNat_allOnes]
  unfold inv
  omega
theorem inv_inv {c : Nat} (h : c < 4294967296) : inv (inv c) = c := by unfold inv; omega
theorem inv_lt (c : Nat) : inv c < 4294967296 := by unfold inv; omega
/-- The sum of l behind bytes of the sum c. -/
def mr (c : Nat) (l : List UInt8) : Nat := inv (mo (inv c) l)
theorem mr_lt (c : Nat) (l : List UInt8) : mr c l < 4294967296 := inv_lt _
theorem mr_append (c : Nat) (l m : List UInt8) : mr c (l ++ m) = mr (mr c l) m := by
  unfold mr
  rw [mo_append, inv_inv (mo_lt l (inv_lt c))]
theorem mr_three (l m n : List UInt8) (h : l.length = m.length) (h' : l.length = n.length) : mr 0 (over (over l m) n) = mr 0 l ^^^ mr 0 m ^^^ mr 0 n := by
  have e : inv 0 = 4294967295 := rfl
  have f : ∀ k : List UInt8, mr 0 k = 4294967295 ^^^ mo 4294967295 k := fun k => by
    unfold mr; rw [e, inv_xor (mo_lt k (by decide))]
  have g : (4294967295 : Nat) = 4294967295 ^^^ 4294967295 ^^^ 4294967295 := by decide
  have k := mo_over (over l m) n (4294967295 ^^^ 4294967295) 4294967295 (by rw [over_length l m h]; exact h')
  rw [mo_over l m _ _ h, ← g] at k
  rw [f, f l, f m, f n, k]
  generalize mo 4294967295 l = a
  generalize mo 4294967295 m = b
  generalize mo 4294967295 n = c
  rw [xor4 4294967295 a 4294967295 b, xor4 (4294967295 ^^^ 4294967295) (a ^^^ b) 4294967295 c, ← g]
/-- Two rows of one length that differ just within four bytes in a row have unlike sums. -/
theorem mr_burst (a c : Nat) (l d : List UInt8) (hd : d.length ≤ 4) (hl : l.length = a + d.length + c) (h : mr 0 (over l (List.replicate a 0 ++ d ++ List.replicate c 0)) = mr 0 l) : ∀ b ∈ d, b = 0 := by
  have e : inv 0 = 4294967295 := rfl
  have hz : l.length = (List.replicate a (0 : UInt8) ++ d ++ List.replicate c 0).length := by simp; omega
  have k := mo_over l _ 4294967295 0 hz
  unfold mr at h
  rw [Nat.xor_zero] at k
  have h1 := mo_lt l (x := 4294967295) (by decide)
  have h2 := mo_lt (over l (List.replicate a 0 ++ d ++ List.replicate c 0)) (x := 4294967295) (by decide)
  rw [e] at h
  have h3 : mo 4294967295 (over l (List.replicate a 0 ++ d ++ List.replicate c 0)) = mo 4294967295 l := by
    unfold inv at h; omega
  rw [h3] at k
  have h4 : mo 0 (List.replicate a 0 ++ d ++ List.replicate c 0) = 0 := by
    have h5 : mo 4294967295 l ^^^ mo 4294967295 l = mo 4294967295 l ^^^ (mo 4294967295 l ^^^ mo 0 (List.replicate a 0 ++ d ++ List.replicate c 0)) := by rw [← k]
    rwa [Nat.xor_self, ← Nat.xor_assoc, Nat.xor_self, Nat.zero_xor, eq_comm] at h5
  exact burst a c d hd h4
end Go.Proofs.YtnknchadlhcdbaaDoor.Crc
