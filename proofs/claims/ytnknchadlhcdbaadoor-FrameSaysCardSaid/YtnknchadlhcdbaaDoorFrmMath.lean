/- Plain facts of frames: their bytes, that what is put is got and nothing else, that a burst is found; no program. Conditions: as each theorem states. -/
import Derived.Test.YtnknchadlhcdbaaDoorOctMath
import Derived.Test.YtnknchadlhcdbaaDoorCrcMath
import Derived.Test.YtnknchadlhcdbaaDoorCrcF
namespace Go.Proofs.YtnknchadlhcdbaaDoor.Frm
open Go.Proofs.YtnknchadlhcdbaaDoor.Oct Go.Proofs.YtnknchadlhcdbaaDoor.Crc Go.Proofs.YtnknchadlhcdbaaDoor.Byt

/-! ### four bytes, turned round -/
theorem and_ff (x : Nat) : x &&& 255 = x % 256 := Nat.and_two_pow_sub_one_eq_mod x 8
theorem mask_ff (x : Nat) : x &&& 16711935 = x % 256 + 65536 * (x / 65536 % 256) := by
  have h1 := Nat.and_div_two_pow (a := x) (b := 16711935) (n := 16)
  have h2 := Nat.and_mod_two_pow (a := x) (b := 16711935) (n := 16)
  rw [show (2 : Nat) ^ 16 = 65536 from rfl] at h1 h2
  rw [show (16711935 : Nat) / 65536 = 255 from rfl, and_ff] at h1
  rw [show (16711935 : Nat) % 65536 = 255 from rfl, and_ff] at h2
  have h3 := Nat.div_add_mod (x &&& 16711935) 65536
  omega
theorem or_low (a b n : Nat) (h : b < 2 ^ n) : a * 2 ^ n ||| b = a * 2 ^ n + b := by
  have := Nat.shiftLeft_add_eq_or_of_lt (i := n) (b := b) h a
  rw [Nat.shiftLeft_eq] at this
  exact this.symm
theorem or_mid (a b c d : Nat) (ha : a < 256) (hb : b < 256) (hc : c < 256) : (a + 65536 * b) ||| (256 * c + 16777216 * d) = a + 256 * c + 65536 * b + 16777216 * d := by
  have h1 := Nat.or_div_two_pow (a := a + 65536 * b) (b := 256 * c + 16777216 * d) (n := 16)
  have h2 := Nat.or_mod_two_pow (a := a + 65536 * b) (b := 256 * c + 16777216 * d) (n := 16)
  rw [show (2 : Nat) ^ 16 = 65536 from rfl] at h1 h2
  rw [show (a + 65536 * b) / 65536 = b by omega, show (256 * c + 16777216 * d) / 65536 = d * 2 ^ 8 by omega, Nat.or_comm b, or_low d b 8 hb] at h1
  rw [show (a + 65536 * b) % 65536 = a by omega, show (256 * c + 16777216 * d) % 65536 = c * 2 ^ 8 by omega, Nat.or_comm a (c * 2 ^ 8), or_low c a 8 ha] at h2
  have h3 := Nat.div_add_mod ((a + 65536 * b) ||| (256 * c + 16777216 * d)) 65536
  omega
/-- A number of four bytes, the last one first. -/
def revB (x : Nat) : Nat := x % 256 * 16777216 + x / 256 % 256 * 65536 + x / 65536 % 256 * 256 + x / 16777216 % 256
theorem revB_lt (x : Nat) : revB x < 4294967296 := by unfold revB; omega
theorem bytes4 (a b c d : Nat) (ha : a < 256) (hb : b < 256) (hc : c < 256) (hd : d < 256) : putL (a * 16777216 + b * 65536 + c * 256 + d) 4 = [UInt8.ofNat a, UInt8.ofNat b, UInt8.ofNat c, UInt8.ofNat d] := by
  have e1 : (a * 16777216 + b * 65536 + c * 256 + d) / 16777216 % 256 = a := by omega
  have e2 : (a * 16777216 + b * 65536 + c * 256 + d) / 65536 % 256 = b := by omega
  have e3 : (a * 16777216 + b * 65536 + c * 256 + d) / 256 % 256 = c := by omega
  have e4 : (a * 16777216 + b * 65536 + c * 256 + d) / 1 % 256 = d := by omega
  simp only [putL]
  rw [show 256 ^ 3 = 16777216 from rfl, show 256 ^ 2 = 65536 from rfl, show 256 ^ 1 = 256 from rfl, show 256 ^ 0 = 1 from rfl, e1, e2, e3, e4]
theorem rev_put (x : Nat) : putL (revB x) 4 = (putL x 4).reverse := by
  have h1 : x / 1 = x := Nat.div_one x
  unfold revB
  rw [bytes4 _ _ _ _ (by omega) (by omega) (by omega) (by omega)]
  simp only [putL, List.reverse_cons, List.reverse_nil, List.nil_append, List.cons_append]
  rw [show 256 ^ 3 = 16777216 from rfl, show 256 ^ 2 = 65536 from rfl, show 256 ^ 1 = 256 from rfl, show 256 ^ 0 = 1 from rfl, h1]
/-- The number behind the first of the two steps. -/
def midB (x : Nat) : Nat := x / 256 % 256 + 256 * (x % 256) + 65536 * (x / 16777216 % 256) + 16777216 * (x / 65536 % 256)
theorem mid_step (x : Nat) : (x / 256 &&& 16711935) ||| ((x &&& 16711935) * 256) = midB x := by
  rw [mask_ff, mask_ff, show (x % 256 + 65536 * (x / 65536 % 256)) * 256 = 256 * (x % 256) + 16777216 * (x / 65536 % 256) by omega, or_mid _ _ _ _ (by omega) (by omega) (by omega)]
  unfold midB
  omega
theorem midB_lt (x : Nat) : midB x < 4294967296 := by unfold midB; omega
theorem last_step (x : Nat) : (midB x / 65536) ||| (midB x * 65536 % 4294967296) = revB x := by
  have e : midB x * 65536 % 4294967296 = (midB x % 65536) * 2 ^ 16 := by omega
  have hm := midB_lt x
  rw [e, Nat.or_comm, or_low _ _ 16 (by omega)]
  unfold midB revB
  omega

/-! ### frames -/
/-- What stands ahead of the body. -/
def headL (k n : Nat) : List UInt8 := 167 :: UInt8.ofNat k :: putL n 4
/-- The sum as a frame has it. -/
def sumL (l : List UInt8) : List UInt8 := (putL (mr 0 l) 4).reverse
def frL (k : Nat) (b : List UInt8) : List UInt8 := headL k b.length ++ b ++ sumL (headL k b.length ++ b)
theorem headL_length (k n : Nat) : (headL k n).length = 6 := by simp [headL, putL_length]
theorem sumL_length (l : List UInt8) : (sumL l).length = 4 := by simp [sumL, putL_length]
theorem frL_length (k : Nat) (b : List UInt8) : (frL k b).length = b.length + 10 := by simp [frL, headL_length, sumL_length]; omega

/-! ### a sum that stands behind its bytes -/
theorem xor_split (n x : Nat) : x = x / 2 ^ n * 2 ^ n ^^^ x % 2 ^ n := by
  have h2 : x / 2 ^ n * 2 ^ n ^^^ x % 2 ^ n = x / 2 ^ n * 2 ^ n + x % 2 ^ n := by
    rw [← or_low _ _ n (Nat.mod_lt _ (Nat.two_pow_pos n))]
    apply Nat.eq_of_testBit_eq
    intro i
    rw [Nat.testBit_xor, Nat.testBit_or]
    by_cases hi : i < n
    · have : (x / 2 ^ n * 2 ^ n).testBit i = false := by
        rw [Nat.mul_comm, Nat.testBit_two_pow_mul]; simp; omega
      rw [this]; simp
    · have : (x % 2 ^ n).testBit i = false := by
        rw [Nat.testBit_mod_two_pow]; simp; omega
      rw [this]; simp
  rw [h2]
  have := Nat.div_add_mod x (2 ^ n)
  rw [Nat.mul_comm] at this
  omega
theorem word_cons (b : UInt8) (l : List UInt8) : word (b :: l) = b.toNat + 256 * word l := by
  have h := xor_split 8 (word l * 256 + b.toNat)
  have hb := b.toNat_lt
  rw [show (2 : Nat) ^ 8 = 256 from rfl, show (word l * 256 + b.toNat) / 256 = word l by omega, show (word l * 256 + b.toNat) % 256 = b.toNat by omega] at h
  rw [word, Nat.xor_comm, ← h]
  omega
theorem word_inj : ∀ l m : List UInt8, l.length = m.length → word l = word m → l = m
  | [], [], _, _ => rfl
  | [], _ :: _, h, _ => by simp at h
  | _ :: _, [], h, _ => by simp at h
  | a :: l, b :: m, h, e => by
    rw [word_cons, word_cons] at e
    have ha := a.toNat_lt
    have hb := b.toNat_lt
    have h1 : a = b := UInt8.toNat_inj.1 (by omega)
    rw [h1, word_inj l m (by simpa using h) (by omega)]
theorem word_rev (v : Nat) (h : v < 4294967296) : word (putL v 4).reverse = v := by
  simp only [putL, List.reverse_cons, List.reverse_nil, List.nil_append, List.cons_append]
  rw [word_cons, word_cons, word_cons, word_cons, word, ofNat_toNat _ (by omega), ofNat_toNat _ (by omega), ofNat_toNat _ (by omega), ofNat_toNat _ (by omega)]
  omega
/-- The sum of anything behind which its own sum stands. -/
def rest : Nat := inv (stn 32 4294967295)
theorem sum_rest (l c : List UInt8) (hc : c.length = 4) : mr 0 (l ++ c) = rest ↔ c = sumL l := by
  have hx := mo_lt l (x := inv 0) (by decide)
  have hw : word c < 4294967296 := by have := word_lt c; rw [hc] at this; exact this
  have e1 : mr 0 (l ++ c) = inv (stn 32 (mo (inv 0) l ^^^ word c)) := by
    unfold mr
    rw [mo_append, mo_word c, hc]
  have e2 : word (sumL l) = inv (mo (inv 0) l) := word_rev _ (mr_lt 0 l)
  have hx2 : mo (inv 0) l ^^^ inv (mo (inv 0) l) = 4294967295 := by
    rw [inv_xor hx, ← Nat.xor_assoc, Nat.xor_comm (mo (inv 0) l), Nat.xor_assoc, Nat.xor_self, Nat.xor_zero]
  have inv_inj : ∀ {a b : Nat}, a < 4294967296 → b < 4294967296 → inv a = inv b → a = b := by intro a b ha hb h; unfold inv at h; omega
  constructor
  · intro h
    rw [e1] at h
    unfold rest at h
    have h2 := inv_inj (stn_lt 32 (xor32 hx hw)) (stn_lt 32 (by decide)) h
    have h3 : stn 32 (mo (inv 0) l ^^^ word c ^^^ 4294967295) = 0 := by rw [stn_xor, h2, Nat.xor_self]
    have h4 := xor_same (stn_ker 32 (xor32 (xor32 hx hw) (by decide)) h3)
    refine word_inj _ _ (by rw [hc, sumL_length]) ?_
    rw [e2]
    have h5 : mo (inv 0) l ^^^ (mo (inv 0) l ^^^ word c) = mo (inv 0) l ^^^ (mo (inv 0) l ^^^ inv (mo (inv 0) l)) := by rw [h4, hx2]
    rwa [← Nat.xor_assoc, Nat.xor_self, Nat.zero_xor, ← Nat.xor_assoc, Nat.xor_self, Nat.zero_xor] at h5
  · rintro rfl
    rw [e1, e2, hx2]
    rfl

/-! ### what is got -/
/-- The length that a frame says. -/
def lenL (l : List UInt8) : Nat := takeL 0 ((l.drop 2).take 4)
/-- What is wrong ahead of the body. -/
def fzL (l : List UInt8) : Nat := if l.length = 0 then 3 else if l.getD 0 0 ≠ 167 then 4 else if l.length < 6 then 3 else if l.getD 1 0 = 0 then 15 else if 1048576 < lenL l then 5 else 0
def gEL (l : List UInt8) : Nat := if fzL l ≠ 0 then fzL l else if l.length < lenL l + 10 then 3 else if lenL l + 10 < l.length then 7 else if l.drop (l.length - 4) = sumL (l.take (l.length - 4)) then 0 else 9
def gKL (l : List UInt8) : Nat := if gEL l = 0 then (l.getD 1 0).toNat else 0
def gBL (l : List UInt8) : List UInt8 := if gEL l = 0 then (l.drop 6).take (l.length - 10) else []

theorem lenL_lt (l : List UInt8) : lenL l < 4294967296 := by
  have h := takeL_lt ((l.drop 2).take 4) 0 0 (by decide)
  have h2 : 256 ^ (0 + ((l.drop 2).take 4).length) ≤ 256 ^ 4 := Nat.pow_le_pow_right (by decide) (by rw [List.length_take]; omega)
  exact Nat.lt_of_lt_of_le h h2
/-- A row of a frame's form, whatever its sum. -/
theorem shape (k : Nat) (b c : List UInt8) (k0 : 0 < k) (k1 : k < 256) (hb : b.length ≤ 1048576) (hc : c.length = 4) :
    gEL (headL k b.length ++ b ++ c) = (if c = sumL (headL k b.length ++ b) then 0 else 9) ∧ (headL k b.length ++ b ++ c).getD 1 0 = UInt8.ofNat k ∧
      ((headL k b.length ++ b ++ c).drop 6).take ((headL k b.length ++ b ++ c).length - 10) = b := by
  obtain ⟨l, hl⟩ : ∃ l, l = headL k b.length ++ b ++ c := ⟨_, rfl⟩
  have hh := headL_length k b.length
  have hlen : l.length = b.length + 10 := by rw [hl]; simp [hh, hc]; omega
  have h6 : l = headL k b.length ++ (b ++ c) := by rw [hl, List.append_assoc]
  have g0 : l.getD 0 0 = 167 := by rw [hl]; rfl
  have g1 : l.getD 1 0 = UInt8.ofNat k := by rw [hl]; rfl
  have hk : UInt8.ofNat k ≠ 0 := by
    intro e
    have : (UInt8.ofNat k).toNat = 0 := by rw [e]; rfl
    rw [ofNat_toNat _ k1] at this
    omega
  have hd2 : (l.drop 2).take 4 = putL b.length 4 := by
    rw [h6]
    show ((putL b.length 4 ++ (b ++ c)).take 4) = _
    exact List.take_left' (putL_length _ _)
  have hn : lenL l = b.length := by
    unfold lenL
    rw [hd2, takeL_putL]
    have : (256 : Nat) ^ 4 = 4294967296 := by decide
    rw [this]; omega
  have ht : l.take (l.length - 4) = headL k b.length ++ b := by rw [hl]; exact List.take_left' (by rw [List.length_append, hh, ← hl, hlen]; omega)
  have hd : l.drop (l.length - 4) = c := by rw [hl]; exact List.drop_left' (by rw [List.length_append, hh, ← hl, hlen]; omega)
  have hf : fzL l = 0 := by
    unfold fzL
    rw [if_neg (by omega), if_neg (by rw [g0]; decide), if_neg (by omega), if_neg (by rw [g1]; exact hk), if_neg (by omega)]
  rw [← hl]
  refine ⟨?_, g1, ?_⟩
  · unfold gEL
    rw [if_neg (by rw [hf]; decide), if_neg (by omega), if_neg (by omega), ht, hd]
  · rw [hlen, show b.length + 10 - 10 = b.length by omega, h6, List.drop_left' hh, List.take_left' rfl]

theorem got_put (k : Nat) (b : List UInt8) (k0 : 0 < k) (k1 : k < 256) (hb : b.length ≤ 1048576) : gEL (frL k b) = 0 ∧ gKL (frL k b) = k ∧ gBL (frL k b) = b := by
  obtain ⟨h1, h2, h3⟩ := shape k b (sumL (headL k b.length ++ b)) k0 k1 hb (sumL_length _)
  rw [if_pos rfl] at h1
  have e : frL k b = headL k b.length ++ b ++ sumL (headL k b.length ++ b) := rfl
  rw [← e] at h1 h2 h3
  refine ⟨h1, ?_, ?_⟩
  · unfold gKL; rw [if_pos h1, h2, ofNat_toNat _ k1]
  · unfold gBL; rw [if_pos h1, h3]

theorem putL_takeL (n : Nat) (l : List UInt8) (hl : l.length = 4) : putL (takeL n l) 4 = l := by
  match l, hl with
  | [a, b, c, d], _ =>
    have ha := a.toNat_lt
    have hb := b.toNat_lt
    have hc := c.toNat_lt
    have hd := d.toNat_lt
    have f : ∀ (u : UInt8) (m : Nat), m = u.toNat → UInt8.ofNat m = u := fun u m e => by rw [e, UInt8.ofNat_toNat]
    simp only [putL, takeL]
    rw [show 256 ^ 3 = 16777216 from rfl, show 256 ^ 2 = 65536 from rfl, show 256 ^ 1 = 256 from rfl, show 256 ^ 0 = 1 from rfl,
      f a _ (by omega), f b _ (by omega), f c _ (by omega), f d _ (by omega)]
theorem got_zero (l : List UInt8) (h : gEL l = 0) : 0 < gKL l ∧ gKL l < 256 ∧ (gBL l).length ≤ 1048576 ∧ (gBL l).length + 10 = l.length ∧ frL (gKL l) (gBL l) = l := by
  have h0 := h
  unfold gEL at h
  split at h
  · contradiction
  rename_i hf
  have hf : fzL l = 0 := by omega
  split at h
  · cases h
  split at h
  · cases h
  split at h
  · rename_i h1 h2 hs
    have hlen : l.length = lenL l + 10 := by omega
    unfold fzL at hf
    split at hf
    · cases hf
    split at hf
    · cases hf
    split at hf
    · cases hf
    split at hf
    · cases hf
    split at hf
    · cases hf
    rename_i _ g0 _ g1 g2
    have g0 : l.getD 0 0 = 167 := by
      rcases Decidable.em (l.getD 0 0 = 167) with h | h
      · exact h
      · exact absurd h g0
    have hk : gKL l = (l.getD 1 0).toNat := by unfold gKL; rw [if_pos h0]
    have hb : gBL l = (l.drop 6).take (l.length - 10) := by unfold gBL; rw [if_pos h0]
    have hbl : (gBL l).length = lenL l := by rw [hb]; simp; omega
    have e6 : l.take 6 = headL (gKL l) (gBL l).length := by
      match l, g0, hlen with
      | [], _, hlen => simp at hlen
      | [_], _, hlen => simp at hlen
      | x :: y :: r, g0, hlen =>
        have hx : x = 167 := g0
        have hr : 4 ≤ r.length := by simp at hlen; omega
        unfold headL
        rw [hbl, hk, hx]
        show 167 :: y :: r.take 4 = 167 :: UInt8.ofNat y.toNat :: putL (takeL 0 (r.take 4)) 4
        rw [putL_takeL 0 (r.take 4) (by rw [List.length_take]; omega), UInt8.ofNat_toNat]
    have e7 : l.take (l.length - 4) = headL (gKL l) (gBL l).length ++ gBL l := by
      rw [← e6, hb, show l.length - 4 = 6 + (l.length - 10) by omega, List.take_add]
    refine ⟨?_, ?_, by omega, by omega, ?_⟩
    · rw [hk]
      rcases Nat.eq_zero_or_pos (l.getD 1 0).toNat with h | h
      · exact absurd (UInt8.toNat_inj.1 h) g1
      · exact h
    · rw [hk]; exact UInt8.toNat_lt _
    · unfold frL
      rw [← e7, ← hs, List.take_append_drop]
  · cases h

/-! ### a burst -/
theorem turn_take (l : List UInt8) (a : Nat) (xs : List UInt8) (m n : Nat) (h : n ≤ a) (hm : a + m ≤ l.length) : (turn l a xs m).take n = l.take n := by
  have hlen := turn_len l a xs m hm
  apply List.ext_getElem?
  intro i
  rw [List.getElem?_take, List.getElem?_take]
  split
  · have hil : i < l.length := by omega
    unfold turn mask
    rw [over_zip, List.getElem?_zipWith, List.append_assoc, List.getElem?_append_left (by simp; omega), List.getElem?_replicate, if_pos (by omega), List.getElem?_eq_getElem hil]
    simp
  · rfl
theorem burst_told (b : List UInt8) (a : Nat) (xs : List UInt8) (m : Nat) (ha : 6 ≤ a) (hm : a + m ≤ b.length + 10) (hm4 : m ≤ 4) (hb : b.length ≤ 1048576) (hne : turn (frL 3 b) a xs m ≠ frL 3 b) :
    gEL (turn (frL 3 b) a xs m) = 9 ∧ gBL (turn (frL 3 b) a xs m) = [] := by
  have hl := frL_length 3 b
  have hfind := turn_finds (frL 3 b) a xs m (by omega) hm4
  have hlen := turn_len (frL 3 b) a xs m (by omega)
  have htk := turn_take (frL 3 b) a xs m 6 ha (by omega)
  have h6 : (frL 3 b).take 6 = headL 3 b.length := by
    unfold frL; rw [List.append_assoc]; exact List.take_left' (headL_length _ _)
  have hr : mr 0 (frL 3 b) = rest := (sum_rest _ _ (sumL_length _)).2 rfl
  generalize turn (frL 3 b) a xs m = t at *
  obtain ⟨b', hb'⟩ : ∃ b', b' = (t.drop 6).take b.length := ⟨_, rfl⟩
  obtain ⟨c', hc'⟩ : ∃ c', c' = (t.drop 6).drop b.length := ⟨_, rfl⟩
  have e : t = headL 3 b.length ++ b' ++ c' := by
    rw [← h6, ← htk, hb', hc', List.append_assoc, List.take_append_drop, List.take_append_drop]
  have lb : b'.length = b.length := by rw [hb']; simp; omega
  have lc : c'.length = 4 := by rw [hc']; simp; omega
  obtain ⟨s1, _, _⟩ := shape 3 b' c' (by decide) (by decide) (by omega) lc
  rw [lb, ← e] at s1
  have hn : ¬ c' = sumL (headL 3 b.length ++ b') := by
    intro q
    have h1 := (sum_rest (headL 3 b.length ++ b') c' lc).2 q
    rw [← e, ← hr] at h1
    exact hne (hfind.1 h1)
  rw [if_neg hn] at s1
  refine ⟨s1, ?_⟩
  unfold gBL
  rw [if_neg (by omega)]
end Go.Proofs.YtnknchadlhcdbaaDoor.Frm
