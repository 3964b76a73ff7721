/- Texts of my own, packed: PlainA, PtrMath. Conditions: as each theorem states. -/
import Derived.Lib.MapLaws
import Derived.Lib.ValidLaws
import Derived.Lib.RuneCount
import Derived.Lib.TrimUEq
import Derived.Lib.RuneBytes
import Derived.Test.YtehkiojohldlgaaGreatDoorRows
namespace Go.Proofs.YtehkiojohldlgaaGreatDoor.Utf
open Go.Lib

/-- How many bytes the sequence at the head has; 0: there is none. -/
def wL (l : List UInt8) : Nat := if l = [] then 0 else if (decodeL l).1 = 65533 ∧ (decodeL l).2 = 1 then 0 else (decodeL l).2
/-- Its number. -/
def nL (l : List UInt8) : Nat := (decodeL l).1

theorem wL_nil : wL [] = 0 := rfl
theorem wL_good {l : List UInt8} (h : 0 < wL l) : l ≠ [] ∧ ¬ ((decodeL l).1 = 65533 ∧ (decodeL l).2 = 1) ∧ wL l = (decodeL l).2 := by
  unfold wL at h ⊢
  by_cases h1 : l = []
  · rw [if_pos h1] at h; omega
  · rw [if_neg h1] at h ⊢
    by_cases h2 : (decodeL l).1 = 65533 ∧ (decodeL l).2 = 1
    · rw [if_pos h2] at h; omega
    · rw [if_neg h2]; exact ⟨h1, h2, rfl⟩
theorem wL_le (l : List UInt8) : wL l ≤ l.length := by
  unfold wL
  split
  · omega
  · split
    · omega
    · exact decodeL_le l (by assumption)
theorem enc_wL {l : List UInt8} (h : 0 < wL l) : encodeRune (nL l : Int) = l.take (wL l) := by
  obtain ⟨h1, h2, h3⟩ := wL_good h
  rw [h3]; exact encode_decode l h1 h2

/-! ### the first place that is bad; the numbers -/
def badF : Nat → List UInt8 → Option Nat
  | 0, _ => none
  | n + 1, l => if l = [] then none else if 0 < wL l then (badF n (l.drop (wL l))).map (· + wL l) else some 0
def rnF : Nat → List UInt8 → List Nat
  | 0, _ => []
  | n + 1, l => if 0 < wL l then nL l :: rnF n (l.drop (wL l)) else []
theorem badF_nil : ∀ n, badF n [] = none
  | 0 => rfl
  | _ + 1 => by rw [badF, if_pos rfl]
theorem rnF_nil : ∀ n, rnF n [] = []
  | 0 => rfl
  | _ + 1 => by rw [rnF, if_neg (by rw [wL_nil]; omega)]
theorem drop_lt {n : Nat} {l : List UInt8} (h : 0 < wL l) (hl : l.length ≤ n + 1) : (l.drop (wL l)).length ≤ n := by
  rw [List.length_drop]; omega
theorem badF_fuel : ∀ (n m : Nat) (l : List UInt8), l.length ≤ n → l.length ≤ m → badF n l = badF m l
  | 0, m, l, hn, _ => by
    have : l = [] := List.eq_nil_of_length_eq_zero (by omega)
    rw [this, badF_nil, badF_nil]
  | n + 1, 0, l, _, hm => by
    have : l = [] := List.eq_nil_of_length_eq_zero (by omega)
    rw [this, badF_nil, badF_nil]
  | n + 1, m + 1, l, hn, hm => by
    rw [badF, badF]
    by_cases hw : 0 < wL l
    · rw [if_pos hw, if_pos hw, badF_fuel n m _ (drop_lt hw hn) (drop_lt hw hm)]
    · rw [if_neg hw, if_neg hw]
theorem rnF_fuel : ∀ (n m : Nat) (l : List UInt8), l.length ≤ n → l.length ≤ m → rnF n l = rnF m l
  | 0, m, l, hn, _ => by
    have : l = [] := List.eq_nil_of_length_eq_zero (by omega)
    rw [this, rnF_nil, rnF_nil]
  | n + 1, 0, l, _, hm => by
    have : l = [] := List.eq_nil_of_length_eq_zero (by omega)
    rw [this, rnF_nil, rnF_nil]
  | n + 1, m + 1, l, hn, hm => by
    rw [rnF, rnF]
    by_cases hw : 0 < wL l
    · rw [if_pos hw, if_pos hw, rnF_fuel n m _ (drop_lt hw hn) (drop_lt hw hm)]
    · rw [if_neg hw, if_neg hw]
def badL (l : List UInt8) : Option Nat := badF l.length l
def rnL (l : List UInt8) : List Nat := rnF l.length l
theorem len_succ {l : List UInt8} (hl : l ≠ []) : ∃ n, l.length = n + 1 := ⟨l.length - 1, by have := List.length_pos_iff.2 hl; omega⟩
theorem badL_nil : badL [] = none := rfl
theorem badL_zero {l : List UInt8} (hl : l ≠ []) (h : wL l = 0) : badL l = some 0 := by
  obtain ⟨n, hn⟩ := len_succ hl
  rw [badL, hn, badF, if_neg hl, if_neg (by omega)]
theorem badL_step {l : List UInt8} (h : 0 < wL l) : badL l = (badL (l.drop (wL l))).map (· + wL l) := by
  obtain ⟨n, hn⟩ := len_succ (wL_good h).1
  rw [badL, hn, badF, if_neg (wL_good h).1, if_pos h, badL, badF_fuel n _ _ (drop_lt h (by omega)) (Nat.le_refl _)]
theorem rnL_nil : rnL [] = [] := rfl
theorem rnL_zero {l : List UInt8} (h : wL l = 0) : rnL l = [] := by
  by_cases hl : l = []
  · rw [hl]; rfl
  · obtain ⟨n, hn⟩ := len_succ hl
    rw [rnL, hn, rnF, if_neg (by omega)]
theorem rnL_step {l : List UInt8} (h : 0 < wL l) : rnL l = nL l :: rnL (l.drop (wL l)) := by
  obtain ⟨n, hn⟩ := len_succ (wL_good h).1
  rw [rnL, hn, rnF, if_pos h, rnL, rnF_fuel n _ _ (drop_lt h (by omega)) (Nat.le_refl _)]
/-- By the length of the text, a sequence at a time. -/
theorem byWidth {p : List UInt8 → Prop} (h0 : p []) (hz : ∀ l, l ≠ [] → wL l = 0 → p l) (hs : ∀ l, 0 < wL l → p (l.drop (wL l)) → p l) : ∀ (n : Nat) (l : List UInt8), l.length ≤ n → p l
  | 0, l, h => by
    have : l = [] := List.eq_nil_of_length_eq_zero (by omega)
    subst this; exact h0
  | n + 1, l, h => by
    by_cases hl : l = []
    · subst hl; exact h0
    · by_cases hw : wL l = 0
      · exact hz l hl hw
      · exact hs l (by omega) (byWidth h0 hz hs n _ (by rw [List.length_drop]; have : 0 < l.length := List.length_pos_iff.2 hl; omega))
theorem width_ind {p : List UInt8 → Prop} (h0 : p []) (hz : ∀ l, l ≠ [] → wL l = 0 → p l) (hs : ∀ l, 0 < wL l → p (l.drop (wL l)) → p l) (l : List UInt8) : p l := byWidth h0 hz hs l.length l (Nat.le_refl _)

/-! ### the bytes of numbers -/
def vN (n : Nat) : Prop := n < 55296 ∨ (57344 ≤ n ∧ n ≤ 1114111)
set_option maxRecDepth 100000 in
set_option maxHeartbeats 4000000 in
theorem decodeN_valid (n b0 b1 b2 b3 : Nat) (h0 : b0 < 256) : vN (decodeN n b0 b1 b2 b3).1 := by
  unfold decodeN vN
  repeat' split
  all_goals (simp only; omega)
theorem rnL_valid (l : List UInt8) : ∀ n ∈ rnL l, vN n := by
  refine width_ind (p := fun l => ∀ n ∈ rnL l, vN n) (fun n h => by rw [rnL_nil] at h; cases h) (fun l _ h n hn => by rw [rnL_zero h] at hn; cases hn) (fun l h ih n hn => ?_) l
  rw [rnL_step h, List.mem_cons] at hn
  rcases hn with rfl | hn
  · unfold nL; rw [decodeL_N]; exact decodeN_valid _ _ _ _ _ (UInt8.toNat_lt _)
  · exact ih n hn

theorem getD_app (l t : List UInt8) (i : Nat) (h : i < l.length) : (l ++ t).getD i 0 = l.getD i 0 := by simp [List.getD, List.getElem?_append_left h]
set_option maxRecDepth 100000 in
set_option maxHeartbeats 4000000 in
theorem dec_enc (n : Nat) (t : List UInt8) (h : vN n) : decodeL (encodeRune (n : Int) ++ t) = (n, (encodeRune (n : Int)).length) := by
  have b : ∀ x : Nat, x < 256 → ((x : Int).toNat.toUInt8).toNat = x := fun x hx => by
    simp [Nat.mod_eq_of_lt hx]
  have c : n ≤ 127 ∨ (128 ≤ n ∧ n ≤ 2047) ∨ ((2048 ≤ n ∧ n < 55296) ∨ (57343 < n ∧ n ≤ 65535)) ∨ (65536 ≤ n ∧ n ≤ 1114111) := by unfold vN at h; omega
  unfold encodeRune
  rcases c with c | c | c | c
  · rw [encodeRuneZ_one (by omega) (by omega), decodeL_N]
    simp only [List.map_cons, List.map_nil, List.cons_append, List.nil_append, List.getD_cons_zero, List.length_cons, List.length_nil]
    rw [b n (by omega), decodeN, if_pos (by omega)]
  · rw [encodeRuneZ_two (by omega) (by omega), decodeL_N]
    rw [show (192 + (n : Int) / 64) = ((192 + n / 64 : Nat) : Int) by omega, show (128 + (n : Int) % 64) = ((128 + n % 64 : Nat) : Int) by omega]
    simp only [List.map_cons, List.map_nil, List.cons_append, List.nil_append, List.getD_cons_zero, List.getD_cons_succ, List.length_cons, List.length_nil]
    rw [b _ (by omega), b _ (by omega), decodeN, if_neg (by omega), if_pos (by omega), if_pos (by omega)]
    exact Prod.ext (by simp only; omega) rfl
  · rw [encodeRuneZ_three (by omega), decodeL_N]
    rw [show (224 + (n : Int) / 4096) = ((224 + n / 4096 : Nat) : Int) by omega, show (128 + (n : Int) / 64 % 64) = ((128 + n / 64 % 64 : Nat) : Int) by omega, show (128 + (n : Int) % 64) = ((128 + n % 64 : Nat) : Int) by omega]
    simp only [List.map_cons, List.map_nil, List.cons_append, List.nil_append, List.getD_cons_zero, List.getD_cons_succ, List.length_cons, List.length_nil]
    rw [b _ (by omega), b _ (by omega), b _ (by omega), decodeN, if_neg (by omega), if_neg (by omega), if_pos (by omega), if_pos (by omega)]
    exact Prod.ext (by simp only; omega) rfl
  · rw [encodeRuneZ_four (by omega) (by omega), decodeL_N]
    rw [show (240 + (n : Int) / 262144) = ((240 + n / 262144 : Nat) : Int) by omega, show (128 + (n : Int) / 4096 % 64) = ((128 + n / 4096 % 64 : Nat) : Int) by omega, show (128 + (n : Int) / 64 % 64) = ((128 + n / 64 % 64 : Nat) : Int) by omega, show (128 + (n : Int) % 64) = ((128 + n % 64 : Nat) : Int) by omega]
    simp only [List.map_cons, List.map_nil, List.cons_append, List.nil_append, List.getD_cons_zero, List.getD_cons_succ, List.length_cons, List.length_nil]
    rw [b _ (by omega), b _ (by omega), b _ (by omega), b _ (by omega), decodeN, if_neg (by omega), if_neg (by omega), if_neg (by omega), if_pos (by omega), if_pos (by omega)]
    exact Prod.ext (by simp only; omega) rfl
theorem enc_len (n : Nat) : 1 ≤ (encodeRune (n : Int)).length ∧ (encodeRune (n : Int)).length ≤ 4 := by
  have := encodeRuneZ_length (n : Int)
  simpa [encodeRune] using this
theorem wL_enc (n : Nat) (t : List UInt8) (h : vN n) : wL (encodeRune (n : Int) ++ t) = (encodeRune (n : Int)).length ∧ nL (encodeRune (n : Int) ++ t) = n := by
  have hd := dec_enc n t h
  have hl := enc_len n
  refine ⟨?_, by unfold nL; rw [hd]⟩
  unfold wL
  rw [if_neg (by intro h4; rw [(List.append_eq_nil_iff.1 h4).1] at hl; simp at hl), hd]
  refine if_neg ?_
  rintro ⟨h1, h2⟩
  simp only at h1 h2
  subst h1
  exact absurd h2 (by decide)
end Go.Proofs.YtehkiojohldlgaaGreatDoor.Utf

namespace Go.Proofs.YtehkiojohldlgaaGreatDoor.Oct

theorem ofNat_toNat (n : Nat) (h : n < 256) : (UInt8.ofNat n).toNat = n := by
  rw [UInt8.toNat_ofNat']; omega
theorem toNat_lt (b : UInt8) : b.toNat < 256 := b.toNat_lt

/-- What a digit is worth; 16: it is none. -/
def dig (c : UInt8) : Nat := if 48 ≤ c.toNat ∧ c.toNat ≤ 57 then c.toNat - 48 else if 97 ≤ c.toNat ∧ c.toNat ≤ 102 then c.toNat - 87 else 16
end Go.Proofs.YtehkiojohldlgaaGreatDoor.Oct

namespace Go.Proofs.YtehkiojohldlgaaGreatDoor.Quo
open Go.Lib Go.Proofs.YtehkiojohldlgaaGreatDoor.Utf Go.Proofs.YtehkiojohldlgaaGreatDoor.Oct

/-! ### what is put -/
/-! ### four digits -/
/-- What a digit of either case is worth; 16: it is none. -/
def dgA (c : Nat) : Nat := if 48 ≤ c ∧ c ≤ 57 then c - 48 else if 97 ≤ c ∧ c ≤ 102 then c - 87 else if 65 ≤ c ∧ c ≤ 70 then c - 55 else 16
/-- The number of digits behind a number; none: one of them is no digit. -/
def hxF : Nat → List UInt8 → Option Nat
  | n, [] => some n
  | n, c :: l => if dgA c.toNat < 16 then hxF (16 * n + dgA c.toNat) l else none
theorem hxF_lt : ∀ (l : List UInt8) (n k m : Nat), n < 16 ^ k → hxF n l = some m → m < 16 ^ (k + l.length)
  | [], n, k, m, hn, h => by rw [hxF] at h; obtain rfl := Option.some.inj h; simpa using hn
  | c :: l, n, k, m, hn, h => by
    rw [hxF] at h
    by_cases hd : dgA c.toNat < 16
    · rw [if_pos hd] at h
      have := hxF_lt l (16 * n + dgA c.toNat) (k + 1) m (by rw [Nat.pow_succ]; omega) h
      rw [List.length_cons, show k + (l.length + 1) = k + 1 + l.length by omega]
      exact this
    · rw [if_neg hd] at h; cases h
/-- The number of the four digits at the head. -/
def h4 (l : List UInt8) : Option Nat := if 4 ≤ l.length then hxF 0 (l.take 4) else none
theorem h4_lt {l : List UInt8} {m : Nat} (h : h4 l = some m) : m < 65536 ∧ 4 ≤ l.length := by
  unfold h4 at h
  by_cases hl : 4 ≤ l.length
  · rw [if_pos hl] at h
    have := hxF_lt _ 0 0 m (by decide) h
    rw [List.length_take, Nat.min_eq_left hl] at this
    exact ⟨this, hl⟩
  · rw [if_neg hl] at h; cases h

/-! ### an escape -/
/-- What a letter behind a backslash stands for; 256: it is none of those. -/
def ltN (c : Nat) : Nat := if c = 34 then 34 else if c = 92 then 92 else if c = 98 then 8 else if c = 102 then 12 else if c = 110 then 10 else if c = 114 then 13 else if c = 116 then 9 else if c = 47 then 47 else 256
/-- The number of the escape with digits at the head. -/
def nO (l : List UInt8) : Option Nat := if l.take 2 = [92, 117] then h4 (l.drop 2) else none
def pr (n m : Nat) : Bool := decide ((55296 ≤ n ∧ n ≤ 56319) ∧ 56320 ≤ m ∧ m ≤ 57343)
/-- The number that an escape with digits, or a pair of them, denotes, and its bytes. -/
def nP (n : Nat) (o : Option Nat) : Nat × Nat :=
  match o with
  | some m => if pr n m = true then (65536 + (n - 55296) * 1024 + (m - 56320), 12) else (n, 6)
  | none => (n, 6)
def vB (n : Nat) : Bool := decide (n < 55296 ∨ (57344 ≤ n ∧ n ≤ 1114111))
/-- The escape at the head: the error, the bytes, the piece. -/
def escL (l : List UInt8) : Nat × Nat × List UInt8 :=
  if ltN (l.getD 1 0).toNat < 256 then (0, 2, [UInt8.ofNat (ltN (l.getD 1 0).toNat)])
  else match nO l with
    | none => (4, 0, [])
    | some n => if vB (nP n (nO (l.drop 6))).1 = true then (0, (nP n (nO (l.drop 6))).2, encodeRune ((nP n (nO (l.drop 6))).1 : Int)) else (8, 0, [])
/-- The piece at the head: the error, the bytes, the piece. -/
def stp (l : List UInt8) : Nat × Nat × List UInt8 :=
  if (l.getD 0 0).toNat = 92 then escL l else if (l.getD 0 0).toNat < 32 then (4, 0, []) else if wL l = 0 then (8, 0, []) else (0, wL l, l.take (wL l))

/-! ### what is taken -/
/-- Behind the opening quote: the error, the bytes up to the fault or behind the closing quote, the value. -/
def tkF : Nat → List UInt8 → Nat × Nat × List UInt8
  | 0, _ => (3, 0, [])
  | f + 1, l => if l = [] then (3, 0, []) else if (l.getD 0 0).toNat = 34 then (0, 1, []) else if (stp l).1 ≠ 0 then ((stp l).1, 0, [])
      else ((tkF f (l.drop (stp l).2.1)).1, (tkF f (l.drop (stp l).2.1)).2.1 + (stp l).2.1, if (tkF f (l.drop (stp l).2.1)).1 = 0 then (stp l).2.2 ++ (tkF f (l.drop (stp l).2.1)).2.2 else [])
def tkQ (l : List UInt8) : Nat × Nat × List UInt8 := tkF l.length l

theorem getD_ne {l : List UInt8} {i : Nat} (h : (l.getD i 0).toNat ≠ 0) : i < l.length := by
  rcases Nat.lt_or_ge i l.length with h' | h'
  · exact h'
  · exfalso; apply h; rw [List.getD_eq_getElem?_getD, List.getElem?_eq_none h']; rfl
theorem ltN_zero : ltN 0 = 256 := rfl
theorem nO_lt {l : List UInt8} {n : Nat} (h : nO l = some n) : n < 65536 ∧ 6 ≤ l.length := by
  unfold nO at h
  by_cases hl : l.take 2 = [92, 117]
  · rw [if_pos hl] at h
    have h1 := h4_lt h
    rw [List.length_drop] at h1
    omega
  · rw [if_neg hl] at h; cases h
theorem nP_size (n : Nat) (o : Option Nat) : (nP n o).2 = 6 ∨ ((nP n o).2 = 12 ∧ ∃ m, o = some m) := by
  unfold nP
  cases o with
  | none => exact .inl rfl
  | some m =>
    simp only
    by_cases h : pr n m = true
    · rw [if_pos h]; exact .inr ⟨rfl, m, rfl⟩
    · rw [if_neg h]; exact .inl rfl
theorem escL_ok {l : List UInt8} (h : (escL l).1 = 0) : 1 ≤ (escL l).2.1 ∧ (escL l).2.1 ≤ l.length ∧ (escL l).2.2.length ≤ (escL l).2.1 := by
  unfold escL at h ⊢
  by_cases h1 : ltN (l.getD 1 0).toNat < 256
  · rw [if_pos h1]
    have : 1 < l.length := getD_ne fun h2 => by rw [h2, ltN_zero] at h1; omega
    exact ⟨by simp, by simp only; omega, by simp⟩
  · rw [if_neg h1] at h ⊢
    cases hn : nO l with
    | none => rw [hn] at h; cases h
    | some n =>
      rw [hn] at h
      simp only at h ⊢
      have h2 := nO_lt hn
      by_cases h3 : vB (nP n (nO (l.drop 6))).1 = true
      · rw [if_pos h3]
        have h4 := enc_len (nP n (nO (l.drop 6))).1
        rcases nP_size n (nO (l.drop 6)) with h5 | ⟨h5, m, hm⟩
        · exact ⟨by simp only; omega, by simp only; omega, by simp only; omega⟩
        · have h6 := nO_lt hm
          rw [List.length_drop] at h6
          exact ⟨by simp only; omega, by simp only; omega, by simp only; omega⟩
      · rw [if_neg h3] at h; cases h
theorem stp_ok {l : List UInt8} (_hl : l ≠ []) (h : (stp l).1 = 0) : 1 ≤ (stp l).2.1 ∧ (stp l).2.1 ≤ l.length ∧ (stp l).2.2.length ≤ (stp l).2.1 := by
  unfold stp at h ⊢
  by_cases h1 : (l.getD 0 0).toNat = 92
  · rw [if_pos h1] at h ⊢; exact escL_ok h
  · rw [if_neg h1] at h ⊢
    by_cases h2 : (l.getD 0 0).toNat < 32
    · rw [if_pos h2] at h; cases h
    · rw [if_neg h2] at h ⊢
      by_cases h3 : wL l = 0
      · rw [if_pos h3] at h; cases h
      · rw [if_neg h3]
        have := wL_le l
        exact ⟨by simp only; omega, by simp only; omega, by simp only [List.length_take]; omega⟩
theorem tkF_nil : ∀ f, tkF f [] = (3, 0, [])
  | 0 => rfl
  | _ + 1 => by rw [tkF, if_pos rfl]
theorem drop_lt2 {f : Nat} {l : List UInt8} (hl : l ≠ []) (h : (stp l).1 = 0) (hf : l.length ≤ f + 1) : (l.drop (stp l).2.1).length ≤ f := by
  rw [List.length_drop]; have := stp_ok hl h; omega
theorem tkF_fuel : ∀ (f g : Nat) (l : List UInt8), l.length ≤ f → l.length ≤ g → tkF f l = tkF g l
  | 0, g, l, hf, _ => by
    have : l = [] := List.eq_nil_of_length_eq_zero (by omega)
    rw [this, tkF_nil, tkF_nil]
  | f + 1, 0, l, _, hg => by
    have : l = [] := List.eq_nil_of_length_eq_zero (by omega)
    rw [this, tkF_nil, tkF_nil]
  | f + 1, g + 1, l, hf, hg => by
    rw [tkF, tkF]
    by_cases hl : l = []
    · rw [if_pos hl, if_pos hl]
    · rw [if_neg hl, if_neg hl]
      by_cases h1 : (l.getD 0 0).toNat = 34
      · rw [if_pos h1, if_pos h1]
      · rw [if_neg h1, if_neg h1]
        by_cases h2 : (stp l).1 = 0
        · rw [if_neg (show ¬ (stp l).1 ≠ 0 by omega), if_neg (show ¬ (stp l).1 ≠ 0 by omega), tkF_fuel f g _ (drop_lt2 hl h2 hf) (drop_lt2 hl h2 hg)]
        · rw [if_pos h2, if_pos h2]
theorem tkQ_nil : tkQ [] = (3, 0, []) := rfl
theorem tkQ_close {l : List UInt8} (h : (l.getD 0 0).toNat = 34) : tkQ l = (0, 1, []) := by
  have hl : l ≠ [] := by rintro rfl; simp at h
  obtain ⟨n, hn⟩ := len_succ hl
  rw [tkQ, hn, tkF, if_neg hl, if_pos h]
theorem tkQ_bad {l : List UInt8} (hl : l ≠ []) (h : (l.getD 0 0).toNat ≠ 34) (h1 : (stp l).1 ≠ 0) : tkQ l = ((stp l).1, 0, []) := by
  obtain ⟨n, hn⟩ := len_succ hl
  rw [tkQ, hn, tkF, if_neg hl, if_neg h, if_pos h1]
theorem tkQ_step {l : List UInt8} (hl : l ≠ []) (h : (l.getD 0 0).toNat ≠ 34) (h1 : (stp l).1 = 0) :
    tkQ l = ((tkQ (l.drop (stp l).2.1)).1, (tkQ (l.drop (stp l).2.1)).2.1 + (stp l).2.1, if (tkQ (l.drop (stp l).2.1)).1 = 0 then (stp l).2.2 ++ (tkQ (l.drop (stp l).2.1)).2.2 else []) := by
  obtain ⟨n, hn⟩ := len_succ hl
  have e : tkF n (l.drop (stp l).2.1) = tkQ (l.drop (stp l).2.1) := tkF_fuel _ _ _ (drop_lt2 hl h1 (by omega)) (Nat.le_refl _)
  conv => lhs; rw [tkQ, hn, tkF]
  rw [if_neg hl, if_neg h, if_neg (by omega), e]
theorem tk_len {p : List UInt8 → Prop} (h0 : p []) (hc : ∀ l, l ≠ [] → (l.getD 0 0).toNat = 34 → p l) (hb : ∀ l, l ≠ [] → (l.getD 0 0).toNat ≠ 34 → (stp l).1 ≠ 0 → p l)
    (hs : ∀ l, l ≠ [] → (l.getD 0 0).toNat ≠ 34 → (stp l).1 = 0 → p (l.drop (stp l).2.1) → p l) : ∀ (n : Nat) (l : List UInt8), l.length ≤ n → p l
  | 0, l, h => by
    have : l = [] := List.eq_nil_of_length_eq_zero (by omega)
    subst this; exact h0
  | n + 1, l, h => by
    by_cases hl : l = []
    · subst hl; exact h0
    · by_cases h1 : (l.getD 0 0).toNat = 34
      · exact hc l hl h1
      · by_cases h2 : (stp l).1 = 0
        · exact hs l hl h1 h2 (tk_len h0 hc hb hs n _ (drop_lt2 hl h2 h))
        · exact hb l hl h1 h2
theorem tk_ind {p : List UInt8 → Prop} (h0 : p []) (hc : ∀ l, l ≠ [] → (l.getD 0 0).toNat = 34 → p l) (hb : ∀ l, l ≠ [] → (l.getD 0 0).toNat ≠ 34 → (stp l).1 ≠ 0 → p l)
    (hs : ∀ l, l ≠ [] → (l.getD 0 0).toNat ≠ 34 → (stp l).1 = 0 → p (l.drop (stp l).2.1) → p l) (l : List UInt8) : p l := tk_len h0 hc hb hs l.length l (Nat.le_refl _)

/-- Where a fault stands, or the end; how long a value may be. -/
theorem tkQ_in (l : List UInt8) : (tkQ l).2.1 ≤ l.length ∧ (tkQ l).2.2.length ≤ (tkQ l).2.1 := by
  refine tk_ind (p := fun l => (tkQ l).2.1 ≤ l.length ∧ (tkQ l).2.2.length ≤ (tkQ l).2.1) ?_ ?_ ?_ ?_ l
  · rw [tkQ_nil]; simp
  · intro l hl h
    rw [tkQ_close h]
    exact ⟨List.length_pos_iff.2 hl, by simp⟩
  · intro l hl h h1
    rw [tkQ_bad hl h h1]; simp
  · intro l hl h h1 ih
    have h2 := stp_ok hl h1
    rw [tkQ_step hl h h1]
    rw [List.length_drop] at ih
    refine ⟨by simp only; omega, ?_⟩
    simp only
    split
    · rw [List.length_append]; omega
    · simp
/-- What is taken ends at a quote. -/
theorem tkQ_end (l : List UInt8) : (tkQ l).1 = 0 → 1 ≤ (tkQ l).2.1 ∧ (l.getD ((tkQ l).2.1 - 1) 0).toNat = 34 := by
  refine tk_ind (p := fun l => (tkQ l).1 = 0 → 1 ≤ (tkQ l).2.1 ∧ (l.getD ((tkQ l).2.1 - 1) 0).toNat = 34) ?_ ?_ ?_ ?_ l
  · intro h; rw [tkQ_nil] at h; cases h
  · intro l _ h _
    rw [tkQ_close h]
    exact ⟨by simp, h⟩
  · intro l hl h h1 h2
    rw [tkQ_bad hl h h1] at h2
    exact absurd h2 h1
  · intro l hl h h1 ih h2
    have h3 := stp_ok hl h1
    rw [tkQ_step hl h h1] at h2 ⊢
    simp only at h2 ⊢
    obtain ⟨i1, i2⟩ := ih h2
    refine ⟨by omega, ?_⟩
    rw [List.getD_eq_getElem?_getD, List.getElem?_drop] at i2
    rw [List.getD_eq_getElem?_getD, show (tkQ (l.drop (stp l).2.1)).2.1 + (stp l).2.1 - 1 = (stp l).2.1 + ((tkQ (l.drop (stp l).2.1)).2.1 - 1) by omega]
    exact i2
/-! ### what is put is taken -/
theorem wL_low (c : UInt8) (l : List UInt8) (h : c.toNat < 128) : wL (c :: l) = 1 := by
  have e : encodeRune ((c.toNat : Nat) : Int) = [c] := by
    unfold encodeRune
    rw [encodeRuneZ_one (by omega) (by omega)]
    simp
  have := (wL_enc c.toNat l (.inl (by omega))).1
  rw [e] at this
  exact this
/-! ### each number can be said by digits -/
end Go.Proofs.YtehkiojohldlgaaGreatDoor.Quo

namespace Go.Proofs.YtehkiojohldlgaaGreatDoor.Lx
open Go.Lib Go.Proofs.YtehkiojohldlgaaGreatDoor.Utf Go.Proofs.YtehkiojohldlgaaGreatDoor.Oct Go.Proofs.YtehkiojohldlgaaGreatDoor.Quo

/-! ### bytes -/
def hd (l : List UInt8) : Nat := (l.getD 0 0).toNat
def bl (c : Nat) : Bool := decide (c = 32 ∨ c = 9 ∨ c = 10 ∨ c = 13)
def dg (c : Nat) : Bool := decide (48 ≤ c ∧ c ≤ 57)
def mk (c : Nat) : Bool := decide (c = 46 ∨ c = 101 ∨ c = 69)
def sg (c : Nat) : Nat := if c = 123 then 1 else if c = 125 then 2 else if c = 91 then 3 else if c = 93 then 4 else if c = 58 then 5 else if c = 44 then 6 else 0
/-- The blanks at the head. -/
def skp : List UInt8 → Nat
  | [] => 0
  | c :: l => if bl c.toNat = true then skp l + 1 else 0
/-- The digits at the head. -/
def dgs : List UInt8 → Nat
  | [] => 0
  | c :: l => if dg c.toNat = true then dgs l + 1 else 0
/-- The digits of the number at the head. -/
def dgc (l : List UInt8) : Nat := if hd l = 48 then 1 else dgs l
def vl (l : List UInt8) : Nat := l.foldl (fun n c => 10 * n + (c.toNat - 48)) 0

/-- A token: its kind, where it begins, its bytes, its text, its number. -/
structure Tk where
  k : Nat
  o : Nat
  z : Nat
  v : List UInt8
  n : Int
def bad (o : Nat) : Tk := ⟨0, o, 0, [], 0⟩
def Tk.sh (b : Nat) (t : Tk) : Tk := ⟨t.k, b + t.o, t.z, t.v, t.n⟩

def sgn (l : List UInt8) : Nat := if hd l = 45 then 1 else 0
/-- The number's digits, from the head on. -/
def dc (l : List UInt8) : Nat := dgc (l.drop (sgn l))
def vz (l : List UInt8) : Nat := vl ((l.drop (sgn l)).take (dc l))
/-- The number's value, and whether it has room. -/
def vi (l : List UInt8) : Int := if sgn l = 1 then -(vz l : Int) else (vz l : Int)
def vo (l : List UInt8) : Bool := decide (-9223372036854775808 ≤ vi l ∧ vi l ≤ 9223372036854775807)
/-- The error and the token at the head. -/
def num (l : List UInt8) : Nat × Tk :=
  if dc l = 0 then (4, bad 0) else if mk (l.getD (sgn l + dc l) 0).toNat = true then (18, bad 0) else if vo l = true then (0, ⟨8, 0, sgn l + dc l, [], vi l⟩) else (6, bad 0)
def wrd (l : List UInt8) : Nat × Tk :=
  if l.take 4 = [116, 114, 117, 101] then (0, ⟨9, 0, 4, [], 0⟩) else if l.take 5 = [102, 97, 108, 115, 101] then (0, ⟨10, 0, 5, [], 0⟩) else if l.take 4 = [110, 117, 108, 108] then (0, ⟨11, 0, 4, [], 0⟩) else (4, bad 0)
def txt (l : List UInt8) : Nat × Tk :=
  if (tkQ (l.drop 1)).1 = 0 then (0, ⟨7, 0, (tkQ (l.drop 1)).2.1 + 1, (tkQ (l.drop 1)).2.2, 0⟩) else ((tkQ (l.drop 1)).1, bad ((tkQ (l.drop 1)).2.1 + 1))
def tok (l : List UInt8) : Nat × Tk :=
  if l = [] then (0, bad 0) else if sg (hd l) ≠ 0 then (0, ⟨sg (hd l), 0, 1, [], 0⟩) else if hd l = 34 then txt l else if hd l = 45 ∨ dg (hd l) = true then num l else wrd l
/-- The first token behind blanks. -/
def nx (l : List UInt8) : Nat × Tk := ((tok (l.drop (skp l))).1, (tok (l.drop (skp l))).2.sh (skp l))
/-- All tokens: the error, where it stands, the tokens. -/
def tks : Nat → Nat → List UInt8 → Nat × Nat × List Tk
  | 0, _, _ => (99, 0, [])
  | f + 1, b, l => if (nx l).1 ≠ 0 then ((nx l).1, b + (nx l).2.o, []) else if (nx l).2.k = 0 then (0, 0, [(nx l).2.sh b])
      else if (tks f (b + (nx l).2.o + (nx l).2.z) (l.drop ((nx l).2.o + (nx l).2.z))).1 = 0 then (0, 0, (nx l).2.sh b :: (tks f (b + (nx l).2.o + (nx l).2.z) (l.drop ((nx l).2.o + (nx l).2.z))).2.2)
      else tks f (b + (nx l).2.o + (nx l).2.z) (l.drop ((nx l).2.o + (nx l).2.z))

/-! ### sizes -/
theorem skp_le : ∀ l, skp l ≤ l.length
  | [] => Nat.le_refl _
  | c :: l => by rw [skp]; have := skp_le l; split <;> simp <;> omega
theorem dgs_le : ∀ l, dgs l ≤ l.length
  | [] => Nat.le_refl _
  | c :: l => by rw [dgs]; have := dgs_le l; split <;> simp <;> omega
theorem hd_ne {l : List UInt8} (h : hd l ≠ 0) : l ≠ [] := by rintro rfl; exact h rfl
theorem dgc_le (l : List UInt8) : dgc l ≤ l.length := by
  unfold dgc
  split
  · rename_i h; exact List.length_pos_iff.2 (hd_ne (by omega))
  · exact dgs_le l
theorem sgn_le1 (l : List UInt8) : sgn l ≤ 1 := by unfold sgn; split <;> omega
theorem dc_le (l : List UInt8) : sgn l + dc l ≤ l.length := by
  have h1 := dgc_le (l.drop (sgn l))
  rw [List.length_drop] at h1
  unfold dc
  by_cases h : hd l = 45
  · have h2 := List.length_pos_iff.2 (hd_ne (l := l) (by omega))
    have : sgn l = 1 := if_pos h
    omega
  · have : sgn l = 0 := if_neg h
    omega
theorem take_le {l : List UInt8} {n : Nat} {x : List UInt8} (h : l.take n = x) : x.length ≤ l.length := by
  rw [← h, List.length_take]; omega
theorem num_good (l : List UInt8) (h : (num l).1 = 0) : num l = (0, ⟨8, 0, sgn l + dc l, [], vi l⟩) ∧ 0 < dc l ∧ mk (l.getD (sgn l + dc l) 0).toNat = false ∧ vo l = true := by
  unfold num at h ⊢
  by_cases h1 : dc l = 0
  · rw [if_pos h1] at h; cases h
  · rw [if_neg h1] at h ⊢
    by_cases h2 : mk (l.getD (sgn l + dc l) 0).toNat = true
    · rw [if_pos h2] at h; cases h
    · rw [if_neg h2] at h ⊢
      by_cases h3 : vo l = true
      · rw [if_pos h3]; exact ⟨rfl, by omega, by simpa using h2, h3⟩
      · rw [if_neg h3] at h; cases h
theorem num_bad (l : List UInt8) (h : (num l).1 ≠ 0) : (num l).2 = bad 0 := by
  unfold num at h ⊢
  repeat' split
  all_goals first | rfl | skip
  exfalso
  apply h
  rw [if_neg (by assumption), if_neg (by assumption), if_pos (by assumption)]
theorem wrd_cases (l : List UInt8) : (wrd l = (0, ⟨9, 0, 4, [], 0⟩) ∧ 4 ≤ l.length ∧ l.take 4 = [116, 114, 117, 101]) ∨ (wrd l = (0, ⟨10, 0, 5, [], 0⟩) ∧ 5 ≤ l.length ∧ l.take 5 = [102, 97, 108, 115, 101]) ∨ (wrd l = (0, ⟨11, 0, 4, [], 0⟩) ∧ 4 ≤ l.length ∧ l.take 4 = [110, 117, 108, 108]) ∨
    (wrd l = (4, bad 0) ∧ l.take 4 ≠ [116, 114, 117, 101] ∧ l.take 5 ≠ [102, 97, 108, 115, 101] ∧ l.take 4 ≠ [110, 117, 108, 108]) := by
  by_cases h1 : l.take 4 = [116, 114, 117, 101]
  · exact .inl ⟨if_pos h1, take_le h1, h1⟩
  · by_cases h2 : l.take 5 = [102, 97, 108, 115, 101]
    · exact .inr (.inl ⟨by unfold wrd; rw [if_neg h1, if_pos h2], take_le h2, h2⟩)
    · by_cases h3 : l.take 4 = [110, 117, 108, 108]
      · exact .inr (.inr (.inl ⟨by unfold wrd; rw [if_neg h1, if_neg h2, if_pos h3], take_le h3, h3⟩))
      · exact .inr (.inr (.inr ⟨by unfold wrd; rw [if_neg h1, if_neg h2, if_neg h3], h1, h2, h3⟩))
theorem sg_le (c : Nat) : sg c ≤ 6 := by unfold sg; repeat' split
                                         all_goals omega
/-- Of the token at the head: what it can be. -/
theorem tok_good (l : List UInt8) (h : (tok l).1 = 0) : (tok l).2.o = 0 ∧ ((tok l).2.k = 0 ↔ l = []) ∧ ((tok l).2.z = 0 ↔ l = []) ∧ (tok l).2.z ≤ l.length ∧ (tok l).2.v.length ≤ (tok l).2.z ∧ (tok l).2.k ≤ 11 := by
  unfold tok at h ⊢
  by_cases h0 : l = []
  · rw [if_pos h0]; subst h0; simp [bad]
  · rw [if_neg h0] at h ⊢
    have hp := List.length_pos_iff.2 h0
    by_cases h1 : sg (hd l) ≠ 0
    · rw [if_pos h1]
      have := sg_le (hd l)
      exact ⟨rfl, ⟨fun e => absurd e h1, fun e => absurd e h0⟩, ⟨fun e => absurd e (by simp), fun e => absurd e h0⟩, by simp only; omega, by simp, by simp only; omega⟩
    · rw [if_neg h1] at h ⊢
      by_cases h2 : hd l = 34
      · rw [if_pos h2] at h ⊢
        unfold txt at h ⊢
        have hq := tkQ_in (l.drop 1)
        rw [List.length_drop] at hq
        by_cases h3 : (tkQ (l.drop 1)).1 = 0
        · rw [if_pos h3]
          exact ⟨rfl, ⟨fun e => absurd e (by simp), fun e => absurd e h0⟩, ⟨fun e => absurd e (by simp), fun e => absurd e h0⟩, by simp only; omega, by simp only; omega, by simp⟩
        · rw [if_neg h3] at h
          exact absurd h h3
      · rw [if_neg h2] at h ⊢
        by_cases h3 : hd l = 45 ∨ dg (hd l) = true
        · rw [if_pos h3] at h ⊢
          obtain ⟨e, h4, _⟩ := num_good l h
          rw [e]
          have h5 := dc_le l
          exact ⟨rfl, ⟨fun e => absurd e (by simp), fun e => absurd e h0⟩, ⟨fun e => absurd e (by simp only; omega), fun e => absurd e h0⟩, h5, by simp, by simp⟩
        · rw [if_neg h3] at h ⊢
          rcases wrd_cases l with ⟨e, h4, _⟩ | ⟨e, h4, _⟩ | ⟨e, h4, _⟩ | ⟨e, _⟩
          · rw [e]; exact ⟨rfl, ⟨fun e => absurd e (by simp), fun e => absurd e h0⟩, ⟨fun e => absurd e (by simp), fun e => absurd e h0⟩, h4, by simp, by simp⟩
          · rw [e]; exact ⟨rfl, ⟨fun e => absurd e (by simp), fun e => absurd e h0⟩, ⟨fun e => absurd e (by simp), fun e => absurd e h0⟩, h4, by simp, by simp⟩
          · rw [e]; exact ⟨rfl, ⟨fun e => absurd e (by simp), fun e => absurd e h0⟩, ⟨fun e => absurd e (by simp), fun e => absurd e h0⟩, h4, by simp, by simp⟩
          · rw [e] at h; cases h
theorem tok_bad (l : List UInt8) (h : (tok l).1 ≠ 0) : (∃ o, (tok l).2 = bad o ∧ o ≤ l.length) ∧ l ≠ [] := by
  unfold tok at h ⊢
  by_cases h0 : l = []
  · rw [if_pos h0] at h; exact absurd rfl h
  · refine ⟨?_, h0⟩
    rw [if_neg h0] at h ⊢
    have hp := List.length_pos_iff.2 h0
    by_cases h1 : sg (hd l) ≠ 0
    · rw [if_pos h1] at h; exact absurd rfl h
    · rw [if_neg h1] at h ⊢
      by_cases h2 : hd l = 34
      · rw [if_pos h2] at h ⊢
        unfold txt at h ⊢
        have hq := tkQ_in (l.drop 1)
        rw [List.length_drop] at hq
        by_cases h3 : (tkQ (l.drop 1)).1 = 0
        · rw [if_pos h3] at h; exact absurd rfl h
        · rw [if_neg h3]
          exact ⟨_, rfl, by omega⟩
      · rw [if_neg h2] at h ⊢
        by_cases h3 : hd l = 45 ∨ dg (hd l) = true
        · rw [if_pos h3] at h ⊢
          exact ⟨0, num_bad l h, by omega⟩
        · rw [if_neg h3] at h ⊢
          rcases wrd_cases l with ⟨e, h4, _⟩ | ⟨e, h4, _⟩ | ⟨e, h4, _⟩ | ⟨e, _⟩
          · rw [e] at h; exact absurd rfl h
          · rw [e] at h; exact absurd rfl h
          · rw [e] at h; exact absurd rfl h
          · rw [e]; exact ⟨0, rfl, by omega⟩
theorem drop_skp {l : List UInt8} (h : l.drop (skp l) = []) : skp l = l.length := by
  have := skp_le l
  have h2 := congrArg List.length h
  rw [List.length_drop] at h2
  simp at h2
  omega
/-- Of the first token: where it stands. -/
theorem nx_good (l : List UInt8) (h : (nx l).1 = 0) : (nx l).2.o = skp l ∧ (nx l).2.o + (nx l).2.z ≤ l.length ∧ ((nx l).2.k = 0 ↔ skp l = l.length) ∧ ((nx l).2.z = 0 ↔ (nx l).2.k = 0) ∧ (nx l).2.v.length ≤ (nx l).2.z ∧ (nx l).2.k ≤ 11 := by
  have h1 := tok_good (l.drop (skp l)) h
  obtain ⟨a, b, c, d, e, f⟩ := h1
  have hs := skp_le l
  have hn : l.drop (skp l) = [] ↔ skp l = l.length := ⟨drop_skp, fun e => by rw [e, List.drop_length]⟩
  rw [List.length_drop] at d
  refine ⟨by show skp l + _ = _; omega, by show skp l + _ + _ ≤ _; rw [show (nx l).2.z = (tok (l.drop (skp l))).2.z from rfl]; omega, b.trans hn, c.trans b.symm, e, f⟩
theorem nx_bad (l : List UInt8) (h : (nx l).1 ≠ 0) : ∃ o, (nx l).2 = bad o ∧ o ≤ l.length := by
  obtain ⟨⟨o, h1, h2⟩, _⟩ := tok_bad (l.drop (skp l)) h
  have hs := skp_le l
  rw [List.length_drop] at h2
  refine ⟨skp l + o, ?_, by omega⟩
  show Tk.sh _ _ = _
  rw [h1]; rfl
/-- Fewer bytes behind each token. -/
theorem nx_step (l : List UInt8) (h : (nx l).1 = 0) (hk : (nx l).2.k ≠ 0) : 0 < (nx l).2.z ∧ (nx l).2.o + (nx l).2.z ≤ l.length := by
  obtain ⟨_, b, _, d, _, _⟩ := nx_good l h
  exact ⟨Nat.pos_of_ne_zero fun e => hk (d.1 e), b⟩
theorem tks_fuel : ∀ (f g b : Nat) (l : List UInt8), l.length < f → l.length < g → tks f b l = tks g b l
  | 0, _, _, _, h, _ => by omega
  | _ + 1, 0, _, _, _, h => by omega
  | f + 1, g + 1, b, l, hf, hg => by
    rw [tks, tks]
    by_cases h : (nx l).1 ≠ 0
    · rw [if_pos h, if_pos h]
    · rw [if_neg h, if_neg h]
      by_cases hk : (nx l).2.k = 0
      · rw [if_pos hk, if_pos hk]
      · rw [if_neg hk, if_neg hk]
        have := nx_step l (by omega) hk
        rw [tks_fuel f g _ (l.drop ((nx l).2.o + (nx l).2.z)) (by rw [List.length_drop]; omega) (by rw [List.length_drop]; omega)]
/-- All tokens from place b on. -/
def tkA (b : Nat) (l : List UInt8) : Nat × Nat × List Tk := tks (l.length + 1) b l
theorem tkA_bad (b : Nat) (l : List UInt8) (h : (nx l).1 ≠ 0) : tkA b l = ((nx l).1, b + (nx l).2.o, []) := by unfold tkA; rw [tks, if_pos h]
theorem tkA_end (b : Nat) (l : List UInt8) (h : (nx l).1 = 0) (hk : (nx l).2.k = 0) : tkA b l = (0, 0, [(nx l).2.sh b]) := by unfold tkA; rw [tks, if_neg (by omega), if_pos hk]
theorem tkA_step (b : Nat) (l : List UInt8) (h : (nx l).1 = 0) (hk : (nx l).2.k ≠ 0) :
    tkA b l = if (tkA (b + (nx l).2.o + (nx l).2.z) (l.drop ((nx l).2.o + (nx l).2.z))).1 = 0 then (0, 0, (nx l).2.sh b :: (tkA (b + (nx l).2.o + (nx l).2.z) (l.drop ((nx l).2.o + (nx l).2.z))).2.2)
      else tkA (b + (nx l).2.o + (nx l).2.z) (l.drop ((nx l).2.o + (nx l).2.z)) := by
  have h1 := nx_step l h hk
  have e : ∀ b', tks l.length b' (l.drop ((nx l).2.o + (nx l).2.z)) = tkA b' (l.drop ((nx l).2.o + (nx l).2.z)) := fun b' => tks_fuel _ _ _ _ (by rw [List.length_drop]; omega) (by omega)
  conv => lhs; unfold tkA; rw [tks]
  rw [if_neg (by omega), if_neg hk, e]
/-- By its tokens. -/
theorem tok_len {p : Nat → List UInt8 → Prop} (hb : ∀ b l, (nx l).1 ≠ 0 → p b l) (he : ∀ b l, (nx l).1 = 0 → (nx l).2.k = 0 → p b l)
    (hs : ∀ b l, (nx l).1 = 0 → (nx l).2.k ≠ 0 → p (b + (nx l).2.o + (nx l).2.z) (l.drop ((nx l).2.o + (nx l).2.z)) → p b l) : ∀ (n b : Nat) (l : List UInt8), l.length < n → p b l
  | 0, _, _, h => by omega
  | n + 1, b, l, hn => by
    by_cases h : (nx l).1 = 0
    · by_cases hk : (nx l).2.k = 0
      · exact he b l h hk
      · have := nx_step l h hk
        exact hs b l h hk (tok_len hb he hs n _ _ (by rw [List.length_drop]; omega))
    · exact hb b l h
theorem tok_ind {p : Nat → List UInt8 → Prop} (hb : ∀ b l, (nx l).1 ≠ 0 → p b l) (he : ∀ b l, (nx l).1 = 0 → (nx l).2.k = 0 → p b l)
    (hs : ∀ b l, (nx l).1 = 0 → (nx l).2.k ≠ 0 → p (b + (nx l).2.o + (nx l).2.z) (l.drop ((nx l).2.o + (nx l).2.z)) → p b l) (b : Nat) (l : List UInt8) : p b l := tok_len hb he hs (l.length + 1) b l (by omega)
end Go.Proofs.YtehkiojohldlgaaGreatDoor.Lx

namespace Go.Proofs.YtehkiojohldlgaaGreatDoor.Lx
open Go.Lib Go.Proofs.YtehkiojohldlgaaGreatDoor.Utf Go.Proofs.YtehkiojohldlgaaGreatDoor.Oct Go.Proofs.YtehkiojohldlgaaGreatDoor.Quo

theorem getD_left (p x : List UInt8) (i : Nat) (h : i < p.length) : (p ++ x).getD i 0 = p.getD i 0 := by
  rw [List.getD_eq_getElem?_getD, List.getElem?_append_left h, ← List.getD_eq_getElem?_getD]
theorem take_left (p x : List UInt8) (n : Nat) (h : n ≤ p.length) : (p ++ x).take n = p.take n := by
  rw [List.take_append, show n - p.length = 0 by omega, List.take_zero, List.append_nil]
theorem drop_left (p x : List UInt8) (n : Nat) (h : n ≤ p.length) : (p ++ x).drop n = p.drop n ++ x := by
  rw [List.drop_append, show n - p.length = 0 by omega, List.drop_zero]

/-! ### quoted strings -/
theorem nO_long (p x : List UInt8) (h : 6 ≤ p.length) : nO (p ++ x) = if p.take 2 = [92, 117] then hxF 0 ((p.drop 2).take 4) else none := by
  unfold nO
  rw [take_left p x 2 (by omega), drop_left p x 2 (by omega)]
  unfold h4
  have hl : 4 ≤ (p.drop 2 ++ x).length := by rw [List.length_append, List.length_drop]; omega
  rw [if_pos hl, take_left _ x 4 (by rw [List.length_drop]; omega)]
theorem nP_alone {n : Nat} (h : vB n = true) (o : Option Nat) : nP n o = (n, 6) := by
  unfold nP
  cases o with
  | none => rfl
  | some m =>
    simp only
    rw [if_neg]
    unfold pr vB at *
    simp only [decide_eq_true_eq] at *
    omega
theorem nP_six {n : Nat} {o : Option Nat} (h : (nP n o).2 = 6) : (nP n o).1 = n := by
  unfold nP at h ⊢
  cases o with
  | none => rfl
  | some m =>
    simp only at h ⊢
    split
    · rename_i hp; rw [if_pos hp] at h; cases h
    · rfl
theorem escL_keep (p r t : List UInt8) (h : (escL (p ++ r)).1 = 0) (hm : (escL (p ++ r)).2.1 ≤ p.length) : escL (p ++ t) = escL (p ++ r) := by
  have h1 := (escL_ok h).1
  have hg : 2 ≤ p.length → (p ++ t).getD 1 0 = (p ++ r).getD 1 0 := fun h2 => by rw [getD_left p t 1 (by omega), getD_left p r 1 (by omega)]
  unfold escL at h hm ⊢
  by_cases hl : ltN ((p ++ r).getD 1 0).toNat < 256
  · rw [if_pos hl] at hm ⊢
    simp only at hm
    rw [hg hm, if_pos hl]
  · rw [if_neg hl] at h hm ⊢
    cases hn : nO (p ++ r) with
    | none => rw [hn] at h; cases h
    | some n =>
      rw [hn] at h hm
      simp only at h hm ⊢
      by_cases hv : vB (nP n (nO ((p ++ r).drop 6))).1 = true
      · rw [if_pos hv] at hm
        simp only at hm
        have h6 : 6 ≤ p.length := by rcases nP_size n (nO ((p ++ r).drop 6)) with e | ⟨e, _⟩ <;> omega
        have e1 : nO (p ++ t) = some n := by rw [nO_long p t h6, ← nO_long p r h6, hn]
        rw [hg (by omega), if_neg hl, e1]
        simp only
        have e2 : nP n (nO ((p ++ t).drop 6)) = nP n (nO ((p ++ r).drop 6)) := by
          rcases nP_size n (nO ((p ++ r).drop 6)) with e | ⟨e, _⟩
          · have e3 := nP_six e
            rw [e3] at hv
            rw [nP_alone hv, nP_alone hv]
          · rw [drop_left p t 6 h6, drop_left p r 6 h6, nO_long _ t (by rw [List.length_drop]; omega), nO_long _ r (by rw [List.length_drop]; omega)]
        rw [e2]
      · rw [if_neg hv] at h; cases h
theorem wL_keep (p r t : List UInt8) (h : 0 < wL (p ++ r)) (hm : wL (p ++ r) ≤ p.length) : wL (p ++ t) = wL (p ++ r) := by
  have hv : vN (nL (p ++ r)) := rnL_valid _ _ (by rw [rnL_step h]; exact List.mem_cons_self)
  have e := enc_wL h
  rw [take_left p r _ hm] at e
  have e2 : p ++ t = encodeRune (nL (p ++ r) : Int) ++ (p.drop (wL (p ++ r)) ++ t) := by
    rw [e, ← List.append_assoc, List.take_append_drop]
  rw [e2, (wL_enc _ _ hv).1, e, List.length_take]
  omega
theorem stp_keep (p r t : List UInt8) (hp : p ≠ []) (h : (stp (p ++ r)).1 = 0) (hm : (stp (p ++ r)).2.1 ≤ p.length) : stp (p ++ t) = stp (p ++ r) := by
  have h0 := List.length_pos_iff.2 hp
  have hg : (p ++ t).getD 0 0 = (p ++ r).getD 0 0 := by rw [getD_left p t 0 h0, getD_left p r 0 h0]
  unfold stp at h hm ⊢
  rw [hg]
  by_cases h1 : ((p ++ r).getD 0 0).toNat = 92
  · rw [if_pos h1] at h hm
    rw [if_pos h1, if_pos h1]
    exact escL_keep p r t h hm
  · rw [if_neg h1] at h hm
    rw [if_neg h1, if_neg h1]
    by_cases h2 : ((p ++ r).getD 0 0).toNat < 32
    · rw [if_pos h2] at h; cases h
    · rw [if_neg h2] at h hm
      rw [if_neg h2, if_neg h2]
      by_cases h3 : wL (p ++ r) = 0
      · rw [if_pos h3] at h; cases h
      · rw [if_neg h3] at hm
        simp only at hm
        rw [wL_keep p r t (by omega) hm, if_neg h3, if_neg h3, take_left p t _ hm, take_left p r _ hm]
theorem tkQ_len : ∀ (n : Nat) (p r t : List UInt8), p.length < n → (tkQ (p ++ r)).1 = 0 → (tkQ (p ++ r)).2.1 ≤ p.length → tkQ (p ++ t) = tkQ (p ++ r)
  | 0, _, _, _, h, _, _ => by omega
  | n + 1, p, r, t, hn, h, hm => by
    have h1 := (tkQ_end (p ++ r) h).1
    have hp : p ≠ [] := by rintro rfl; rw [List.length_nil] at hm; omega
    have h0 := List.length_pos_iff.2 hp
    have hg : (p ++ t).getD 0 0 = (p ++ r).getD 0 0 := by rw [getD_left p t 0 h0, getD_left p r 0 h0]
    have hr : p ++ r ≠ [] := by simp [hp]
    have ht : p ++ t ≠ [] := by simp [hp]
    by_cases h34 : ((p ++ r).getD 0 0).toNat = 34
    · rw [tkQ_close h34, tkQ_close (by rw [hg]; exact h34)]
    · by_cases hs : (stp (p ++ r)).1 = 0
      · have hst := tkQ_step hr h34 hs
        have hok := stp_ok hr hs
        rw [hst] at h hm
        simp only at h hm
        have hk := stp_keep p r t hp hs (by omega)
        rw [drop_left p r _ (by omega)] at h hm
        have ih := tkQ_len n (p.drop (stp (p ++ r)).2.1) r t (by rw [List.length_drop]; omega) h (by rw [List.length_drop]; omega)
        rw [tkQ_step ht (by rw [hg]; exact h34) (by rw [hk]; exact hs), hst, hk, drop_left p r _ (by omega), drop_left p t _ (by omega), ih]
      · rw [tkQ_bad hr h34 hs] at h
        exact absurd h hs
/-- What is taken hangs on the bytes taken alone. -/
theorem tkQ_keep (p r t : List UInt8) (h : (tkQ (p ++ r)).1 = 0) (hm : (tkQ (p ++ r)).2.1 ≤ p.length) : tkQ (p ++ t) = tkQ (p ++ r) := tkQ_len (p.length + 1) p r t (by omega) h hm

/-! ### tokens -/
theorem dgs_keep : ∀ (p : List UInt8) (r : List UInt8) (c : UInt8) (t : List UInt8), dgs (p ++ r) = p.length → dg c.toNat = false → dgs (p ++ c :: t) = p.length
  | [], r, c, t, _, hc => by rw [List.nil_append, dgs, if_neg (by simp [hc])]; rfl
  | a :: p, r, c, t, h, hc => by
    rw [List.cons_append, dgs] at h ⊢
    by_cases hd : dg a.toNat = true
    · rw [if_pos hd] at h ⊢
      rw [List.length_cons] at h ⊢
      rw [dgs_keep p r c t (by omega) hc]
    · rw [if_neg hd] at h
      simp at h
theorem hd_left (p x : List UInt8) (h : p ≠ []) : hd (p ++ x) = hd p := by unfold hd; rw [getD_left p x 0 (List.length_pos_iff.2 h)]
theorem dgc_keep (p r : List UInt8) (c : UInt8) (t : List UInt8) (hp : p ≠ []) (h : dgc (p ++ r) = p.length) (hc : dg c.toNat = false) : dgc (p ++ c :: t) = p.length := by
  unfold dgc at h ⊢
  rw [hd_left p _ hp] at h ⊢
  by_cases h0 : hd p = 48
  · rw [if_pos h0] at h ⊢; exact h
  · rw [if_neg h0] at h ⊢; exact dgs_keep p r c t h hc
theorem bl_dg (c : Nat) (h : bl c = true) : dg c = false ∧ mk c = false := by
  unfold bl at h; unfold dg mk
  simp only [decide_eq_true_eq, decide_eq_false_iff_not] at *
  omega
theorem num_keep (p r : List UInt8) (c : UInt8) (t : List UInt8) (h : (num (p ++ r)).1 = 0) (hz : (num (p ++ r)).2.z = p.length) (hc : bl c.toNat = true) : num (p ++ c :: t) = num (p ++ r) := by
  obtain ⟨e, h1, h2, h3⟩ := num_good _ h
  obtain ⟨c1, c2⟩ := bl_dg _ hc
  rw [e] at hz
  simp only at hz
  have hp : p ≠ [] := by rintro rfl; rw [List.length_nil] at hz; omega
  have hs : ∀ x, sgn (p ++ x) = sgn p := fun x => by unfold sgn; rw [hd_left p x hp]
  have hsl := sgn_le1 p
  rw [hs] at hz
  have hsp : sgn p < p.length := by omega
  have hdr : ∀ x, (p ++ x).drop (sgn p) = p.drop (sgn p) ++ x := fun x => drop_left p x _ (by omega)
  have hpd : p.drop (sgn p) ≠ [] := fun e => by have := congrArg List.length e; rw [List.length_drop] at this; simp at this; omega
  have hdc : dc (p ++ c :: t) = dc (p ++ r) := by
    have : dc (p ++ r) = (p.drop (sgn p)).length := by rw [List.length_drop]; omega
    rw [this]
    unfold dc at this ⊢
    rw [hs, hdr] at this ⊢
    exact dgc_keep _ r c t hpd this c1
  have hvz : vz (p ++ c :: t) = vz (p ++ r) := by
    unfold vz
    rw [hdc, hs, hs, hdr, hdr, take_left _ _ _ (by rw [List.length_drop]; omega), take_left _ _ _ (by rw [List.length_drop]; omega)]
  have hvi : vi (p ++ c :: t) = vi (p ++ r) := by unfold vi; rw [hvz, hs, hs]
  have hvo : vo (p ++ c :: t) = true := by unfold vo at h3 ⊢; rw [hvi]; exact h3
  rw [e]
  unfold num
  rw [hdc, hs, hs, if_neg (by omega), hz, if_neg, hvo, if_pos rfl, hvi]
  rw [List.getD_eq_getElem?_getD, List.getElem?_append_right (Nat.le_refl _), Nat.sub_self]
  simp [c2]
theorem take_app {l x : List UInt8} {n : Nat} (h : l.take n = x) (p r : List UInt8) (e : l = p ++ r) (hp : n ≤ p.length) (t : List UInt8) : (p ++ t).take n = x := by
  rw [take_left p t n hp, ← take_left p r n hp, ← e, h]
/-- A token stays when a blank follows. -/
theorem tok_keep (p r : List UInt8) (c : UInt8) (t : List UInt8) (hp : p ≠ []) (h : (tok (p ++ r)).1 = 0) (hz : (tok (p ++ r)).2.z = p.length) (hc : bl c.toNat = true) : tok (p ++ c :: t) = tok (p ++ r) := by
  have hpl := List.length_pos_iff.2 hp
  unfold tok at h hz ⊢
  have hn : ∀ x, p ++ x ≠ [] := fun x => by simp [hp]
  rw [if_neg (hn _)] at h hz ⊢
  rw [if_neg (hn _), hd_left p _ hp]
  rw [hd_left p _ hp] at h hz ⊢
  by_cases h1 : sg (hd p) ≠ 0
  · rw [if_pos h1, if_pos h1]
  · rw [if_neg h1] at h hz
    rw [if_neg h1, if_neg h1]
    by_cases h2 : hd p = 34
    · rw [if_pos h2] at h hz
      rw [if_pos h2, if_pos h2]
      unfold txt at h hz ⊢
      rw [drop_left p r 1 hpl] at h hz ⊢
      rw [drop_left p _ 1 hpl]
      by_cases h3 : (tkQ (p.drop 1 ++ r)).1 = 0
      · rw [if_pos h3] at hz
        simp only at hz
        rw [tkQ_keep (p.drop 1) r (c :: t) h3 (by rw [List.length_drop]; omega)]
      · rw [if_neg h3] at h; exact absurd h h3
    · rw [if_neg h2] at h hz
      rw [if_neg h2, if_neg h2]
      by_cases h3 : hd p = 45 ∨ dg (hd p) = true
      · rw [if_pos h3] at h hz
        rw [if_pos h3, if_pos h3]
        exact num_keep p r c t h hz hc
      · rw [if_neg h3] at h hz
        rw [if_neg h3, if_neg h3]
        rcases wrd_cases (p ++ r) with ⟨e, _, h4⟩ | ⟨e, _, h4⟩ | ⟨e, _, h4⟩ | ⟨e, _⟩
        · rw [e] at hz
          have h5 := take_app h4 p r rfl (by simp only at hz; omega) (c :: t)
          rw [e]; unfold wrd; rw [if_pos h5]
        · rw [e] at hz
          have h5 := take_app h4 p r rfl (by simp only at hz; omega) (c :: t)
          rw [e]; unfold wrd
          rw [if_neg, if_pos h5]
          intro h6
          have h7 := congrArg (List.take 4) h5
          rw [List.take_take, show min 4 5 = 4 from rfl, h6] at h7
          exact absurd h7 (by decide)
        · rw [e] at hz
          have h5 := take_app h4 p r rfl (by simp only at hz; omega) (c :: t)
          rw [e]; unfold wrd
          rw [if_neg, if_neg, if_pos h5]
          · intro h6
            have h7 := congrArg (List.take 4) h6
            rw [List.take_take, show min 4 5 = 4 from rfl, h5] at h7
            exact absurd h7 (by decide)
          · rw [h5]; decide
        · rw [e] at h; cases h

/-! ### laid behind one another -/
/-- A token's bytes in S, with the blank c behind each. -/
def piece (S : List UInt8) (c : UInt8) (x : Tk) : List UInt8 := (S.drop x.o).take x.z ++ [c]
def laid (S : List UInt8) (c : UInt8) (L : List Tk) : List UInt8 := L.flatMap (piece S c)
theorem laid_cons (S : List UInt8) (c : UInt8) (x : Tk) (L : List Tk) : laid S c (x :: L) = (S.drop x.o).take x.z ++ c :: laid S c L := by simp [laid, piece]
theorem laid_nil (S : List UInt8) (c : UInt8) : laid S c [] = [] := rfl
/-- All but the place. -/
def core (x : Tk) : Nat × Nat × List UInt8 × Int := (x.k, x.z, x.v, x.n)
theorem skp_none {l : List UInt8} (h : bl (hd l) = false) : skp l = 0 := by
  cases l with
  | nil => rfl
  | cons c l => rw [skp, if_neg]; unfold hd at h; simpa using h
theorem skp_head (l : List UInt8) : bl (hd (l.drop (skp l))) = false := by
  induction l with
  | nil => rfl
  | cons c l ih =>
    rw [skp]
    by_cases h : bl c.toNat = true
    · rw [if_pos h, List.drop_succ_cons]; exact ih
    · rw [if_neg h, List.drop_zero]; unfold hd; simpa using h
theorem skp_cons {c : UInt8} (l : List UInt8) (h : bl c.toNat = true) : skp (c :: l) = skp l + 1 := by rw [skp, if_pos h]
/-- The blanks ahead of a text: none, or one. -/
theorem nx_pre {pre : List UInt8} (h : ∀ c ∈ pre, bl c.toNat = true) (l : List UInt8) : nx (pre ++ l) = ((nx l).1, (nx l).2.sh pre.length) ∧ skp (pre ++ l) = pre.length + skp l := by
  induction pre with
  | nil => refine ⟨?_, by simp⟩; simp [Tk.sh]
  | cons c pre ih =>
    obtain ⟨i1, i2⟩ := ih fun d hd => h d (List.mem_cons_of_mem _ hd)
    have hs : skp (c :: (pre ++ l)) = skp (pre ++ l) + 1 := skp_cons _ (h c List.mem_cons_self)
    have e : nx (c :: (pre ++ l)) = ((nx (pre ++ l)).1, (nx (pre ++ l)).2.sh 1) := by
      unfold nx
      rw [hs, List.drop_succ_cons]
      refine Prod.ext rfl ?_
      simp [Tk.sh]; omega
    rw [List.cons_append, e, i1, hs, i2]
    refine ⟨Prod.ext rfl ?_, by rw [List.length_cons]; omega⟩
    simp [Tk.sh]; omega
theorem tok_end {l : List UInt8} (h : (nx l).1 = 0) (hk : (nx l).2.k = 0) : (nx l).2.v = [] ∧ (nx l).2.n = 0 := by
  have h1 := (nx_good l h).2.2.1.1 hk
  have h2 : l.drop (skp l) = [] := by rw [h1, List.drop_length]
  unfold nx
  rw [h2]
  exact ⟨rfl, rfl⟩
theorem piece_split (S : List UInt8) (b : Nat) (l : List UInt8) (hl : l = S.drop b) (o z : Nat) : (S.drop (b + o)).take z = (l.drop o).take z := by rw [hl, List.drop_drop]
/-- What was laid is cut into the same tokens. -/
theorem again (S : List UInt8) (c : UInt8) (hc : bl c.toNat = true) (b : Nat) (l : List UInt8) : ∀ (pre : List UInt8) (b2 : Nat), l = S.drop b → (tkA b l).1 = 0 → (∀ d ∈ pre, bl d.toNat = true) →
    ∃ M, tkA b2 (pre ++ laid S c (tkA b l).2.2) = (0, 0, M) ∧ M.map core = (tkA b l).2.2.map core := by
  refine tok_ind (p := fun b l => ∀ (pre : List UInt8) (b2 : Nat), l = S.drop b → (tkA b l).1 = 0 → (∀ d ∈ pre, bl d.toNat = true) →
    ∃ M, tkA b2 (pre ++ laid S c (tkA b l).2.2) = (0, 0, M) ∧ M.map core = (tkA b l).2.2.map core) ?_ ?_ ?_ b l
  · intro b l h pre b2 hl h0 hpre
    rw [tkA_bad b l h] at h0
    exact absurd h0 h
  · intro b l h hk pre b2 hl h0 hpre
    have hg := nx_good l h
    have hz := hg.2.2.2.1.2 hk
    rw [tkA_end b l h hk, laid_cons, laid_nil]
    have e0 : ((nx l).2.sh b).z = 0 := hz
    rw [e0, List.take_zero, List.nil_append]
    have hn := nx_pre (pre := pre ++ [c]) (by
      intro d hd
      rcases List.mem_append.1 hd with h1 | h1
      · exact hpre d h1
      · rw [List.mem_singleton.1 h1]; exact hc) []
    have e1 : nx [] = (0, bad 0) := rfl
    rw [List.append_nil, e1] at hn
    have hx1 : (nx (pre ++ [c])).1 = 0 := by rw [hn.1]
    have hx2 : (nx (pre ++ [c])).2.k = 0 := by rw [hn.1]; rfl
    refine ⟨_, tkA_end b2 _ hx1 hx2, ?_⟩
    have ht := tok_end h hk
    rw [hn.1, List.map_cons, List.map_cons]
    congr 1
    show (0, 0, [], 0) = ((nx l).2.k, (nx l).2.z, (nx l).2.v, (nx l).2.n)
    rw [hk, hz, ht.1, ht.2]
  · intro b l h hk ih pre b2 hl h0 hpre
    have hst := nx_step l h hk
    have hg := nx_good l h
    have h1 := tkA_step b l h hk
    have hq : (tkA (b + (nx l).2.o + (nx l).2.z) (l.drop ((nx l).2.o + (nx l).2.z))).1 = 0 := by
      by_cases hq : (tkA (b + (nx l).2.o + (nx l).2.z) (l.drop ((nx l).2.o + (nx l).2.z))).1 = 0
      · exact hq
      · rw [h1, if_neg hq] at h0; exact h0
    rw [if_pos hq] at h1
    have e1 : (tkA b l).2.2 = (nx l).2.sh b :: (tkA (b + (nx l).2.o + (nx l).2.z) (l.drop ((nx l).2.o + (nx l).2.z))).2.2 := by rw [h1]
    obtain ⟨M, hM, hF⟩ := ih [c] (b2 + (pre.length + (nx l).2.z)) (by rw [hl, List.drop_drop]; congr 1; omega) hq (by intro d hd; rw [List.mem_singleton.1 hd]; exact hc)
    rw [e1]
    generalize (tkA (b + (nx l).2.o + (nx l).2.z) (l.drop ((nx l).2.o + (nx l).2.z))).2.2 = L at *
    rw [laid_cons]
    obtain ⟨P, hP⟩ : ∃ P, P = (l.drop (skp l)).take (nx l).2.z := ⟨_, rfl⟩
    have hs := skp_le l
    have ho := hg.1
    have hPl : P.length = (nx l).2.z := by rw [hP, List.length_take, List.length_drop]; omega
    have e2 : (S.drop ((nx l).2.sh b).o).take ((nx l).2.sh b).z = P := by
      rw [hP]; show (S.drop (b + (nx l).2.o)).take (nx l).2.z = _
      rw [ho]; exact piece_split S b l hl _ _
    rw [e2]
    have hP0 : P ≠ [] := fun e => by rw [e] at hPl; simp at hPl; omega
    have hsplit : l.drop (skp l) = P ++ (l.drop (skp l)).drop (nx l).2.z := by rw [hP, List.take_append_drop]
    obtain ⟨R, hR⟩ : ∃ R, R = (l.drop (skp l)).drop (nx l).2.z := ⟨_, rfl⟩
    rw [← hR] at hsplit
    have hb0 : bl (hd P) = false := by have := skp_head l; rw [hsplit, hd_left P R hP0] at this; exact this
    have ht : tok (P ++ c :: laid S c L) = tok (P ++ R) := tok_keep P R c _ hP0 (by rw [← hsplit]; exact h) (by rw [← hsplit, hPl]; rfl) hc
    have hsk : skp (P ++ c :: laid S c L) = 0 := skp_none (by rw [hd_left P _ hP0]; exact hb0)
    have hnx : nx (P ++ c :: laid S c L) = (0, ⟨(nx l).2.k, 0, (nx l).2.z, (nx l).2.v, (nx l).2.n⟩) := by
      unfold nx
      rw [hsk, List.drop_zero, ht, ← hsplit]
      have hto := (tok_good (l.drop (skp l)) h).1
      refine Prod.ext h ?_
      show Tk.sh 0 _ = _
      unfold Tk.sh
      rw [hto]
    obtain ⟨np, _⟩ := nx_pre hpre (P ++ c :: laid S c L)
    rw [hnx] at np
    have n1 : (nx (pre ++ (P ++ c :: laid S c L))).1 = 0 := by rw [np]
    have n2 : (nx (pre ++ (P ++ c :: laid S c L))).2.k ≠ 0 := by rw [np]; exact hk
    have hst2 := tkA_step b2 _ n1 n2
    have eo : (nx (pre ++ (P ++ c :: laid S c L))).2.o = pre.length := by rw [np]; rfl
    have ez : (nx (pre ++ (P ++ c :: laid S c L))).2.z = (nx l).2.z := by rw [np]; rfl
    rw [eo, ez] at hst2
    have ed : (pre ++ (P ++ c :: laid S c L)).drop (pre.length + (nx l).2.z) = [c] ++ laid S c L := by
      rw [← List.append_assoc, show pre.length + (nx l).2.z = (pre ++ P).length by rw [List.length_append, hPl], List.drop_left]; rfl
    rw [ed, show b2 + pre.length + (nx l).2.z = b2 + (pre.length + (nx l).2.z) by omega, hM, if_pos rfl] at hst2
    refine ⟨_, hst2, ?_⟩
    rw [List.map_cons, List.map_cons, hF, np]
    rfl
end Go.Proofs.YtehkiojohldlgaaGreatDoor.Lx

namespace Go.Proofs.YtehkiojohldlgaaGreatDoor.Tre
open Go.Lib Go.Proofs.YtehkiojohldlgaaGreatDoor.Utf

/-- A value: its kind, its number, its text, its items, its names. -/
inductive Vt where
  | mk (k n : Int) (s : ByteArray) (l : List Vt) (ns : List ByteArray)
def Vt.k : Vt → Int | .mk k _ _ _ _ => k
def Vt.n : Vt → Int | .mk _ n _ _ _ => n
def Vt.s : Vt → ByteArray | .mk _ _ s _ _ => s
def Vt.l : Vt → List Vt | .mk _ _ _ l _ => l
def Vt.ns : Vt → List ByteArray | .mk _ _ _ _ ns => ns
def V0 : Vt := .mk 0 0 ⟨#[]⟩ [] []
theorem Vt.eta (v : Vt) : v = .mk v.k v.n v.s v.l v.ns := by cases v; rfl

mutual
def cnt : Vt → Nat
  | .mk _ _ _ l _ => 1 + cntL l
def cntL : List Vt → Nat
  | [] => 0
  | x :: l => cnt x + cntL l
end
def textB (s : ByteArray) : Bool := decide (badL s.data.toList = none)
/-- Are names texts, and none twice? -/
def nmB (ns : List ByteArray) : Bool := ns.all textB && decide ns.Nodup
def noneB (s : ByteArray) : Bool := decide (s = ⟨#[]⟩)
def scal (l : List Vt) (ns : List ByteArray) : Bool := l.isEmpty && ns.isEmpty
/-- What is asked of a value itself, its items aside. -/
def hdB (k n : Int) (s : ByteArray) (l : List Vt) (ns : List ByteArray) (m : Int) : Bool :=
  if k = 0 then decide (n = 0) && noneB s && scal l ns
  else if k = 1 then decide (n = 0 ∨ n = 1) && noneB s && scal l ns
  else if k = 2 then noneB s && scal l ns
  else if k = 3 then decide (n = 0) && textB s && scal l ns
  else if k = 4 then ns.isEmpty && decide (n = 0) && noneB s && decide (1 ≤ m)
  else if k = 5 then decide (ns.length = l.length) && nmB ns && decide (n = 0) && noneB s && decide (1 ≤ m)
  else false
mutual
/-- Is a value right, of at most m levels? -/
def wi : Vt → Int → Bool
  | .mk k n s l ns, m => hdB k n s l ns m && wiL l (m - 1)
def wiL : List Vt → Int → Bool
  | [], _ => true
  | x :: l, m => wi x m && wiL l m
end
mutual
def smB : Vt → Vt → Bool
  | .mk k n s l ns, .mk k' n' s' l' ns' => decide (k = k' ∧ n = n' ∧ s = s' ∧ ns = ns') && smL l l'
def smL : List Vt → List Vt → Bool
  | [], [] => true
  | x :: l, y :: l' => smB x y && smL l l'
  | _, _ => false
end
/-- The order of names. -/
def ltB (a b : ByteArray) : Bool := decide (a.data.toList < b.data.toList)
def ins (p : ByteArray × Vt) : List (ByteArray × Vt) → List (ByteArray × Vt)
  | [] => [p]
  | q :: l => if ltB q.1 p.1 = true then q :: ins p l else p :: q :: l
/-- Sorted by names; equal names keep their order. -/
def isort : List (ByteArray × Vt) → List (ByteArray × Vt)
  | [] => []
  | p :: l => ins p (isort l)
def mkO (k n : Int) (s : ByteArray) (l : List Vt) (ns : List ByteArray) : Vt :=
  if k = 5 ∧ ns.length = l.length then .mk k n s ((isort (ns.zip l)).map Prod.snd) ((isort (ns.zip l)).map Prod.fst) else .mk k n s l ns
mutual
def srt : Vt → Vt
  | .mk k n s l ns => mkO k n s (srtL l) ns
def srtL : List Vt → List Vt
  | [] => []
  | x :: l => srt x :: srtL l
end
/-- What stands under a name. -/
def fnd : List ByteArray → List Vt → ByteArray → Option Vt
  | m :: ns, x :: l, s => if m = s then some x else fnd ns l s
  | _, _, _ => none
def find (v : Vt) (s : ByteArray) : Option Vt := if v.k = 5 then fnd v.ns v.l s else none

/-! ### by its parts -/
theorem cntL_mem {x : Vt} : ∀ {l : List Vt}, x ∈ l → cnt x ≤ cntL l
  | [], h => by cases h
  | y :: l, h => by
    rw [cntL]
    rcases List.mem_cons.1 h with rfl | h
    · omega
    · have := cntL_mem h; omega
theorem part_lt {v x : Vt} (h : x ∈ v.l) : cnt x < cnt v := by
  cases v with
  | mk k n s l ns => have := cntL_mem (l := l) h; rw [cnt]; omega
/-- By its parts. -/
theorem vt_ind {p : Vt → Prop} (h : ∀ v, (∀ x ∈ v.l, p x) → p v) (v : Vt) : p v := by
  have key : ∀ n (v : Vt), cnt v < n → p v := by
    intro n
    induction n with
    | zero => intro v hv; omega
    | succ n ih => intro v hv; exact h v fun x hx => ih x (by have := part_lt hx; omega)
  exact key (cnt v + 1) v (by omega)
theorem srtL_map : ∀ l : List Vt, srtL l = l.map srt
  | [] => rfl
  | x :: l => by rw [srtL, srtL_map l]; rfl
theorem wiL_all (m : Int) : ∀ l : List Vt, wiL l m = l.all fun x => wi x m
  | [] => rfl
  | x :: l => by rw [wiL, wiL_all m l]; rfl
theorem cntL_sum : ∀ l : List Vt, cntL l = (l.map cnt).sum
  | [] => rfl
  | x :: l => by rw [cntL, cntL_sum l]; rfl
/-! ### the same -/
theorem smL_len : ∀ (l m : List Vt), smL l m = true → l.length = m.length
  | [], [], _ => rfl
  | [], _ :: _, h => by rw [smL] at h; cases h; all_goals simp
  | _ :: _, [], h => by rw [smL] at h; cases h; all_goals simp
  | x :: l, y :: m, h => by rw [smL, Bool.and_eq_true] at h; rw [List.length_cons, List.length_cons, smL_len l m h.2]
theorem sm_iff (v : Vt) : ∀ w, smB v w = true ↔ v = w := by
  refine vt_ind (p := fun v => ∀ w, smB v w = true ↔ v = w) ?_ v
  intro v ih w
  cases v with
  | mk k n s l ns =>
    cases w with
    | mk k' n' s' l' ns' =>
      have hl : ∀ (l l' : List Vt), (∀ x ∈ l, ∀ w, smB x w = true ↔ x = w) → (smL l l' = true ↔ l = l') := by
        intro l
        induction l with
        | nil => intro l' _; cases l' with
          | nil => simp [smL]
          | cons y m => simp [smL]
        | cons x l ihl =>
          intro l' h
          cases l' with
          | nil => simp [smL]
          | cons y m =>
            rw [smL, Bool.and_eq_true, h x List.mem_cons_self y, ihl m fun z hz => h z (List.mem_cons_of_mem _ hz)]
            simp
      rw [smB, Bool.and_eq_true, hl l l' ih]
      simp only [decide_eq_true_eq, Vt.mk.injEq]
      constructor
      · rintro ⟨⟨a, b, c, d⟩, e⟩; exact ⟨a, b, c, e, d⟩
      · rintro ⟨a, b, c, e, d⟩; exact ⟨⟨a, b, c, d⟩, e⟩
theorem sm_self (v : Vt) : smB v v = true := (sm_iff v v).2 rfl

/-! ### sorted -/
theorem ins_perm (p : ByteArray × Vt) : ∀ l, (ins p l).Perm (p :: l)
  | [] => List.Perm.refl _
  | q :: l => by
    rw [ins]
    split
    · exact ((ins_perm p l).cons q).trans (List.Perm.swap p q l)
    · exact List.Perm.refl _
theorem isort_perm : ∀ l, (isort l).Perm l
  | [] => List.Perm.refl _
  | p :: l => by rw [isort]; exact (ins_perm p _).trans ((isort_perm l).cons p)
theorem lt_trans {a b c : ByteArray} (h : ltB a b = true) (k : ltB b c = true) : ltB a c = true := by
  unfold ltB at *
  simp only [decide_eq_true_eq] at *
  exact List.lt_trans h k
theorem lt_irrefl (a : ByteArray) : ltB a a = false := by
  unfold ltB
  simp only [decide_eq_false_iff_not]
  exact List.lt_irrefl _
theorem lt_total {a b : ByteArray} (h : ltB a b = false) (k : ltB b a = false) : a = b := by
  unfold ltB at *
  simp only [decide_eq_false_iff_not] at *
  exact ByteArray.ext (Array.toList_inj.1 (List.le_antisymm (List.not_lt.1 k) (List.not_lt.1 h)))
theorem le_trans {a b c : ByteArray} (h : ltB b a = false) (k : ltB c b = false) : ltB c a = false := by
  unfold ltB at *
  simp only [decide_eq_false_iff_not] at *
  exact List.not_lt.2 (List.le_trans (List.not_lt.1 h) (List.not_lt.1 k))
/-! ### what sorting keeps -/
theorem zip_snd {l : List ByteArray} {m : List Vt} (h : l.length = m.length) : (l.zip m).map Prod.snd = m := List.map_snd_zip (by omega)
theorem zip_fst {l : List ByteArray} {m : List Vt} (h : l.length = m.length) : (l.zip m).map Prod.fst = l := List.map_fst_zip (by omega)
theorem items_perm {l : List ByteArray} {m : List Vt} (h : l.length = m.length) : ((isort (l.zip m)).map Prod.snd).Perm m := by
  have := (isort_perm (l.zip m)).map Prod.snd
  rwa [zip_snd h] at this
theorem names_perm {l : List ByteArray} {m : List Vt} (h : l.length = m.length) : ((isort (l.zip m)).map Prod.fst).Perm l := by
  have := (isort_perm (l.zip m)).map Prod.fst
  rwa [zip_fst h] at this
/-! ### right objects -/
/-! ### turned about -/
end Go.Proofs.YtehkiojohldlgaaGreatDoor.Tre

namespace Go.Proofs.YtehkiojohldlgaaGreatDoor.Lx
open Go.Lib Go.Proofs.YtehkiojohldlgaaGreatDoor.Utf Go.Proofs.YtehkiojohldlgaaGreatDoor.Oct Go.Proofs.YtehkiojohldlgaaGreatDoor.Quo

end Go.Proofs.YtehkiojohldlgaaGreatDoor.Lx

namespace Go.Proofs.YtehkiojohldlgaaGreatDoor.Lx
open Go.Lib Go.Proofs.YtehkiojohldlgaaGreatDoor.Utf Go.Proofs.YtehkiojohldlgaaGreatDoor.Oct Go.Proofs.YtehkiojohldlgaaGreatDoor.Quo

def d8 (k : Nat) : UInt8 := UInt8.ofNat (48 + k)
theorem d8_nat {k : Nat} (h : k < 10) : (d8 k).toNat = 48 + k := by unfold d8; rw [UInt8.toNat_ofNat']; omega
def dcF : Nat → Nat → List UInt8
  | 0, _ => []
  | f + 1, u => if u < 10 then [d8 u] else dcF f (u / 10) ++ [d8 (u % 10)]
/-- A number's digits. -/
def dcL (u : Nat) : List UInt8 := dcF 20 u
theorem dcF_fuel : ∀ (f g u : Nat), u < 10 ^ f → u < 10 ^ g → 0 < f → 0 < g → dcF f u = dcF g u
  | 0, _, _, _, _, h, _ => by omega
  | _ + 1, 0, _, _, _, _, h => by omega
  | f + 1, g + 1, u, hf, hg, _, _ => by
    rw [dcF, dcF]
    by_cases h : u < 10
    · rw [if_pos h, if_pos h]
    · rw [if_neg h, if_neg h]
      rw [Nat.pow_succ] at hf hg
      have hf2 : u / 10 < 10 ^ f := by omega
      have hg2 : u / 10 < 10 ^ g := by omega
      have f0 : 0 < f := by rcases f with _ | f; · simp at hf; omega
                            · omega
      have g0 : 0 < g := by rcases g with _ | g; · simp at hg; omega
                            · omega
      rw [dcF_fuel f g (u / 10) hf2 hg2 f0 g0]
theorem dcL_low {u : Nat} (h : u < 10) : dcL u = [d8 u] := by unfold dcL; rw [dcF, if_pos h]
theorem dcL_high {u : Nat} (h : ¬ u < 10) (h2 : u < 18446744073709551616) : dcL u = dcL (u / 10) ++ [d8 (u % 10)] := by
  conv => lhs; unfold dcL; rw [dcF, if_neg h]
  rw [dcF_fuel 19 20 (u / 10) (by omega) (by omega) (by omega) (by omega)]
  rfl
def allD (l : List UInt8) : Prop := ∀ c ∈ l, dg c.toNat = true
theorem vl_snoc (l : List UInt8) (c : UInt8) : vl (l ++ [c]) = 10 * vl l + (c.toNat - 48) := by unfold vl; rw [List.foldl_append]; rfl
theorem d8_dg {k : Nat} (h : k < 10) : dg (d8 k).toNat = true := by rw [d8_nat h]; unfold dg; simp; omega
theorem dc_rec {p : Nat → Prop} (h0 : ∀ u, u < 10 → p u) (h1 : ∀ u, ¬ u < 10 → p (u / 10) → p u) (u : Nat) : p u := by
  induction u using Nat.strongRecOn with
  | _ u ih =>
    by_cases h : u < 10
    · exact h0 u h
    · exact h1 u h (ih (u / 10) (by omega))
theorem dcL_facts (u : Nat) : u < 18446744073709551616 → dcL u ≠ [] ∧ allD (dcL u) ∧ vl (dcL u) = u ∧ (hd (dcL u) = 48 → u = 0) := by
  refine dc_rec (p := fun u => u < 18446744073709551616 → dcL u ≠ [] ∧ allD (dcL u) ∧ vl (dcL u) = u ∧ (hd (dcL u) = 48 → u = 0)) ?_ ?_ u
  · intro u h _
    rw [dcL_low h]
    refine ⟨by simp, ?_, ?_, ?_⟩
    · intro c hc; rw [List.mem_singleton.1 hc]; exact d8_dg h
    · show 10 * 0 + ((d8 u).toNat - 48) = u; rw [d8_nat h]; omega
    · intro e; have : hd [d8 u] = 48 + u := d8_nat h; omega
  · intro u h ih hu
    obtain ⟨i1, i2, i3, i4⟩ := ih (by omega)
    rw [dcL_high h hu]
    refine ⟨by simp, ?_, ?_, ?_⟩
    · intro c hc
      rcases List.mem_append.1 hc with h1 | h1
      · exact i2 c h1
      · rw [List.mem_singleton.1 h1]; exact d8_dg (by omega)
    · rw [vl_snoc, i3, d8_nat (by omega)]; omega
    · intro e
      rw [hd_left _ _ i1] at e
      have := i4 e
      omega
end Go.Proofs.YtehkiojohldlgaaGreatDoor.Lx

namespace Go.Proofs.YtehkiojohldlgaaGreatDoor.Ptr

/-- A byte of a part, escaped where it is a sign. -/
def eB (c : UInt8) : List UInt8 := if c = 126 then [126, 48] else if c = 47 then [126, 49] else [c]
def eL (l : List UInt8) : List UInt8 := l.flatMap eB
/-- The text of a path. -/
def putP (ps : List (List UInt8)) : List UInt8 := ps.flatMap fun p => 47 :: eL p
/-- What a text says behind the parts ds and the beginning p of one more. -/
def tk : List UInt8 → List (List UInt8) → List UInt8 → Option (List (List UInt8))
  | [], ds, p => some (ds ++ [p])
  | [c], ds, p => if c = 126 then none else if c = 47 then some (ds ++ [p] ++ [[]]) else some (ds ++ [p ++ [c]])
  | c :: d :: l, ds, p => if c = 126 then (if d = 48 then tk l ds (p ++ [126]) else if d = 49 then tk l ds (p ++ [47]) else none) else if c = 47 then tk (d :: l) (ds ++ [p]) [] else tk (d :: l) ds (p ++ [c])
def tkP (s : List UInt8) : Option (List (List UInt8)) :=
  match s with
  | [] => some []
  | c :: l => if c = 47 then tk l [] [] else none

theorem eL_nil : eL [] = [] := rfl
theorem eL_cons (c : UInt8) (l : List UInt8) : eL (c :: l) = eB c ++ eL l := by simp [eL]
theorem eL_snoc (l : List UInt8) (c : UInt8) : eL (l ++ [c]) = eL l ++ eB c := by simp [eL]
theorem putP_nil : putP [] = [] := rfl
theorem putP_cons (p : List UInt8) (ps : List (List UInt8)) : putP (p :: ps) = 47 :: (eL p ++ putP ps) := by simp [putP]
theorem putP_snoc (ps : List (List UInt8)) (p : List UInt8) : putP (ps ++ [p]) = putP ps ++ 47 :: eL p := by simp [putP]
theorem eB_len (c : UInt8) : 1 ≤ (eB c).length ∧ (eB c).length ≤ 2 := by
  unfold eB
  repeat' split
  all_goals simp
theorem eL_len (l : List UInt8) : (eL l).length ≤ 2 * l.length := by
  induction l with
  | nil => simp [eL]
  | cons c l ih => rw [eL_cons, List.length_append, List.length_cons]; have := (eB_len c).2; omega
theorem tk_len : ∀ (n : Nat) (l : List UInt8), l.length < n → ∀ (ds : List (List UInt8)) (p : List UInt8) (r : List (List UInt8)), tk l ds p = some r → putP r = putP (ds ++ [p]) ++ l
  | 0, _, h, _, _, _, _ => by omega
  | _ + 1, [], _, ds, p, r, h => by
    unfold tk at h
    rw [← Option.some.inj h, List.append_nil]
  | _ + 1, [c], _, ds, p, r, h => by
    unfold tk at h
    by_cases h1 : c = 126
    · rw [if_pos h1] at h; cases h
    · rw [if_neg h1] at h
      by_cases h2 : c = 47
      · rw [if_pos h2] at h
        rw [← Option.some.inj h, putP_snoc, h2]; rfl
      · rw [if_neg h2] at h
        rw [← Option.some.inj h, putP_snoc, putP_snoc, eL_snoc]
        unfold eB
        rw [if_neg h1, if_neg h2]
        simp
  | n + 1, c :: d :: l, hn, ds, p, r, h => by
    simp only [List.length_cons] at hn
    have e : ∀ x : UInt8, putP (ds ++ [p ++ [x]]) = putP (ds ++ [p]) ++ eB x := fun x => by rw [putP_snoc, putP_snoc, eL_snoc]; simp
    unfold tk at h
    by_cases h1 : c = 126
    · rw [if_pos h1] at h
      by_cases h2 : d = 48
      · rw [if_pos h2] at h
        rw [tk_len n l (by omega) ds _ r h, e, h1, h2]
        simp [eB]
      · rw [if_neg h2] at h
        by_cases h3 : d = 49
        · rw [if_pos h3] at h
          rw [tk_len n l (by omega) ds _ r h, e, h1, h3]
          simp [eB]
        · rw [if_neg h3] at h; cases h
    · rw [if_neg h1] at h
      by_cases h2 : c = 47
      · rw [if_pos h2] at h
        rw [tk_len n (d :: l) (by simp only [List.length_cons]; omega) _ _ r h, putP_snoc (ds ++ [p]), h2, eL_nil]
        simp
      · rw [if_neg h2] at h
        rw [tk_len n (d :: l) (by simp only [List.length_cons]; omega) _ _ r h, e]
        unfold eB
        rw [if_neg h1, if_neg h2]
        simp
end Go.Proofs.YtehkiojohldlgaaGreatDoor.Ptr
