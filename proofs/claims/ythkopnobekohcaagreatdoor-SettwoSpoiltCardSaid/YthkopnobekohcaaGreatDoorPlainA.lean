/- Plain facts of sequences of bytes and their numbers, over the model's own decoding; no program. Conditions: as each theorem states. · Plain facts on bytes of numbers and hexadecimal digits. No program. · Plain facts of quoted strings: what is put, what four digits and an escape say, what is taken; no program. Conditions: as each theorem states. · Plain facts of tokens: what stands at the head of a text, all tokens, what is cut again; no program. Conditions: as each theorem states. · Plain facts of tokens: what is read stays as it is when other bytes follow; tokens laid behind one another are cut again. Conditions: as each theorem states. · Plain facts of trees of values: how many, how deep, which are right, the same, sorted; no program. Conditions: as each theorem states. · Plain facts of all tokens: where they stand. Conditions: as each theorem states. · Plain facts of numbers' digits: what they are read as. Conditions: as each theorem states. -/
import Derived.Lib.MapLaws
import Derived.Lib.ValidLaws
import Derived.Lib.RuneCount
import Derived.Lib.TrimUEq
import Derived.Lib.RuneBytes
import Derived.Test.YthkopnobekohcaaGreatDoorRows
namespace Go.Proofs.YthkopnobekohcaaGreatDoor.Utf
open Go.Lib

/-- How many bytes the sequence at the head has; 0: there is none. -/
def wL (l : List UInt8) : Nat := if l = [] then 0 else if (decodeL l).1 = 65533 ∧ (decodeL l).2 = 1 then 0 else (decodeL l).2
/-- Its number. -/
def nL (l : List UInt8) : Nat := (decodeL l).1

theorem wL_nil : wL [] = 0 := rfl
theorem wL_good {l : List UInt8} (h : 0 < wL l) : l ≠ [] ∧ ¬ ((decodeL l).1 = 65533 ∧ (decodeL l).2 = 1) ∧ wL l = (decodeL l).2 := by
  unfold wL at h ⊢
  by_cases h1 : l = []
  · rw [if_pos h1] at h; omega
  · rw [if_neg h1] at h ⊢
    by_cases h2 : (decodeL l).1 = 65533 ∧ (decodeL l).2 = 1
    · rw [if_pos h2] at h; omega
    · rw [if_neg h2]; exact ⟨h1, h2, rfl⟩
theorem wL_bad {l : List UInt8} (hl : l ≠ []) (h : wL l = 0) : (decodeL l).1 = 65533 ∧ (decodeL l).2 = 1 := by
  unfold wL at h
  rw [if_neg hl] at h
  by_cases h2 : (decodeL l).1 = 65533 ∧ (decodeL l).2 = 1
  · exact h2
  · rw [if_neg h2] at h; have := decodeL_width l; omega
theorem wL_le (l : List UInt8) : wL l ≤ l.length := by
  unfold wL
  split
  · omega
  · split
    · omega
    · exact decodeL_le l (by assumption)
theorem decodeN_le4 (n b0 b1 b2 b3 : Nat) : (decodeN n b0 b1 b2 b3).2 ≤ 4 := by
  unfold decodeN
  repeat' split
  all_goals simp
theorem wL_le4 (l : List UInt8) : wL l ≤ 4 := by
  unfold wL
  split
  · omega
  · split
    · omega
    · rw [decodeL_N]; exact decodeN_le4 _ _ _ _ _
theorem enc_wL {l : List UInt8} (h : 0 < wL l) : encodeRune (nL l : Int) = l.take (wL l) := by
  obtain ⟨h1, h2, h3⟩ := wL_good h
  rw [h3]; exact encode_decode l h1 h2

/-! ### the first place that is bad; the numbers -/
def badF : Nat → List UInt8 → Option Nat
  | 0, _ => none
  | n + 1, l => if l = [] then none else if 0 < wL l then (badF n (l.drop (wL l))).map (· + wL l) else some 0
def rnF : Nat → List UInt8 → List Nat
  | 0, _ => []
  | n + 1, l => if 0 < wL l then nL l :: rnF n (l.drop (wL l)) else []
theorem badF_nil : ∀ n, badF n [] = none
  | 0 => rfl
  | _ + 1 => by rw [badF, if_pos rfl]
theorem rnF_nil : ∀ n, rnF n [] = []
  | 0 => rfl
  | _ + 1 => by rw [rnF, if_neg (by rw [wL_nil]; omega)]
theorem drop_lt {n : Nat} {l : List UInt8} (h : 0 < wL l) (hl : l.length ≤ n + 1) : (l.drop (wL l)).length ≤ n := by
  rw [List.length_drop]; omega
theorem badF_fuel : ∀ (n m : Nat) (l : List UInt8), l.length ≤ n → l.length ≤ m → badF n l = badF m l
  | 0, m, l, hn, _ => by
    have : l = [] := List.eq_nil_of_length_eq_zero (by omega)
    rw [this, badF_nil, badF_nil]
  | n + 1, 0, l, _, hm => by
    have : l = [] := List.eq_nil_of_length_eq_zero (by omega)
    rw [this, badF_nil, badF_nil]
  | n + 1, m + 1, l, hn, hm => by
    rw [badF, badF]
    by_cases hw : 0 < wL l
    · rw [if_pos hw, if_pos hw, badF_fuel n m _ (drop_lt hw hn) (drop_lt hw hm)]
    · rw [if_neg hw, if_neg hw]
theorem rnF_fuel : ∀ (n m : Nat) (l : List UInt8), l.length ≤ n → l.length ≤ m → rnF n l = rnF m l
  | 0, m, l, hn, _ => by
    have : l = [] := List.eq_nil_of_length_eq_zero (by omega)
    rw [this, rnF_nil, rnF_nil]
  | n + 1, 0, l, _, hm => by
    have : l = [] := List.eq_nil_of_length_eq_zero (by omega)
    rw [this, rnF_nil, rnF_nil]
  | n + 1, m + 1, l, hn, hm => by
    rw [rnF, rnF]
    by_cases hw : 0 < wL l
    · rw [if_pos hw, if_pos hw, rnF_fuel n m _ (drop_lt hw hn) (drop_lt hw hm)]
    · rw [if_neg hw, if_neg hw]
def badL (l : List UInt8) : Option Nat := badF l.length l
def rnL (l : List UInt8) : List Nat := rnF l.length l
theorem len_succ {l : List UInt8} (hl : l ≠ []) : ∃ n, l.length = n + 1 := ⟨l.length - 1, by have := List.length_pos_iff.2 hl; omega⟩
theorem badL_nil : badL [] = none := rfl
theorem badL_zero {l : List UInt8} (hl : l ≠ []) (h : wL l = 0) : badL l = some 0 := by
  obtain ⟨n, hn⟩ := len_succ hl
  rw [badL, hn, badF, if_neg hl, if_neg (by omega)]
theorem badL_step {l : List UInt8} (h : 0 < wL l) : badL l = (badL (l.drop (wL l))).map (· + wL l) := by
  obtain ⟨n, hn⟩ := len_succ (wL_good h).1
  rw [badL, hn, badF, if_neg (wL_good h).1, if_pos h, badL, badF_fuel n _ _ (drop_lt h (by omega)) (Nat.le_refl _)]
theorem rnL_nil : rnL [] = [] := rfl
theorem rnL_zero {l : List UInt8} (h : wL l = 0) : rnL l = [] := by
  by_cases hl : l = []
  · rw [hl]; rfl
  · obtain ⟨n, hn⟩ := len_succ hl
    rw [rnL, hn, rnF, if_neg (by omega)]
theorem rnL_step {l : List UInt8} (h : 0 < wL l) : rnL l = nL l :: rnL (l.drop (wL l)) := by
  obtain ⟨n, hn⟩ := len_succ (wL_good h).1
  rw [rnL, hn, rnF, if_pos h, rnL, rnF_fuel n _ _ (drop_lt h (by omega)) (Nat.le_refl _)]
theorem ok_step {l : List UInt8} (h : badL l = none) (hl : l ≠ []) : 0 < wL l ∧ badL (l.drop (wL l)) = none := by
  by_cases h0 : wL l = 0
  · rw [badL_zero hl h0] at h; cases h
  · have h1 : 0 < wL l := by omega
    rw [badL_step h1, Option.map_eq_none_iff] at h
    exact ⟨h1, h⟩

/-- By the length of the text, a sequence at a time. -/
theorem byWidth {p : List UInt8 → Prop} (h0 : p []) (hz : ∀ l, l ≠ [] → wL l = 0 → p l) (hs : ∀ l, 0 < wL l → p (l.drop (wL l)) → p l) : ∀ (n : Nat) (l : List UInt8), l.length ≤ n → p l
  | 0, l, h => by
    have : l = [] := List.eq_nil_of_length_eq_zero (by omega)
    subst this; exact h0
  | n + 1, l, h => by
    by_cases hl : l = []
    · subst hl; exact h0
    · by_cases hw : wL l = 0
      · exact hz l hl hw
      · exact hs l (by omega) (byWidth h0 hz hs n _ (by rw [List.length_drop]; have : 0 < l.length := List.length_pos_iff.2 hl; omega))
theorem width_ind {p : List UInt8 → Prop} (h0 : p []) (hz : ∀ l, l ≠ [] → wL l = 0 → p l) (hs : ∀ l, 0 < wL l → p (l.drop (wL l)) → p l) (l : List UInt8) : p l := byWidth h0 hz hs l.length l (Nat.le_refl _)

theorem rnL_len (l : List UInt8) : (rnL l).length ≤ l.length := by
  refine width_ind (p := fun l => (rnL l).length ≤ l.length) (by rw [rnL_nil]; simp) (fun l _ h => by rw [rnL_zero h]; simp) (fun l h ih => ?_) l
  rw [rnL_step h, List.length_cons]
  rw [List.length_drop] at ih
  have := wL_le l
  omega
theorem badL_lt (l : List UInt8) : ∀ k, badL l = some k → k < l.length := by
  refine width_ind (p := fun l => ∀ k, badL l = some k → k < l.length) (fun k h => by rw [badL_nil] at h; cases h) (fun l hl h k hk => ?_) (fun l h ih k hk => ?_) l
  · rw [badL_zero hl h] at hk
    obtain rfl := Option.some.inj hk
    exact List.length_pos_iff.2 hl
  · rw [badL_step h, Option.map_eq_some_iff] at hk
    obtain ⟨j, hj, rfl⟩ := hk
    have := ih j hj
    rw [List.length_drop] at this
    omega
theorem validD_bad (l : List UInt8) : validD l = (badL l).isNone := by
  refine width_ind (p := fun l => validD l = (badL l).isNone) (by rw [badL_nil]; rfl) (fun l hl h => ?_) (fun l h ih => ?_) l
  · rw [badL_zero hl h, validD_step l hl, if_pos (wL_bad hl h)]; rfl
  · obtain ⟨h1, h2, h3⟩ := wL_good h
    rw [badL_step h, validD_step l h1, if_neg h2, ← h3, ih]
    cases badL (l.drop (wL l)) <;> rfl
theorem runes_count (s : ByteArray) : ∀ (fuel pos : Nat), s.size ≤ pos + fuel → badL (s.data.toList.drop pos) = none → runeCountFrom s fuel pos = (rnL (s.data.toList.drop pos)).length
  | 0, pos, h, _ => by
    have : s.data.toList.drop pos = [] := List.drop_eq_nil_of_le (by have : s.data.toList.length = s.size := by simp
                                                                     omega)
    rw [this, rnL_nil]; rfl
  | f + 1, pos, h, hb => by
    have hlen : s.data.toList.length = s.size := by simp
    by_cases hp : pos < s.size
    · have hl : s.data.toList.drop pos ≠ [] := by
        intro h2
        have h3 := List.drop_eq_nil_iff.1 h2
        omega
      obtain ⟨h1, h2⟩ := ok_step hb hl
      obtain ⟨_, _, h3⟩ := wL_good h1
      have h4 := decodeL_drop s pos
      rw [runeCountFrom, if_pos hp, rnL_step h1, List.length_cons, ← h4, ← h3, List.drop_drop]
      rw [List.drop_drop] at h2
      rw [runes_count s f (pos + wL (s.data.toList.drop pos)) (by omega) h2]
      omega
    · have : s.data.toList.drop pos = [] := List.drop_eq_nil_of_le (by omega)
      rw [runeCountFrom_end s _ pos hp, this, rnL_nil]; rfl
theorem count_text (s : ByteArray) (h : badL s.data.toList = none) : runeCount s = (rnL s.data.toList).length := by
  have := runes_count s s.size 0 (by omega) (by simpa using h)
  simpa [runeCount] using this

/-! ### the bytes of numbers -/
def vN (n : Nat) : Prop := n < 55296 ∨ (57344 ≤ n ∧ n ≤ 1114111)
def encL (ns : List Nat) : List UInt8 := ns.flatMap fun (n : Nat) => encodeRune (Int.ofNat n)
theorem encL_nil : encL [] = [] := rfl
theorem encL_cons (n : Nat) (ns : List Nat) : encL (n :: ns) = encodeRune (n : Int) ++ encL ns := by simp [encL]
theorem encL_snoc (ns : List Nat) (n : Nat) : encL (ns ++ [n]) = encL ns ++ encodeRune (n : Int) := by simp [encL]

theorem enc_text (l : List UInt8) : badL l = none → encL (rnL l) = l := by
  refine width_ind (p := fun l => badL l = none → encL (rnL l) = l) (fun _ => by rw [rnL_nil, encL_nil]) (fun l hl h hb => ?_) (fun l h ih hb => ?_) l
  · rw [badL_zero hl h] at hb; cases hb
  · have h2 := ok_step hb (wL_good h).1
    rw [rnL_step h, encL_cons, enc_wL h, ih h2.2, List.take_append_drop]

set_option maxRecDepth 100000 in
set_option maxHeartbeats 4000000 in
theorem decodeN_valid (n b0 b1 b2 b3 : Nat) (h0 : b0 < 256) : vN (decodeN n b0 b1 b2 b3).1 := by
  unfold decodeN vN
  repeat' split
  all_goals (simp only; omega)
theorem rnL_valid (l : List UInt8) : ∀ n ∈ rnL l, vN n := by
  refine width_ind (p := fun l => ∀ n ∈ rnL l, vN n) (fun n h => by rw [rnL_nil] at h; cases h) (fun l _ h n hn => by rw [rnL_zero h] at hn; cases hn) (fun l h ih n hn => ?_) l
  rw [rnL_step h, List.mem_cons] at hn
  rcases hn with rfl | hn
  · unfold nL; rw [decodeL_N]; exact decodeN_valid _ _ _ _ _ (UInt8.toNat_lt _)
  · exact ih n hn

set_option maxRecDepth 100000 in
set_option maxHeartbeats 8000000 in
theorem decodeN_ext (n m b0 b1 b2 b3 c1 c2 c3 : Nat) (h1 : 1 < n → b1 = c1) (h2 : 2 < n → b2 = c2) (h3 : 3 < n → b3 = c3) (hm : n ≤ m)
    (hg : ¬ ((decodeN n b0 b1 b2 b3).1 = 65533 ∧ (decodeN n b0 b1 b2 b3).2 = 1)) : decodeN m b0 c1 c2 c3 = decodeN n b0 b1 b2 b3 := by
  by_cases n1 : 1 < n
  · obtain rfl := h1 n1
    by_cases n2 : 2 < n
    · obtain rfl := h2 n2
      by_cases n3 : 3 < n
      · obtain rfl := h3 n3
        unfold decodeN
        simp only [n1, n2, n3, show 1 < m by omega, show 2 < m by omega, show 3 < m by omega]
      · unfold decodeN at hg ⊢
        simp only [n1, n2, n3, show 1 < m by omega, show 2 < m by omega, true_and, false_and, and_false, if_false] at hg ⊢
        split
        · rfl
        · rename_i c0
          rw [if_neg c0] at hg
          split
          · rfl
          · rename_i c1
            rw [if_neg c1] at hg
            split
            · rfl
            · rename_i c2
              rw [if_neg c2] at hg
              exact absurd ⟨rfl, rfl⟩ hg
    · unfold decodeN at hg ⊢
      simp only [n1, n2, show 1 < m by omega, show ¬ 3 < n by omega, true_and, false_and, and_false, if_false] at hg ⊢
      split
      · rfl
      · rename_i c0
        rw [if_neg c0] at hg
        split
        · rfl
        · rename_i c1
          rw [if_neg c1] at hg
          exact absurd ⟨rfl, rfl⟩ hg
  · unfold decodeN at hg ⊢
    simp only [n1, show ¬ 2 < n by omega, show ¬ 3 < n by omega, false_and, and_false, if_false] at hg ⊢
    split
    · rfl
    · rename_i c0
      rw [if_neg c0] at hg
      exact absurd ⟨rfl, rfl⟩ hg
theorem getD_app (l t : List UInt8) (i : Nat) (h : i < l.length) : (l ++ t).getD i 0 = l.getD i 0 := by simp [List.getD, List.getElem?_append_left h]
theorem wL_app {l : List UInt8} (t : List UInt8) (h : 0 < wL l) : wL (l ++ t) = wL l ∧ nL (l ++ t) = nL l := by
  obtain ⟨h1, h2, h3⟩ := wL_good h
  have hl : 0 < l.length := List.length_pos_iff.2 h1
  have key : decodeL (l ++ t) = decodeL l := by
    rw [decodeL_N] at h2 ⊢
    rw [decodeL_N l, getD_app l t 0 hl]
    exact decodeN_ext _ _ _ _ _ _ _ _ _ (fun h => by rw [getD_app l t 1 h]) (fun h => by rw [getD_app l t 2 h]) (fun h => by rw [getD_app l t 3 h]) (by simp) h2
  have e2 : nL (l ++ t) = nL l := by unfold nL; rw [key]
  refine ⟨?_, e2⟩
  rw [h3]
  unfold wL
  rw [if_neg (by intro h4; exact h1 (List.append_eq_nil_iff.1 h4).1), key, if_neg h2]

theorem app_bad (t l : List UInt8) : badL l = none → badL (l ++ t) = (badL t).map (· + l.length) ∧ rnL (l ++ t) = rnL l ++ rnL t := by
  refine width_ind (p := fun l => badL l = none → badL (l ++ t) = (badL t).map (· + l.length) ∧ rnL (l ++ t) = rnL l ++ rnL t) (fun _ => ?_) (fun l hl h hb => ?_) (fun l h ih hb => ?_) l
  · rw [rnL_nil]; simp
  · rw [badL_zero hl h] at hb; cases hb
  · obtain ⟨_, h2⟩ := ok_step hb (wL_good h).1
    obtain ⟨h3, h4⟩ := wL_app t h
    obtain ⟨h5, h6⟩ := ih h2
    have h7 := wL_le l
    have e : (l ++ t).drop (wL l) = l.drop (wL l) ++ t := List.drop_append_of_le_length h7
    rw [badL_step (l := l ++ t) (by omega), rnL_step (l := l ++ t) (by omega), h3, h4, e, h5, h6, rnL_step h]
    refine ⟨?_, by simp⟩
    rw [Option.map_map, List.length_drop]
    congr 1
    funext k
    show k + (l.length - wL l) + wL l = k + l.length
    omega

set_option maxRecDepth 100000 in
set_option maxHeartbeats 4000000 in
theorem dec_enc (n : Nat) (t : List UInt8) (h : vN n) : decodeL (encodeRune (n : Int) ++ t) = (n, (encodeRune (n : Int)).length) := by
  have b : ∀ x : Nat, x < 256 → ((x : Int).toNat.toUInt8).toNat = x := fun x hx => by
    simp [Nat.mod_eq_of_lt hx]
  have c : n ≤ 127 ∨ (128 ≤ n ∧ n ≤ 2047) ∨ ((2048 ≤ n ∧ n < 55296) ∨ (57343 < n ∧ n ≤ 65535)) ∨ (65536 ≤ n ∧ n ≤ 1114111) := by unfold vN at h; omega
  unfold encodeRune
  rcases c with c | c | c | c
  · rw [encodeRuneZ_one (by omega) (by omega), decodeL_N]
    simp only [List.map_cons, List.map_nil, List.cons_append, List.nil_append, List.getD_cons_zero, List.length_cons, List.length_nil]
    rw [b n (by omega), decodeN, if_pos (by omega)]
  · rw [encodeRuneZ_two (by omega) (by omega), decodeL_N]
    rw [show (192 + (n : Int) / 64) = ((192 + n / 64 : Nat) : Int) by omega, show (128 + (n : Int) % 64) = ((128 + n % 64 : Nat) : Int) by omega]
    simp only [List.map_cons, List.map_nil, List.cons_append, List.nil_append, List.getD_cons_zero, List.getD_cons_succ, List.length_cons, List.length_nil]
    rw [b _ (by omega), b _ (by omega), decodeN, if_neg (by omega), if_pos (by omega), if_pos (by omega)]
    exact Prod.ext (by simp only; omega) rfl
  · rw [encodeRuneZ_three (by omega), decodeL_N]
    rw [show (224 + (n : Int) / 4096) = ((224 + n / 4096 : Nat) : Int) by omega, show (128 + (n : Int) / 64 % 64) = ((128 + n / 64 % 64 : Nat) : Int) by omega, show (128 + (n : Int) % 64) = ((128 + n % 64 : Nat) : Int) by omega]
    simp only [List.map_cons, List.map_nil, List.cons_append, List.nil_append, List.getD_cons_zero, List.getD_cons_succ, List.length_cons, List.length_nil]
    rw [b _ (by omega), b _ (by omega), b _ (by omega), decodeN, if_neg (by omega), if_neg (by omega), if_pos (by omega), if_pos (by omega)]
    exact Prod.ext (by simp only; omega) rfl
  · rw [encodeRuneZ_four (by omega) (by omega), decodeL_N]
    rw [show (240 + (n : Int) / 262144) = ((240 + n / 262144 : Nat) : Int) by omega, show (128 + (n : Int) / 4096 % 64) = ((128 + n / 4096 % 64 : Nat) : Int) by omega, show (128 + (n : Int) / 64 % 64) = ((128 + n / 64 % 64 : Nat) : Int) by omega, show (128 + (n : Int) % 64) = ((128 + n % 64 : Nat) : Int) by omega]
    simp only [List.map_cons, List.map_nil, List.cons_append, List.nil_append, List.getD_cons_zero, List.getD_cons_succ, List.length_cons, List.length_nil]
    rw [b _ (by omega), b _ (by omega), b _ (by omega), b _ (by omega), decodeN, if_neg (by omega), if_neg (by omega), if_neg (by omega), if_pos (by omega), if_pos (by omega)]
    exact Prod.ext (by simp only; omega) rfl
theorem enc_len (n : Nat) : 1 ≤ (encodeRune (n : Int)).length ∧ (encodeRune (n : Int)).length ≤ 4 := by
  have := encodeRuneZ_length (n : Int)
  simpa [encodeRune] using this
theorem wL_enc (n : Nat) (t : List UInt8) (h : vN n) : wL (encodeRune (n : Int) ++ t) = (encodeRune (n : Int)).length ∧ nL (encodeRune (n : Int) ++ t) = n := by
  have hd := dec_enc n t h
  have hl := enc_len n
  refine ⟨?_, by unfold nL; rw [hd]⟩
  unfold wL
  rw [if_neg (by intro h4; rw [(List.append_eq_nil_iff.1 h4).1] at hl; simp at hl), hd]
  refine if_neg ?_
  rintro ⟨h1, h2⟩
  simp only at h1 h2
  subst h1
  exact absurd h2 (by decide)
theorem text_enc : ∀ ns : List Nat, (∀ n ∈ ns, vN n) → badL (encL ns) = none ∧ rnL (encL ns) = ns
  | [], _ => ⟨by rw [encL_nil, badL_nil], by rw [encL_nil, rnL_nil]⟩
  | n :: ns, h => by
    obtain ⟨h1, h2⟩ := text_enc ns fun m hm => h m (List.mem_cons_of_mem _ hm)
    obtain ⟨h3, h4⟩ := wL_enc n (encL ns) (h n List.mem_cons_self)
    have hl := enc_len n
    rw [encL_cons, badL_step (by omega), rnL_step (by omega), h3, h4, List.drop_left, h1, h2]
    exact ⟨rfl, rfl⟩
theorem encL_len (ns : List Nat) : (encL ns).length ≤ 4 * ns.length := by
  induction ns with
  | nil => simp [encL_nil]
  | cons n ns ih => rw [encL_cons, List.length_append, List.length_cons]; have := enc_len n; omega
end Go.Proofs.YthkopnobekohcaaGreatDoor.Utf

namespace Go.Proofs.YthkopnobekohcaaGreatDoor.Oct

theorem ofNat_toNat (n : Nat) (h : n < 256) : (UInt8.ofNat n).toNat = n := by
  rw [UInt8.toNat_ofNat']; omega
theorem toNat_lt (b : UInt8) : b.toNat < 256 := b.toNat_lt

/-- The k last bytes of n, the greatest first. -/
def putL (n : Nat) : Nat → List UInt8
  | 0 => []
  | k + 1 => UInt8.ofNat (n / 256 ^ k % 256) :: putL n k
theorem putL_length (n k : Nat) : (putL n k).length = k := by
  induction k with
  | zero => rfl
  | succ k ih => simp [putL, ih]
/-- The number of the bytes l, the greatest first. -/
def takeL (n : Nat) : List UInt8 → Nat
  | [] => n
  | b :: l => takeL (n * 256 + b.toNat) l
theorem takeL_append (n : Nat) (x y : List UInt8) : takeL n (x ++ y) = takeL (takeL n x) y := by
  induction x generalizing n with
  | nil => rfl
  | cons b x ih => simp [takeL, ih]
theorem takeL_lt (l : List UInt8) : ∀ n m, n < 256 ^ m → takeL n l < 256 ^ (m + l.length) := by
  induction l with
  | nil => intro n m h; simpa [takeL] using h
  | cons b l ih =>
    intro n m h
    have hb := toNat_lt b
    have := ih (n * 256 + b.toNat) (m + 1) (by rw [Nat.pow_succ]; omega)
    rw [takeL, List.length_cons, show m + (l.length + 1) = m + 1 + l.length by omega]
    exact this
theorem takeL_putL (n : Nat) : ∀ k a, takeL a (putL n k) = a * 256 ^ k + n % 256 ^ k := by
  intro k
  induction k with
  | zero => intro a; simp [putL, takeL, Nat.mod_one]
  | succ k ih =>
    intro a
    rw [putL, takeL, ih, ofNat_toNat _ (by omega), Nat.add_mul, Nat.pow_succ]
    have h1 : n % (256 ^ k * 256) = n % 256 ^ k + 256 ^ k * (n / 256 ^ k % 256) := Nat.mod_mul
    rw [h1, Nat.mul_assoc, Nat.mul_comm 256 (256 ^ k), Nat.mul_comm (256 ^ k) (n / 256 ^ k % 256)]
    omega

/-- A digit of a half byte. -/
def hexd (n : Nat) : UInt8 := UInt8.ofNat (if n < 10 then 48 + n else 87 + n)
def hexL : List UInt8 → List UInt8
  | [] => []
  | b :: l => hexd (b.toNat / 16) :: hexd (b.toNat % 16) :: hexL l
theorem hexL_append (x y : List UInt8) : hexL (x ++ y) = hexL x ++ hexL y := by
  induction x with
  | nil => rfl
  | cons b x ih => simp [hexL, ih]
theorem hexL_length (l : List UInt8) : (hexL l).length = 2 * l.length := by
  induction l with
  | nil => rfl
  | cons b x ih => simp [hexL, ih]; omega
/-- What a digit is worth; 16: it is none. -/
def dig (c : UInt8) : Nat := if 48 ≤ c.toNat ∧ c.toNat ≤ 57 then c.toNat - 48 else if 97 ≤ c.toNat ∧ c.toNat ≤ 102 then c.toNat - 87 else 16
theorem dig_le (c : UInt8) : dig c ≤ 16 := by unfold dig; split <;> (try split) <;> omega
theorem dig_hexd (n : Nat) (h : n < 16) : dig (hexd n) = n := by
  unfold dig hexd
  rw [ofNat_toNat _ (by split <;> omega)]
  (repeat' split) <;> omega
theorem hexd_dig (c : UInt8) (h : dig c < 16) : hexd (dig c) = c := by
  apply UInt8.toNat_inj.1
  unfold hexd
  rw [ofNat_toNat _ (by split <;> omega)]
  unfold dig at h ⊢
  have := toNat_lt c
  (repeat' split) <;> (repeat' split at h) <;> omega
/-- Bytes of digits. -/
def unL : List UInt8 → Option (List UInt8)
  | [] => some []
  | [_] => none
  | a :: b :: l => if dig a < 16 ∧ dig b < 16 then (unL l).map (UInt8.ofNat (16 * dig a + dig b) :: ·) else none
theorem unL_hexL (l : List UInt8) : unL (hexL l) = some l := by
  induction l with
  | nil => rfl
  | cons b l ih =>
    have hb := toNat_lt b
    rw [hexL, unL, dig_hexd _ (by omega), dig_hexd _ (by omega), if_pos ⟨by omega, by omega⟩, ih]
    simp only [Option.map_some, Option.some.injEq, List.cons.injEq, and_true]
    apply UInt8.toNat_inj.1
    rw [ofNat_toNat _ (by omega)]
    omega
theorem hexL_unL : ∀ (l v : List UInt8), unL l = some v → hexL v = l
  | [], v, h => by simp [unL] at h; subst h; rfl
  | [a], v, h => by simp [unL] at h
  | a :: b :: l, v, h => by
    rw [unL] at h
    split at h
    · rename_i hd
      obtain ⟨u, hu, rfl⟩ := Option.map_eq_some_iff.1 h
      have ih := hexL_unL l u hu
      have e : (UInt8.ofNat (16 * dig a + dig b)).toNat = 16 * dig a + dig b := ofNat_toNat _ (by omega)
      rw [hexL, e, show (16 * dig a + dig b) / 16 = dig a by omega, show (16 * dig a + dig b) % 16 = dig b by omega, hexd_dig a hd.1, hexd_dig b hd.2, ih]
    · cases h
theorem unL_length : ∀ (l v : List UInt8), unL l = some v → l.length = 2 * v.length := fun l v h => by rw [← hexL_unL l v h, hexL_length]
theorem unL_append : ∀ (x y u : List UInt8), unL x = some u → unL (x ++ y) = (unL y).map (u ++ ·)
  | [], y, u, h => by simp [unL] at h; subst h; cases hy : unL y <;> simp [hy]
  | [a], y, u, h => by simp [unL] at h
  | a :: b :: l, y, u, h => by
    rw [unL] at h
    split at h
    · rename_i hd
      obtain ⟨v, hv, rfl⟩ := Option.map_eq_some_iff.1 h
      rw [List.cons_append, List.cons_append, unL, if_pos hd, unL_append l y v hv]
      cases unL y <;> simp
    · cases h
theorem unL_odd : ∀ (l : List UInt8), l.length % 2 = 1 → unL l = none := fun l h => by
  cases hu : unL l with
  | none => rfl
  | some v => have := unL_length l v hu; omega
/-- One pair more. -/
theorem unL_step (l : List UInt8) (k : Nat) (u : List UInt8) (a b : UInt8) (h : unL (l.take (2 * k)) = some u) (ha : l[2 * k]? = some a) (hb : l[2 * k + 1]? = some b) (hd : dig a < 16 ∧ dig b < 16) :
    unL (l.take (2 * (k + 1))) = some (u ++ [UInt8.ofNat (16 * dig a + dig b)]) := by
  have e : l.take (2 * (k + 1)) = l.take (2 * k) ++ [a, b] := by
    rw [show 2 * (k + 1) = 2 * k + 1 + 1 by omega, List.take_add_one, List.take_add_one, ha, hb]
    simp
  rw [e, unL_append _ _ u h]
  simp [unL, hd]
theorem unL_stop (l : List UInt8) (k : Nat) (u : List UInt8) (a b : UInt8) (h : unL (l.take (2 * k)) = some u) (ha : l[2 * k]? = some a) (hb : l[2 * k + 1]? = some b) (hd : ¬ (dig a < 16 ∧ dig b < 16)) : unL l = none := by
  have hk : 2 * k + 1 < l.length := by
    rcases Nat.lt_or_ge (2 * k + 1) l.length with h1 | h1
    · exact h1
    · rw [List.getElem?_eq_none h1] at hb; cases hb
  have e : l = l.take (2 * k) ++ (a :: b :: l.drop (2 * k + 2)) := by
    have h1 : l.drop (2 * k) = a :: b :: l.drop (2 * k + 2) := by
      rw [List.drop_eq_getElem_cons (by omega), List.drop_eq_getElem_cons (by omega)]
      rw [List.getElem?_eq_getElem (by omega)] at ha hb
      simp only [Option.some.injEq] at ha hb
      rw [ha, hb]
    rw [← h1, List.take_append_drop]
  rw [e, unL_append _ _ u h, unL, if_neg hd]
  rfl

end Go.Proofs.YthkopnobekohcaaGreatDoor.Oct

namespace Go.Proofs.YthkopnobekohcaaGreatDoor.Quo
open Go.Lib Go.Proofs.YthkopnobekohcaaGreatDoor.Utf Go.Proofs.YthkopnobekohcaaGreatDoor.Oct

/-! ### what is put -/
/-- The letter of a short escape; 0: there is none. -/
def shN (c : Nat) : Nat := if c = 34 then 34 else if c = 92 then 92 else if c = 8 then 98 else if c = 9 then 116 else if c = 10 then 110 else if c = 12 then 102 else if c = 13 then 114 else 0
/-- What is written for a byte. -/
def qB (c : UInt8) : List UInt8 := if shN c.toNat ≠ 0 then [92, UInt8.ofNat (shN c.toNat)] else if c.toNat < 32 then [92, 117, 48, 48] ++ hexL [c] else [c]
def qL (l : List UInt8) : List UInt8 := l.flatMap qB
/-- The quoted text. -/
def qQ (l : List UInt8) : List UInt8 := 34 :: (qL l ++ [34])
/-- What Put hands back. -/
def pE (l : List UInt8) : Nat := if badL l = none then 0 else 8
def pT (l : List UInt8) : List UInt8 := if badL l = none then qQ l else []

theorem qL_nil : qL [] = [] := rfl
theorem qL_cons (c : UInt8) (l : List UInt8) : qL (c :: l) = qB c ++ qL l := by simp [qL]
theorem qL_append (x y : List UInt8) : qL (x ++ y) = qL x ++ qL y := by simp [qL]
theorem qB_high (c : UInt8) (h : 128 ≤ c.toNat) : qB c = [c] := by
  have e : shN c.toNat = 0 := by
    unfold shN
    rw [if_neg (by omega), if_neg (by omega), if_neg (by omega), if_neg (by omega), if_neg (by omega), if_neg (by omega), if_neg (by omega)]
  unfold qB
  rw [e, if_neg (by decide), if_neg (by omega)]
theorem qL_high : ∀ l : List UInt8, (∀ c ∈ l, 128 ≤ c.toNat) → qL l = l
  | [], _ => rfl
  | c :: l, h => by rw [qL_cons, qB_high c (h c List.mem_cons_self), qL_high l fun d hd => h d (List.mem_cons_of_mem _ hd)]; rfl
theorem qB_table : ∀ n : Fin 256, 1 ≤ (qB (UInt8.ofNat n.val)).length ∧ (qB (UInt8.ofNat n.val)).length ≤ 6 ∧ ∀ d ∈ qB (UInt8.ofNat n.val), 32 ≤ d.toNat := by decide +kernel
theorem of_byte {p : UInt8 → Prop} (h : ∀ n : Fin 256, p (UInt8.ofNat n.val)) (c : UInt8) : p c := by
  have := h ⟨c.toNat, c.toNat_lt⟩
  simpa using this
theorem qB_len (c : UInt8) : 1 ≤ (qB c).length ∧ (qB c).length ≤ 6 := of_byte (p := fun c => 1 ≤ (qB c).length ∧ (qB c).length ≤ 6) (fun n => ⟨(qB_table n).1, (qB_table n).2.1⟩) c
theorem qB_vis (c : UInt8) : ∀ d ∈ qB c, 32 ≤ d.toNat := of_byte (p := fun c => ∀ d ∈ qB c, 32 ≤ d.toNat) (fun n => (qB_table n).2.2) c
theorem qL_vis (l : List UInt8) : ∀ d ∈ qL l, 32 ≤ d.toNat := by
  intro d hd
  unfold qL at hd
  rw [List.mem_flatMap] at hd
  obtain ⟨c, _, hc⟩ := hd
  exact qB_vis c d hc
theorem qQ_vis (l : List UInt8) : ∀ d ∈ qQ l, 32 ≤ d.toNat := by
  intro d hd
  unfold qQ at hd
  rw [List.mem_cons, List.mem_append, List.mem_singleton] at hd
  rcases hd with rfl | hd | rfl
  · decide
  · exact qL_vis l d hd
  · decide
theorem qL_len (l : List UInt8) : (qL l).length ≤ 6 * l.length := by
  induction l with
  | nil => simp [qL_nil]
  | cons c l ih => rw [qL_cons, List.length_append, List.length_cons]; have := qB_len c; omega
theorem qQ_len (l : List UInt8) : (qQ l).length ≤ 6 * l.length + 2 := by
  unfold qQ; rw [List.length_cons, List.length_append]; have := qL_len l; simp; omega

/-! ### four digits -/
/-- What a digit of either case is worth; 16: it is none. -/
def dgA (c : Nat) : Nat := if 48 ≤ c ∧ c ≤ 57 then c - 48 else if 97 ≤ c ∧ c ≤ 102 then c - 87 else if 65 ≤ c ∧ c ≤ 70 then c - 55 else 16
theorem dgA_le (c : Nat) : dgA c ≤ 16 := by unfold dgA; repeat' split
                                            all_goals omega
/-- The number of digits behind a number; none: one of them is no digit. -/
def hxF : Nat → List UInt8 → Option Nat
  | n, [] => some n
  | n, c :: l => if dgA c.toNat < 16 then hxF (16 * n + dgA c.toNat) l else none
theorem hxF_lt : ∀ (l : List UInt8) (n k m : Nat), n < 16 ^ k → hxF n l = some m → m < 16 ^ (k + l.length)
  | [], n, k, m, hn, h => by rw [hxF] at h; obtain rfl := Option.some.inj h; simpa using hn
  | c :: l, n, k, m, hn, h => by
    rw [hxF] at h
    by_cases hd : dgA c.toNat < 16
    · rw [if_pos hd] at h
      have := hxF_lt l (16 * n + dgA c.toNat) (k + 1) m (by rw [Nat.pow_succ]; omega) h
      rw [List.length_cons, show k + (l.length + 1) = k + 1 + l.length by omega]
      exact this
    · rw [if_neg hd] at h; cases h
theorem hxF_app : ∀ (x y : List UInt8) (n : Nat), hxF n (x ++ y) = (hxF n x).bind fun m => hxF m y
  | [], y, n => rfl
  | c :: x, y, n => by
    rw [List.cons_append, hxF, hxF]
    by_cases hd : dgA c.toNat < 16
    · rw [if_pos hd, if_pos hd, hxF_app]
    · rw [if_neg hd, if_neg hd]; rfl
/-- The number of the four digits at the head. -/
def h4 (l : List UInt8) : Option Nat := if 4 ≤ l.length then hxF 0 (l.take 4) else none
theorem h4_lt {l : List UInt8} {m : Nat} (h : h4 l = some m) : m < 65536 ∧ 4 ≤ l.length := by
  unfold h4 at h
  by_cases hl : 4 ≤ l.length
  · rw [if_pos hl] at h
    have := hxF_lt _ 0 0 m (by decide) h
    rw [List.length_take, Nat.min_eq_left hl] at this
    exact ⟨this, hl⟩
  · rw [if_neg hl] at h; cases h

/-! ### an escape -/
/-- What a letter behind a backslash stands for; 256: it is none of those. -/
def ltN (c : Nat) : Nat := if c = 34 then 34 else if c = 92 then 92 else if c = 98 then 8 else if c = 102 then 12 else if c = 110 then 10 else if c = 114 then 13 else if c = 116 then 9 else if c = 47 then 47 else 256
/-- The number of the escape with digits at the head. -/
def nO (l : List UInt8) : Option Nat := if l.take 2 = [92, 117] then h4 (l.drop 2) else none
def pr (n m : Nat) : Bool := decide ((55296 ≤ n ∧ n ≤ 56319) ∧ 56320 ≤ m ∧ m ≤ 57343)
/-- The number that an escape with digits, or a pair of them, denotes, and its bytes. -/
def nP (n : Nat) (o : Option Nat) : Nat × Nat :=
  match o with
  | some m => if pr n m = true then (65536 + (n - 55296) * 1024 + (m - 56320), 12) else (n, 6)
  | none => (n, 6)
def vB (n : Nat) : Bool := decide (n < 55296 ∨ (57344 ≤ n ∧ n ≤ 1114111))
theorem vB_vN {n : Nat} (h : vB n = true) : vN n := by unfold vB at h; simpa [vN] using h
/-- The escape at the head: the error, the bytes, the piece. -/
def escL (l : List UInt8) : Nat × Nat × List UInt8 :=
  if ltN (l.getD 1 0).toNat < 256 then (0, 2, [UInt8.ofNat (ltN (l.getD 1 0).toNat)])
  else match nO l with
    | none => (4, 0, [])
    | some n => if vB (nP n (nO (l.drop 6))).1 = true then (0, (nP n (nO (l.drop 6))).2, encodeRune ((nP n (nO (l.drop 6))).1 : Int)) else (8, 0, [])
/-- The piece at the head: the error, the bytes, the piece. -/
def stp (l : List UInt8) : Nat × Nat × List UInt8 :=
  if (l.getD 0 0).toNat = 92 then escL l else if (l.getD 0 0).toNat < 32 then (4, 0, []) else if wL l = 0 then (8, 0, []) else (0, wL l, l.take (wL l))

/-! ### what is taken -/
/-- Behind the opening quote: the error, the bytes up to the fault or behind the closing quote, the value. -/
def tkF : Nat → List UInt8 → Nat × Nat × List UInt8
  | 0, _ => (3, 0, [])
  | f + 1, l => if l = [] then (3, 0, []) else if (l.getD 0 0).toNat = 34 then (0, 1, []) else if (stp l).1 ≠ 0 then ((stp l).1, 0, [])
      else ((tkF f (l.drop (stp l).2.1)).1, (tkF f (l.drop (stp l).2.1)).2.1 + (stp l).2.1, if (tkF f (l.drop (stp l).2.1)).1 = 0 then (stp l).2.2 ++ (tkF f (l.drop (stp l).2.1)).2.2 else [])
def tkQ (l : List UInt8) : Nat × Nat × List UInt8 := tkF l.length l

theorem getD_ne {l : List UInt8} {i : Nat} (h : (l.getD i 0).toNat ≠ 0) : i < l.length := by
  rcases Nat.lt_or_ge i l.length with h' | h'
  · exact h'
  · exfalso; apply h; rw [List.getD_eq_getElem?_getD, List.getElem?_eq_none h']; rfl
theorem ltN_zero : ltN 0 = 256 := rfl
theorem nO_lt {l : List UInt8} {n : Nat} (h : nO l = some n) : n < 65536 ∧ 6 ≤ l.length := by
  unfold nO at h
  by_cases hl : l.take 2 = [92, 117]
  · rw [if_pos hl] at h
    have h1 := h4_lt h
    rw [List.length_drop] at h1
    omega
  · rw [if_neg hl] at h; cases h
theorem nP_size (n : Nat) (o : Option Nat) : (nP n o).2 = 6 ∨ ((nP n o).2 = 12 ∧ ∃ m, o = some m) := by
  unfold nP
  cases o with
  | none => exact .inl rfl
  | some m =>
    simp only
    by_cases h : pr n m = true
    · rw [if_pos h]; exact .inr ⟨rfl, m, rfl⟩
    · rw [if_neg h]; exact .inl rfl
theorem escL_ok {l : List UInt8} (h : (escL l).1 = 0) : 1 ≤ (escL l).2.1 ∧ (escL l).2.1 ≤ l.length ∧ (escL l).2.2.length ≤ (escL l).2.1 := by
  unfold escL at h ⊢
  by_cases h1 : ltN (l.getD 1 0).toNat < 256
  · rw [if_pos h1]
    have : 1 < l.length := getD_ne fun h2 => by rw [h2, ltN_zero] at h1; omega
    exact ⟨by simp, by simp only; omega, by simp⟩
  · rw [if_neg h1] at h ⊢
    cases hn : nO l with
    | none => rw [hn] at h; cases h
    | some n =>
      rw [hn] at h
      simp only at h ⊢
      have h2 := nO_lt hn
      by_cases h3 : vB (nP n (nO (l.drop 6))).1 = true
      · rw [if_pos h3]
        have h4 := enc_len (nP n (nO (l.drop 6))).1
        rcases nP_size n (nO (l.drop 6)) with h5 | ⟨h5, m, hm⟩
        · exact ⟨by simp only; omega, by simp only; omega, by simp only; omega⟩
        · have h6 := nO_lt hm
          rw [List.length_drop] at h6
          exact ⟨by simp only; omega, by simp only; omega, by simp only; omega⟩
      · rw [if_neg h3] at h; cases h
theorem stp_ok {l : List UInt8} (_hl : l ≠ []) (h : (stp l).1 = 0) : 1 ≤ (stp l).2.1 ∧ (stp l).2.1 ≤ l.length ∧ (stp l).2.2.length ≤ (stp l).2.1 := by
  unfold stp at h ⊢
  by_cases h1 : (l.getD 0 0).toNat = 92
  · rw [if_pos h1] at h ⊢; exact escL_ok h
  · rw [if_neg h1] at h ⊢
    by_cases h2 : (l.getD 0 0).toNat < 32
    · rw [if_pos h2] at h; cases h
    · rw [if_neg h2] at h ⊢
      by_cases h3 : wL l = 0
      · rw [if_pos h3] at h; cases h
      · rw [if_neg h3]
        have := wL_le l
        exact ⟨by simp only; omega, by simp only; omega, by simp only [List.length_take]; omega⟩
theorem tkF_nil : ∀ f, tkF f [] = (3, 0, [])
  | 0 => rfl
  | _ + 1 => by rw [tkF, if_pos rfl]
theorem drop_lt2 {f : Nat} {l : List UInt8} (hl : l ≠ []) (h : (stp l).1 = 0) (hf : l.length ≤ f + 1) : (l.drop (stp l).2.1).length ≤ f := by
  rw [List.length_drop]; have := stp_ok hl h; omega
theorem tkF_fuel : ∀ (f g : Nat) (l : List UInt8), l.length ≤ f → l.length ≤ g → tkF f l = tkF g l
  | 0, g, l, hf, _ => by
    have : l = [] := List.eq_nil_of_length_eq_zero (by omega)
    rw [this, tkF_nil, tkF_nil]
  | f + 1, 0, l, _, hg => by
    have : l = [] := List.eq_nil_of_length_eq_zero (by omega)
    rw [this, tkF_nil, tkF_nil]
  | f + 1, g + 1, l, hf, hg => by
    rw [tkF, tkF]
    by_cases hl : l = []
    · rw [if_pos hl, if_pos hl]
    · rw [if_neg hl, if_neg hl]
      by_cases h1 : (l.getD 0 0).toNat = 34
      · rw [if_pos h1, if_pos h1]
      · rw [if_neg h1, if_neg h1]
        by_cases h2 : (stp l).1 = 0
        · rw [if_neg (show ¬ (stp l).1 ≠ 0 by omega), if_neg (show ¬ (stp l).1 ≠ 0 by omega), tkF_fuel f g _ (drop_lt2 hl h2 hf) (drop_lt2 hl h2 hg)]
        · rw [if_pos h2, if_pos h2]
theorem tkQ_nil : tkQ [] = (3, 0, []) := rfl
theorem tkQ_close {l : List UInt8} (h : (l.getD 0 0).toNat = 34) : tkQ l = (0, 1, []) := by
  have hl : l ≠ [] := by rintro rfl; simp at h
  obtain ⟨n, hn⟩ := len_succ hl
  rw [tkQ, hn, tkF, if_neg hl, if_pos h]
theorem tkQ_bad {l : List UInt8} (hl : l ≠ []) (h : (l.getD 0 0).toNat ≠ 34) (h1 : (stp l).1 ≠ 0) : tkQ l = ((stp l).1, 0, []) := by
  obtain ⟨n, hn⟩ := len_succ hl
  rw [tkQ, hn, tkF, if_neg hl, if_neg h, if_pos h1]
theorem tkQ_step {l : List UInt8} (hl : l ≠ []) (h : (l.getD 0 0).toNat ≠ 34) (h1 : (stp l).1 = 0) :
    tkQ l = ((tkQ (l.drop (stp l).2.1)).1, (tkQ (l.drop (stp l).2.1)).2.1 + (stp l).2.1, if (tkQ (l.drop (stp l).2.1)).1 = 0 then (stp l).2.2 ++ (tkQ (l.drop (stp l).2.1)).2.2 else []) := by
  obtain ⟨n, hn⟩ := len_succ hl
  have e : tkF n (l.drop (stp l).2.1) = tkQ (l.drop (stp l).2.1) := tkF_fuel _ _ _ (drop_lt2 hl h1 (by omega)) (Nat.le_refl _)
  conv => lhs; rw [tkQ, hn, tkF]
  rw [if_neg hl, if_neg h, if_neg (by omega), e]
theorem tk_len {p : List UInt8 → Prop} (h0 : p []) (hc : ∀ l, l ≠ [] → (l.getD 0 0).toNat = 34 → p l) (hb : ∀ l, l ≠ [] → (l.getD 0 0).toNat ≠ 34 → (stp l).1 ≠ 0 → p l)
    (hs : ∀ l, l ≠ [] → (l.getD 0 0).toNat ≠ 34 → (stp l).1 = 0 → p (l.drop (stp l).2.1) → p l) : ∀ (n : Nat) (l : List UInt8), l.length ≤ n → p l
  | 0, l, h => by
    have : l = [] := List.eq_nil_of_length_eq_zero (by omega)
    subst this; exact h0
  | n + 1, l, h => by
    by_cases hl : l = []
    · subst hl; exact h0
    · by_cases h1 : (l.getD 0 0).toNat = 34
      · exact hc l hl h1
      · by_cases h2 : (stp l).1 = 0
        · exact hs l hl h1 h2 (tk_len h0 hc hb hs n _ (drop_lt2 hl h2 h))
        · exact hb l hl h1 h2
theorem tk_ind {p : List UInt8 → Prop} (h0 : p []) (hc : ∀ l, l ≠ [] → (l.getD 0 0).toNat = 34 → p l) (hb : ∀ l, l ≠ [] → (l.getD 0 0).toNat ≠ 34 → (stp l).1 ≠ 0 → p l)
    (hs : ∀ l, l ≠ [] → (l.getD 0 0).toNat ≠ 34 → (stp l).1 = 0 → p (l.drop (stp l).2.1) → p l) (l : List UInt8) : p l := tk_len h0 hc hb hs l.length l (Nat.le_refl _)

/-- Where a fault stands, or the end; how long a value may be. -/
theorem tkQ_in (l : List UInt8) : (tkQ l).2.1 ≤ l.length ∧ (tkQ l).2.2.length ≤ (tkQ l).2.1 := by
  refine tk_ind (p := fun l => (tkQ l).2.1 ≤ l.length ∧ (tkQ l).2.2.length ≤ (tkQ l).2.1) ?_ ?_ ?_ ?_ l
  · rw [tkQ_nil]; simp
  · intro l hl h
    rw [tkQ_close h]
    exact ⟨List.length_pos_iff.2 hl, by simp⟩
  · intro l hl h h1
    rw [tkQ_bad hl h h1]; simp
  · intro l hl h h1 ih
    have h2 := stp_ok hl h1
    rw [tkQ_step hl h h1]
    rw [List.length_drop] at ih
    refine ⟨by simp only; omega, ?_⟩
    simp only
    split
    · rw [List.length_append]; omega
    · simp
/-- What is taken ends at a quote. -/
theorem tkQ_end (l : List UInt8) : (tkQ l).1 = 0 → 1 ≤ (tkQ l).2.1 ∧ (l.getD ((tkQ l).2.1 - 1) 0).toNat = 34 := by
  refine tk_ind (p := fun l => (tkQ l).1 = 0 → 1 ≤ (tkQ l).2.1 ∧ (l.getD ((tkQ l).2.1 - 1) 0).toNat = 34) ?_ ?_ ?_ ?_ l
  · intro h; rw [tkQ_nil] at h; cases h
  · intro l _ h _
    rw [tkQ_close h]
    exact ⟨by simp, h⟩
  · intro l hl h h1 h2
    rw [tkQ_bad hl h h1] at h2
    exact absurd h2 h1
  · intro l hl h h1 ih h2
    have h3 := stp_ok hl h1
    rw [tkQ_step hl h h1] at h2 ⊢
    simp only at h2 ⊢
    obtain ⟨i1, i2⟩ := ih h2
    refine ⟨by omega, ?_⟩
    rw [List.getD_eq_getElem?_getD, List.getElem?_drop] at i2
    rw [List.getD_eq_getElem?_getD, show (tkQ (l.drop (stp l).2.1)).2.1 + (stp l).2.1 - 1 = (stp l).2.1 + ((tkQ (l.drop (stp l).2.1)).2.1 - 1) by omega]
    exact i2
theorem app_none {x y : List UInt8} (hx : badL x = none) (hy : badL y = none) : badL (x ++ y) = none := by
  rw [(app_bad y x hx).1, hy]; rfl
theorem enc_none {n : Nat} (h : vN n) : badL (encodeRune (n : Int)) = none := by
  have := (text_enc [n] (by simpa using h)).1
  rw [encL_cons, encL_nil, List.append_nil] at this
  exact this
theorem take_none {l : List UInt8} (h : 0 < wL l) : badL (l.take (wL l)) = none := by
  rw [← enc_wL h]
  apply enc_none
  have := rnL_valid l (nL l) (by rw [rnL_step h]; exact List.mem_cons_self)
  exact this
theorem low_none : ∀ n : Fin 128, badL [UInt8.ofNat n.val] = none := by decide +kernel
theorem ltN_low (c : Nat) (h : ltN c < 256) : ltN c < 128 := by
  unfold ltN at h ⊢
  repeat' split
  all_goals first | decide | (exfalso; simp_all)
theorem escL_text {l : List UInt8} (h : (escL l).1 = 0) : badL (escL l).2.2 = none := by
  unfold escL at h ⊢
  by_cases h1 : ltN (l.getD 1 0).toNat < 256
  · rw [if_pos h1]; exact low_none ⟨_, ltN_low _ h1⟩
  · rw [if_neg h1] at h ⊢
    cases hn : nO l with
    | none => rw [hn] at h; cases h
    | some n =>
      rw [hn] at h
      simp only at h ⊢
      by_cases h3 : vB (nP n (nO (l.drop 6))).1 = true
      · rw [if_pos h3]; exact enc_none (vB_vN h3)
      · rw [if_neg h3] at h; cases h
theorem stp_text {l : List UInt8} (h : (stp l).1 = 0) : badL (stp l).2.2 = none := by
  unfold stp at h ⊢
  by_cases h1 : (l.getD 0 0).toNat = 92
  · rw [if_pos h1] at h ⊢; exact escL_text h
  · rw [if_neg h1] at h ⊢
    by_cases h2 : (l.getD 0 0).toNat < 32
    · rw [if_pos h2] at h; cases h
    · rw [if_neg h2] at h ⊢
      by_cases h3 : wL l = 0
      · rw [if_pos h3] at h; cases h
      · rw [if_neg h3]; exact take_none (by omega)
/-- What is taken is a text. -/
theorem tkQ_text (l : List UInt8) : badL (tkQ l).2.2 = none := by
  refine tk_ind (p := fun l => badL (tkQ l).2.2 = none) ?_ ?_ ?_ ?_ l
  · rw [tkQ_nil]; rfl
  · intro l hl h; rw [tkQ_close h]; rfl
  · intro l hl h h1; rw [tkQ_bad hl h h1]; rfl
  · intro l hl h h1 ih
    rw [tkQ_step hl h h1]
    simp only
    split
    · exact app_none (stp_text h1) ih
    · rfl

/-! ### what is put is taken -/
theorem wL_low (c : UInt8) (l : List UInt8) (h : c.toNat < 128) : wL (c :: l) = 1 := by
  have e : encodeRune ((c.toNat : Nat) : Int) = [c] := by
    unfold encodeRune
    rw [encodeRuneZ_one (by omega) (by omega)]
    simp
  have := (wL_enc c.toNat l (.inl (by omega))).1
  rw [e] at this
  exact this
theorem enc_low (n : Nat) (h : n < 128) : encodeRune (n : Int) = [UInt8.ofNat n] := by
  unfold encodeRune
  rw [encodeRuneZ_one (by omega) (by omega)]
  simp [Nat.toUInt8]
theorem stp_plain (c : UInt8) (x : List UInt8) (h0 : 32 ≤ c.toNat) (h1 : c.toNat < 128) (h2 : c.toNat ≠ 92) : stp (c :: x) = (0, 1, [c]) := by
  unfold stp
  rw [List.getD_cons_zero, if_neg h2, if_neg (by omega), wL_low c x h1, if_neg (by decide)]
  rfl
theorem short_table : ∀ n : Fin 128, shN n.val ≠ 0 → ltN (UInt8.ofNat (shN n.val)).toNat = n.val := by decide +kernel
theorem hex_table : ∀ n : Fin 32, hxF 0 (48 :: 48 :: hexL [UInt8.ofNat n.val]) = some n.val ∧ vB n.val = true := by decide +kernel
theorem stp_digits (a b c d : UInt8) (x : List UInt8) (n : Nat) (h : hxF 0 [a, b, c, d] = some n) : stp (92 :: 117 :: a :: b :: c :: d :: x) = if vB (nP n (nO x)).1 = true then (0, (nP n (nO x)).2, encodeRune ((nP n (nO x)).1 : Int)) else (8, 0, []) := by
  have e : nO (92 :: 117 :: a :: b :: c :: d :: x) = some n := by
    unfold nO h4
    simpa using h
  unfold stp
  rw [List.getD_cons_zero, if_pos (by decide)]
  unfold escL
  rw [if_neg (by simp; decide), e]
  rfl
theorem nP_low {n : Nat} (h : ¬ (55296 ≤ n ∧ n ≤ 56319)) (o : Option Nat) : nP n o = (n, 6) := by
  unfold nP
  cases o with
  | none => rfl
  | some m =>
    simp only
    rw [if_neg]
    unfold pr
    simp only [decide_eq_true_eq]
    exact fun h2 => h h2.1
theorem stp_qB (c : UInt8) (x : List UInt8) (h : c.toNat < 128) : stp (qB c ++ x) = (0, (qB c).length, [c]) ∧ ((qB c ++ x).getD 0 0).toNat ≠ 34 := by
  have hc : UInt8.ofNat c.toNat = c := by simp
  unfold qB
  by_cases h1 : shN c.toNat ≠ 0
  · rw [if_pos h1]
    have h2 := short_table ⟨c.toNat, h⟩ h1
    simp only at h2
    refine ⟨?_, by simp⟩
    unfold stp
    rw [List.cons_append, List.getD_cons_zero, if_pos (by decide)]
    unfold escL
    simp only [List.cons_append, List.nil_append, List.getD_cons_succ, List.getD_cons_zero]
    rw [if_pos (by rw [h2]; omega), h2, hc]
    rfl
  · rw [if_neg h1]
    by_cases h2 : c.toNat < 32
    · rw [if_pos h2]
      refine ⟨?_, by simp⟩
      obtain ⟨h3, h4⟩ := hex_table ⟨c.toNat, h2⟩
      simp only at h3 h4
      rw [hc] at h3
      have e : hexL [c] = [hexd (c.toNat / 16), hexd (c.toNat % 16)] := rfl
      rw [e] at h3 ⊢
      have h5 := stp_digits 48 48 _ _ x c.toNat h3
      rw [nP_low (by omega), if_pos (by simpa using h4), enc_low _ h, hc] at h5
      exact h5
    · rw [if_neg h2]
      have h3 : c.toNat ≠ 34 := by intro h3; apply h1; rw [h3]; decide
      have h4 : c.toNat ≠ 92 := by intro h3; apply h1; rw [h3]; decide
      exact ⟨stp_plain c x (by omega) h h4, h3⟩
theorem enc_high (n : Nat) (h : 128 ≤ n) (hv : vN n) : ∀ c ∈ encodeRune (n : Int), 128 ≤ c.toNat := by
  have b : ∀ x : Int, 128 ≤ x → x < 256 → 128 ≤ (x.toNat.toUInt8).toNat := fun x h0 h1 => by
    have : x.toNat < 256 := by omega
    simp [Nat.mod_eq_of_lt this]; omega
  intro c hc
  unfold encodeRune at hc
  rw [List.mem_map] at hc
  obtain ⟨z, hz, rfl⟩ := hc
  have hz2 : 128 ≤ z ∧ z < 256 := by
    by_cases h1 : n ≤ 2047
    · rw [encodeRuneZ_two (by omega) (by omega)] at hz
      simp only [List.mem_cons, List.not_mem_nil, or_false] at hz
      omega
    · by_cases h2 : ((n : Int) < 55296 ∨ 57343 < (n : Int)) ∧ (n : Int) ≤ 65535
      · rw [encodeRuneZ_three (by omega)] at hz
        simp only [List.mem_cons, List.not_mem_nil, or_false] at hz
        omega
      · by_cases h3 : 65535 < (n : Int) ∧ (n : Int) ≤ 1114111
        · rw [encodeRuneZ_four (by omega) (by omega)] at hz
          simp only [List.mem_cons, List.not_mem_nil, or_false] at hz
          omega
        · exfalso; unfold vN at hv; omega
  exact b z hz2.1 hz2.2
theorem stp_high {l : List UInt8} (x : List UInt8) (h : 0 < wL l) (hc : 128 ≤ nL l) : qL (l.take (wL l)) = l.take (wL l) ∧ stp (l.take (wL l) ++ x) = (0, wL l, l.take (wL l)) ∧ ((l.take (wL l) ++ x).getD 0 0).toNat ≠ 34 := by
  have hv : vN (nL l) := rnL_valid l (nL l) (by rw [rnL_step h]; exact List.mem_cons_self)
  have hw := (wL_enc (nL l) x hv).1
  have hh := enc_high (nL l) hc hv
  rw [enc_wL h] at hw hh
  have hlen : (l.take (wL l)).length = wL l := by rw [List.length_take]; have := wL_le l; omega
  rw [hlen] at hw
  refine ⟨qL_high _ hh, ?_⟩
  cases ht : l.take (wL l) with
  | nil => rw [ht] at hlen; simp at hlen; omega
  | cons c t =>
    rw [ht] at hw hh hlen
    have h0 := hh c List.mem_cons_self
    refine ⟨?_, by rw [List.cons_append, List.getD_cons_zero]; omega⟩
    unfold stp
    rw [List.cons_append, List.getD_cons_zero, if_neg (by omega), if_neg (by omega), ← List.cons_append, hw, if_neg (by omega)]
    rw [List.take_left' hlen]
/-- Whoever puts a text and takes it has it again, whatever follows. -/
theorem tkQ_back (x : List UInt8) (l : List UInt8) : badL l = none → tkQ (qL l ++ 34 :: x) = (0, (qL l).length + 1, l) := by
  refine width_ind (p := fun l => badL l = none → tkQ (qL l ++ 34 :: x) = (0, (qL l).length + 1, l)) (fun _ => ?_) (fun l hl h hb => ?_) (fun l h ih hb => ?_) l
  · rw [qL_nil]; exact tkQ_close rfl
  · rw [badL_zero hl h] at hb; cases hb
  · have h2 := ok_step hb (wL_good h).1
    have ih := ih h2.2
    have key : ∃ y, qL l = y ++ qL (l.drop (wL l)) ∧ y ≠ [] ∧ stp (y ++ (qL (l.drop (wL l)) ++ 34 :: x)) = (0, y.length, l.take (wL l)) ∧ ((y ++ (qL (l.drop (wL l)) ++ 34 :: x)).getD 0 0).toNat ≠ 34 := by
      by_cases hc : 128 ≤ nL l
      · obtain ⟨k1, k2, k3⟩ := stp_high (qL (l.drop (wL l)) ++ 34 :: x) h hc
        have hlen : (l.take (wL l)).length = wL l := by rw [List.length_take]; have := wL_le l; omega
        refine ⟨l.take (wL l), ?_, ?_, by rw [hlen]; exact k2, k3⟩
        · conv => lhs; rw [← List.take_append_drop (wL l) l, qL_append, k1]
        · intro e; rw [e] at hlen; simp at hlen; omega
      · have he := enc_wL h
        rw [enc_low _ (by omega)] at he
        have hlow : (UInt8.ofNat (nL l)).toNat < 128 := by rw [ofNat_toNat _ (by omega)]; omega
        obtain ⟨k1, k2⟩ := stp_qB (UInt8.ofNat (nL l)) (qL (l.drop (wL l)) ++ 34 :: x) hlow
        refine ⟨qB (UInt8.ofNat (nL l)), ?_, ?_, by rw [← he]; exact k1, k2⟩
        · conv => lhs; rw [← List.take_append_drop (wL l) l, ← he, qL_append, qL_cons, qL_nil, List.append_nil]
        · intro e; have := (qB_len (UInt8.ofNat (nL l))).1; rw [e] at this; simp at this
    obtain ⟨y, k1, k2, k3, k4⟩ := key
    rw [k1, List.append_assoc]
    rw [tkQ_step (by simp [k2]) k4 (by rw [k3]), k3]
    simp only [List.drop_left, ih, if_pos]
    rw [List.take_append_drop, List.length_append]
    exact Prod.ext rfl (Prod.ext (by simp only; omega) rfl)
theorem tkQ_qQ (x l : List UInt8) (h : badL l = none) : qQ l ++ x = 34 :: (qL l ++ 34 :: x) ∧ tkQ (qL l ++ 34 :: x) = (0, (qQ l).length - 1, l) := by
  refine ⟨by simp [qQ], ?_⟩
  rw [tkQ_back x l h]
  unfold qQ
  simp

/-! ### each number can be said by digits -/
theorem dgA_hexd : ∀ n : Fin 16, dgA (hexd n.val).toNat = n.val := by decide +kernel
theorem hx_put (n : Nat) (h : n < 65536) : ∃ a b c d, hexL (putL n 2) = [a, b, c, d] ∧ hxF 0 [a, b, c, d] = some n := by
  refine ⟨hexd (n / 256 % 256 / 16), hexd (n / 256 % 256 % 16), hexd (n % 256 / 16), hexd (n % 256 % 16), ?_, ?_⟩
  · simp only [putL, hexL]
    rw [ofNat_toNat _ (by omega), ofNat_toNat _ (by omega)]
    simp
  · have g : ∀ m, m < 16 → dgA (hexd m).toNat = m := fun m hm => dgA_hexd ⟨m, hm⟩
    simp only [hxF]
    rw [g _ (by omega), g _ (by omega), g _ (by omega), g _ (by omega), if_pos (by omega), if_pos (by omega), if_pos (by omega), if_pos (by omega)]
    congr 1
    omega
theorem nO_quote (x : List UInt8) : nO (34 :: x) = none := by
  unfold nO
  rw [if_neg]
  cases x <;> simp
theorem tkQ_one (n : Nat) (x : List UInt8) (h : n < 65536) (hv : vB n = true) : tkQ ([92, 117] ++ hexL (putL n 2) ++ 34 :: x) = (0, 7, encodeRune (n : Int)) := by
  obtain ⟨a, b, c, d, h1, h2⟩ := hx_put n h
  rw [h1]
  have h3 := stp_digits a b c d (34 :: x) n h2
  have e : nP n none = (n, 6) := rfl
  rw [nO_quote, e, if_pos (by simpa using hv)] at h3
  show tkQ (92 :: 117 :: a :: b :: c :: d :: 34 :: x) = _
  rw [tkQ_step (by simp) (by simp) (by rw [h3]), h3]
  simp only [List.drop_succ_cons, List.drop_zero]
  rw [tkQ_close rfl]
  simp
theorem tkQ_two (n m r : Nat) (x : List UInt8) (h1 : 55296 ≤ n ∧ n ≤ 56319) (h2 : 56320 ≤ m ∧ m ≤ 57343) (hr : r = 65536 + (n - 55296) * 1024 + (m - 56320)) : tkQ ([92, 117] ++ hexL (putL n 2) ++ ([92, 117] ++ hexL (putL m 2)) ++ 34 :: x) = (0, 13, encodeRune (r : Int)) := by
  obtain ⟨a, b, c, d, k1, k2⟩ := hx_put n (by omega)
  obtain ⟨a2, b2, c2, d2, k3, k4⟩ := hx_put m (by omega)
  rw [k1, k3]
  have e : nO (92 :: 117 :: a2 :: b2 :: c2 :: d2 :: 34 :: x) = some m := by
    unfold nO h4
    simpa using k4
  have h3 := stp_digits a b c d (92 :: 117 :: a2 :: b2 :: c2 :: d2 :: 34 :: x) n k2
  have e2 : nP n (some m) = (r, 12) := by
    unfold nP
    simp only
    rw [if_pos (by unfold pr; simp only [decide_eq_true_eq]; omega), ← hr]
  rw [e, e2, if_pos (by unfold vB; simp only [decide_eq_true_eq]; omega)] at h3
  show tkQ (92 :: 117 :: a :: b :: c :: d :: 92 :: 117 :: a2 :: b2 :: c2 :: d2 :: 34 :: x) = _
  rw [tkQ_step (by simp) (by simp) (by rw [h3]), h3]
  simp only [List.drop_succ_cons, List.drop_zero]
  rw [tkQ_close rfl]
  simp
end Go.Proofs.YthkopnobekohcaaGreatDoor.Quo

namespace Go.Proofs.YthkopnobekohcaaGreatDoor.Lx
open Go.Lib Go.Proofs.YthkopnobekohcaaGreatDoor.Utf Go.Proofs.YthkopnobekohcaaGreatDoor.Oct Go.Proofs.YthkopnobekohcaaGreatDoor.Quo

/-! ### bytes -/
def hd (l : List UInt8) : Nat := (l.getD 0 0).toNat
def bl (c : Nat) : Bool := decide (c = 32 ∨ c = 9 ∨ c = 10 ∨ c = 13)
def dg (c : Nat) : Bool := decide (48 ≤ c ∧ c ≤ 57)
def mk (c : Nat) : Bool := decide (c = 46 ∨ c = 101 ∨ c = 69)
def sg (c : Nat) : Nat := if c = 123 then 1 else if c = 125 then 2 else if c = 91 then 3 else if c = 93 then 4 else if c = 58 then 5 else if c = 44 then 6 else 0
/-- The blanks at the head. -/
def skp : List UInt8 → Nat
  | [] => 0
  | c :: l => if bl c.toNat = true then skp l + 1 else 0
/-- The digits at the head. -/
def dgs : List UInt8 → Nat
  | [] => 0
  | c :: l => if dg c.toNat = true then dgs l + 1 else 0
/-- The digits of the number at the head. -/
def dgc (l : List UInt8) : Nat := if hd l = 48 then 1 else dgs l
def vl (l : List UInt8) : Nat := l.foldl (fun n c => 10 * n + (c.toNat - 48)) 0

/-- A token: its kind, where it begins, its bytes, its text, its number. -/
structure Tk where
  k : Nat
  o : Nat
  z : Nat
  v : List UInt8
  n : Int
def bad (o : Nat) : Tk := ⟨0, o, 0, [], 0⟩
def Tk.sh (b : Nat) (t : Tk) : Tk := ⟨t.k, b + t.o, t.z, t.v, t.n⟩

def sgn (l : List UInt8) : Nat := if hd l = 45 then 1 else 0
/-- The number's digits, from the head on. -/
def dc (l : List UInt8) : Nat := dgc (l.drop (sgn l))
def vz (l : List UInt8) : Nat := vl ((l.drop (sgn l)).take (dc l))
/-- The number's value, and whether it has room. -/
def vi (l : List UInt8) : Int := if sgn l = 1 then -(vz l : Int) else (vz l : Int)
def vo (l : List UInt8) : Bool := decide (-9223372036854775808 ≤ vi l ∧ vi l ≤ 9223372036854775807)
/-- The error and the token at the head. -/
def num (l : List UInt8) : Nat × Tk :=
  if dc l = 0 then (4, bad 0) else if mk (l.getD (sgn l + dc l) 0).toNat = true then (18, bad 0) else if vo l = true then (0, ⟨8, 0, sgn l + dc l, [], vi l⟩) else (6, bad 0)
def wrd (l : List UInt8) : Nat × Tk :=
  if l.take 4 = [116, 114, 117, 101] then (0, ⟨9, 0, 4, [], 0⟩) else if l.take 5 = [102, 97, 108, 115, 101] then (0, ⟨10, 0, 5, [], 0⟩) else if l.take 4 = [110, 117, 108, 108] then (0, ⟨11, 0, 4, [], 0⟩) else (4, bad 0)
def txt (l : List UInt8) : Nat × Tk :=
  if (tkQ (l.drop 1)).1 = 0 then (0, ⟨7, 0, (tkQ (l.drop 1)).2.1 + 1, (tkQ (l.drop 1)).2.2, 0⟩) else ((tkQ (l.drop 1)).1, bad ((tkQ (l.drop 1)).2.1 + 1))
def tok (l : List UInt8) : Nat × Tk :=
  if l = [] then (0, bad 0) else if sg (hd l) ≠ 0 then (0, ⟨sg (hd l), 0, 1, [], 0⟩) else if hd l = 34 then txt l else if hd l = 45 ∨ dg (hd l) = true then num l else wrd l
/-- The first token behind blanks. -/
def nx (l : List UInt8) : Nat × Tk := ((tok (l.drop (skp l))).1, (tok (l.drop (skp l))).2.sh (skp l))
/-- All tokens: the error, where it stands, the tokens. -/
def tks : Nat → Nat → List UInt8 → Nat × Nat × List Tk
  | 0, _, _ => (99, 0, [])
  | f + 1, b, l => if (nx l).1 ≠ 0 then ((nx l).1, b + (nx l).2.o, []) else if (nx l).2.k = 0 then (0, 0, [(nx l).2.sh b])
      else if (tks f (b + (nx l).2.o + (nx l).2.z) (l.drop ((nx l).2.o + (nx l).2.z))).1 = 0 then (0, 0, (nx l).2.sh b :: (tks f (b + (nx l).2.o + (nx l).2.z) (l.drop ((nx l).2.o + (nx l).2.z))).2.2)
      else tks f (b + (nx l).2.o + (nx l).2.z) (l.drop ((nx l).2.o + (nx l).2.z))

/-! ### sizes -/
theorem skp_le : ∀ l, skp l ≤ l.length
  | [] => Nat.le_refl _
  | c :: l => by rw [skp]; have := skp_le l; split <;> simp <;> omega
theorem dgs_le : ∀ l, dgs l ≤ l.length
  | [] => Nat.le_refl _
  | c :: l => by rw [dgs]; have := dgs_le l; split <;> simp <;> omega
theorem hd_ne {l : List UInt8} (h : hd l ≠ 0) : l ≠ [] := by rintro rfl; exact h rfl
theorem dgc_le (l : List UInt8) : dgc l ≤ l.length := by
  unfold dgc
  split
  · rename_i h; exact List.length_pos_iff.2 (hd_ne (by omega))
  · exact dgs_le l
theorem sgn_le1 (l : List UInt8) : sgn l ≤ 1 := by unfold sgn; split <;> omega
theorem dc_le (l : List UInt8) : sgn l + dc l ≤ l.length := by
  have h1 := dgc_le (l.drop (sgn l))
  rw [List.length_drop] at h1
  unfold dc
  by_cases h : hd l = 45
  · have h2 := List.length_pos_iff.2 (hd_ne (l := l) (by omega))
    have : sgn l = 1 := if_pos h
    omega
  · have : sgn l = 0 := if_neg h
    omega
theorem take_le {l : List UInt8} {n : Nat} {x : List UInt8} (h : l.take n = x) : x.length ≤ l.length := by
  rw [← h, List.length_take]; omega
theorem num_good (l : List UInt8) (h : (num l).1 = 0) : num l = (0, ⟨8, 0, sgn l + dc l, [], vi l⟩) ∧ 0 < dc l ∧ mk (l.getD (sgn l + dc l) 0).toNat = false ∧ vo l = true := by
  unfold num at h ⊢
  by_cases h1 : dc l = 0
  · rw [if_pos h1] at h; cases h
  · rw [if_neg h1] at h ⊢
    by_cases h2 : mk (l.getD (sgn l + dc l) 0).toNat = true
    · rw [if_pos h2] at h; cases h
    · rw [if_neg h2] at h ⊢
      by_cases h3 : vo l = true
      · rw [if_pos h3]; exact ⟨rfl, by omega, by simpa using h2, h3⟩
      · rw [if_neg h3] at h; cases h
theorem num_bad (l : List UInt8) (h : (num l).1 ≠ 0) : (num l).2 = bad 0 := by
  unfold num at h ⊢
  repeat' split
  all_goals first | rfl | skip
  exfalso
  apply h
  rw [if_neg (by assumption), if_neg (by assumption), if_pos (by assumption)]
theorem wrd_cases (l : List UInt8) : (wrd l = (0, ⟨9, 0, 4, [], 0⟩) ∧ 4 ≤ l.length ∧ l.take 4 = [116, 114, 117, 101]) ∨ (wrd l = (0, ⟨10, 0, 5, [], 0⟩) ∧ 5 ≤ l.length ∧ l.take 5 = [102, 97, 108, 115, 101]) ∨ (wrd l = (0, ⟨11, 0, 4, [], 0⟩) ∧ 4 ≤ l.length ∧ l.take 4 = [110, 117, 108, 108]) ∨
    (wrd l = (4, bad 0) ∧ l.take 4 ≠ [116, 114, 117, 101] ∧ l.take 5 ≠ [102, 97, 108, 115, 101] ∧ l.take 4 ≠ [110, 117, 108, 108]) := by
  by_cases h1 : l.take 4 = [116, 114, 117, 101]
  · exact .inl ⟨if_pos h1, take_le h1, h1⟩
  · by_cases h2 : l.take 5 = [102, 97, 108, 115, 101]
    · exact .inr (.inl ⟨by unfold wrd; rw [if_neg h1, if_pos h2], take_le h2, h2⟩)
    · by_cases h3 : l.take 4 = [110, 117, 108, 108]
      · exact .inr (.inr (.inl ⟨by unfold wrd; rw [if_neg h1, if_neg h2, if_pos h3], take_le h3, h3⟩))
      · exact .inr (.inr (.inr ⟨by unfold wrd; rw [if_neg h1, if_neg h2, if_neg h3], h1, h2, h3⟩))
theorem sg_le (c : Nat) : sg c ≤ 6 := by unfold sg; repeat' split
                                         all_goals omega
/-- Of the token at the head: what it can be. -/
theorem tok_good (l : List UInt8) (h : (tok l).1 = 0) : (tok l).2.o = 0 ∧ ((tok l).2.k = 0 ↔ l = []) ∧ ((tok l).2.z = 0 ↔ l = []) ∧ (tok l).2.z ≤ l.length ∧ (tok l).2.v.length ≤ (tok l).2.z ∧ (tok l).2.k ≤ 11 := by
  unfold tok at h ⊢
  by_cases h0 : l = []
  · rw [if_pos h0]; subst h0; simp [bad]
  · rw [if_neg h0] at h ⊢
    have hp := List.length_pos_iff.2 h0
    by_cases h1 : sg (hd l) ≠ 0
    · rw [if_pos h1]
      have := sg_le (hd l)
      exact ⟨rfl, ⟨fun e => absurd e h1, fun e => absurd e h0⟩, ⟨fun e => absurd e (by simp), fun e => absurd e h0⟩, by simp only; omega, by simp, by simp only; omega⟩
    · rw [if_neg h1] at h ⊢
      by_cases h2 : hd l = 34
      · rw [if_pos h2] at h ⊢
        unfold txt at h ⊢
        have hq := tkQ_in (l.drop 1)
        rw [List.length_drop] at hq
        by_cases h3 : (tkQ (l.drop 1)).1 = 0
        · rw [if_pos h3]
          exact ⟨rfl, ⟨fun e => absurd e (by simp), fun e => absurd e h0⟩, ⟨fun e => absurd e (by simp), fun e => absurd e h0⟩, by simp only; omega, by simp only; omega, by simp⟩
        · rw [if_neg h3] at h
          exact absurd h h3
      · rw [if_neg h2] at h ⊢
        by_cases h3 : hd l = 45 ∨ dg (hd l) = true
        · rw [if_pos h3] at h ⊢
          obtain ⟨e, h4, _⟩ := num_good l h
          rw [e]
          have h5 := dc_le l
          exact ⟨rfl, ⟨fun e => absurd e (by simp), fun e => absurd e h0⟩, ⟨fun e => absurd e (by simp only; omega), fun e => absurd e h0⟩, h5, by simp, by simp⟩
        · rw [if_neg h3] at h ⊢
          rcases wrd_cases l with ⟨e, h4, _⟩ | ⟨e, h4, _⟩ | ⟨e, h4, _⟩ | ⟨e, _⟩
          · rw [e]; exact ⟨rfl, ⟨fun e => absurd e (by simp), fun e => absurd e h0⟩, ⟨fun e => absurd e (by simp), fun e => absurd e h0⟩, h4, by simp, by simp⟩
          · rw [e]; exact ⟨rfl, ⟨fun e => absurd e (by simp), fun e => absurd e h0⟩, ⟨fun e => absurd e (by simp), fun e => absurd e h0⟩, h4, by simp, by simp⟩
          · rw [e]; exact ⟨rfl, ⟨fun e => absurd e (by simp), fun e => absurd e h0⟩, ⟨fun e => absurd e (by simp), fun e => absurd e h0⟩, h4, by simp, by simp⟩
          · rw [e] at h; cases h
theorem tok_bad (l : List UInt8) (h : (tok l).1 ≠ 0) : (∃ o, (tok l).2 = bad o ∧ o ≤ l.length) ∧ l ≠ [] := by
  unfold tok at h ⊢
  by_cases h0 : l = []
  · rw [if_pos h0] at h; exact absurd rfl h
  · refine ⟨?_, h0⟩
    rw [if_neg h0] at h ⊢
    have hp := List.length_pos_iff.2 h0
    by_cases h1 : sg (hd l) ≠ 0
    · rw [if_pos h1] at h; exact absurd rfl h
    · rw [if_neg h1] at h ⊢
      by_cases h2 : hd l = 34
      · rw [if_pos h2] at h ⊢
        unfold txt at h ⊢
        have hq := tkQ_in (l.drop 1)
        rw [List.length_drop] at hq
        by_cases h3 : (tkQ (l.drop 1)).1 = 0
        · rw [if_pos h3] at h; exact absurd rfl h
        · rw [if_neg h3]
          exact ⟨_, rfl, by omega⟩
      · rw [if_neg h2] at h ⊢
        by_cases h3 : hd l = 45 ∨ dg (hd l) = true
        · rw [if_pos h3] at h ⊢
          exact ⟨0, num_bad l h, by omega⟩
        · rw [if_neg h3] at h ⊢
          rcases wrd_cases l with ⟨e, h4, _⟩ | ⟨e, h4, _⟩ | ⟨e, h4, _⟩ | ⟨e, _⟩
          · rw [e] at h; exact absurd rfl h
          · rw [e] at h; exact absurd rfl h
          · rw [e] at h; exact absurd rfl h
          · rw [e]; exact ⟨0, rfl, by omega⟩
theorem drop_skp {l : List UInt8} (h : l.drop (skp l) = []) : skp l = l.length := by
  have := skp_le l
  have h2 := congrArg List.length h
  rw [List.length_drop] at h2
  simp at h2
  omega
/-- Of the first token: where it stands. -/
theorem nx_good (l : List UInt8) (h : (nx l).1 = 0) : (nx l).2.o = skp l ∧ (nx l).2.o + (nx l).2.z ≤ l.length ∧ ((nx l).2.k = 0 ↔ skp l = l.length) ∧ ((nx l).2.z = 0 ↔ (nx l).2.k = 0) ∧ (nx l).2.v.length ≤ (nx l).2.z ∧ (nx l).2.k ≤ 11 := by
  have h1 := tok_good (l.drop (skp l)) h
  obtain ⟨a, b, c, d, e, f⟩ := h1
  have hs := skp_le l
  have hn : l.drop (skp l) = [] ↔ skp l = l.length := ⟨drop_skp, fun e => by rw [e, List.drop_length]⟩
  rw [List.length_drop] at d
  refine ⟨by show skp l + _ = _; omega, by show skp l + _ + _ ≤ _; rw [show (nx l).2.z = (tok (l.drop (skp l))).2.z from rfl]; omega, b.trans hn, c.trans b.symm, e, f⟩
theorem nx_bad (l : List UInt8) (h : (nx l).1 ≠ 0) : ∃ o, (nx l).2 = bad o ∧ o ≤ l.length := by
  obtain ⟨⟨o, h1, h2⟩, _⟩ := tok_bad (l.drop (skp l)) h
  have hs := skp_le l
  rw [List.length_drop] at h2
  refine ⟨skp l + o, ?_, by omega⟩
  show Tk.sh _ _ = _
  rw [h1]; rfl
/-- Fewer bytes behind each token. -/
theorem nx_step (l : List UInt8) (h : (nx l).1 = 0) (hk : (nx l).2.k ≠ 0) : 0 < (nx l).2.z ∧ (nx l).2.o + (nx l).2.z ≤ l.length := by
  obtain ⟨_, b, _, d, _, _⟩ := nx_good l h
  exact ⟨Nat.pos_of_ne_zero fun e => hk (d.1 e), b⟩
theorem tks_fuel : ∀ (f g b : Nat) (l : List UInt8), l.length < f → l.length < g → tks f b l = tks g b l
  | 0, _, _, _, h, _ => by omega
  | _ + 1, 0, _, _, _, h => by omega
  | f + 1, g + 1, b, l, hf, hg => by
    rw [tks, tks]
    by_cases h : (nx l).1 ≠ 0
    · rw [if_pos h, if_pos h]
    · rw [if_neg h, if_neg h]
      by_cases hk : (nx l).2.k = 0
      · rw [if_pos hk, if_pos hk]
      · rw [if_neg hk, if_neg hk]
        have := nx_step l (by omega) hk
        rw [tks_fuel f g _ (l.drop ((nx l).2.o + (nx l).2.z)) (by rw [List.length_drop]; omega) (by rw [List.length_drop]; omega)]
/-- All tokens from place b on. -/
def tkA (b : Nat) (l : List UInt8) : Nat × Nat × List Tk := tks (l.length + 1) b l
theorem tkA_bad (b : Nat) (l : List UInt8) (h : (nx l).1 ≠ 0) : tkA b l = ((nx l).1, b + (nx l).2.o, []) := by unfold tkA; rw [tks, if_pos h]
theorem tkA_end (b : Nat) (l : List UInt8) (h : (nx l).1 = 0) (hk : (nx l).2.k = 0) : tkA b l = (0, 0, [(nx l).2.sh b]) := by unfold tkA; rw [tks, if_neg (by omega), if_pos hk]
theorem tkA_step (b : Nat) (l : List UInt8) (h : (nx l).1 = 0) (hk : (nx l).2.k ≠ 0) :
    tkA b l = if (tkA (b + (nx l).2.o + (nx l).2.z) (l.drop ((nx l).2.o + (nx l).2.z))).1 = 0 then (0, 0, (nx l).2.sh b :: (tkA (b + (nx l).2.o + (nx l).2.z) (l.drop ((nx l).2.o + (nx l).2.z))).2.2)
      else tkA (b + (nx l).2.o + (nx l).2.z) (l.drop ((nx l).2.o + (nx l).2.z)) := by
  have h1 := nx_step l h hk
  have e : ∀ b', tks l.length b' (l.drop ((nx l).2.o + (nx l).2.z)) = tkA b' (l.drop ((nx l).2.o + (nx l).2.z)) := fun b' => tks_fuel _ _ _ _ (by rw [List.length_drop]; omega) (by omega)
  conv => lhs; unfold tkA; rw [tks]
  rw [if_neg (by omega), if_neg hk, e]
/-- By its tokens. -/
theorem tok_len {p : Nat → List UInt8 → Prop} (hb : ∀ b l, (nx l).1 ≠ 0 → p b l) (he : ∀ b l, (nx l).1 = 0 → (nx l).2.k = 0 → p b l)
    (hs : ∀ b l, (nx l).1 = 0 → (nx l).2.k ≠ 0 → p (b + (nx l).2.o + (nx l).2.z) (l.drop ((nx l).2.o + (nx l).2.z)) → p b l) : ∀ (n b : Nat) (l : List UInt8), l.length < n → p b l
  | 0, _, _, h => by omega
  | n + 1, b, l, hn => by
    by_cases h : (nx l).1 = 0
    · by_cases hk : (nx l).2.k = 0
      · exact he b l h hk
      · have := nx_step l h hk
        exact hs b l h hk (tok_len hb he hs n _ _ (by rw [List.length_drop]; omega))
    · exact hb b l h
theorem tok_ind {p : Nat → List UInt8 → Prop} (hb : ∀ b l, (nx l).1 ≠ 0 → p b l) (he : ∀ b l, (nx l).1 = 0 → (nx l).2.k = 0 → p b l)
    (hs : ∀ b l, (nx l).1 = 0 → (nx l).2.k ≠ 0 → p (b + (nx l).2.o + (nx l).2.z) (l.drop ((nx l).2.o + (nx l).2.z)) → p b l) (b : Nat) (l : List UInt8) : p b l := tok_len hb he hs (l.length + 1) b l (by omega)
end Go.Proofs.YthkopnobekohcaaGreatDoor.Lx

namespace Go.Proofs.YthkopnobekohcaaGreatDoor.Lx
open Go.Lib Go.Proofs.YthkopnobekohcaaGreatDoor.Utf Go.Proofs.YthkopnobekohcaaGreatDoor.Oct Go.Proofs.YthkopnobekohcaaGreatDoor.Quo

theorem getD_left (p x : List UInt8) (i : Nat) (h : i < p.length) : (p ++ x).getD i 0 = p.getD i 0 := by
  rw [List.getD_eq_getElem?_getD, List.getElem?_append_left h, ← List.getD_eq_getElem?_getD]
theorem take_left (p x : List UInt8) (n : Nat) (h : n ≤ p.length) : (p ++ x).take n = p.take n := by
  rw [List.take_append, show n - p.length = 0 by omega, List.take_zero, List.append_nil]
theorem drop_left (p x : List UInt8) (n : Nat) (h : n ≤ p.length) : (p ++ x).drop n = p.drop n ++ x := by
  rw [List.drop_append, show n - p.length = 0 by omega, List.drop_zero]

/-! ### quoted strings -/
theorem nO_long (p x : List UInt8) (h : 6 ≤ p.length) : nO (p ++ x) = if p.take 2 = [92, 117] then hxF 0 ((p.drop 2).take 4) else none := by
  unfold nO
  rw [take_left p x 2 (by omega), drop_left p x 2 (by omega)]
  unfold h4
  have hl : 4 ≤ (p.drop 2 ++ x).length := by rw [List.length_append, List.length_drop]; omega
  rw [if_pos hl, take_left _ x 4 (by rw [List.length_drop]; omega)]
theorem nP_alone {n : Nat} (h : vB n = true) (o : Option Nat) : nP n o = (n, 6) := by
  unfold nP
  cases o with
  | none => rfl
  | some m =>
    simp only
    rw [if_neg]
    unfold pr vB at *
    simp only [decide_eq_true_eq] at *
    omega
theorem nP_six {n : Nat} {o : Option Nat} (h : (nP n o).2 = 6) : (nP n o).1 = n := by
  unfold nP at h ⊢
  cases o with
  | none => rfl
  | some m =>
    simp only at h ⊢
    split
    · rename_i hp; rw [if_pos hp] at h; cases h
    · rfl
theorem escL_keep (p r t : List UInt8) (h : (escL (p ++ r)).1 = 0) (hm : (escL (p ++ r)).2.1 ≤ p.length) : escL (p ++ t) = escL (p ++ r) := by
  have h1 := (escL_ok h).1
  have hg : 2 ≤ p.length → (p ++ t).getD 1 0 = (p ++ r).getD 1 0 := fun h2 => by rw [getD_left p t 1 (by omega), getD_left p r 1 (by omega)]
  unfold escL at h hm ⊢
  by_cases hl : ltN ((p ++ r).getD 1 0).toNat < 256
  · rw [if_pos hl] at hm ⊢
    simp only at hm
    rw [hg hm, if_pos hl]
  · rw [if_neg hl] at h hm ⊢
    cases hn : nO (p ++ r) with
    | none => rw [hn] at h; cases h
    | some n =>
      rw [hn] at h hm
      simp only at h hm ⊢
      by_cases hv : vB (nP n (nO ((p ++ r).drop 6))).1 = true
      · rw [if_pos hv] at hm
        simp only at hm
        have h6 : 6 ≤ p.length := by rcases nP_size n (nO ((p ++ r).drop 6)) with e | ⟨e, _⟩ <;> omega
        have e1 : nO (p ++ t) = some n := by rw [nO_long p t h6, ← nO_long p r h6, hn]
        rw [hg (by omega), if_neg hl, e1]
        simp only
        have e2 : nP n (nO ((p ++ t).drop 6)) = nP n (nO ((p ++ r).drop 6)) := by
          rcases nP_size n (nO ((p ++ r).drop 6)) with e | ⟨e, _⟩
          · have e3 := nP_six e
            rw [e3] at hv
            rw [nP_alone hv, nP_alone hv]
          · rw [drop_left p t 6 h6, drop_left p r 6 h6, nO_long _ t (by rw [List.length_drop]; omega), nO_long _ r (by rw [List.length_drop]; omega)]
        rw [e2]
      · rw [if_neg hv] at h; cases h
theorem wL_keep (p r t : List UInt8) (h : 0 < wL (p ++ r)) (hm : wL (p ++ r) ≤ p.length) : wL (p ++ t) = wL (p ++ r) := by
  have hv : vN (nL (p ++ r)) := rnL_valid _ _ (by rw [rnL_step h]; exact List.mem_cons_self)
  have e := enc_wL h
  rw [take_left p r _ hm] at e
  have e2 : p ++ t = encodeRune (nL (p ++ r) : Int) ++ (p.drop (wL (p ++ r)) ++ t) := by
    rw [e, ← List.append_assoc, List.take_append_drop]
  rw [e2, (wL_enc _ _ hv).1, e, List.length_take]
  omega
theorem stp_keep (p r t : List UInt8) (hp : p ≠ []) (h : (stp (p ++ r)).1 = 0) (hm : (stp (p ++ r)).2.1 ≤ p.length) : stp (p ++ t) = stp (p ++ r) := by
  have h0 := List.length_pos_iff.2 hp
  have hg : (p ++ t).getD 0 0 = (p ++ r).getD 0 0 := by rw [getD_left p t 0 h0, getD_left p r 0 h0]
  unfold stp at h hm ⊢
  rw [hg]
  by_cases h1 : ((p ++ r).getD 0 0).toNat = 92
  · rw [if_pos h1] at h hm
    rw [if_pos h1, if_pos h1]
    exact escL_keep p r t h hm
  · rw [if_neg h1] at h hm
    rw [if_neg h1, if_neg h1]
    by_cases h2 : ((p ++ r).getD 0 0).toNat < 32
    · rw [if_pos h2] at h; cases h
    · rw [if_neg h2] at h hm
      rw [if_neg h2, if_neg h2]
      by_cases h3 : wL (p ++ r) = 0
      · rw [if_pos h3] at h; cases h
      · rw [if_neg h3] at hm
        simp only at hm
        rw [wL_keep p r t (by omega) hm, if_neg h3, if_neg h3, take_left p t _ hm, take_left p r _ hm]
theorem tkQ_len : ∀ (n : Nat) (p r t : List UInt8), p.length < n → (tkQ (p ++ r)).1 = 0 → (tkQ (p ++ r)).2.1 ≤ p.length → tkQ (p ++ t) = tkQ (p ++ r)
  | 0, _, _, _, h, _, _ => by omega
  | n + 1, p, r, t, hn, h, hm => by
    have h1 := (tkQ_end (p ++ r) h).1
    have hp : p ≠ [] := by rintro rfl; rw [List.length_nil] at hm; omega
    have h0 := List.length_pos_iff.2 hp
    have hg : (p ++ t).getD 0 0 = (p ++ r).getD 0 0 := by rw [getD_left p t 0 h0, getD_left p r 0 h0]
    have hr : p ++ r ≠ [] := by simp [hp]
    have ht : p ++ t ≠ [] := by simp [hp]
    by_cases h34 : ((p ++ r).getD 0 0).toNat = 34
    · rw [tkQ_close h34, tkQ_close (by rw [hg]; exact h34)]
    · by_cases hs : (stp (p ++ r)).1 = 0
      · have hst := tkQ_step hr h34 hs
        have hok := stp_ok hr hs
        rw [hst] at h hm
        simp only at h hm
        have hk := stp_keep p r t hp hs (by omega)
        rw [drop_left p r _ (by omega)] at h hm
        have ih := tkQ_len n (p.drop (stp (p ++ r)).2.1) r t (by rw [List.length_drop]; omega) h (by rw [List.length_drop]; omega)
        rw [tkQ_step ht (by rw [hg]; exact h34) (by rw [hk]; exact hs), hst, hk, drop_left p r _ (by omega), drop_left p t _ (by omega), ih]
      · rw [tkQ_bad hr h34 hs] at h
        exact absurd h hs
/-- What is taken hangs on the bytes taken alone. -/
theorem tkQ_keep (p r t : List UInt8) (h : (tkQ (p ++ r)).1 = 0) (hm : (tkQ (p ++ r)).2.1 ≤ p.length) : tkQ (p ++ t) = tkQ (p ++ r) := tkQ_len (p.length + 1) p r t (by omega) h hm

/-! ### tokens -/
theorem dgs_keep : ∀ (p : List UInt8) (r : List UInt8) (c : UInt8) (t : List UInt8), dgs (p ++ r) = p.length → dg c.toNat = false → dgs (p ++ c :: t) = p.length
  | [], r, c, t, _, hc => by rw [List.nil_append, dgs, if_neg (by simp [hc])]; rfl
  | a :: p, r, c, t, h, hc => by
    rw [List.cons_append, dgs] at h ⊢
    by_cases hd : dg a.toNat = true
    · rw [if_pos hd] at h ⊢
      rw [List.length_cons] at h ⊢
      rw [dgs_keep p r c t (by omega) hc]
    · rw [if_neg hd] at h
      simp at h
theorem hd_left (p x : List UInt8) (h : p ≠ []) : hd (p ++ x) = hd p := by unfold hd; rw [getD_left p x 0 (List.length_pos_iff.2 h)]
theorem dgc_keep (p r : List UInt8) (c : UInt8) (t : List UInt8) (hp : p ≠ []) (h : dgc (p ++ r) = p.length) (hc : dg c.toNat = false) : dgc (p ++ c :: t) = p.length := by
  unfold dgc at h ⊢
  rw [hd_left p _ hp] at h ⊢
  by_cases h0 : hd p = 48
  · rw [if_pos h0] at h ⊢; exact h
  · rw [if_neg h0] at h ⊢; exact dgs_keep p r c t h hc
theorem bl_dg (c : Nat) (h : bl c = true) : dg c = false ∧ mk c = false := by
  unfold bl at h; unfold dg mk
  simp only [decide_eq_true_eq, decide_eq_false_iff_not] at *
  omega
theorem num_keep (p r : List UInt8) (c : UInt8) (t : List UInt8) (h : (num (p ++ r)).1 = 0) (hz : (num (p ++ r)).2.z = p.length) (hc : bl c.toNat = true) : num (p ++ c :: t) = num (p ++ r) := by
  obtain ⟨e, h1, h2, h3⟩ := num_good _ h
  obtain ⟨c1, c2⟩ := bl_dg _ hc
  rw [e] at hz
  simp only at hz
  have hp : p ≠ [] := by rintro rfl; rw [List.length_nil] at hz; omega
  have hs : ∀ x, sgn (p ++ x) = sgn p := fun x => by unfold sgn; rw [hd_left p x hp]
  have hsl := sgn_le1 p
  rw [hs] at hz
  have hsp : sgn p < p.length := by omega
  have hdr : ∀ x, (p ++ x).drop (sgn p) = p.drop (sgn p) ++ x := fun x => drop_left p x _ (by omega)
  have hpd : p.drop (sgn p) ≠ [] := fun e => by have := congrArg List.length e; rw [List.length_drop] at this; simp at this; omega
  have hdc : dc (p ++ c :: t) = dc (p ++ r) := by
    have : dc (p ++ r) = (p.drop (sgn p)).length := by rw [List.length_drop]; omega
    rw [this]
    unfold dc at this ⊢
    rw [hs, hdr] at this ⊢
    exact dgc_keep _ r c t hpd this c1
  have hvz : vz (p ++ c :: t) = vz (p ++ r) := by
    unfold vz
    rw [hdc, hs, hs, hdr, hdr, take_left _ _ _ (by rw [List.length_drop]; omega), take_left _ _ _ (by rw [List.length_drop]; omega)]
  have hvi : vi (p ++ c :: t) = vi (p ++ r) := by unfold vi; rw [hvz, hs, hs]
  have hvo : vo (p ++ c :: t) = true := by unfold vo at h3 ⊢; rw [hvi]; exact h3
  rw [e]
  unfold num
  rw [hdc, hs, hs, if_neg (by omega), hz, if_neg, hvo, if_pos rfl, hvi]
  rw [List.getD_eq_getElem?_getD, List.getElem?_append_right (Nat.le_refl _), Nat.sub_self]
  simp [c2]
theorem take_app {l x : List UInt8} {n : Nat} (h : l.take n = x) (p r : List UInt8) (e : l = p ++ r) (hp : n ≤ p.length) (t : List UInt8) : (p ++ t).take n = x := by
  rw [take_left p t n hp, ← take_left p r n hp, ← e, h]
/-- A token stays when a blank follows. -/
theorem tok_keep (p r : List UInt8) (c : UInt8) (t : List UInt8) (hp : p ≠ []) (h : (tok (p ++ r)).1 = 0) (hz : (tok (p ++ r)).2.z = p.length) (hc : bl c.toNat = true) : tok (p ++ c :: t) = tok (p ++ r) := by
  have hpl := List.length_pos_iff.2 hp
  unfold tok at h hz ⊢
  have hn : ∀ x, p ++ x ≠ [] := fun x => by simp [hp]
  rw [if_neg (hn _)] at h hz ⊢
  rw [if_neg (hn _), hd_left p _ hp]
  rw [hd_left p _ hp] at h hz ⊢
  by_cases h1 : sg (hd p) ≠ 0
  · rw [if_pos h1, if_pos h1]
  · rw [if_neg h1] at h hz
    rw [if_neg h1, if_neg h1]
    by_cases h2 : hd p = 34
    · rw [if_pos h2] at h hz
      rw [if_pos h2, if_pos h2]
      unfold txt at h hz ⊢
      rw [drop_left p r 1 hpl] at h hz ⊢
      rw [drop_left p _ 1 hpl]
      by_cases h3 : (tkQ (p.drop 1 ++ r)).1 = 0
      · rw [if_pos h3] at hz
        simp only at hz
        rw [tkQ_keep (p.drop 1) r (c :: t) h3 (by rw [List.length_drop]; omega)]
      · rw [if_neg h3] at h; exact absurd h h3
    · rw [if_neg h2] at h hz
      rw [if_neg h2, if_neg h2]
      by_cases h3 : hd p = 45 ∨ dg (hd p) = true
      · rw [if_pos h3] at h hz
        rw [if_pos h3, if_pos h3]
        exact num_keep p r c t h hz hc
      · rw [if_neg h3] at h hz
        rw [if_neg h3, if_neg h3]
        rcases wrd_cases (p ++ r) with ⟨e, _, h4⟩ | ⟨e, _, h4⟩ | ⟨e, _, h4⟩ | ⟨e, _⟩
        · rw [e] at hz
          have h5 := take_app h4 p r rfl (by simp only at hz; omega) (c :: t)
          rw [e]; unfold wrd; rw [if_pos h5]
        · rw [e] at hz
          have h5 := take_app h4 p r rfl (by simp only at hz; omega) (c :: t)
          rw [e]; unfold wrd
          rw [if_neg, if_pos h5]
          intro h6
          have h7 := congrArg (List.take 4) h5
          rw [List.take_take, show min 4 5 = 4 from rfl, h6] at h7
          exact absurd h7 (by decide)
        · rw [e] at hz
          have h5 := take_app h4 p r rfl (by simp only at hz; omega) (c :: t)
          rw [e]; unfold wrd
          rw [if_neg, if_neg, if_pos h5]
          · intro h6
            have h7 := congrArg (List.take 4) h6
            rw [List.take_take, show min 4 5 = 4 from rfl, h5] at h7
            exact absurd h7 (by decide)
          · rw [h5]; decide
        · rw [e] at h; cases h

/-! ### laid behind one another -/
/-- A token's bytes in S, with the blank c behind each. -/
def piece (S : List UInt8) (c : UInt8) (x : Tk) : List UInt8 := (S.drop x.o).take x.z ++ [c]
def laid (S : List UInt8) (c : UInt8) (L : List Tk) : List UInt8 := L.flatMap (piece S c)
theorem laid_cons (S : List UInt8) (c : UInt8) (x : Tk) (L : List Tk) : laid S c (x :: L) = (S.drop x.o).take x.z ++ c :: laid S c L := by simp [laid, piece]
theorem laid_nil (S : List UInt8) (c : UInt8) : laid S c [] = [] := rfl
theorem laid_snoc (S : List UInt8) (c : UInt8) (L : List Tk) (x : Tk) : laid S c (L ++ [x]) = laid S c L ++ piece S c x := by simp [laid]
/-- All but the place. -/
def core (x : Tk) : Nat × Nat × List UInt8 × Int := (x.k, x.z, x.v, x.n)
theorem skp_none {l : List UInt8} (h : bl (hd l) = false) : skp l = 0 := by
  cases l with
  | nil => rfl
  | cons c l => rw [skp, if_neg]; unfold hd at h; simpa using h
theorem skp_head (l : List UInt8) : bl (hd (l.drop (skp l))) = false := by
  induction l with
  | nil => rfl
  | cons c l ih =>
    rw [skp]
    by_cases h : bl c.toNat = true
    · rw [if_pos h, List.drop_succ_cons]; exact ih
    · rw [if_neg h, List.drop_zero]; unfold hd; simpa using h
theorem skp_cons {c : UInt8} (l : List UInt8) (h : bl c.toNat = true) : skp (c :: l) = skp l + 1 := by rw [skp, if_pos h]
/-- The blanks ahead of a text: none, or one. -/
theorem nx_pre {pre : List UInt8} (h : ∀ c ∈ pre, bl c.toNat = true) (l : List UInt8) : nx (pre ++ l) = ((nx l).1, (nx l).2.sh pre.length) ∧ skp (pre ++ l) = pre.length + skp l := by
  induction pre with
  | nil => refine ⟨?_, by simp⟩; simp [Tk.sh]
  | cons c pre ih =>
    obtain ⟨i1, i2⟩ := ih fun d hd => h d (List.mem_cons_of_mem _ hd)
    have hs : skp (c :: (pre ++ l)) = skp (pre ++ l) + 1 := skp_cons _ (h c List.mem_cons_self)
    have e : nx (c :: (pre ++ l)) = ((nx (pre ++ l)).1, (nx (pre ++ l)).2.sh 1) := by
      unfold nx
      rw [hs, List.drop_succ_cons]
      refine Prod.ext rfl ?_
      simp [Tk.sh]; omega
    rw [List.cons_append, e, i1, hs, i2]
    refine ⟨Prod.ext rfl ?_, by rw [List.length_cons]; omega⟩
    simp [Tk.sh]; omega
theorem tok_end {l : List UInt8} (h : (nx l).1 = 0) (hk : (nx l).2.k = 0) : (nx l).2.v = [] ∧ (nx l).2.n = 0 := by
  have h1 := (nx_good l h).2.2.1.1 hk
  have h2 : l.drop (skp l) = [] := by rw [h1, List.drop_length]
  unfold nx
  rw [h2]
  exact ⟨rfl, rfl⟩
theorem piece_split (S : List UInt8) (b : Nat) (l : List UInt8) (hl : l = S.drop b) (o z : Nat) : (S.drop (b + o)).take z = (l.drop o).take z := by rw [hl, List.drop_drop]
/-- What was laid is cut into the same tokens. -/
theorem again (S : List UInt8) (c : UInt8) (hc : bl c.toNat = true) (b : Nat) (l : List UInt8) : ∀ (pre : List UInt8) (b2 : Nat), l = S.drop b → (tkA b l).1 = 0 → (∀ d ∈ pre, bl d.toNat = true) →
    ∃ M, tkA b2 (pre ++ laid S c (tkA b l).2.2) = (0, 0, M) ∧ M.map core = (tkA b l).2.2.map core := by
  refine tok_ind (p := fun b l => ∀ (pre : List UInt8) (b2 : Nat), l = S.drop b → (tkA b l).1 = 0 → (∀ d ∈ pre, bl d.toNat = true) →
    ∃ M, tkA b2 (pre ++ laid S c (tkA b l).2.2) = (0, 0, M) ∧ M.map core = (tkA b l).2.2.map core) ?_ ?_ ?_ b l
  · intro b l h pre b2 hl h0 hpre
    rw [tkA_bad b l h] at h0
    exact absurd h0 h
  · intro b l h hk pre b2 hl h0 hpre
    have hg := nx_good l h
    have hz := hg.2.2.2.1.2 hk
    rw [tkA_end b l h hk, laid_cons, laid_nil]
    have e0 : ((nx l).2.sh b).z = 0 := hz
    rw [e0, List.take_zero, List.nil_append]
    have hn := nx_pre (pre := pre ++ [c]) (by
      intro d hd
      rcases List.mem_append.1 hd with h1 | h1
      · exact hpre d h1
      · rw [List.mem_singleton.1 h1]; exact hc) []
    have e1 : nx [] = (0, bad 0) := rfl
    rw [List.append_nil, e1] at hn
    have hx1 : (nx (pre ++ [c])).1 = 0 := by rw [hn.1]
    have hx2 : (nx (pre ++ [c])).2.k = 0 := by rw [hn.1]; rfl
    refine ⟨_, tkA_end b2 _ hx1 hx2, ?_⟩
    have ht := tok_end h hk
    rw [hn.1, List.map_cons, List.map_cons]
    congr 1
    show (0, 0, [], 0) = ((nx l).2.k, (nx l).2.z, (nx l).2.v, (nx l).2.n)
    rw [hk, hz, ht.1, ht.2]
  · intro b l h hk ih pre b2 hl h0 hpre
    have hst := nx_step l h hk
    have hg := nx_good l h
    have h1 := tkA_step b l h hk
    have hq : (tkA (b + (nx l).2.o + (nx l).2.z) (l.drop ((nx l).2.o + (nx l).2.z))).1 = 0 := by
      by_cases hq : (tkA (b + (nx l).2.o + (nx l).2.z) (l.drop ((nx l).2.o + (nx l).2.z))).1 = 0
      · exact hq
      · rw [h1, if_neg hq] at h0; exact h0
    rw [if_pos hq] at h1
    have e1 : (tkA b l).2.2 = (nx l).2.sh b :: (tkA (b + (nx l).2.o + (nx l).2.z) (l.drop ((nx l).2.o + (nx l).2.z))).2.2 := by rw [h1]
    obtain ⟨M, hM, hF⟩ := ih [c] (b2 + (pre.length + (nx l).2.z)) (by rw [hl, List.drop_drop]; congr 1; omega) hq (by intro d hd; rw [List.mem_singleton.1 hd]; exact hc)
    rw [e1]
    generalize (tkA (b + (nx l).2.o + (nx l).2.z) (l.drop ((nx l).2.o + (nx l).2.z))).2.2 = L at *
    rw [laid_cons]
    obtain ⟨P, hP⟩ : ∃ P, P = (l.drop (skp l)).take (nx l).2.z := ⟨_, rfl⟩
    have hs := skp_le l
    have ho := hg.1
    have hPl : P.length = (nx l).2.z := by rw [hP, List.length_take, List.length_drop]; omega
    have e2 : (S.drop ((nx l).2.sh b).o).take ((nx l).2.sh b).z = P := by
      rw [hP]; show (S.drop (b + (nx l).2.o)).take (nx l).2.z = _
      rw [ho]; exact piece_split S b l hl _ _
    rw [e2]
    have hP0 : P ≠ [] := fun e => by rw [e] at hPl; simp at hPl; omega
    have hsplit : l.drop (skp l) = P ++ (l.drop (skp l)).drop (nx l).2.z := by rw [hP, List.take_append_drop]
    obtain ⟨R, hR⟩ : ∃ R, R = (l.drop (skp l)).drop (nx l).2.z := ⟨_, rfl⟩
    rw [← hR] at hsplit
    have hb0 : bl (hd P) = false := by have := skp_head l; rw [hsplit, hd_left P R hP0] at this; exact this
    have ht : tok (P ++ c :: laid S c L) = tok (P ++ R) := tok_keep P R c _ hP0 (by rw [← hsplit]; exact h) (by rw [← hsplit, hPl]; rfl) hc
    have hsk : skp (P ++ c :: laid S c L) = 0 := skp_none (by rw [hd_left P _ hP0]; exact hb0)
    have hnx : nx (P ++ c :: laid S c L) = (0, ⟨(nx l).2.k, 0, (nx l).2.z, (nx l).2.v, (nx l).2.n⟩) := by
      unfold nx
      rw [hsk, List.drop_zero, ht, ← hsplit]
      have hto := (tok_good (l.drop (skp l)) h).1
      refine Prod.ext h ?_
      show Tk.sh 0 _ = _
      unfold Tk.sh
      rw [hto]
    obtain ⟨np, _⟩ := nx_pre hpre (P ++ c :: laid S c L)
    rw [hnx] at np
    have n1 : (nx (pre ++ (P ++ c :: laid S c L))).1 = 0 := by rw [np]
    have n2 : (nx (pre ++ (P ++ c :: laid S c L))).2.k ≠ 0 := by rw [np]; exact hk
    have hst2 := tkA_step b2 _ n1 n2
    have eo : (nx (pre ++ (P ++ c :: laid S c L))).2.o = pre.length := by rw [np]; rfl
    have ez : (nx (pre ++ (P ++ c :: laid S c L))).2.z = (nx l).2.z := by rw [np]; rfl
    rw [eo, ez] at hst2
    have ed : (pre ++ (P ++ c :: laid S c L)).drop (pre.length + (nx l).2.z) = [c] ++ laid S c L := by
      rw [← List.append_assoc, show pre.length + (nx l).2.z = (pre ++ P).length by rw [List.length_append, hPl], List.drop_left]; rfl
    rw [ed, show b2 + pre.length + (nx l).2.z = b2 + (pre.length + (nx l).2.z) by omega, hM, if_pos rfl] at hst2
    refine ⟨_, hst2, ?_⟩
    rw [List.map_cons, List.map_cons, hF, np]
    rfl
end Go.Proofs.YthkopnobekohcaaGreatDoor.Lx

namespace Go.Proofs.YthkopnobekohcaaGreatDoor.Tre
open Go.Lib Go.Proofs.YthkopnobekohcaaGreatDoor.Utf

/-- A value: its kind, its number, its text, its items, its names. -/
inductive Vt where
  | mk (k n : Int) (s : ByteArray) (l : List Vt) (ns : List ByteArray)
def Vt.k : Vt → Int | .mk k _ _ _ _ => k
def Vt.n : Vt → Int | .mk _ n _ _ _ => n
def Vt.s : Vt → ByteArray | .mk _ _ s _ _ => s
def Vt.l : Vt → List Vt | .mk _ _ _ l _ => l
def Vt.ns : Vt → List ByteArray | .mk _ _ _ _ ns => ns
def V0 : Vt := .mk 0 0 ⟨#[]⟩ [] []
theorem Vt.eta (v : Vt) : v = .mk v.k v.n v.s v.l v.ns := by cases v; rfl

mutual
def cnt : Vt → Nat
  | .mk _ _ _ l _ => 1 + cntL l
def cntL : List Vt → Nat
  | [] => 0
  | x :: l => cnt x + cntL l
end
mutual
def dep : Vt → Nat
  | .mk k _ _ l _ => if k = 4 ∨ k = 5 then 1 + depL l else 0
def depL : List Vt → Nat
  | [] => 0
  | x :: l => max (dep x) (depL l)
end
def textB (s : ByteArray) : Bool := decide (badL s.data.toList = none)
/-- Are names texts, and none twice? -/
def nmB (ns : List ByteArray) : Bool := ns.all textB && decide ns.Nodup
def noneB (s : ByteArray) : Bool := decide (s = ⟨#[]⟩)
def scal (l : List Vt) (ns : List ByteArray) : Bool := l.isEmpty && ns.isEmpty
/-- What is asked of a value itself, its items aside. -/
def hdB (k n : Int) (s : ByteArray) (l : List Vt) (ns : List ByteArray) (m : Int) : Bool :=
  if k = 0 then decide (n = 0) && noneB s && scal l ns
  else if k = 1 then decide (n = 0 ∨ n = 1) && noneB s && scal l ns
  else if k = 2 then noneB s && scal l ns
  else if k = 3 then decide (n = 0) && textB s && scal l ns
  else if k = 4 then ns.isEmpty && decide (n = 0) && noneB s && decide (1 ≤ m)
  else if k = 5 then decide (ns.length = l.length) && nmB ns && decide (n = 0) && noneB s && decide (1 ≤ m)
  else false
mutual
/-- Is a value right, of at most m levels? -/
def wi : Vt → Int → Bool
  | .mk k n s l ns, m => hdB k n s l ns m && wiL l (m - 1)
def wiL : List Vt → Int → Bool
  | [], _ => true
  | x :: l, m => wi x m && wiL l m
end
mutual
def smB : Vt → Vt → Bool
  | .mk k n s l ns, .mk k' n' s' l' ns' => decide (k = k' ∧ n = n' ∧ s = s' ∧ ns = ns') && smL l l'
def smL : List Vt → List Vt → Bool
  | [], [] => true
  | x :: l, y :: l' => smB x y && smL l l'
  | _, _ => false
end
/-- The order of names. -/
def ltB (a b : ByteArray) : Bool := decide (a.data.toList < b.data.toList)
def ins (p : ByteArray × Vt) : List (ByteArray × Vt) → List (ByteArray × Vt)
  | [] => [p]
  | q :: l => if ltB q.1 p.1 = true then q :: ins p l else p :: q :: l
/-- Sorted by names; equal names keep their order. -/
def isort : List (ByteArray × Vt) → List (ByteArray × Vt)
  | [] => []
  | p :: l => ins p (isort l)
def mkO (k n : Int) (s : ByteArray) (l : List Vt) (ns : List ByteArray) : Vt :=
  if k = 5 ∧ ns.length = l.length then .mk k n s ((isort (ns.zip l)).map Prod.snd) ((isort (ns.zip l)).map Prod.fst) else .mk k n s l ns
mutual
def srt : Vt → Vt
  | .mk k n s l ns => mkO k n s (srtL l) ns
def srtL : List Vt → List Vt
  | [] => []
  | x :: l => srt x :: srtL l
end
def alB (a b : Vt) : Bool := wi a 64 && wi b 64 && smB (srt a) (srt b)
/-- What stands under a name. -/
def fnd : List ByteArray → List Vt → ByteArray → Option Vt
  | m :: ns, x :: l, s => if m = s then some x else fnd ns l s
  | _, _, _ => none
def find (v : Vt) (s : ByteArray) : Option Vt := if v.k = 5 then fnd v.ns v.l s else none

/-! ### by its parts -/
theorem cntL_mem {x : Vt} : ∀ {l : List Vt}, x ∈ l → cnt x ≤ cntL l
  | [], h => by cases h
  | y :: l, h => by
    rw [cntL]
    rcases List.mem_cons.1 h with rfl | h
    · omega
    · have := cntL_mem h; omega
theorem cnt_pos (v : Vt) : 1 ≤ cnt v := by cases v; rw [cnt]; omega
theorem part_lt {v x : Vt} (h : x ∈ v.l) : cnt x < cnt v := by
  cases v with
  | mk k n s l ns => have := cntL_mem (l := l) h; rw [cnt]; omega
/-- By its parts. -/
theorem vt_ind {p : Vt → Prop} (h : ∀ v, (∀ x ∈ v.l, p x) → p v) (v : Vt) : p v := by
  have key : ∀ n (v : Vt), cnt v < n → p v := by
    intro n
    induction n with
    | zero => intro v hv; omega
    | succ n ih => intro v hv; exact h v fun x hx => ih x (by have := part_lt hx; omega)
  exact key (cnt v + 1) v (by omega)
theorem srtL_map : ∀ l : List Vt, srtL l = l.map srt
  | [] => rfl
  | x :: l => by rw [srtL, srtL_map l]; rfl
theorem wiL_all (m : Int) : ∀ l : List Vt, wiL l m = l.all fun x => wi x m
  | [] => rfl
  | x :: l => by rw [wiL, wiL_all m l]; rfl
theorem cntL_sum : ∀ l : List Vt, cntL l = (l.map cnt).sum
  | [] => rfl
  | x :: l => by rw [cntL, cntL_sum l]; rfl
theorem cntL_len : ∀ l : List Vt, l.length ≤ cntL l
  | [] => Nat.le_refl _
  | x :: l => by rw [cntL, List.length_cons]; have := cntL_len l; have := cnt_pos x; omega

/-! ### the same -/
theorem smL_len : ∀ (l m : List Vt), smL l m = true → l.length = m.length
  | [], [], _ => rfl
  | [], _ :: _, h => by rw [smL] at h; cases h; all_goals simp
  | _ :: _, [], h => by rw [smL] at h; cases h; all_goals simp
  | x :: l, y :: m, h => by rw [smL, Bool.and_eq_true] at h; rw [List.length_cons, List.length_cons, smL_len l m h.2]
theorem sm_iff (v : Vt) : ∀ w, smB v w = true ↔ v = w := by
  refine vt_ind (p := fun v => ∀ w, smB v w = true ↔ v = w) ?_ v
  intro v ih w
  cases v with
  | mk k n s l ns =>
    cases w with
    | mk k' n' s' l' ns' =>
      have hl : ∀ (l l' : List Vt), (∀ x ∈ l, ∀ w, smB x w = true ↔ x = w) → (smL l l' = true ↔ l = l') := by
        intro l
        induction l with
        | nil => intro l' _; cases l' with
          | nil => simp [smL]
          | cons y m => simp [smL]
        | cons x l ihl =>
          intro l' h
          cases l' with
          | nil => simp [smL]
          | cons y m =>
            rw [smL, Bool.and_eq_true, h x List.mem_cons_self y, ihl m fun z hz => h z (List.mem_cons_of_mem _ hz)]
            simp
      rw [smB, Bool.and_eq_true, hl l l' ih]
      simp only [decide_eq_true_eq, Vt.mk.injEq]
      constructor
      · rintro ⟨⟨a, b, c, d⟩, e⟩; exact ⟨a, b, c, e, d⟩
      · rintro ⟨a, b, c, e, d⟩; exact ⟨⟨a, b, c, d⟩, e⟩
theorem sm_self (v : Vt) : smB v v = true := (sm_iff v v).2 rfl

/-! ### sorted -/
theorem ins_perm (p : ByteArray × Vt) : ∀ l, (ins p l).Perm (p :: l)
  | [] => List.Perm.refl _
  | q :: l => by
    rw [ins]
    split
    · exact ((ins_perm p l).cons q).trans (List.Perm.swap p q l)
    · exact List.Perm.refl _
theorem isort_perm : ∀ l, (isort l).Perm l
  | [] => List.Perm.refl _
  | p :: l => by rw [isort]; exact (ins_perm p _).trans ((isort_perm l).cons p)
theorem isort_len (l : List (ByteArray × Vt)) : (isort l).length = l.length := (isort_perm l).length_eq
/-- No name before a smaller one. -/
def Rise (l : List (ByteArray × Vt)) : Prop := l.Pairwise fun p q => ltB q.1 p.1 = false
theorem lt_trans {a b c : ByteArray} (h : ltB a b = true) (k : ltB b c = true) : ltB a c = true := by
  unfold ltB at *
  simp only [decide_eq_true_eq] at *
  exact List.lt_trans h k
theorem lt_irrefl (a : ByteArray) : ltB a a = false := by
  unfold ltB
  simp only [decide_eq_false_iff_not]
  exact List.lt_irrefl _
theorem lt_total {a b : ByteArray} (h : ltB a b = false) (k : ltB b a = false) : a = b := by
  unfold ltB at *
  simp only [decide_eq_false_iff_not] at *
  exact ByteArray.ext (Array.toList_inj.1 (List.le_antisymm (List.not_lt.1 k) (List.not_lt.1 h)))
theorem le_trans {a b c : ByteArray} (h : ltB b a = false) (k : ltB c b = false) : ltB c a = false := by
  unfold ltB at *
  simp only [decide_eq_false_iff_not] at *
  exact List.not_lt.2 (List.le_trans (List.not_lt.1 h) (List.not_lt.1 k))
theorem ins_rise (p : ByteArray × Vt) : ∀ l, Rise l → Rise (ins p l)
  | [], _ => List.pairwise_singleton _ _
  | q :: l, h => by
    obtain ⟨h1, h2⟩ := List.pairwise_cons.1 h
    rw [ins]
    by_cases hc : ltB q.1 p.1 = true
    · rw [if_pos hc]
      refine List.pairwise_cons.2 ⟨fun r hr => ?_, ins_rise p l h2⟩
      rcases List.mem_cons.1 ((ins_perm p l).mem_iff.1 hr) with rfl | hr
      · cases hx : ltB r.1 q.1 with
        | false => rfl
        | true => have := lt_trans hx hc; rw [lt_irrefl] at this; cases this
      · exact h1 r hr
    · rw [if_neg hc]
      have hc2 : ltB q.1 p.1 = false := by simpa using hc
      refine List.pairwise_cons.2 ⟨fun r hr => ?_, h⟩
      rcases List.mem_cons.1 hr with rfl | hr
      · exact hc2
      · exact le_trans hc2 (h1 r hr)
theorem isort_rise : ∀ l, Rise (isort l)
  | [] => List.Pairwise.nil
  | p :: l => ins_rise p _ (isort_rise l)
theorem isort_id : ∀ l, Rise l → isort l = l
  | [], _ => rfl
  | p :: l, h => by
    obtain ⟨h1, h2⟩ := List.pairwise_cons.1 h
    rw [isort, isort_id l h2]
    cases l with
    | nil => rfl
    | cons q l => rw [ins, if_neg (by rw [h1 q List.mem_cons_self]; simp)]
/-- With names that differ, a row that rises is the only one. -/
theorem rise_one : ∀ (l m : List (ByteArray × Vt)), Rise l → Rise m → (l.map Prod.fst).Nodup → l.Perm m → l = m
  | [], m, _, _, _, hp => (List.perm_nil.1 hp.symm).symm
  | p :: l, m, hl, hm, hn, hp => by
    obtain ⟨l1, l2⟩ := List.pairwise_cons.1 hl
    have hpm : p ∈ m := hp.mem_iff.1 List.mem_cons_self
    cases m with
    | nil => cases hpm
    | cons q m =>
      obtain ⟨m1, m2⟩ := List.pairwise_cons.1 hm
      have hqp : q = p := by
        rcases List.mem_cons.1 hpm with h | h
        · exact h.symm
        · have hq : q ∈ p :: l := hp.mem_iff.2 List.mem_cons_self
          rcases List.mem_cons.1 hq with h2 | h2
          · exact h2
          · have e : q.1 = p.1 := lt_total (l1 q h2) (m1 p h) |>.symm ▸ rfl
            rw [List.map_cons, List.nodup_cons] at hn
            exact absurd (e ▸ List.mem_map_of_mem (f := Prod.fst) h2) hn.1
      subst hqp
      rw [List.map_cons, List.nodup_cons] at hn
      rw [rise_one l m l2 m2 hn.2 (List.Perm.cons_inv hp)]

/-! ### what sorting keeps -/
theorem cntL_perm {l m : List Vt} (h : l.Perm m) : cntL l = cntL m := by rw [cntL_sum, cntL_sum]; exact (h.map cnt).sum_nat
theorem depL_le : ∀ {l : List Vt} {d : Nat}, depL l ≤ d ↔ ∀ x ∈ l, dep x ≤ d
  | [], d => by simp [depL]
  | x :: l, d => by
    rw [depL, Nat.max_le, depL_le]
    simp
theorem depL_perm {l m : List Vt} (h : l.Perm m) : depL l = depL m := by
  have h1 : depL l ≤ depL m := depL_le.2 fun x hx => depL_le.1 (Nat.le_refl (depL m)) x (h.mem_iff.1 hx)
  have h2 : depL m ≤ depL l := depL_le.2 fun x hx => depL_le.1 (Nat.le_refl (depL l)) x (h.mem_iff.2 hx)
  omega
theorem wiL_perm {l m : List Vt} (h : l.Perm m) (d : Int) : wiL l d = wiL m d := by
  rw [wiL_all, wiL_all, Bool.eq_iff_iff, List.all_eq_true, List.all_eq_true]
  exact ⟨fun a x hx => a x (h.mem_iff.2 hx), fun a x hx => a x (h.mem_iff.1 hx)⟩
theorem nmB_perm {l m : List ByteArray} (h : l.Perm m) : nmB l = nmB m := by
  unfold nmB
  have h1 : l.all textB = m.all textB := by
    rw [Bool.eq_iff_iff, List.all_eq_true, List.all_eq_true]
    exact ⟨fun a x hx => a x (h.mem_iff.2 hx), fun a x hx => a x (h.mem_iff.1 hx)⟩
  rw [h1]
  congr 1
  rw [decide_eq_decide]
  exact h.nodup_iff
theorem zip_snd {l : List ByteArray} {m : List Vt} (h : l.length = m.length) : (l.zip m).map Prod.snd = m := List.map_snd_zip (by omega)
theorem zip_fst {l : List ByteArray} {m : List Vt} (h : l.length = m.length) : (l.zip m).map Prod.fst = l := List.map_fst_zip (by omega)
theorem items_perm {l : List ByteArray} {m : List Vt} (h : l.length = m.length) : ((isort (l.zip m)).map Prod.snd).Perm m := by
  have := (isort_perm (l.zip m)).map Prod.snd
  rwa [zip_snd h] at this
theorem names_perm {l : List ByteArray} {m : List Vt} (h : l.length = m.length) : ((isort (l.zip m)).map Prod.fst).Perm l := by
  have := (isort_perm (l.zip m)).map Prod.fst
  rwa [zip_fst h] at this
theorem cnt_mkO (k n : Int) (s : ByteArray) (l : List Vt) (ns : List ByteArray) : cnt (mkO k n s l ns) = 1 + cntL l := by
  unfold mkO
  split
  · rename_i h; rw [cnt, cntL_perm (items_perm h.2)]
  · rw [cnt]
theorem dep_mkO (k n : Int) (s : ByteArray) (l : List Vt) (ns : List ByteArray) : dep (mkO k n s l ns) = if k = 4 ∨ k = 5 then 1 + depL l else 0 := by
  unfold mkO
  split
  · rename_i h; rw [dep, depL_perm (items_perm h.2)]
  · rw [dep]
theorem hdB_perm (k n : Int) (s : ByteArray) {l l' : List Vt} {ns ns' : List ByteArray} (m : Int) (hl : l.length = l'.length) (hn : ns.Perm ns') : hdB k n s l ns m = hdB k n s l' ns' m := by
  have e1 : l.isEmpty = l'.isEmpty := by
    rw [Bool.eq_iff_iff, List.isEmpty_iff_length_eq_zero, List.isEmpty_iff_length_eq_zero, hl]
  have e2 : ns.isEmpty = ns'.isEmpty := by
    rw [Bool.eq_iff_iff, List.isEmpty_iff_length_eq_zero, List.isEmpty_iff_length_eq_zero, hn.length_eq]
  unfold hdB scal
  rw [e1, e2, nmB_perm hn, hn.length_eq, hl]
theorem wi_mkO (k n : Int) (s : ByteArray) (l : List Vt) (ns : List ByteArray) (m : Int) : wi (mkO k n s l ns) m = (hdB k n s l ns m && wiL l (m - 1)) := by
  unfold mkO
  split
  · rename_i h
    have h1 := items_perm h.2
    have h2 := names_perm h.2
    rw [wi, wiL_perm h1, hdB_perm k n s m h1.length_eq h2]
  · rw [wi]
theorem cnt_srt (v : Vt) : cnt (srt v) = cnt v := by
  refine vt_ind (p := fun v => cnt (srt v) = cnt v) ?_ v
  intro v ih
  cases v with
  | mk k n s l ns =>
    rw [srt, cnt_mkO, cnt, cntL_sum, cntL_sum, srtL_map, List.map_map]
    congr 2
    exact List.map_congr_left fun x hx => ih x hx
theorem depL_congr : ∀ (l : List Vt) (f : Vt → Vt), (∀ x ∈ l, dep (f x) = dep x) → depL (l.map f) = depL l
  | [], _, _ => rfl
  | x :: l, f, h => by rw [List.map_cons, depL, depL, h x List.mem_cons_self, depL_congr l f fun y hy => h y (List.mem_cons_of_mem _ hy)]
theorem dep_srt (v : Vt) : dep (srt v) = dep v := by
  refine vt_ind (p := fun v => dep (srt v) = dep v) ?_ v
  intro v ih
  cases v with
  | mk k n s l ns => rw [srt, dep_mkO, dep, srtL_map, depL_congr l srt fun x hx => ih x hx]
theorem srtL_len (l : List Vt) : (srtL l).length = l.length := by rw [srtL_map, List.length_map]
theorem wi_srt (v : Vt) : ∀ m, wi (srt v) m = wi v m := by
  refine vt_ind (p := fun v => ∀ m, wi (srt v) m = wi v m) ?_ v
  intro v ih m
  cases v with
  | mk k n s l ns =>
    have e : wiL (srtL l) (m - 1) = wiL l (m - 1) := by
      rw [wiL_all, wiL_all, srtL_map, List.all_map]
      have : ∀ (l : List Vt), (∀ x ∈ l, ∀ m, wi (srt x) m = wi x m) → l.all ((fun x => wi x (m - 1)) ∘ srt) = l.all fun x => wi x (m - 1) := by
        intro l
        induction l with
        | nil => intro _; rfl
        | cons x l ihl => intro h; rw [List.all_cons, List.all_cons, ihl fun y hy => h y (List.mem_cons_of_mem _ hy)]; simp [h x List.mem_cons_self]
      exact this l ih
    rw [srt, wi_mkO, wi, e, hdB_perm k n s m (srtL_len l) (List.Perm.refl ns)]
/-- What is sorted stays. -/
theorem srt_srt (v : Vt) : srt (srt v) = srt v := by
  refine vt_ind (p := fun v => srt (srt v) = srt v) ?_ v
  intro v ih
  cases v with
  | mk k n s l ns =>
    have hm : ∀ m : List Vt, m.Perm (srtL l) → srtL m = m := by
      intro m hp
      rw [srtL_map]
      conv => rhs; rw [← List.map_id m]
      refine List.map_congr_left fun x hx => ?_
      rw [srtL_map] at hp
      obtain ⟨y, hy, rfl⟩ := List.mem_map.1 (hp.mem_iff.1 hx)
      exact ih y hy
    rw [srt]
    unfold mkO
    by_cases h : k = 5 ∧ ns.length = (srtL l).length
    · rw [if_pos h, srt, hm _ (items_perm h.2)]
      unfold mkO
      have hl1 : ((isort (ns.zip (srtL l))).map Prod.fst).length = ((isort (ns.zip (srtL l))).map Prod.snd).length := by simp
      rw [if_pos ⟨h.1, hl1⟩]
      have hz : ((isort (ns.zip (srtL l))).map Prod.fst).zip ((isort (ns.zip (srtL l))).map Prod.snd) = isort (ns.zip (srtL l)) := by
        have : ∀ z : List (ByteArray × Vt), (z.map Prod.fst).zip (z.map Prod.snd) = z := by
          intro z
          induction z with
          | nil => rfl
          | cons p z ih => rw [List.map_cons, List.map_cons, List.zip_cons_cons, ih]
        exact this _
      rw [hz, isort_id _ (isort_rise _)]
    · rw [if_neg h, srt, hm _ (List.Perm.refl _)]
      unfold mkO
      rw [if_neg h]
/-! ### right objects -/
theorem right_parts {v : Vt} {m : Int} (h : wi v m = true) : (v.k = 5 → v.ns.length = v.l.length ∧ v.ns.Nodup ∧ v.n = 0 ∧ v.s = ⟨#[]⟩ ∧ 1 ≤ m ∧ wiL v.l (m - 1) = true ∧ v.ns.all textB = true) ∧ (v.k ≠ 5 → v.ns = []) := by
  cases v with
  | mk k n s l ns =>
    rw [wi, Bool.and_eq_true] at h
    obtain ⟨h1, h2⟩ := h
    show (k = 5 → _) ∧ (k ≠ 5 → ns = [])
    constructor
    · intro hk
      subst hk
      unfold hdB nmB noneB at h1
      rw [if_neg (by decide), if_neg (by decide), if_neg (by decide), if_neg (by decide), if_neg (by decide), if_pos rfl] at h1
      simp only [Bool.and_eq_true, decide_eq_true_eq] at h1
      obtain ⟨⟨⟨⟨a, b, c⟩, d⟩, e⟩, f⟩ := h1
      exact ⟨a, c, d, e, f, h2, b⟩
    · intro hk
      unfold hdB scal at h1
      repeat' split at h1
      all_goals simp_all
theorem rise_strict {l : List (ByteArray × Vt)} (h : Rise l) (hn : (l.map Prod.fst).Nodup) : (l.map Prod.fst).Pairwise fun a b => ltB a b = true := by
  induction l with
  | nil => exact List.Pairwise.nil
  | cons p l ih =>
    obtain ⟨h1, h2⟩ := List.pairwise_cons.1 h
    rw [List.map_cons, List.nodup_cons] at hn
    rw [List.map_cons]
    refine List.pairwise_cons.2 ⟨fun a ha => ?_, ih h2 hn.2⟩
    obtain ⟨q, hq, rfl⟩ := List.mem_map.1 ha
    cases hx : ltB p.1 q.1 with
    | true => rfl
    | false => exact absurd (lt_total hx (h1 q hq) ▸ ha) hn.1
/-- The names of a right value rise, sorted. -/
theorem names_rise {v : Vt} {m : Int} (h : wi v m = true) : (srt v).ns.Pairwise fun a b => ltB a b = true := by
  obtain ⟨h5, hno⟩ := right_parts h
  cases v with
  | mk k n s l ns =>
    rw [srt]
    unfold mkO
    by_cases hk : k = 5
    · obtain ⟨a, b, _⟩ := h5 hk
      have hl : ns.length = (srtL l).length := by rw [srtL_len]; exact a
      rw [if_pos ⟨hk, hl⟩]
      show ((isort (ns.zip (srtL l))).map Prod.fst).Pairwise _
      exact rise_strict (isort_rise _) ((names_perm hl).nodup_iff.2 b)
    · rw [if_neg fun h => hk h.1]
      have : ns = [] := hno hk
      subst this
      exact List.Pairwise.nil

/-! ### turned about -/
def rot {α : Type} (l : List α) (i : Nat) : List α := l.drop i ++ l.take i
theorem rot_perm {α : Type} (l : List α) (i : Nat) : (rot l i).Perm l := by
  unfold rot
  have := List.perm_append_comm (l₁ := l.drop i) (l₂ := l.take i)
  rwa [List.take_append_drop] at this
theorem rot_zip {α β : Type} (a : List α) (b : List β) (i : Nat) (h : a.length = b.length) : (rot a i).zip (rot b i) = rot (a.zip b) i := by
  unfold rot
  rw [List.zip_append (by simp [h])]
  simp only [List.zip, List.drop_zipWith, List.take_zipWith]
theorem rot_map {α β : Type} (f : α → β) (l : List α) (i : Nat) : (rot l i).map f = rot (l.map f) i := by unfold rot; simp
theorem rot_len {α : Type} (l : List α) (i : Nat) : (rot l i).length = l.length := (rot_perm l i).length_eq
/-- What turned members are sorted to. -/
theorem srt_turn (l : List Vt) (ns : List ByteArray) (i : Nat) (hl : ns.length = l.length) (hn : ns.Nodup) : srt (.mk 5 0 ⟨#[]⟩ (rot l i) (rot ns i)) = srt (.mk 5 0 ⟨#[]⟩ l ns) := by
  rw [srt, srt]
  unfold mkO
  have h1 : ns.length = (srtL l).length := by rw [srtL_len]; exact hl
  have e : srtL (rot l i) = rot (srtL l) i := by rw [srtL_map, srtL_map, rot_map]
  have h2 : (rot ns i).length = (rot (srtL l) i).length := by rw [rot_len, rot_len, h1]
  rw [e, if_pos ⟨rfl, h2⟩, if_pos ⟨rfl, h1⟩, rot_zip _ _ _ h1]
  have hz : isort (rot (ns.zip (srtL l)) i) = isort (ns.zip (srtL l)) := by
    refine rise_one _ _ (isort_rise _) (isort_rise _) ?_ ?_
    · rw [← rot_zip _ _ _ h1]
      exact (names_perm h2).nodup_iff.2 ((rot_perm ns i).nodup_iff.2 hn)
    · exact ((isort_perm _).trans (rot_perm _ i)).trans (isort_perm _).symm
  rw [hz]
theorem wi_turn (l : List Vt) (ns : List ByteArray) (i : Nat) (m : Int) (_hl : ns.length = l.length) : wi (.mk 5 0 ⟨#[]⟩ (rot l i) (rot ns i)) m = wi (.mk 5 0 ⟨#[]⟩ l ns) m := by
  rw [wi, wi, wiL_perm (rot_perm l i), hdB_perm 5 0 ⟨#[]⟩ m (rot_len l i) (rot_perm ns i)]
theorem fnd_at : ∀ (ns : List ByteArray) (l : List Vt) (j : Nat), ns.length = l.length → ns.Nodup → (h : j < ns.length) → fnd ns l ns[j] = l[j]?
  | [], _, j, _, _, h => by simp at h
  | m :: ns, [], _, h, _, _ => by simp at h
  | m :: ns, x :: l, 0, _, _, _ => by rw [fnd]; simp
  | m :: ns, x :: l, j + 1, hl, hn, h => by
    rw [List.nodup_cons] at hn
    have hne : m ≠ ns[j]'(by simpa using h) := fun e => hn.1 (e ▸ List.getElem_mem _)
    rw [List.getElem_cons_succ, fnd, if_neg hne, List.getElem?_cons_succ]
    exact fnd_at ns l j (by simpa using hl) hn.2 (by simpa using h)
theorem fnd_perm {ns ns' : List ByteArray} {l l' : List Vt} (hl : ns.length = l.length) (hl' : ns'.length = l'.length) (hn : ns.Nodup) (hp : (ns'.zip l').Perm (ns.zip l)) (j : Nat) (hj : j < ns.length) : fnd ns' l' ns[j] = l[j]? := by
  have hn' : ns'.Nodup := by
    have h1 := hp.map Prod.fst
    rw [zip_fst hl, zip_fst hl'] at h1
    exact h1.nodup_iff.2 hn
  have hm : (ns[j], l[j]'(by omega)) ∈ ns.zip l := by
    have : (ns.zip l)[j]'(by simp; omega) = (ns[j], l[j]'(by omega)) := List.getElem_zip
    rw [← this]
    exact List.getElem_mem _
  obtain ⟨i, hi, he⟩ := List.getElem_of_mem (hp.mem_iff.2 hm)
  rw [List.getElem_zip] at he
  have hi1 : i < ns'.length := by simp at hi; omega
  obtain ⟨e1, e2⟩ := Prod.mk.injEq .. ▸ he
  rw [← e1, fnd_at ns' l' i hl' hn' hi1, List.getElem?_eq_getElem (by omega), e2, List.getElem?_eq_getElem (by omega)]
theorem rot_same {l : List ByteArray} (hn : l.Nodup) {i : Nat} (hi : i < l.length) (h : rot l i = l) : i = 0 := by
  rcases Nat.eq_zero_or_pos i with h0 | h0
  · exact h0
  · exfalso
    have e : (rot l i)[0]? = l[i]? := by
      unfold rot
      rw [List.getElem?_append_left (by simp; omega), List.getElem?_drop]
      rfl
    rw [h, List.getElem?_eq_getElem (by omega), List.getElem?_eq_getElem hi] at e
    have := (List.getElem_inj hn).1 (Option.some.inj e)
    omega
theorem rot_zero {α : Type} (l : List α) : rot l 0 = l := by unfold rot; simp
end Go.Proofs.YthkopnobekohcaaGreatDoor.Tre

namespace Go.Proofs.YthkopnobekohcaaGreatDoor.Lx
open Go.Lib Go.Proofs.YthkopnobekohcaaGreatDoor.Utf Go.Proofs.YthkopnobekohcaaGreatDoor.Oct Go.Proofs.YthkopnobekohcaaGreatDoor.Quo

theorem skp_bl : ∀ (l : List UInt8) (j : Nat), j < skp l → bl (l.getD j 0).toNat = true
  | [], j, h => by simp [skp] at h
  | c :: l, j, h => by
    rw [skp] at h
    by_cases hb : bl c.toNat = true
    · rw [if_pos hb] at h
      cases j with
      | zero => simpa using hb
      | succ j => rw [List.getD_cons_succ]; exact skp_bl l j (by omega)
    · rw [if_neg hb] at h; omega
theorem getD_dropN (S : List UInt8) (b j : Nat) : (S.drop b).getD j 0 = S.getD (b + j) 0 := by
  rw [List.getD_eq_getElem?_getD, List.getElem?_drop, ← List.getD_eq_getElem?_getD]
/-- The tokens from place e on fill S to its end. -/
def Fl (S : List UInt8) : Nat → List Tk → Prop
  | e, [] => e = S.length
  | e, x :: r => e ≤ x.o ∧ x.o + x.z ≤ S.length ∧ (x.k = 0 ↔ r = []) ∧ (x.z = 0 ↔ x.k = 0) ∧ (∀ j, e ≤ j → j < x.o → bl (S.getD j 0).toNat = true) ∧ x.v.length ≤ x.z ∧ x.k ≤ 11 ∧ Fl S (x.o + x.z) r
theorem fills (S : List UInt8) (b : Nat) (l : List UInt8) : l = S.drop b → b ≤ S.length → (tkA b l).1 = 0 → Fl S b (tkA b l).2.2 ∧ (tkA b l).2.2 ≠ [] ∧ (tkA b l).2.2.length + b ≤ S.length + 1 ∧ (tkA b l).2.1 = 0 := by
  refine tok_ind (p := fun b l => l = S.drop b → b ≤ S.length → (tkA b l).1 = 0 → Fl S b (tkA b l).2.2 ∧ (tkA b l).2.2 ≠ [] ∧ (tkA b l).2.2.length + b ≤ S.length + 1 ∧ (tkA b l).2.1 = 0) ?_ ?_ ?_ b l
  · intro b l h _ _ h0
    rw [tkA_bad b l h] at h0
    exact absurd h0 h
  · intro b l h hk hl hb _
    obtain ⟨g1, g2, g3, g4, g5, g6⟩ := nx_good l h
    have hz := g4.2 hk
    have hs := g3.1 hk
    have hll : l.length = S.length - b := by rw [hl, List.length_drop]
    rw [tkA_end b l h hk]
    refine ⟨?_, by simp, by simp; omega, rfl⟩
    show _ ≤ b + (nx l).2.o ∧ b + (nx l).2.o + (nx l).2.z ≤ _ ∧ ((nx l).2.k = 0 ↔ _) ∧ ((nx l).2.z = 0 ↔ (nx l).2.k = 0) ∧ (∀ j, b ≤ j → j < b + (nx l).2.o → _) ∧ (nx l).2.v.length ≤ (nx l).2.z ∧ (nx l).2.k ≤ 11 ∧ b + (nx l).2.o + (nx l).2.z = _
    refine ⟨by omega, by omega, ⟨fun _ => rfl, fun _ => hk⟩, g4, ?_, g5, g6, by omega⟩
    intro j j1 j2
    have := skp_bl l (j - b) (by omega)
    rw [hl, getD_dropN, show b + (j - b) = j by omega] at this
    exact this
  · intro b l h hk ih hl hb h0
    obtain ⟨g1, g2, g3, g4, g5, g6⟩ := nx_good l h
    have hst := nx_step l h hk
    have hll : l.length = S.length - b := by rw [hl, List.length_drop]
    have h1 := tkA_step b l h hk
    have hq : (tkA (b + (nx l).2.o + (nx l).2.z) (l.drop ((nx l).2.o + (nx l).2.z))).1 = 0 := by
      by_cases hq : (tkA (b + (nx l).2.o + (nx l).2.z) (l.drop ((nx l).2.o + (nx l).2.z))).1 = 0
      · exact hq
      · rw [h1, if_neg hq] at h0; exact h0
    rw [if_pos hq] at h1
    obtain ⟨i1, i2, i3, i4⟩ := ih (by rw [hl, List.drop_drop]; congr 1; omega) (by omega) hq
    rw [h1]
    generalize (tkA (b + (nx l).2.o + (nx l).2.z) (l.drop ((nx l).2.o + (nx l).2.z))).2.2 = L at *
    refine ⟨?_, by simp, by simp only [List.length_cons]; omega, rfl⟩
    show _ ≤ b + (nx l).2.o ∧ b + (nx l).2.o + (nx l).2.z ≤ _ ∧ ((nx l).2.k = 0 ↔ _) ∧ ((nx l).2.z = 0 ↔ (nx l).2.k = 0) ∧ (∀ j, b ≤ j → j < b + (nx l).2.o → _) ∧ (nx l).2.v.length ≤ (nx l).2.z ∧ (nx l).2.k ≤ 11 ∧ Fl S (b + (nx l).2.o + (nx l).2.z) L
    refine ⟨by omega, by omega, ⟨fun e => absurd e hk, fun e => absurd e i2⟩, g4, ?_, g5, g6, i1⟩
    intro j j1 j2
    have := skp_bl l (j - b) (by omega)
    rw [hl, getD_dropN, show b + (j - b) = j by omega] at this
    exact this
/-- Where there is a fault: it stands in S, and there are no tokens. -/
theorem faults (b : Nat) (l : List UInt8) : (tkA b l).1 ≠ 0 → (tkA b l).2.2 = [] ∧ (tkA b l).2.1 ≤ b + l.length := by
  refine tok_ind (p := fun b l => (tkA b l).1 ≠ 0 → (tkA b l).2.2 = [] ∧ (tkA b l).2.1 ≤ b + l.length) ?_ ?_ ?_ b l
  · intro b l h _
    obtain ⟨o, h1, h2⟩ := nx_bad l h
    rw [tkA_bad b l h, h1]
    exact ⟨rfl, by show b + o ≤ _; omega⟩
  · intro b l h hk h0
    rw [tkA_end b l h hk] at h0
    exact absurd rfl h0
  · intro b l h hk ih h0
    have hst := nx_step l h hk
    have h1 := tkA_step b l h hk
    by_cases hq : (tkA (b + (nx l).2.o + (nx l).2.z) (l.drop ((nx l).2.o + (nx l).2.z))).1 = 0
    · rw [if_pos hq] at h1
      rw [h1] at h0
      exact absurd rfl h0
    · rw [if_neg hq] at h1
      have := ih hq
      rw [List.length_drop] at this
      rw [h1]
      exact ⟨this.1, by omega⟩
end Go.Proofs.YthkopnobekohcaaGreatDoor.Lx

namespace Go.Proofs.YthkopnobekohcaaGreatDoor.Lx
open Go.Lib Go.Proofs.YthkopnobekohcaaGreatDoor.Utf Go.Proofs.YthkopnobekohcaaGreatDoor.Oct Go.Proofs.YthkopnobekohcaaGreatDoor.Quo

def d8 (k : Nat) : UInt8 := UInt8.ofNat (48 + k)
theorem d8_nat {k : Nat} (h : k < 10) : (d8 k).toNat = 48 + k := by unfold d8; rw [UInt8.toNat_ofNat']; omega
def dcF : Nat → Nat → List UInt8
  | 0, _ => []
  | f + 1, u => if u < 10 then [d8 u] else dcF f (u / 10) ++ [d8 (u % 10)]
/-- A number's digits. -/
def dcL (u : Nat) : List UInt8 := dcF 20 u
theorem dcF_fuel : ∀ (f g u : Nat), u < 10 ^ f → u < 10 ^ g → 0 < f → 0 < g → dcF f u = dcF g u
  | 0, _, _, _, _, h, _ => by omega
  | _ + 1, 0, _, _, _, _, h => by omega
  | f + 1, g + 1, u, hf, hg, _, _ => by
    rw [dcF, dcF]
    by_cases h : u < 10
    · rw [if_pos h, if_pos h]
    · rw [if_neg h, if_neg h]
      rw [Nat.pow_succ] at hf hg
      have hf2 : u / 10 < 10 ^ f := by omega
      have hg2 : u / 10 < 10 ^ g := by omega
      have f0 : 0 < f := by rcases f with _ | f; · simp at hf; omega
                            · omega
      have g0 : 0 < g := by rcases g with _ | g; · simp at hg; omega
                            · omega
      rw [dcF_fuel f g (u / 10) hf2 hg2 f0 g0]
theorem dcL_low {u : Nat} (h : u < 10) : dcL u = [d8 u] := by unfold dcL; rw [dcF, if_pos h]
theorem dcL_high {u : Nat} (h : ¬ u < 10) (h2 : u < 18446744073709551616) : dcL u = dcL (u / 10) ++ [d8 (u % 10)] := by
  conv => lhs; unfold dcL; rw [dcF, if_neg h]
  rw [dcF_fuel 19 20 (u / 10) (by omega) (by omega) (by omega) (by omega)]
  rfl
def allD (l : List UInt8) : Prop := ∀ c ∈ l, dg c.toNat = true
theorem dgs_all : ∀ {l : List UInt8}, allD l → dgs l = l.length
  | [], _ => rfl
  | c :: l, h => by rw [dgs, if_pos (h c List.mem_cons_self), dgs_all fun d hd => h d (List.mem_cons_of_mem _ hd)]; rfl
theorem vl_snoc (l : List UInt8) (c : UInt8) : vl (l ++ [c]) = 10 * vl l + (c.toNat - 48) := by unfold vl; rw [List.foldl_append]; rfl
theorem d8_dg {k : Nat} (h : k < 10) : dg (d8 k).toNat = true := by rw [d8_nat h]; unfold dg; simp; omega
theorem dc_rec {p : Nat → Prop} (h0 : ∀ u, u < 10 → p u) (h1 : ∀ u, ¬ u < 10 → p (u / 10) → p u) (u : Nat) : p u := by
  induction u using Nat.strongRecOn with
  | _ u ih =>
    by_cases h : u < 10
    · exact h0 u h
    · exact h1 u h (ih (u / 10) (by omega))
theorem dcL_facts (u : Nat) : u < 18446744073709551616 → dcL u ≠ [] ∧ allD (dcL u) ∧ vl (dcL u) = u ∧ (hd (dcL u) = 48 → u = 0) := by
  refine dc_rec (p := fun u => u < 18446744073709551616 → dcL u ≠ [] ∧ allD (dcL u) ∧ vl (dcL u) = u ∧ (hd (dcL u) = 48 → u = 0)) ?_ ?_ u
  · intro u h _
    rw [dcL_low h]
    refine ⟨by simp, ?_, ?_, ?_⟩
    · intro c hc; rw [List.mem_singleton.1 hc]; exact d8_dg h
    · show 10 * 0 + ((d8 u).toNat - 48) = u; rw [d8_nat h]; omega
    · intro e; have : hd [d8 u] = 48 + u := d8_nat h; omega
  · intro u h ih hu
    obtain ⟨i1, i2, i3, i4⟩ := ih (by omega)
    rw [dcL_high h hu]
    refine ⟨by simp, ?_, ?_, ?_⟩
    · intro c hc
      rcases List.mem_append.1 hc with h1 | h1
      · exact i2 c h1
      · rw [List.mem_singleton.1 h1]; exact d8_dg (by omega)
    · rw [vl_snoc, i3, d8_nat (by omega)]; omega
    · intro e
      rw [hd_left _ _ i1] at e
      have := i4 e
      omega
theorem dcF_len : ∀ f u, (dcF f u).length ≤ f
  | 0, _ => Nat.le_refl _
  | f + 1, u => by
    rw [dcF]
    split
    · simp
    · rw [List.length_append, List.length_singleton]; have := dcF_len f (u / 10); omega
theorem dcL_len (u : Nat) : (dcL u).length ≤ 20 := dcF_len 20 u

/-- What digits behind a sign are read as. -/
def sv (pre l : List UInt8) : Int := if pre = [] then (vl l : Int) else -(vl l : Int)
theorem tok_digits (pre l : List UInt8) (hpre : pre = [] ∨ pre = [45]) (hl : l ≠ []) (ha : allD l) (h0 : hd l = 48 → l.length = 1) :
    nx (pre ++ l) = if -9223372036854775808 ≤ sv pre l ∧ sv pre l ≤ 9223372036854775807 then (0, ⟨8, 0, (pre ++ l).length, [], sv pre l⟩) else (6, bad 0) := by
  have hlp := List.length_pos_iff.2 hl
  have hdl : dg (hd l) = true := by
    cases l with
    | nil => exact absurd rfl hl
    | cons c l => exact ha c List.mem_cons_self
  have hdl2 : 48 ≤ hd l ∧ hd l ≤ 57 := by unfold dg at hdl; simpa using hdl
  have hgc : dgc l = l.length := by
    unfold dgc
    by_cases h : hd l = 48
    · rw [if_pos h, h0 h]
    · rw [if_neg h, dgs_all ha]
  have key : sgn (pre ++ l) = pre.length ∧ (hd (pre ++ l) = 45 ∨ dg (hd (pre ++ l)) = true) ∧ bl (hd (pre ++ l)) = false ∧ sg (hd (pre ++ l)) = 0 ∧ hd (pre ++ l) ≠ 34 ∧ (sgn (pre ++ l) = 1 ↔ pre ≠ []) := by
    rcases hpre with rfl | rfl
    · rw [List.nil_append]
      have : sgn l = 0 := by unfold sgn; rw [if_neg (by omega)]
      refine ⟨this, .inr hdl, by unfold bl; simp; omega, ?_, by omega, by rw [this]; simp⟩
      unfold sg
      rw [if_neg (by omega), if_neg (by omega), if_neg (by omega), if_neg (by omega), if_neg (by omega), if_neg (by omega)]
    · have e : hd ([45] ++ l) = 45 := rfl
      have : sgn ([45] ++ l) = 1 := by unfold sgn; rw [if_pos e]
      refine ⟨this, .inl e, by rw [e]; decide, by rw [e]; decide, by rw [e]; decide, by rw [this]; simp⟩
  obtain ⟨k1, k2, k3, k4, k5, k6⟩ := key
  have hne : pre ++ l ≠ [] := by simp [hl]
  have hdr : (pre ++ l).drop (sgn (pre ++ l)) = l := by rw [k1, List.drop_left]
  have hdc : dc (pre ++ l) = l.length := by unfold dc; rw [hdr, hgc]
  have hvz : vz (pre ++ l) = vl l := by unfold vz; rw [hdc, hdr, List.take_length]
  have hvi : vi (pre ++ l) = sv pre l := by
    unfold vi sv
    rw [hvz]
    by_cases h : pre = []
    · rw [if_pos h, if_neg]; rw [k6]; simp [h]
    · rw [if_neg h, if_pos (k6.2 h)]
  have hend : mk ((pre ++ l).getD (sgn (pre ++ l) + dc (pre ++ l)) 0).toNat = false := by
    rw [k1, hdc, ← List.length_append, List.getD_eq_getElem?_getD, List.getElem?_eq_none (Nat.le_refl _)]
    rfl
  unfold nx
  rw [skp_none k3, List.drop_zero]
  have e : tok (pre ++ l) = num (pre ++ l) := by
    unfold tok
    rw [if_neg hne, if_neg (by rw [k4]; simp), if_neg k5, if_pos k2]
  rw [e]
  unfold num vo
  rw [hend, hdc, hvi, k1, if_neg (by omega), if_neg (by simp), ← List.length_append]
  by_cases h : -9223372036854775808 ≤ sv pre l ∧ sv pre l ≤ 9223372036854775807
  · rw [if_pos h, if_pos (by simpa using h)]; rfl
  · rw [if_neg h, if_neg (by simpa using h)]; rfl

/-- A whole number of 64 bits, its sign ahead. -/
def sL (n : Int) : List UInt8 := if n < 0 then [45] else []
def nL2 (n : Int) : List UInt8 := sL n ++ dcL n.natAbs
theorem sL_two (n : Int) : sL n = [] ∨ sL n = [45] := by
  unfold sL
  split
  · exact .inr rfl
  · exact .inl rfl
theorem sv_num (n : Int) (l : List UInt8) : sv (sL n) l = if n < 0 then -(vl l : Int) else (vl l : Int) := by
  unfold sv sL
  by_cases h : n < 0
  · rw [if_pos h, if_neg (by simp)]; rw [if_pos h]
  · rw [if_neg h, if_pos rfl]; rw [if_neg h]
theorem number_is (n : Int) (h1 : -9223372036854775808 ≤ n) (h2 : n ≤ 9223372036854775807) : nx (nL2 n) = (0, ⟨8, 0, (nL2 n).length, [], n⟩) := by
  obtain ⟨f1, f2, f3, f4⟩ := dcL_facts n.natAbs (by omega)
  unfold nL2
  have hs : sv (sL n) (dcL n.natAbs) = n := by rw [sv_num, f3]; split <;> omega
  rw [tok_digits (sL n) _ (sL_two n) f1 f2 (fun e => by rw [f4 e]; rfl), hs, if_pos ⟨h1, h2⟩]
theorem number_more (n : Int) (k : Nat) (hk : k < 10) (h1 : -9223372036854775808 ≤ n) (h2 : n ≤ 9223372036854775807) (h0 : n ≠ 0) :
    nx (nL2 n ++ [d8 k]) = if -9223372036854775808 ≤ 10 * n + (if n < 0 then -(k : Int) else (k : Int)) ∧ 10 * n + (if n < 0 then -(k : Int) else (k : Int)) ≤ 9223372036854775807 then
      (0, ⟨8, 0, (nL2 n ++ [d8 k]).length, [], 10 * n + (if n < 0 then -(k : Int) else (k : Int))⟩) else (6, bad 0) := by
  obtain ⟨f1, f2, f3, f4⟩ := dcL_facts n.natAbs (by omega)
  unfold nL2
  rw [List.append_assoc]
  have hs : sv (sL n) (dcL n.natAbs ++ [d8 k]) = 10 * n + (if n < 0 then -(k : Int) else (k : Int)) := by
    rw [sv_num, vl_snoc, f3, d8_nat hk]; split <;> omega
  rw [tok_digits (sL n) _ (sL_two n) (by simp) ?_ ?_, hs]
  · intro c hc
    rcases List.mem_append.1 hc with h | h
    · exact f2 c h
    · rw [List.mem_singleton.1 h]; exact d8_dg hk
  · intro e
    rw [hd_left _ _ f1] at e
    have := f4 e
    omega
theorem nL2_len (n : Int) : (nL2 n).length ≤ 21 := by
  unfold nL2
  rw [List.length_append]
  have := dcL_len n.natAbs
  rcases sL_two n with e | e <;> rw [e] <;> simp <;> omega
end Go.Proofs.YthkopnobekohcaaGreatDoor.Lx
