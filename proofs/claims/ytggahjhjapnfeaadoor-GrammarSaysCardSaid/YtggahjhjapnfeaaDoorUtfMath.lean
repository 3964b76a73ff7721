/- Plain facts of sequences of bytes and their numbers, over the model's own decoding; no program. Conditions: as each theorem states. -/
import Derived.Lib.MapLaws
import Derived.Lib.ValidLaws
import Derived.Lib.RuneCount
import Derived.Lib.TrimUEq
import Derived.Lib.RuneBytes
namespace Go.Proofs.YtggahjhjapnfeaaDoor.Utf
open Go.Lib

/-- How many bytes the sequence at the head has; 0: there is none. -/
def wL (l : List UInt8) : Nat := if l = [] then 0 else if (decodeL l).1 = 65533 ∧ (decodeL l).2 = 1 then 0 else (decodeL l).2
/-- Its number. -/
def nL (l : List UInt8) : Nat := (decodeL l).1

theorem wL_nil : wL [] = 0 := rfl
theorem wL_good {l : List UInt8} (h : 0 < wL l) : l ≠ [] ∧ ¬ ((decodeL l).1 = 65533 ∧ (decodeL l).2 = 1) ∧ wL l = (decodeL l).2 := by
  unfold wL at h ⊢
  by_cases h1 : l = []
  · rw [if_pos h1] at h; omega
  · rw [if_neg h1] at h ⊢
    by_cases h2 : (decodeL l).1 = 65533 ∧ (decodeL l).2 = 1
    · rw [if_pos h2] at h; omega
    · rw [if_neg h2]; exact ⟨h1, h2, rfl⟩
theorem wL_bad {l : List UInt8} (hl : l ≠ []) (h : wL l = 0) : (decodeL l).1 = 65533 ∧ (decodeL l).2 = 1 := by
  unfold wL at h
  rw [if_neg hl] at h
  by_cases h2 : (decodeL l).1 = 65533 ∧ (decodeL l).2 = 1
  · exact h2
  · rw [if_neg h2] at h; have := decodeL_width l; omega
theorem wL_le (l : List UInt8) : wL l ≤ l.length := by
  unfold wL
  split
  · omega
  · split
    · omega
    · exact decodeL_le l (by assumption)
theorem decodeN_le4 (n b0 b1 b2 b3 : Nat) : (decodeN n b0 b1 b2 b3).2 ≤ 4 := by
  unfold decodeN
  repeat' split
  all_goals simp
theorem wL_le4 (l : List UInt8) : wL l ≤ 4 := by
  unfold wL
  split
  · omega
  · split
    · omega
    · rw [decodeL_N]; exact decodeN_le4 _ _ _ _ _
theorem enc_wL {l : List UInt8} (h : 0 < wL l) : encodeRune (nL l : Int) = l.take (wL l) := by
  obtain ⟨h1, h2, h3⟩ := wL_good h
  rw [h3]; exact encode_decode l h1 h2

/-! ### the first place that is bad; the numbers -/
def badF : Nat → List UInt8 → Option Nat
  | 0, _ => none
  | n + 1, l => if l = [] then none else if 0 < wL l then (badF n (l.drop (wL l))).map (· + wL l) else some 0
def rnF : Nat → List UInt8 → List Nat
  | 0, _ => []
  | n + 1, l => if 0 < wL l then nL l :: rnF n (l.drop (wL l)) else []
theorem badF_nil : ∀ n, badF n [] = none
  | 0 => rfl
  | _ + 1 => by rw [badF, if_pos rfl]
theorem rnF_nil : ∀ n, rnF n [] = []
  | 0 => rfl
  | _ + 1 => by rw [rnF, if_neg (by rw [wL_nil]; omega)]
theorem drop_lt {n : Nat} {l : List UInt8} (h : 0 < wL l) (hl : l.length ≤ n + 1) : (l.drop (wL l)).length ≤ n := by
  rw [List.length_drop]; omega
theorem badF_fuel : ∀ (n m : Nat) (l : List UInt8), l.length ≤ n → l.length ≤ m → badF n l = badF m l
  | 0, m, l, hn, _ => by
    have : l = [] := List.eq_nil_of_length_eq_zero (by omega)
    rw [this, badF_nil, badF_nil]
  | n + 1, 0, l, _, hm => by
    have : l = [] := List.eq_nil_of_length_eq_zero (by omega)
    rw [this, badF_nil, badF_nil]
  | n + 1, m + 1, l, hn, hm => by
    rw [badF, badF]
    by_cases hw : 0 < wL l
    · rw [if_pos hw, if_pos hw, badF_fuel n m _ (drop_lt hw hn) (drop_lt hw hm)]
    · rw [if_neg hw, if_neg hw]
theorem rnF_fuel : ∀ (n m : Nat) (l : List UInt8), l.length ≤ n → l.length ≤ m → rnF n l = rnF m l
  | 0, m, l, hn, _ => by
    have : l = [] := List.eq_nil_of_length_eq_zero (by omega)
    rw [this, rnF_nil, rnF_nil]
  | n + 1, 0, l, _, hm => by
    have : l = [] := List.eq_nil_of_length_eq_zero (by omega)
    rw [this, rnF_nil, rnF_nil]
  | n + 1, m + 1, l, hn, hm => by
    rw [rnF, rnF]
    by_cases hw : 0 < wL l
    · rw [if_pos hw, if_pos hw, rnF_fuel n m _ (drop_lt hw hn) (drop_lt hw hm)]
    · rw [if_neg hw, if_neg hw]
def badL (l : List UInt8) : Option Nat := badF l.length l
def rnL (l : List UInt8) : List Nat := rnF l.length l
theorem len_succ {l : List UInt8} (hl : l ≠ []) : ∃ n, l.length = n + 1 := ⟨l.length - 1, by have := List.length_pos_iff.2 hl; omega⟩
theorem badL_nil : badL [] = none := rfl
theorem badL_zero {l : List UInt8} (hl : l ≠ []) (h : wL l = 0) : badL l = some 0 := by
  obtain ⟨n, hn⟩ := len_succ hl
  rw [badL, hn, badF, if_neg hl, if_neg (by omega)]
theorem badL_step {l : List UInt8} (h : 0 < wL l) : badL l = (badL (l.drop (wL l))).map (· + wL l) := by
  obtain ⟨n, hn⟩ := len_succ (wL_good h).1
  rw [badL, hn, badF, if_neg (wL_good h).1, if_pos h, badL, badF_fuel n _ _ (drop_lt h (by omega)) (Nat.le_refl _)]
theorem rnL_nil : rnL [] = [] := rfl
theorem rnL_zero {l : List UInt8} (h : wL l = 0) : rnL l = [] := by
  by_cases hl : l = []
  · rw [hl]; rfl
  · obtain ⟨n, hn⟩ := len_succ hl
    rw [rnL, hn, rnF, if_neg (by omega)]
theorem rnL_step {l : List UInt8} (h : 0 < wL l) : rnL l = nL l :: rnL (l.drop (wL l)) := by
  obtain ⟨n, hn⟩ := len_succ (wL_good h).1
  rw [rnL, hn, rnF, if_pos h, rnL, rnF_fuel n _ _ (drop_lt h (by omega)) (Nat.le_refl _)]
theorem ok_step {l : List UInt8} (h : badL l = none) (hl : l ≠ []) : 0 < wL l ∧ badL (l.drop (wL l)) = none := by
  by_cases h0 : wL l = 0
  · rw [badL_zero hl h0] at h; cases h
  · have h1 : 0 < wL l := by omega
    rw [badL_step h1, Option.map_eq_none_iff] at h
    exact ⟨h1, h⟩

/-- By the length of the text, a sequence at a time. -/
theorem byWidth {p : List UInt8 → Prop} (h0 : p []) (hz : ∀ l, l ≠ [] → wL l = 0 → p l) (hs : ∀ l, 0 < wL l → p (l.drop (wL l)) → p l) : ∀ (n : Nat) (l : List UInt8), l.length ≤ n → p l
  | 0, l, h => by
    have : l = [] := List.eq_nil_of_length_eq_zero (by omega)
    subst this; exact h0
  | n + 1, l, h => by
    by_cases hl : l = []
    · subst hl; exact h0
    · by_cases hw : wL l = 0
      · exact hz l hl hw
      · exact hs l (by omega) (byWidth h0 hz hs n _ (by rw [List.length_drop]; have : 0 < l.length := List.length_pos_iff.2 hl; omega))
theorem width_ind {p : List UInt8 → Prop} (h0 : p []) (hz : ∀ l, l ≠ [] → wL l = 0 → p l) (hs : ∀ l, 0 < wL l → p (l.drop (wL l)) → p l) (l : List UInt8) : p l := byWidth h0 hz hs l.length l (Nat.le_refl _)

theorem rnL_len (l : List UInt8) : (rnL l).length ≤ l.length := by
  refine width_ind (p := fun l => (rnL l).length ≤ l.length) (by rw [rnL_nil]; simp) (fun l _ h => by rw [rnL_zero h]; simp) (fun l h ih => ?_) l
  rw [rnL_step h, List.length_cons]
  rw [List.length_drop] at ih
  have := wL_le l
  omega
theorem badL_lt (l : List UInt8) : ∀ k, badL l = some k → k < l.length := by
  refine width_ind (p := fun l => ∀ k, badL l = some k → k < l.length) (fun k h => by rw [badL_nil] at h; cases h) (fun l hl h k hk => ?_) (fun l h ih k hk => ?_) l
  · rw [badL_zero hl h] at hk
    obtain rfl := Option.some.inj hk
    exact List.length_pos_iff.2 hl
  · rw [badL_step h, Option.map_eq_some_iff] at hk
    obtain ⟨j, hj, rfl⟩ := hk
    have := ih j hj
    rw [List.length_drop] at this
    omega
theorem validD_bad (l : List UInt8) : validD l = (badL l).isNone := by
  refine width_ind (p := fun l => validD l = (badL l).isNone) (by rw [badL_nil]; rfl) (fun l hl h => ?_) (fun l h ih => ?_) l
  · rw [badL_zero hl h, validD_step l hl, if_pos (wL_bad hl h)]; rfl
  · obtain ⟨h1, h2, h3⟩ := wL_good h
    rw [badL_step h, validD_step l h1, if_neg h2, ← h3, ih]
    cases badL (l.drop (wL l)) <;> rfl
theorem runes_count (s : ByteArray) : ∀ (fuel pos : Nat), s.size ≤ pos + fuel → badL (s.data.toList.drop pos) = none → runeCountFrom s fuel pos = (rnL (s.data.toList.drop pos)).length
  | 0, pos, h, _ => by
    have : s.data.toList.drop pos = [] := List.drop_eq_nil_of_le (by have : s.data.toList.length = s.size := by simp
                                                                     omega)
    rw [this, rnL_nil]; rfl
  | f + 1, pos, h, hb => by
    have hlen : s.data.toList.length = s.size := by simp
    by_cases hp : pos < s.size
    · have hl : s.data.toList.drop pos ≠ [] := by
        intro h2
        have h3 := List.drop_eq_nil_iff.1 h2
        omega
      obtain ⟨h1, h2⟩ := ok_step hb hl
      obtain ⟨_, _, h3⟩ := wL_good h1
      have h4 := decodeL_drop s pos
      rw [runeCountFrom, if_pos hp, rnL_step h1, List.length_cons, ← h4, ← h3, List.drop_drop]
      rw [List.drop_drop] at h2
      rw [runes_count s f (pos + wL (s.data.toList.drop pos)) (by omega) h2]
      omega
    · have : s.data.toList.drop pos = [] := List.drop_eq_nil_of_le (by omega)
      rw [runeCountFrom_end s _ pos hp, this, rnL_nil]; rfl
theorem count_text (s : ByteArray) (h : badL s.data.toList = none) : runeCount s = (rnL s.data.toList).length := by
  have := runes_count s s.size 0 (by omega) (by simpa using h)
  simpa [runeCount] using this

/-! ### the bytes of numbers -/
def vN (n : Nat) : Prop := n < 55296 ∨ (57344 ≤ n ∧ n ≤ 1114111)
def encL (ns : List Nat) : List UInt8 := ns.flatMap fun (n : Nat) => encodeRune (Int.ofNat n)
theorem encL_nil : encL [] = [] := rfl
theorem encL_cons (n : Nat) (ns : List Nat) : encL (n :: ns) = encodeRune (n : Int) ++ encL ns := by simp [encL]
theorem encL_snoc (ns : List Nat) (n : Nat) : encL (ns ++ [n]) = encL ns ++ encodeRune (n : Int) := by simp [encL]

theorem enc_text (l : List UInt8) : badL l = none → encL (rnL l) = l := by
  refine width_ind (p := fun l => badL l = none → encL (rnL l) = l) (fun _ => by rw [rnL_nil, encL_nil]) (fun l hl h hb => ?_) (fun l h ih hb => ?_) l
  · rw [badL_zero hl h] at hb; cases hb
  · have h2 := ok_step hb (wL_good h).1
    rw [rnL_step h, encL_cons, enc_wL h, ih h2.2, List.take_append_drop]

set_option maxRecDepth 100000 in
set_option maxHeartbeats 4000000 in
theorem decodeN_valid (n b0 b1 b2 b3 : Nat) (h0 : b0 < 256) : vN (decodeN n b0 b1 b2 b3).1 := by
  unfold decodeN vN
  repeat' split
  all_goals (simp only; omega)
theorem rnL_valid (l : List UInt8) : ∀ n ∈ rnL l, vN n := by
  refine width_ind (p := fun l => ∀ n ∈ rnL l, vN n) (fun n h => by rw [rnL_nil] at h; cases h) (fun l _ h n hn => by rw [rnL_zero h] at hn; cases hn) (fun l h ih n hn => ?_) l
  rw [rnL_step h, List.mem_cons] at hn
  rcases hn with rfl | hn
  · unfold nL; rw [decodeL_N]; exact decodeN_valid _ _ _ _ _ (UInt8.toNat_lt _)
  · exact ih n hn

set_option maxRecDepth 100000 in
set_option maxHeartbeats 8000000 in
theorem decodeN_ext (n m b0 b1 b2 b3 c1 c2 c3 : Nat) (h1 : 1 < n → b1 = c1) (h2 : 2 < n → b2 = c2) (h3 : 3 < n → b3 = c3) (hm : n ≤ m)
    (hg : ¬ ((decodeN n b0 b1 b2 b3).1 = 65533 ∧ (decodeN n b0 b1 b2 b3).2 = 1)) : decodeN m b0 c1 c2 c3 = decodeN n b0 b1 b2 b3 := by
  by_cases n1 : 1 < n
  · obtain rfl := h1 n1
    by_cases n2 : 2 < n
    · obtain rfl := h2 n2
      by_cases n3 : 3 < n
      · obtain rfl := h3 n3
        unfold decodeN
        simp only [n1, n2, n3, show 1 < m by omega, show 2 < m by omega, show 3 < m by omega]
      · unfold decodeN at hg ⊢
        simp only [n1, n2, n3, show 1 < m by omega, show 2 < m by omega, true_and, false_and, and_false, if_false] at hg ⊢
        split
        · rfl
        · rename_i c0
          rw [if_neg c0] at hg
          split
          · rfl
          · rename_i c1
            rw [if_neg c1] at hg
            split
            · rfl
            · rename_i c2
              rw [if_neg c2] at hg
              exact absurd ⟨rfl, rfl⟩ hg
    · unfold decodeN at hg ⊢
      simp only [n1, n2, show 1 < m by omega, show ¬ 3 < n by omega, true_and, false_and, and_false, if_false] at hg ⊢
      split
      · rfl
      · rename_i c0
        rw [if_neg c0] at hg
        split
        · rfl
        · rename_i c1
          rw [if_neg c1] at hg
          exact absurd ⟨rfl, rfl⟩ hg
  · unfold decodeN at hg ⊢
    simp only [n1, show ¬ 2 < n by omega, show ¬ 3 < n by omega, false_and, and_false, if_false] at hg ⊢
    split
    · rfl
    · rename_i c0
      rw [if_neg c0] at hg
      exact absurd ⟨rfl, rfl⟩ hg
theorem getD_app (l t : List UInt8) (i : Nat) (h : i < l.length) : (l ++ t).getD i 0 = l.getD i 0 := by simp [List.getD, List.getElem?_append_left h]
theorem wL_app {l : List UInt8} (t : List UInt8) (h : 0 < wL l) : wL (l ++ t) = wL l ∧ nL (l ++ t) = nL l := by
  obtain ⟨h1, h2, h3⟩ := wL_good h
  have hl : 0 < l.length := List.length_pos_iff.2 h1
  have key : decodeL (l ++ t) = decodeL l := by
    rw [decodeL_N] at h2 ⊢
    rw [decodeL_N l, getD_app l t 0 hl]
    exact decodeN_ext _ _ _ _ _ _ _ _ _ (fun h => by rw [getD_app l t 1 h]) (fun h => by rw [getD_app l t 2 h]) (fun h => by rw [getD_app l t 3 h]) (by simp) h2
  have e2 : nL (l ++ t) = nL l := by unfold nL; rw [key]
  refine ⟨?_, e2⟩
  rw [h3]
  unfold wL
  rw [if_neg (by intro h4; exact h1 (List.append_eq_nil_iff.1 h4).1), key, if_neg h2]

theorem app_bad (t l : List UInt8) : badL l = none → badL (l ++ t) = (badL t).map (· + l.length) ∧ rnL (l ++ t) = rnL l ++ rnL t := by
  refine width_ind (p := fun l => badL l = none → badL (l ++ t) = (badL t).map (· + l.length) ∧ rnL (l ++ t) = rnL l ++ rnL t) (fun _ => ?_) (fun l hl h hb => ?_) (fun l h ih hb => ?_) l
  · rw [rnL_nil]; simp
  · rw [badL_zero hl h] at hb; cases hb
  · obtain ⟨_, h2⟩ := ok_step hb (wL_good h).1
    obtain ⟨h3, h4⟩ := wL_app t h
    obtain ⟨h5, h6⟩ := ih h2
    have h7 := wL_le l
    have e : (l ++ t).drop (wL l) = l.drop (wL l) ++ t := List.drop_append_of_le_length h7
    rw [badL_step (l := l ++ t) (by omega), rnL_step (l := l ++ t) (by omega), h3, h4, e, h5, h6, rnL_step h]
    refine ⟨?_, by simp⟩
    rw [Option.map_map, List.length_drop]
    congr 1
    funext k
    show k + (l.length - wL l) + wL l = k + l.length
    omega

set_option maxRecDepth 100000 in
set_option maxHeartbeats 4000000 in
theorem dec_enc (n : Nat) (t : List UInt8) (h : vN n) : decodeL (encodeRune (n : Int) ++ t) = (n, (encodeRune (n : Int)).length) := by
  have b : ∀ x : Nat, x < 256 → ((x : Int).toNat.toUInt8).toNat = x := fun x hx => by
    simp [Nat.mod_eq_of_lt hx]
  have c : n ≤ 127 ∨ (128 ≤ n ∧ n ≤ 2047) ∨ ((2048 ≤ n ∧ n < 55296) ∨ (57343 < n ∧ n ≤ 65535)) ∨ (65536 ≤ n ∧ n ≤ 1114111) := by unfold vN at h; omega
  unfold encodeRune
  rcases c with c | c | c | c
  · rw [encodeRuneZ_one (by omega) (by omega), decodeL_N]
    simp only [List.map_cons, List.map_nil, List.cons_append, List.nil_append, List.getD_cons_zero, List.length_cons, List.length_nil]
    rw [b n (by omega), decodeN, if_pos (by omega)]
  · rw [encodeRuneZ_two (by omega) (by omega), decodeL_N]
    rw [show (192 + (n : Int) / 64) = ((192 + n / 64 : Nat) : Int) by omega, show (128 + (n : Int) % 64) = ((128 + n % 64 : Nat) : Int) by omega]
    simp only [List.map_cons, List.map_nil, List.cons_append, List.nil_append, List.getD_cons_zero, List.getD_cons_succ, List.length_cons, List.length_nil]
    rw [b _ (by omega), b _ (by omega), decodeN, if_neg (by omega), if_pos (by omega), if_pos (by omega)]
    exact Prod.ext (by simp only; omega) rfl
  · rw [encodeRuneZ_three (by omega), decodeL_N]
    rw [show (224 + (n : Int) / 4096) = ((224 + n / 4096 : Nat) : Int) by omega, show (128 + (n : Int) / 64 % 64) = ((128 + n / 64 % 64 : Nat) : Int) by omega, show (128 + (n : Int) % 64) = ((128 + n % 64 : Nat) : Int) by omega]
    simp only [List.map_cons, List.map_nil, List.cons_append, List.nil_append, List.getD_cons_zero, List.getD_cons_succ, List.length_cons, List.length_nil]
    rw [b _ (by omega), b _ (by omega), b _ (by omega), decodeN, if_neg (by omega), if_neg (by omega), if_pos (by omega), if_pos (by omega)]
    exact Prod.ext (by simp only; omega) rfl
  · rw [encodeRuneZ_four (by omega) (by omega), decodeL_N]
    rw [show (240 + (n : Int) / 262144) = ((240 + n / 262144 : Nat) : Int) by omega, show (128 + (n : Int) / 4096 % 64) = ((128 + n / 4096 % 64 : Nat) : Int) by omega, show (128 + (n : Int) / 64 % 64) = ((128 + n / 64 % 64 : Nat) : Int) by omega, show (128 + (n : Int) % 64) = ((128 + n % 64 : Nat) : Int) by omega]
    simp only [List.map_cons, List.map_nil, List.cons_append, List.nil_append, List.getD_cons_zero, List.getD_cons_succ, List.length_cons, List.length_nil]
    rw [b _ (by omega), b _ (by omega), b _ (by omega), b _ (by omega), decodeN, if_neg (by omega), if_neg (by omega), if_neg (by omega), if_pos (by omega), if_pos (by omega)]
    exact Prod.ext (by simp only; omega) rfl
theorem enc_len (n : Nat) : 1 ≤ (encodeRune (n : Int)).length ∧ (encodeRune (n : Int)).length ≤ 4 := by
  have := encodeRuneZ_length (n : Int)
  simpa [encodeRune] using this
theorem wL_enc (n : Nat) (t : List UInt8) (h : vN n) : wL (encodeRune (n : Int) ++ t) = (encodeRune (n : Int)).length ∧ nL (encodeRune (n : Int) ++ t) = n := by
  have hd := dec_enc n t h
  have hl := enc_len n
  refine ⟨?_, by unfold nL; rw [hd]⟩
  unfold wL
  rw [if_neg (by intro h4; rw [(List.append_eq_nil_iff.1 h4).1] at hl; simp at hl), hd]
  refine if_neg ?_
  rintro ⟨h1, h2⟩
  simp only at h1 h2
  subst h1
  exact absurd h2 (by decide)
theorem text_enc : ∀ ns : List Nat, (∀ n ∈ ns, vN n) → badL (encL ns) = none ∧ rnL (encL ns) = ns
  | [], _ => ⟨by rw [encL_nil, badL_nil], by rw [encL_nil, rnL_nil]⟩
  | n :: ns, h => by
    obtain ⟨h1, h2⟩ := text_enc ns fun m hm => h m (List.mem_cons_of_mem _ hm)
    obtain ⟨h3, h4⟩ := wL_enc n (encL ns) (h n List.mem_cons_self)
    have hl := enc_len n
    rw [encL_cons, badL_step (by omega), rnL_step (by omega), h3, h4, List.drop_left, h1, h2]
    exact ⟨rfl, rfl⟩
theorem encL_len (ns : List Nat) : (encL ns).length ≤ 4 * ns.length := by
  induction ns with
  | nil => simp [encL_nil]
  | cons n ns ih => rw [encL_cons, List.length_append, List.length_cons]; have := enc_len n; omega
end Go.Proofs.YtggahjhjapnfeaaDoor.Utf
