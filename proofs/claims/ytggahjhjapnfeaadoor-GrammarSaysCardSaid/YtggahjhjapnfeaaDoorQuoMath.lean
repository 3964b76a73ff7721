/- Plain facts of quoted strings: what is put, what four digits and an escape say, what is taken; no program. Conditions: as each theorem states. -/
import Derived.Test.YtggahjhjapnfeaaDoorUtfMath
import Derived.Test.YtggahjhjapnfeaaDoorOctMath
namespace Go.Proofs.YtggahjhjapnfeaaDoor.Quo
open Go.Lib Go.Proofs.YtggahjhjapnfeaaDoor.Utf Go.Proofs.YtggahjhjapnfeaaDoor.Oct

/-! ### what is put -/
/-- The letter of a short escape; 0: there is none. -/
def shN (c : Nat) : Nat := if c = 34 then 34 else if c = 92 then 92 else if c = 8 then 98 else if c = 9 then 116 else if c = 10 then 110 else if c = 12 then 102 else if c = 13 then 114 else 0
/-- What is written for a byte. -/
def qB (c : UInt8) : List UInt8 := if shN c.toNat ≠ 0 then [92, UInt8.ofNat (shN c.toNat)] else if c.toNat < 32 then [92, 117, 48, 48] ++ hexL [c] else [c]
def qL (l : List UInt8) : List UInt8 := l.flatMap qB
/-- The quoted text. -/
def qQ (l : List UInt8) : List UInt8 := 34 :: (qL l ++ [34])
/-- What Put hands back. -/
def pE (l : List UInt8) : Nat := if badL l = none then 0 else 8
def pT (l : List UInt8) : List UInt8 := if badL l = none then qQ l else []

theorem qL_nil : qL [] = [] := rfl
theorem qL_cons (c : UInt8) (l : List UInt8) : qL (c :: l) = qB c ++ qL l := by simp [qL]
theorem qL_append (x y : List UInt8) : qL (x ++ y) = qL x ++ qL y := by simp [qL]
theorem qB_high (c : UInt8) (h : 128 ≤ c.toNat) : qB c = [c] := by
  have e : shN c.toNat = 0 := by
    unfold shN
    rw [if_neg (by omega), if_neg (by omega), if_neg (by omega), if_neg (by omega), if_neg (by omega), if_neg (by omega), if_neg (by omega)]
  unfold qB
  rw [e, if_neg (by decide), if_neg (by omega)]
theorem qL_high : ∀ l : List UInt8, (∀ c ∈ l, 128 ≤ c.toNat) → qL l = l
  | [], _ => rfl
  | c :: l, h => by rw [qL_cons, qB_high c (h c List.mem_cons_self), qL_high l fun d hd => h d (List.mem_cons_of_mem _ hd)]; rfl
theorem qB_table : ∀ n : Fin 256, 1 ≤ (qB (UInt8.ofNat n.val)).length ∧ (qB (UInt8.ofNat n.val)).length ≤ 6 ∧ ∀ d ∈ qB (UInt8.ofNat n.val), 32 ≤ d.toNat := by decide +kernel
theorem of_byte {p : UInt8 → Prop} (h : ∀ n : Fin 256, p (UInt8.ofNat n.val)) (c : UInt8) : p c := by
  have := h ⟨c.toNat, c.toNat_lt⟩
  simpa using this
theorem qB_len (c : UInt8) : 1 ≤ (qB c).length ∧ (qB c).length ≤ 6 := of_byte (p := fun c => 1 ≤ (qB c).length ∧ (qB c).length ≤ 6) (fun n => ⟨(qB_table n).1, (qB_table n).2.1⟩) c
theorem qB_vis (c : UInt8) : ∀ d ∈ qB c, 32 ≤ d.toNat := of_byte (p := fun c => ∀ d ∈ qB c, 32 ≤ d.toNat) (fun n => (qB_table n).2.2) c
theorem qL_vis (l : List UInt8) : ∀ d ∈ qL l, 32 ≤ d.toNat := by
  intro d hd
  unfold qL at hd
  rw [List.mem_flatMap] at hd
  obtain ⟨c, _, hc⟩ := hd
  exact qB_vis c d hc
theorem qQ_vis (l : List UInt8) : ∀ d ∈ qQ l, 32 ≤ d.toNat := by
  intro d hd
  unfold qQ at hd
  rw [List.mem_cons, List.mem_append, List.mem_singleton] at hd
  rcases hd with rfl | hd | rfl
  · decide
  · exact qL_vis l d hd
  · decide
theorem qL_len (l : List UInt8) : (qL l).length ≤ 6 * l.length := by
  induction l with
  | nil => simp [qL_nil]
  | cons c l ih => rw [qL_cons, List.length_append, List.length_cons]; have := qB_len c; omega
theorem qQ_len (l : List UInt8) : (qQ l).length ≤ 6 * l.length + 2 := by
  unfold qQ; rw [List.length_cons, List.length_append]; have := qL_len l; simp; omega

/-! ### four digits -/
/-- What a digit of either case is worth; 16: it is none. -/
def dgA (c : Nat) : Nat := if 48 ≤ c ∧ c ≤ 57 then c - 48 else if 97 ≤ c ∧ c ≤ 102 then c - 87 else if 65 ≤ c ∧ c ≤ 70 then c - 55 else 16
theorem dgA_le (c : Nat) : dgA c ≤ 16 := by unfold dgA; repeat' split
                                            all_goals omega
/-- The number of digits behind a number; none: one of them is no digit. -/
def hxF : Nat → List UInt8 → Option Nat
  | n, [] => some n
  | n, c :: l => if dgA c.toNat < 16 then hxF (16 * n + dgA c.toNat) l else none
theorem hxF_lt : ∀ (l : List UInt8) (n k m : Nat), n < 16 ^ k → hxF n l = some m → m < 16 ^ (k + l.length)
  | [], n, k, m, hn, h => by rw [hxF] at h; obtain rfl := Option.some.inj h; simpa using hn
  | c :: l, n, k, m, hn, h => by
    rw [hxF] at h
    by_cases hd : dgA c.toNat < 16
    · rw [if_pos hd] at h
      have := hxF_lt l (16 * n + dgA c.toNat) (k + 1) m (by rw [Nat.pow_succ]; omega) h
      rw [List.length_cons, show k + (l.length + 1) = k + 1 + l.length by omega]
      exact this
    · rw [if_neg hd] at h; cases h
theorem hxF_app : ∀ (x y : List UInt8) (n : Nat), hxF n (x ++ y) = (hxF n x).bind fun m => hxF m y
  | [], y, n => rfl
  | c :: x, y, n => by
    rw [List.cons_append, hxF, hxF]
    by_cases hd : dgA c.toNat < 16
    · rw [if_pos hd, if_pos hd, hxF_app]
    · rw [if_neg hd, if_neg hd]; rfl
/-- The number of the four digits at the head. -/
def h4 (l : List UInt8) : Option Nat := if 4 ≤ l.length then hxF 0 (l.take 4) else none
theorem h4_lt {l : List UInt8} {m : Nat} (h : h4 l = some m) : m < 65536 ∧ 4 ≤ l.length := by
  unfold h4 at h
  by_cases hl : 4 ≤ l.length
  · rw [if_pos hl] at h
    have := hxF_lt _ 0 0 m (by decide) h
    rw [List.length_take, Nat.min_eq_left hl] at this
    exact ⟨this, hl⟩
  · rw [if_neg hl] at h; cases h

/-! ### an escape -/
/-- What a letter behind a backslash stands for; 256: it is none of those. -/
def ltN (c : Nat) : Nat := if c = 34 then 34 else if c = 92 then 92 else if c = 98 then 8 else if c = 102 then 12 else if c = 110 then 10 else if c = 114 then 13 else if c = 116 then 9 else if c = 47 then 47 else 256
/-- The number of the escape with digits at the head. -/
def nO (l : List UInt8) : Option Nat := if l.take 2 = [92, 117] then h4 (l.drop 2) else none
def pr (n m : Nat) : Bool := decide ((55296 ≤ n ∧ n ≤ 56319) ∧ 56320 ≤ m ∧ m ≤ 57343)
/-- The number that an escape with digits, or a pair of them, denotes, and its bytes. -/
def nP (n : Nat) (o : Option Nat) : Nat × Nat :=
  match o with
  | some m => if pr n m = true then (65536 + (n - 55296) * 1024 + (m - 56320), 12) else (n, 6)
  | none => (n, 6)
def vB (n : Nat) : Bool := decide (n < 55296 ∨ (57344 ≤ n ∧ n ≤ 1114111))
theorem vB_vN {n : Nat} (h : vB n = true) : vN n := by unfold vB at h; simpa [vN] using h
/-- The escape at the head: the error, the bytes, the piece. -/
def escL (l : List UInt8) : Nat × Nat × List UInt8 :=
  if ltN (l.getD 1 0).toNat < 256 then (0, 2, [UInt8.ofNat (ltN (l.getD 1 0).toNat)])
  else match nO l with
    | none => (4, 0, [])
    | some n => if vB (nP n (nO (l.drop 6))).1 = true then (0, (nP n (nO (l.drop 6))).2, encodeRune ((nP n (nO (l.drop 6))).1 : Int)) else (8, 0, [])
/-- The piece at the head: the error, the bytes, the piece. -/
def stp (l : List UInt8) : Nat × Nat × List UInt8 :=
  if (l.getD 0 0).toNat = 92 then escL l else if (l.getD 0 0).toNat < 32 then (4, 0, []) else if wL l = 0 then (8, 0, []) else (0, wL l, l.take (wL l))

/-! ### what is taken -/
/-- Behind the opening quote: the error, the bytes up to the fault or behind the closing quote, the value. -/
def tkF : Nat → List UInt8 → Nat × Nat × List UInt8
  | 0, _ => (3, 0, [])
  | f + 1, l => if l = [] then (3, 0, []) else if (l.getD 0 0).toNat = 34 then (0, 1, []) else if (stp l).1 ≠ 0 then ((stp l).1, 0, [])
      else ((tkF f (l.drop (stp l).2.1)).1, (tkF f (l.drop (stp l).2.1)).2.1 + (stp l).2.1, if (tkF f (l.drop (stp l).2.1)).1 = 0 then (stp l).2.2 ++ (tkF f (l.drop (stp l).2.1)).2.2 else [])
def tkQ (l : List UInt8) : Nat × Nat × List UInt8 := tkF l.length l

theorem getD_ne {l : List UInt8} {i : Nat} (h : (l.getD i 0).toNat ≠ 0) : i < l.length := by
  rcases Nat.lt_or_ge i l.length with h' | h'
  · exact h'
  · exfalso; apply h; rw [List.getD_eq_getElem?_getD, List.getElem?_eq_none h']; rfl
theorem ltN_zero : ltN 0 = 256 := rfl
theorem nO_lt {l : List UInt8} {n : Nat} (h : nO l = some n) : n < 65536 ∧ 6 ≤ l.length := by
  unfold nO at h
  by_cases hl : l.take 2 = [92, 117]
  · rw [if_pos hl] at h
    have h1 := h4_lt h
    rw [List.length_drop] at h1
    omega
  · rw [if_neg hl] at h; cases h
theorem nP_size (n : Nat) (o : Option Nat) : (nP n o).2 = 6 ∨ ((nP n o).2 = 12 ∧ ∃ m, o = some m) := by
  unfold nP
  cases o with
  | none => exact .inl rfl
  | some m =>
    simp only
    by_cases h : pr n m = true
    · rw [if_pos h]; exact .inr ⟨rfl, m, rfl⟩
    · rw [if_neg h]; exact .inl rfl
theorem escL_ok {l : List UInt8} (h : (escL l).1 = 0) : 1 ≤ (escL l).2.1 ∧ (escL l).2.1 ≤ l.length ∧ (escL l).2.2.length ≤ (escL l).2.1 := by
  unfold escL at h ⊢
  by_cases h1 : ltN (l.getD 1 0).toNat < 256
  · rw [if_pos h1]
    have : 1 < l.length := getD_ne fun h2 => by rw [h2, ltN_zero] at h1; omega
    exact ⟨by simp, by simp only; omega, by simp⟩
  · rw [if_neg h1] at h ⊢
    cases hn : nO l with
    | none => rw [hn] at h; cases h
    | some n =>
      rw [hn] at h
      simp only at h ⊢
      have h2 := nO_lt hn
      by_cases h3 : vB (nP n (nO (l.drop 6))).1 = true
      · rw [if_pos h3]
        have h4 := enc_len (nP n (nO (l.drop 6))).1
        rcases nP_size n (nO (l.drop 6)) with h5 | ⟨h5, m, hm⟩
        · exact ⟨by simp only; omega, by simp only; omega, by simp only; omega⟩
        · have h6 := nO_lt hm
          rw [List.length_drop] at h6
          exact ⟨by simp only; omega, by simp only; omega, by simp only; omega⟩
      · rw [if_neg h3] at h; cases h
theorem stp_ok {l : List UInt8} (_hl : l ≠ []) (h : (stp l).1 = 0) : 1 ≤ (stp l).2.1 ∧ (stp l).2.1 ≤ l.length ∧ (stp l).2.2.length ≤ (stp l).2.1 := by
  unfold stp at h ⊢
  by_cases h1 : (l.getD 0 0).toNat = 92
  · rw [if_pos h1] at h ⊢; exact escL_ok h
  · rw [if_neg h1] at h ⊢
    by_cases h2 : (l.getD 0 0).toNat < 32
    · rw [if_pos h2] at h; cases h
    · rw [if_neg h2] at h ⊢
      by_cases h3 : wL l = 0
      · rw [if_pos h3] at h; cases h
      · rw [if_neg h3]
        have := wL_le l
        exact ⟨by simp only; omega, by simp only; omega, by simp only [List.length_take]; omega⟩
theorem tkF_nil : ∀ f, tkF f [] = (3, 0, [])
  | 0 => rfl
  | _ + 1 => by rw [tkF, if_pos rfl]
theorem drop_lt2 {f : Nat} {l : List UInt8} (hl : l ≠ []) (h : (stp l).1 = 0) (hf : l.length ≤ f + 1) : (l.drop (stp l).2.1).length ≤ f := by
  rw [List.length_drop]; have := stp_ok hl h; omega
theorem tkF_fuel : ∀ (f g : Nat) (l : List UInt8), l.length ≤ f → l.length ≤ g → tkF f l = tkF g l
  | 0, g, l, hf, _ => by
    have : l = [] := List.eq_nil_of_length_eq_zero (by omega)
    rw [this, tkF_nil, tkF_nil]
  | f + 1, 0, l, _, hg => by
    have : l = [] := List.eq_nil_of_length_eq_zero (by omega)
    rw [this, tkF_nil, tkF_nil]
  | f + 1, g + 1, l, hf, hg => by
    rw [tkF, tkF]
    by_cases hl : l = []
    · rw [if_pos hl, if_pos hl]
    · rw [if_neg hl, if_neg hl]
      by_cases h1 : (l.getD 0 0).toNat = 34
      · rw [if_pos h1, if_pos h1]
      · rw [if_neg h1, if_neg h1]
        by_cases h2 : (stp l).1 = 0
        · rw [if_neg (show ¬ (stp l).1 ≠ 0 by omega), if_neg (show ¬ (stp l).1 ≠ 0 by omega), tkF_fuel f g _ (drop_lt2 hl h2 hf) (drop_lt2 hl h2 hg)]
        · rw [if_pos h2, if_pos h2]
theorem tkQ_nil : tkQ [] = (3, 0, []) := rfl
theorem tkQ_close {l : List UInt8} (h : (l.getD 0 0).toNat = 34) : tkQ l = (0, 1, []) := by
  have hl : l ≠ [] := by rintro rfl; simp at h
  obtain ⟨n, hn⟩ := len_succ hl
  rw [tkQ, hn, tkF, if_neg hl, if_pos h]
theorem tkQ_bad {l : List UInt8} (hl : l ≠ []) (h : (l.getD 0 0).toNat ≠ 34) (h1 : (stp l).1 ≠ 0) : tkQ l = ((stp l).1, 0, []) := by
  obtain ⟨n, hn⟩ := len_succ hl
  rw [tkQ, hn, tkF, if_neg hl, if_neg h, if_pos h1]
theorem tkQ_step {l : List UInt8} (hl : l ≠ []) (h : (l.getD 0 0).toNat ≠ 34) (h1 : (stp l).1 = 0) :
    tkQ l = ((tkQ (l.drop (stp l).2.1)).1, (tkQ (l.drop (stp l).2.1)).2.1 + (stp l).2.1, if (tkQ (l.drop (stp l).2.1)).1 = 0 then (stp l).2.2 ++ (tkQ (l.drop (stp l).2.1)).2.2 else []) := by
  obtain ⟨n, hn⟩ := len_succ hl
  have e : tkF n (l.drop (stp l).2.1) = tkQ (l.drop (stp l).2.1) := tkF_fuel _ _ _ (drop_lt2 hl h1 (by omega)) (Nat.le_refl _)
  conv => lhs; rw [tkQ, hn, tkF]
  rw [if_neg hl, if_neg h, if_neg (by omega), e]
theorem tk_len {p : List UInt8 → Prop} (h0 : p []) (hc : ∀ l, l ≠ [] → (l.getD 0 0).toNat = 34 → p l) (hb : ∀ l, l ≠ [] → (l.getD 0 0).toNat ≠ 34 → (stp l).1 ≠ 0 → p l)
    (hs : ∀ l, l ≠ [] → (l.getD 0 0).toNat ≠ 34 → (stp l).1 = 0 → p (l.drop (stp l).2.1) → p l) : ∀ (n : Nat) (l : List UInt8), l.length ≤ n → p l
  | 0, l, h => by
    have : l = [] := List.eq_nil_of_length_eq_zero (by omega)
    subst this; exact h0
  | n + 1, l, h => by
    by_cases hl : l = []
    · subst hl; exact h0
    · by_cases h1 : (l.getD 0 0).toNat = 34
      · exact hc l hl h1
      · by_cases h2 : (stp l).1 = 0
        · exact hs l hl h1 h2 (tk_len h0 hc hb hs n _ (drop_lt2 hl h2 h))
        · exact hb l hl h1 h2
theorem tk_ind {p : List UInt8 → Prop} (h0 : p []) (hc : ∀ l, l ≠ [] → (l.getD 0 0).toNat = 34 → p l) (hb : ∀ l, l ≠ [] → (l.getD 0 0).toNat ≠ 34 → (stp l).1 ≠ 0 → p l)
    (hs : ∀ l, l ≠ [] → (l.getD 0 0).toNat ≠ 34 → (stp l).1 = 0 → p (l.drop (stp l).2.1) → p l) (l : List UInt8) : p l := tk_len h0 hc hb hs l.length l (Nat.le_refl _)

/-- Where a fault stands, or the end; how long a value may be. -/
theorem tkQ_in (l : List UInt8) : (tkQ l).2.1 ≤ l.length ∧ (tkQ l).2.2.length ≤ (tkQ l).2.1 := by
  refine tk_ind (p := fun l => (tkQ l).2.1 ≤ l.length ∧ (tkQ l).2.2.length ≤ (tkQ l).2.1) ?_ ?_ ?_ ?_ l
  · rw [tkQ_nil]; simp
  · intro l hl h
    rw [tkQ_close h]
    exact ⟨List.length_pos_iff.2 hl, by simp⟩
  · intro l hl h h1
    rw [tkQ_bad hl h h1]; simp
  · intro l hl h h1 ih
    have h2 := stp_ok hl h1
    rw [tkQ_step hl h h1]
    rw [List.length_drop] at ih
    refine ⟨by simp only; omega, ?_⟩
    simp only
    split
    · rw [List.length_append]; omega
    · simp
/-- What is taken ends at a quote. -/
theorem tkQ_end (l : List UInt8) : (tkQ l).1 = 0 → 1 ≤ (tkQ l).2.1 ∧ (l.getD ((tkQ l).2.1 - 1) 0).toNat = 34 := by
  refine tk_ind (p := fun l => (tkQ l).1 = 0 → 1 ≤ (tkQ l).2.1 ∧ (l.getD ((tkQ l).2.1 - 1) 0).toNat = 34) ?_ ?_ ?_ ?_ l
  · intro h; rw [tkQ_nil] at h; cases h
  · intro l _ h _
    rw [tkQ_close h]
    exact ⟨by simp, h⟩
  · intro l hl h h1 h2
    rw [tkQ_bad hl h h1] at h2
    exact absurd h2 h1
  · intro l hl h h1 ih h2
    have h3 := stp_ok hl h1
    rw [tkQ_step hl h h1] at h2 ⊢
    simp only at h2 ⊢
    obtain ⟨i1, i2⟩ := ih h2
    refine ⟨by omega, ?_⟩
    rw [List.getD_eq_getElem?_getD, List.getElem?_drop] at i2
    rw [List.getD_eq_getElem?_getD, show (tkQ (l.drop (stp l).2.1)).2.1 + (stp l).2.1 - 1 = (stp l).2.1 + ((tkQ (l.drop (stp l).2.1)).2.1 - 1) by omega]
    exact i2
theorem app_none {x y : List UInt8} (hx : badL x = none) (hy : badL y = none) : badL (x ++ y) = none := by
  rw [(app_bad y x hx).1, hy]; rfl
theorem enc_none {n : Nat} (h : vN n) : badL (encodeRune (n : Int)) = none := by
  have := (text_enc [n] (by simpa using h)).1
  rw [encL_cons, encL_nil, List.append_nil] at this
  exact this
theorem take_none {l : List UInt8} (h : 0 < wL l) : badL (l.take (wL l)) = none := by
  rw [← enc_wL h]
  apply enc_none
  have := rnL_valid l (nL l) (by rw [rnL_step h]; exact List.mem_cons_self)
  exact this
theorem low_none : ∀ n : Fin 128, badL [UInt8.ofNat n.val] = none := by decide +kernel
theorem ltN_low (c : Nat) (h : ltN c < 256) : ltN c < 128 := by
  unfold ltN at h ⊢
  repeat' split
  all_goals first | decide | (exfalso; simp_all)
theorem escL_text {l : List UInt8} (h : (escL l).1 = 0) : badL (escL l).2.2 = none := by
  unfold escL at h ⊢
  by_cases h1 : ltN (l.getD 1 0).toNat < 256
  · rw [if_pos h1]; exact low_none ⟨_, ltN_low _ h1⟩
  · rw [if_neg h1] at h ⊢
    cases hn : nO l with
    | none => rw [hn] at h; cases h
    | some n =>
      rw [hn] at h
      simp only at h ⊢
      by_cases h3 : vB (nP n (nO (l.drop 6))).1 = true
      · rw [if_pos h3]; exact enc_none (vB_vN h3)
      · rw [if_neg h3] at h; cases h
theorem stp_text {l : List UInt8} (h : (stp l).1 = 0) : badL (stp l).2.2 = none := by
  unfold stp at h ⊢
  by_cases h1 : (l.getD 0 0).toNat = 92
  · rw [if_pos h1] at h ⊢; exact escL_text h
  · rw [if_neg h1] at h ⊢
    by_cases h2 : (l.getD 0 0).toNat < 32
    · rw [if_pos h2] at h; cases h
    · rw [if_neg h2] at h ⊢
      by_cases h3 : wL l = 0
      · rw [if_pos h3] at h; cases h
      · rw [if_neg h3]; exact take_none (by omega)
/-- What is taken is a text. -/
theorem tkQ_text (l : List UInt8) : badL (tkQ l).2.2 = none := by
  refine tk_ind (p := fun l => badL (tkQ l).2.2 = none) ?_ ?_ ?_ ?_ l
  · rw [tkQ_nil]; rfl
  · intro l hl h; rw [tkQ_close h]; rfl
  · intro l hl h h1; rw [tkQ_bad hl h h1]; rfl
  · intro l hl h h1 ih
    rw [tkQ_step hl h h1]
    simp only
    split
    · exact app_none (stp_text h1) ih
    · rfl

/-! ### what is put is taken -/
theorem wL_low (c : UInt8) (l : List UInt8) (h : c.toNat < 128) : wL (c :: l) = 1 := by
  have e : encodeRune ((c.toNat : Nat) : Int) = [c] := by
    unfold encodeRune
    rw [encodeRuneZ_one (by omega) (by omega)]
    simp
  have := (wL_enc c.toNat l (.inl (by omega))).1
  rw [e] at this
  exact this
theorem enc_low (n : Nat) (h : n < 128) : encodeRune (n : Int) = [UInt8.ofNat n] := by
  unfold encodeRune
  rw [encodeRuneZ_one (by omega) (by omega)]
  simp [Nat.toUInt8]
theorem stp_plain (c : UInt8) (x : List UInt8) (h0 : 32 ≤ c.toNat) (h1 : c.toNat < 128) (h2 : c.toNat ≠ 92) : stp (c :: x) = (0, 1, [c]) := by
  unfold stp
  rw [List.getD_cons_zero, if_neg h2, if_neg (by omega), wL_low c x h1, if_neg (by decide)]
  rfl
theorem short_table : ∀ n : Fin 128, shN n.val ≠ 0 → ltN (UInt8.ofNat (shN n.val)).toNat = n.val := by decide +kernel
theorem hex_table : ∀ n : Fin 32, hxF 0 (48 :: 48 :: hexL [UInt8.ofNat n.val]) = some n.val ∧ vB n.val = true := by decide +kernel
theorem stp_digits (a b c d : UInt8) (x : List UInt8) (n : Nat) (h : hxF 0 [a, b, c, d] = some n) : stp (92 :: 117 :: a :: b :: c :: d :: x) = if vB (nP n (nO x)).1 = true then (0, (nP n (nO x)).2, encodeRune ((nP n (nO x)).1 : Int)) else (8, 0, []) := by
  have e : nO (92 :: 117 :: a :: b :: c :: d :: x) = some n := by
    unfold nO h4
    simpa using h
  unfold stp
  rw [List.getD_cons_zero, if_pos (by decide)]
  unfold escL
  rw [if_neg (by simp; decide), e]
  rfl
theorem nP_low {n : Nat} (h : ¬ (55296 ≤ n ∧ n ≤ 56319)) (o : Option Nat) : nP n o = (n, 6) := by
  unfold nP
  cases o with
  | none => rfl
  | some m =>
    simp only
    rw [if_neg]
    unfold pr
    simp only [decide_eq_true_eq]
    exact fun h2 => h h2.1
theorem stp_qB (c : UInt8) (x : List UInt8) (h : c.toNat < 128) : stp (qB c ++ x) = (0, (qB c).length, [c]) ∧ ((qB c ++ x).getD 0 0).toNat ≠ 34 := by
  have hc : UInt8.ofNat c.toNat = c := by simp
  unfold qB
  by_cases h1 : shN c.toNat ≠ 0
  · rw [if_pos h1]
    have h2 := short_table ⟨c.toNat, h⟩ h1
    simp only at h2
    refine ⟨?_, by simp⟩
    unfold stp
    rw [List.cons_append, List.getD_cons_zero, if_pos (by decide)]
    unfold escL
    simp only [List.cons_append, List.nil_append, List.getD_cons_succ, List.getD_cons_zero]
    rw [if_pos (by rw [h2]; omega), h2, hc]
    rfl
  · rw [if_neg h1]
    by_cases h2 : c.toNat < 32
    · rw [if_pos h2]
      refine ⟨?_, by simp⟩
      obtain ⟨h3, h4⟩ := hex_table ⟨c.toNat, h2⟩
      simp only at h3 h4
      rw [hc] at h3
      have e : hexL [c] = [hexd (c.toNat / 16), hexd (c.toNat % 16)] := rfl
      rw [e] at h3 ⊢
      have h5 := stp_digits 48 48 _ _ x c.toNat h3
      rw [nP_low (by omega), if_pos (by simpa using h4), enc_low _ h, hc] at h5
      exact h5
    · rw [if_neg h2]
      have h3 : c.toNat ≠ 34 := by intro h3; apply h1; rw [h3]; decide
      have h4 : c.toNat ≠ 92 := by intro h3; apply h1; rw [h3]; decide
      exact ⟨stp_plain c x (by omega) h h4, h3⟩
theorem enc_high (n : Nat) (h : 128 ≤ n) (hv : vN n) : ∀ c ∈ encodeRune (n : Int), 128 ≤ c.toNat := by
  have b : ∀ x : Int, 128 ≤ x → x < 256 → 128 ≤ (x.toNat.toUInt8).toNat := fun x h0 h1 => by
    have : x.toNat < 256 := by omega
    simp [Nat.mod_eq_of_lt this]; omega
  intro c hc
  unfold encodeRune at hc
  rw [List.mem_map] at hc
  obtain ⟨z, hz, rfl⟩ := hc
  have hz2 : 128 ≤ z ∧ z < 256 := by
    by_cases h1 : n ≤ 2047
    · rw [encodeRuneZ_two (by omega) (by omega)] at hz
      simp only [List.mem_cons, List.not_mem_nil, or_false] at hz
      omega
    · by_cases h2 : ((n : Int) < 55296 ∨ 57343 < (n : Int)) ∧ (n : Int) ≤ 65535
      · rw [encodeRuneZ_three (by omega)] at hz
        simp only [List.mem_cons, List.not_mem_nil, or_false] at hz
        omega
      · by_cases h3 : 65535 < (n : Int) ∧ (n : Int) ≤ 1114111
        · rw [encodeRuneZ_four (by omega) (by omega)] at hz
          simp only [List.mem_cons, List.not_mem_nil, or_false] at hz
          omega
        · exfalso; unfold vN at hv; omega
  exact b z hz2.1 hz2.2
theorem stp_high {l : List UInt8} (x : List UInt8) (h : 0 < wL l) (hc : 128 ≤ nL l) : qL (l.take (wL l)) = l.take (wL l) ∧ stp (l.take (wL l) ++ x) = (0, wL l, l.take (wL l)) ∧ ((l.take (wL l) ++ x).getD 0 0).toNat ≠ 34 := by
  have hv : vN (nL l) := rnL_valid l (nL l) (by rw [rnL_step h]; exact List.mem_cons_self)
  have hw := (wL_enc (nL l) x hv).1
  have hh := enc_high (nL l) hc hv
  rw [enc_wL h] at hw hh
  have hlen : (l.take (wL l)).length = wL l := by rw [List.length_take]; have := wL_le l; omega
  rw [hlen] at hw
  refine ⟨qL_high _ hh, ?_⟩
  cases ht : l.take (wL l) with
  | nil => rw [ht] at hlen; simp at hlen; omega
  | cons c t =>
    rw [ht] at hw hh hlen
    have h0 := hh c List.mem_cons_self
    refine ⟨?_, by rw [List.cons_append, List.getD_cons_zero]; omega⟩
    unfold stp
    rw [List.cons_append, List.getD_cons_zero, if_neg (by omega), if_neg (by omega), ← List.cons_append, hw, if_neg (by omega)]
    rw [List.take_left' hlen]
/-- Whoever puts a text and takes it has it again, whatever follows. -/
theorem tkQ_back (x : List UInt8) (l : List UInt8) : badL l = none → tkQ (qL l ++ 34 :: x) = (0, (qL l).length + 1, l) := by
  refine width_ind (p := fun l => badL l = none → tkQ (qL l ++ 34 :: x) = (0, (qL l).length + 1, l)) (fun _ => ?_) (fun l hl h hb => ?_) (fun l h ih hb => ?_) l
  · rw [qL_nil]; exact tkQ_close rfl
  · rw [badL_zero hl h] at hb; cases hb
  · have h2 := ok_step hb (wL_good h).1
    have ih := ih h2.2
    have key : ∃ y, qL l = y ++ qL (l.drop (wL l)) ∧ y ≠ [] ∧ stp (y ++ (qL (l.drop (wL l)) ++ 34 :: x)) = (0, y.length, l.take (wL l)) ∧ ((y ++ (qL (l.drop (wL l)) ++ 34 :: x)).getD 0 0).toNat ≠ 34 := by
      by_cases hc : 128 ≤ nL l
      · obtain ⟨k1, k2, k3⟩ := stp_high (qL (l.drop (wL l)) ++ 34 :: x) h hc
        have hlen : (l.take (wL l)).length = wL l := by rw [List.length_take]; have := wL_le l; omega
        refine ⟨l.take (wL l), ?_, ?_, by rw [hlen]; exact k2, k3⟩
        · conv => lhs; rw [← List.take_append_drop (wL l) l, qL_append, k1]
        · intro e; rw [e] at hlen; simp at hlen; omega
      · have he := enc_wL h
        rw [enc_low _ (by omega)] at he
        have hlow : (UInt8.ofNat (nL l)).toNat < 128 := by rw [ofNat_toNat _ (by omega)]; omega
        obtain ⟨k1, k2⟩ := stp_qB (UInt8.ofNat (nL l)) (qL (l.drop (wL l)) ++ 34 :: x) hlow
        refine ⟨qB (UInt8.ofNat (nL l)), ?_, ?_, by rw [← he]; exact k1, k2⟩
        · conv => lhs; rw [← List.take_append_drop (wL l) l, ← he, qL_append, qL_cons, qL_nil, List.append_nil]
        · intro e; have := (qB_len (UInt8.ofNat (nL l))).1; rw [e] at this; simp at this
    obtain ⟨y, k1, k2, k3, k4⟩ := key
    rw [k1, List.append_assoc]
    rw [tkQ_step (by simp [k2]) k4 (by rw [k3]), k3]
    simp only [List.drop_left, ih, if_pos]
    rw [List.take_append_drop, List.length_append]
    exact Prod.ext rfl (Prod.ext (by simp only; omega) rfl)
theorem tkQ_qQ (x l : List UInt8) (h : badL l = none) : qQ l ++ x = 34 :: (qL l ++ 34 :: x) ∧ tkQ (qL l ++ 34 :: x) = (0, (qQ l).length - 1, l) := by
  refine ⟨by simp [qQ], ?_⟩
  rw [tkQ_back x l h]
  unfold qQ
  simp

/-! ### each number can be said by digits -/
theorem dgA_hexd : ∀ n : Fin 16, dgA (hexd n.val).toNat = n.val := by decide +kernel
theorem hx_put (n : Nat) (h : n < 65536) : ∃ a b c d, hexL (putL n 2) = [a, b, c, d] ∧ hxF 0 [a, b, c, d] = some n := by
  refine ⟨hexd (n / 256 % 256 / 16), hexd (n / 256 % 256 % 16), hexd (n % 256 / 16), hexd (n % 256 % 16), ?_, ?_⟩
  · simp only [putL, hexL]
    rw [ofNat_toNat _ (by omega), ofNat_toNat _ (by omega)]
    simp
  · have g : ∀ m, m < 16 → dgA (hexd m).toNat = m := fun m hm => dgA_hexd ⟨m, hm⟩
    simp only [hxF]
    rw [g _ (by omega), g _ (by omega), g _ (by omega), g _ (by omega), if_pos (by omega), if_pos (by omega), if_pos (by omega), if_pos (by omega)]
    congr 1
    omega
theorem nO_quote (x : List UInt8) : nO (34 :: x) = none := by
  unfold nO
  rw [if_neg]
  cases x <;> simp
theorem tkQ_one (n : Nat) (x : List UInt8) (h : n < 65536) (hv : vB n = true) : tkQ ([92, 117] ++ hexL (putL n 2) ++ 34 :: x) = (0, 7, encodeRune (n : Int)) := by
  obtain ⟨a, b, c, d, h1, h2⟩ := hx_put n h
  rw [h1]
  have h3 := stp_digits a b c d (34 :: x) n h2
  have e : nP n none = (n, 6) := rfl
  rw [nO_quote, e, if_pos (by simpa using hv)] at h3
  show tkQ (92 :: 117 :: a :: b :: c :: d :: 34 :: x) = _
  rw [tkQ_step (by simp) (by simp) (by rw [h3]), h3]
  simp only [List.drop_succ_cons, List.drop_zero]
  rw [tkQ_close rfl]
  simp
theorem tkQ_two (n m r : Nat) (x : List UInt8) (h1 : 55296 ≤ n ∧ n ≤ 56319) (h2 : 56320 ≤ m ∧ m ≤ 57343) (hr : r = 65536 + (n - 55296) * 1024 + (m - 56320)) : tkQ ([92, 117] ++ hexL (putL n 2) ++ ([92, 117] ++ hexL (putL m 2)) ++ 34 :: x) = (0, 13, encodeRune (r : Int)) := by
  obtain ⟨a, b, c, d, k1, k2⟩ := hx_put n (by omega)
  obtain ⟨a2, b2, c2, d2, k3, k4⟩ := hx_put m (by omega)
  rw [k1, k3]
  have e : nO (92 :: 117 :: a2 :: b2 :: c2 :: d2 :: 34 :: x) = some m := by
    unfold nO h4
    simpa using k4
  have h3 := stp_digits a b c d (92 :: 117 :: a2 :: b2 :: c2 :: d2 :: 34 :: x) n k2
  have e2 : nP n (some m) = (r, 12) := by
    unfold nP
    simp only
    rw [if_pos (by unfold pr; simp only [decide_eq_true_eq]; omega), ← hr]
  rw [e, e2, if_pos (by unfold vB; simp only [decide_eq_true_eq]; omega)] at h3
  show tkQ (92 :: 117 :: a :: b :: c :: d :: 92 :: 117 :: a2 :: b2 :: c2 :: d2 :: 34 :: x) = _
  rw [tkQ_step (by simp) (by simp) (by rw [h3]), h3]
  simp only [List.drop_succ_cons, List.drop_zero]
  rw [tkQ_close rfl]
  simp
end Go.Proofs.YtggahjhjapnfeaaDoor.Quo
