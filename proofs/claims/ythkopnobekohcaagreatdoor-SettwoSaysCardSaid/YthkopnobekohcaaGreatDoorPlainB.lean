/- Plain facts of ids: which texts are ids; the order of texts by their bytes; the first place at which something holds; what is less in a rising row; no program. Conditions: as each theorem states. · Plain facts of routes: the parts of a row, words, patterns; what parts joined are; no program. Conditions: as each theorem states. · Plain facts of rules: which field is wrong first, the canonical form, kinds' names; no program. Conditions: as each theorem states. · Plain facts of sets of rules: which rule is wrong first, the canonical form, where an id stands; no program. Conditions: as each theorem states. · Plain facts of patterns by their parts: which routes they match, which they cover, which they meet; the parts of what is joined. Conditions: as each theorem states. · Plain facts of the order of patterns: keys, which of two texts stands ahead, the best one of a list; no program. Conditions: as each theorem states. -/
import Derived.Test.YthkopnobekohcaaGreatDoorRows
import Derived.Lib.Strings
import Derived.Lib.Bytealg
import Derived.Test.YthkopnobekohcaaGreatDoorSatMath
import Derived.Test.YthkopnobekohcaaGreatDoorPlainA
import Derived.Lib.ItoaNum
namespace Go.Proofs.YthkopnobekohcaaGreatDoor.Ide

/-! ### ids -/
/-- A small letter. -/
def sm (n : Nat) : Bool := decide (97 ≤ n) && decide (n ≤ 122)
/-- What may stand behind the first byte. -/
def fo (n : Nat) : Bool := sm n || (decide (48 ≤ n) && decide (n ≤ 57)) || decide (n = 45) || decide (n = 95) || decide (n = 46)
def idL : List UInt8 → Bool
  | [] => false
  | c :: r => decide (r.length ≤ 63) && sm c.toNat && r.all fun d => fo d.toNat
theorem sm_fo {n : Nat} (h : sm n = true) : fo n = true := by unfold fo; rw [h]; rfl
theorem idL_iff (l : List UInt8) : idL l = true ↔ 1 ≤ l.length ∧ l.length ≤ 64 ∧ sm (l.getD 0 0).toNat = true ∧ ∀ j, 1 ≤ j → j < l.length → fo (l.getD j 0).toNat = true := by
  cases l with
  | nil => simp [idL]
  | cons c r =>
    unfold idL
    rw [Bool.and_eq_true, Bool.and_eq_true, decide_eq_true_eq, List.all_eq_true]
    simp only [List.length_cons, List.getD_cons_zero]
    constructor
    · rintro ⟨⟨h1, h2⟩, h3⟩
      refine ⟨by omega, by omega, h2, fun j hj hl => ?_⟩
      obtain ⟨k, rfl⟩ : ∃ k, j = k + 1 := ⟨j - 1, by omega⟩
      rw [List.getD_cons_succ, List.getD_eq_getElem?_getD, List.getElem?_eq_getElem (by omega)]
      exact h3 _ (List.getElem_mem _)
    · rintro ⟨_, h1, h2, h3⟩
      refine ⟨⟨by omega, h2⟩, fun d hd => ?_⟩
      obtain ⟨k, hk, rfl⟩ := List.getElem_of_mem hd
      have := h3 (k + 1) (by omega) (by omega)
      rwa [List.getD_cons_succ, List.getD_eq_getElem?_getD, List.getElem?_eq_getElem hk] at this
theorem id_digit {l : List UInt8} (h : idL l = true) : idL (l ++ [48]) = decide (l.length < 64) := by
  cases l with
  | nil => simp [idL] at h
  | cons c r =>
    unfold idL at h
    rw [Bool.and_eq_true, Bool.and_eq_true] at h
    show (decide ((r ++ [48]).length ≤ 63) && sm c.toNat && (r ++ [48]).all fun d => fo d.toNat) = _
    rw [List.all_append, h.2, h.1.2, List.length_append, List.length_cons]
    simp only [List.length_cons, List.length_nil, List.all_cons, List.all_nil]
    rw [show fo (48 : UInt8).toNat = true from rfl]
    simp
    omega
theorem id_first {l : List UInt8} : idL (48 :: l) = false := by
  show (decide (l.length ≤ 63) && sm (48 : UInt8).toNat && l.all fun d => fo d.toNat) = false
  rw [show sm (48 : UInt8).toNat = false from rfl]
  simp
theorem id_capital {l : List UInt8} (k : Nat) : idL (l.take k ++ 90 :: l.drop k) = false := by
  cases k with
  | zero =>
    show (decide (l.length ≤ 63) && sm (90 : UInt8).toNat && l.all fun d => fo d.toNat) = false
    rw [show sm (90 : UInt8).toNat = false from rfl]
    simp
  | succ k =>
    cases l with
    | nil =>
      show idL [90] = false
      rfl
    | cons c r =>
      show (decide ((r.take k ++ 90 :: r.drop k).length ≤ 63) && sm c.toNat && (r.take k ++ 90 :: r.drop k).all fun d => fo d.toNat) = false
      rw [List.all_append, List.all_cons, show fo (90 : UInt8).toNat = false from rfl]
      simp

/-! ### the first place at which something holds -/
def fst (p : Nat → Bool) (n : Nat) : Int := ((List.range n).find? p).elim (-1) fun i => (i : Int)
theorem fst_at {p : Nat → Bool} {n k : Nat} (hk : k < n) (h : p k = true) (hb : ∀ j, j < k → p j = false) : fst p n = k := by
  unfold fst
  have : (List.range n).find? p = some k := List.find?_range_eq_some.2 ⟨h, List.mem_range.2 hk, fun j hj => by rw [hb j hj]; rfl⟩
  rw [this]
  rfl
theorem fst_none {p : Nat → Bool} {n : Nat} (h : ∀ j, j < n → p j = false) : fst p n = -1 := by
  unfold fst
  have : (List.range n).find? p = none := List.find?_range_eq_none.2 fun j hj => by rw [h j hj]; rfl
  rw [this]
  rfl
theorem fst_neg {p : Nat → Bool} {n : Nat} (h : fst p n < 0) : ∀ j, j < n → p j = false := by
  unfold fst at h
  cases hf : (List.range n).find? p with
  | some i => rw [hf] at h; simp at h; omega
  | none =>
    intro j hj
    have := List.find?_range_eq_none.1 hf j hj
    simpa using this
theorem fst_bounds (p : Nat → Bool) (n : Nat) : -1 ≤ fst p n ∧ fst p n < max (n : Int) 0 := by
  unfold fst
  cases hf : (List.range n).find? p with
  | some i =>
    have := List.mem_range.1 (List.mem_of_find?_eq_some hf)
    simp
    omega
  | none => simp; omega

/-! ### the order of texts -/
def lt (a b : ByteArray) : Bool := Op.bytesLess a.toList b.toList
theorem less_eq : ∀ x y : List UInt8, Op.bytesLess x y = decide (x < y)
  | [], [] => by simp [Op.bytesLess]
  | _ :: _, [] => by simp [Op.bytesLess]
  | [], _ :: _ => by simp [Op.bytesLess]
  | a :: x, b :: y => by
    rw [Op.bytesLess, less_eq x y]
    simp only [List.cons_lt_cons_iff]
    by_cases h1 : a < b <;> by_cases h2 : a = b <;> by_cases h3 : x < y <;> simp [h1, h2, h3]
theorem lt_is (a b : ByteArray) : lt a b = decide (a.data.toList < b.data.toList) := by
  unfold lt
  rw [less_eq, Lib.toList_data, Lib.toList_data]
theorem lt_irrefl (a : ByteArray) : lt a a = false := by
  rw [lt_is]
  exact decide_eq_false (List.lt_irrefl _)
theorem lt_trans {a b c : ByteArray} (h : lt a b = true) (k : lt b c = true) : lt a c = true := by
  rw [lt_is, decide_eq_true_eq] at *
  exact List.lt_trans h k
theorem lt_asymm {a b : ByteArray} (h : lt a b = true) : lt b a = false := by
  cases k : lt b a with
  | false => rfl
  | true => have := lt_trans h k; rw [lt_irrefl] at this; cases this
theorem lt_total {a b : ByteArray} (h : lt a b = false) (k : lt b a = false) : a = b := by
  rw [lt_is, decide_eq_false_iff_not] at *
  exact ByteArray.ext (Array.toList_inj.1 (List.le_antisymm (List.not_lt.1 k) (List.not_lt.1 h)))
/-- '<=' as the model says it. -/
theorem le_is (a b : ByteArray) : (Op.bytesLess a.toList b.toList || a.toList == b.toList) = !lt b a := by
  show (lt a b || a.toList == b.toList) = !lt b a
  have he : (a.toList == b.toList) = decide (a = b) := by
    rw [Bool.eq_iff_iff, beq_iff_eq, decide_eq_true_eq, Lib.toList_data, Lib.toList_data]
    exact ⟨fun q => ByteArray.ext (Array.toList_inj.1 q), fun q => by rw [q]⟩
  rw [he]
  cases h : lt a b with
  | true => rw [lt_asymm h]; rfl
  | false =>
    cases k : lt b a with
    | true =>
      rw [decide_eq_false (fun q => by rw [q, lt_irrefl] at k; cases k)]
      rfl
    | false =>
      rw [decide_eq_true (lt_total h k)]
      rfl
theorem snoc_le : ∀ a b : List UInt8, a < b → ¬ b < a ++ [0]
  | [], [], h => fun _ => absurd h (List.lt_irrefl _)
  | [], c :: t, _ => by
    show ¬ (c :: t) < [0]
    rw [List.cons_lt_cons_iff]
    rintro (h | ⟨_, h⟩)
    · exact absurd h (by simp)
    · simp at h
  | x :: a, [], h => by simp at h
  | x :: a, y :: b, h => by
    rw [List.cons_lt_cons_iff] at h
    show ¬ (y :: b) < x :: (a ++ [0])
    rw [List.cons_lt_cons_iff]
    rcases h with h | ⟨rfl, h⟩
    · rintro (k | ⟨rfl, _⟩)
      · exact UInt8.lt_irrefl _ (UInt8.lt_trans h k)
      · exact UInt8.lt_irrefl _ h
    · rintro (k | ⟨_, k⟩)
      · exact UInt8.lt_irrefl _ k
      · exact snoc_le a b h k
theorem lt_snoc : ∀ a : List UInt8, a < a ++ [0]
  | [] => by simp
  | x :: a => by
    show (x :: a) < x :: (a ++ [0])
    rw [List.cons_lt_cons_iff]
    exact .inr ⟨rfl, lt_snoc a⟩
/-- A text with a zero byte behind it. -/
def z0 (a : ByteArray) : ByteArray := ⟨(a.data.toList ++ [0]).toArray⟩
theorem z0_lt (a : ByteArray) : lt a (z0 a) = true := by
  rw [lt_is, decide_eq_true_eq]
  simpa [z0] using lt_snoc a.data.toList
theorem z0_le {a b : ByteArray} (h : lt a b = true) : lt b (z0 a) = false := by
  rw [lt_is, decide_eq_true_eq] at h
  rw [lt_is, decide_eq_false_iff_not]
  simpa [z0] using snoc_le _ _ h

/-! ### rows -/
def ga (l : List ByteArray) (i : Nat) : ByteArray := l.getD i ⟨#[]⟩
/-- Does what stands at i stand ahead of it too? -/
def twAt (l : List ByteArray) (i : Nat) : Bool := (l.take i).any fun x => decide (x = ga l i)
def rsAt (l : List ByteArray) (i : Nat) : Bool := decide (1 ≤ i) && !lt (ga l (i - 1)) (ga l i)
def tw (l : List ByteArray) : Int := fst (twAt l) l.length
def rs (l : List ByteArray) : Int := fst (rsAt l) l.length
/-- How many stand at the row's beginning that are less than s. -/
def fn (l : List ByteArray) (s : ByteArray) : Nat := (l.takeWhile fun x => lt x s).length
def fi (l : List ByteArray) (s : ByteArray) : Bool := decide (fn l s < l.length ∧ ga l (fn l s) = s)
theorem fn_le (l : List ByteArray) (s : ByteArray) : fn l s ≤ l.length := (List.takeWhile_prefix _).length_le
theorem ga_mem {l : List ByteArray} {i : Nat} (h : i < l.length) : ga l i ∈ l := by
  unfold ga
  rw [List.getD_eq_getElem?_getD, List.getElem?_eq_getElem h]
  exact List.getElem_mem h
theorem fn_below {s : ByteArray} : ∀ {l : List ByteArray} {j : Nat}, j < fn l s → lt (ga l j) s = true
  | [], j, h => by simp [fn] at h
  | a :: l, j, h => by
    unfold fn at h
    rw [List.takeWhile_cons] at h
    cases ha : lt a s with
    | false => rw [ha] at h; simp at h
    | true =>
      cases j with
      | zero => exact ha
      | succ j =>
        rw [ha] at h
        simp only [if_true, List.length_cons] at h
        exact fn_below (l := l) (j := j) (by unfold fn; omega)
theorem fn_at {s : ByteArray} : ∀ {l : List ByteArray}, fn l s < l.length → lt (ga l (fn l s)) s = false
  | [], h => by simp at h
  | a :: l, h => by
    cases ha : lt a s with
    | false =>
      have : fn (a :: l) s = 0 := by unfold fn; rw [List.takeWhile_cons, ha]; rfl
      rw [this]
      exact ha
    | true =>
      have : fn (a :: l) s = fn l s + 1 := by unfold fn; rw [List.takeWhile_cons, ha]; rfl
      rw [this] at h ⊢
      exact fn_at (l := l) (by simpa using h)
theorem fn_is {l : List ByteArray} {s : ByteArray} {k : Nat} (hk : k ≤ l.length) (h1 : ∀ j, j < k → lt (ga l j) s = true) (h2 : k < l.length → lt (ga l k) s = false) : fn l s = k := by
  have h3 := fn_le l s
  rcases Nat.lt_trichotomy (fn l s) k with h | h | h
  · have := fn_at (l := l) (s := s) (by omega)
    rw [h1 _ h] at this
    cases this
  · exact h
  · have := fn_below h
    rw [h2 (by omega)] at this
    cases this
theorem rises {l : List ByteArray} (h : rs l < 0) : ∀ i j, i < j → j < l.length → lt (ga l i) (ga l j) = true := by
  have hst : ∀ i, i + 1 < l.length → lt (ga l i) (ga l (i + 1)) = true := by
    intro i hi
    have := fst_neg h (i + 1) hi
    unfold rsAt at this
    rw [decide_eq_true (by omega), Bool.true_and, Bool.not_eq_false'] at this
    simpa using this
  intro i j hij
  induction j with
  | zero => omega
  | succ j ih =>
    intro hj
    by_cases he : i = j
    · subst he; exact hst i hj
    · exact lt_trans (ih (by omega) (by omega)) (hst j hj)
/-- In a rising row: less up to a place, and not behind it. -/
theorem fn_head {l : List ByteArray} (h : rs l < 0) (s : ByteArray) : (∀ t, t < fn l s → lt (ga l t) s = true) ∧ ∀ t, fn l s ≤ t → t < l.length → lt (ga l t) s = false := by
  refine ⟨fun t ht => fn_below ht, fun t ht hl => ?_⟩
  have h1 := fn_at (l := l) (s := s) (by omega)
  rcases Nat.eq_or_lt_of_le ht with rfl | hlt
  · exact h1
  · cases h2 : lt (ga l t) s with
    | false => rfl
    | true =>
      have := lt_trans (rises h _ _ hlt hl) h2
      rw [h1] at this
      cases this
theorem fn_own {l : List ByteArray} (h : rs l < 0) {i : Nat} (hi : i < l.length) : fn l (ga l i) = i :=
  fn_is (by omega) (fun j hj => rises h j i hj hi) (fun _ => lt_irrefl _)
theorem fi_own {l : List ByteArray} (h : rs l < 0) {i : Nat} (hi : i < l.length) : fi l (ga l i) = true := by
  unfold fi
  rw [fn_own h hi]
  exact decide_eq_true ⟨hi, rfl⟩
theorem fn_z0 {l : List ByteArray} (h : rs l < 0) {i : Nat} (hi : i < l.length) : fn l (z0 (ga l i)) = i + 1 :=
  fn_is (by omega) (fun j hj => by
    by_cases he : j = i
    · subst he; exact z0_lt _
    · exact lt_trans (rises h j i (by omega) hi) (z0_lt _)) (fun hl => z0_le (rises h i (i + 1) (by omega) hl))
theorem fi_z0 {l : List ByteArray} (h : rs l < 0) {i : Nat} (hi : i < l.length) : fi l (z0 (ga l i)) = decide (i + 1 < l.length ∧ ga l (i + 1) = z0 (ga l i)) := by
  unfold fi
  rw [fn_z0 h hi]
theorem tw_none {l : List ByteArray} (h : rs l < 0) : tw l = -1 := by
  refine fst_none fun i hi => ?_
  unfold twAt
  rw [List.any_eq_false]
  intro x hx
  obtain ⟨k, hk, rfl⟩ := List.getElem_of_mem hx
  have hk2 : k < i := by rw [List.length_take] at hk; omega
  have := rises h k i hk2 hi
  rw [List.getElem_take]
  intro q
  have q := of_decide_eq_true q
  have e : ga l k = l[k]'(by omega) := by
    unfold ga
    rw [List.getD_eq_getElem?_getD, List.getElem?_eq_getElem (by omega)]
    rfl
  rw [e, q, lt_irrefl] at this
  cases this
end Go.Proofs.YthkopnobekohcaaGreatDoor.Ide

namespace Go.Proofs.YthkopnobekohcaaGreatDoor.Rou

/-! ### parts -/
/-- A byte more at the first part's head. -/
def hd (c : UInt8) : List (List UInt8) → List (List UInt8)
  | [] => [[c]]
  | h :: t => (c :: h) :: t
/-- The parts of what stands behind a row's first byte. -/
def ps : List UInt8 → List (List UInt8)
  | [] => [[]]
  | c :: l => if c = 47 then [] :: ps l else hd c (ps l)
theorem ps_nil : ps [] = [[]] := rfl
theorem ps_slash (l : List UInt8) : ps (47 :: l) = [] :: ps l := by rw [ps, if_pos rfl]
theorem ps_plain {c : UInt8} (l : List UInt8) (h : c ≠ 47) : ps (c :: l) = hd c (ps l) := by rw [ps, if_neg h]
theorem ps_some (l : List UInt8) : ∃ h t, ps l = h :: t := by
  cases l with
  | nil => exact ⟨_, _, rfl⟩
  | cons c l =>
    by_cases h : c = 47
    · subst h; exact ⟨_, _, ps_slash l⟩
    · rw [ps_plain l h]
      cases ps l with
      | nil => exact ⟨_, _, rfl⟩
      | cons a b => exact ⟨_, _, rfl⟩
theorem ps_len (l : List UInt8) : (ps l).length = l.count 47 + 1 := by
  induction l with
  | nil => rfl
  | cons c l ih =>
    by_cases h : c = 47
    · subst h; rw [ps_slash, List.length_cons, ih, List.count_cons_self]
    · rw [ps_plain l h, List.count_cons_of_ne (by simpa using h), ← ih]
      obtain ⟨a, b, e⟩ := ps_some l
      rw [e]; rfl
/-- A text without a slash. -/
theorem ps_one : ∀ (l : List UInt8), (47 : UInt8) ∉ l → ps l = [l]
  | [], _ => rfl
  | c :: l, h => by
    rw [ps_plain l (fun e => h (by rw [e]; exact List.mem_cons_self)), ps_one l (fun e => h (List.mem_cons_of_mem _ e))]
    rfl
/-- A part, and what stands behind it. -/
theorem ps_cut : ∀ (a b : List UInt8), (47 : UInt8) ∉ a → ps (a ++ 47 :: b) = a :: ps b
  | [], b, _ => ps_slash b
  | c :: a, b, h => by
    rw [List.cons_append, ps_plain _ (fun e => h (by rw [e]; exact List.mem_cons_self)), ps_cut a b (fun e => h (List.mem_cons_of_mem _ e))]
    rfl
/-- A row behind a row. -/
theorem ps_app (a b : List UInt8) : ps (a ++ 47 :: b) = ps a ++ ps b := by
  induction a with
  | nil => exact ps_slash b
  | cons c a ih =>
    rw [List.cons_append]
    by_cases h : c = 47
    · subst h; rw [ps_slash, ps_slash, ih, List.cons_append]
    · rw [ps_plain _ h, ps_plain _ h, ih]
      obtain ⟨x, y, e⟩ := ps_some a
      rw [e]; rfl
/-- The last part with a byte more. -/
def tl1 (c : UInt8) (l : List (List UInt8)) : List (List UInt8) := l.dropLast ++ [(l.getLast?.getD []) ++ [c]]
theorem ps_snoc_slash (l : List UInt8) : ps (l ++ [47]) = ps l ++ [[]] := by
  have := ps_app l []
  rwa [ps_nil] at this
theorem ps_snoc {c : UInt8} (l : List UInt8) (h : c ≠ 47) : ps (l ++ [c]) = tl1 c (ps l) := by
  induction l with
  | nil => rw [List.nil_append, ps_plain [] h]; rfl
  | cons d l ih =>
    rw [List.cons_append]
    obtain ⟨x, y, e⟩ := ps_some l
    by_cases hd0 : d = 47
    · subst hd0
      rw [ps_slash, ps_slash, ih, e]
      rfl
    · rw [ps_plain _ hd0, ps_plain _ hd0, ih, e]
      cases y with
      | nil => rfl
      | cons u v => rfl
/-- Each part stands in the text. -/
theorem ps_size : ∀ (l : List UInt8), ∀ p ∈ ps l, p.length ≤ l.length
  | [], p, h => by rw [ps_nil, List.mem_singleton] at h; rw [h]; exact Nat.le_refl _
  | c :: l, p, h => by
    have ih := ps_size l
    by_cases hc : c = 47
    · subst hc
      rw [ps_slash] at h
      rcases List.mem_cons.1 h with rfl | h
      · exact Nat.zero_le _
      · have := ih p h; rw [List.length_cons]; omega
    · rw [ps_plain l hc] at h
      obtain ⟨x, y, e⟩ := ps_some l
      rw [e] at h ih
      rcases List.mem_cons.1 h with rfl | h
      · have := ih x List.mem_cons_self; rw [List.length_cons, List.length_cons]; omega
      · have := ih p (List.mem_cons_of_mem _ h); rw [List.length_cons]; omega

/-! ### joined -/
/-- Each part behind a slash. -/
def jn (l : List (List UInt8)) : List UInt8 := l.flatMap fun p => 47 :: p
theorem jn_cons (p : List UInt8) (l : List (List UInt8)) : jn (p :: l) = 47 :: (p ++ jn l) := by
  unfold jn; rw [List.flatMap_cons]; rfl
theorem jn_app (a b : List (List UInt8)) : jn (a ++ b) = jn a ++ jn b := List.flatMap_append
theorem jn_ps (l : List UInt8) : jn (ps l) = 47 :: l := by
  induction l with
  | nil => rfl
  | cons c l ih =>
    by_cases h : c = 47
    · subst h; rw [ps_slash, jn_cons, ih]; rfl
    · rw [ps_plain l h]
      obtain ⟨x, y, e⟩ := ps_some l
      rw [e] at ih ⊢
      rw [jn_cons] at ih
      show jn ((c :: x) :: y) = _
      rw [jn_cons, List.cons_append, (List.cons_inj_right _).1 ih]
/-- The parts l joined, as the document has it. -/
def jP (l : List (List UInt8)) : List UInt8 := if l = [] then [47] else jn l
/-- The parts l with a slash between two. -/
def sj : List (List UInt8) → List UInt8
  | [] => []
  | [p] => p
  | p :: q :: l => p ++ 47 :: sj (q :: l)
theorem jP_sj (l : List (List UInt8)) : jP l = 47 :: sj l := by
  cases l with
  | nil => rfl
  | cons p l =>
    unfold jP
    rw [if_neg (List.cons_ne_nil _ _)]
    induction l generalizing p with
    | nil => rw [jn_cons]; simp [jn, sj]
    | cons q l ih => rw [jn_cons, ih q]; rfl

/-! ### rows -/
/-- The parts of a row. -/
def prt : List UInt8 → List (List UInt8)
  | [] => []
  | _ :: l => if l = [] then [] else ps l
def row : List UInt8 → Bool
  | [] => false
  | c :: l => decide (c = 47) && decide (l.length ≤ 254) && decide (l.count 47 ≤ 31)
theorem row_iff {s : List UInt8} : row s = true ↔ ∃ l, s = 47 :: l ∧ l.length ≤ 254 ∧ l.count 47 ≤ 31 := by
  cases s with
  | nil => simp [row]
  | cons c l =>
    simp only [row, Bool.and_eq_true, decide_eq_true_eq, List.cons.injEq]
    constructor
    · rintro ⟨⟨h1, h2⟩, h3⟩; exact ⟨l, ⟨h1, rfl⟩, h2, h3⟩
    · rintro ⟨m, ⟨h1, rfl⟩, h2, h3⟩; exact ⟨⟨h1, h2⟩, h3⟩
theorem prt_cons (c : UInt8) {l : List UInt8} (h : l ≠ []) : prt (c :: l) = ps l := by
  show (if l = [] then [] else ps l) = _
  rw [if_neg h]
theorem prt_len {s : List UInt8} (h : row s = true) : (prt s).length ≤ 32 := by
  obtain ⟨l, rfl, _, h3⟩ := row_iff.1 h
  by_cases hl : l = []
  · subst hl; exact Nat.zero_le _
  · rw [prt_cons _ hl, ps_len]; omega
/-- The parts of a row are joined to it again. -/
theorem back {s : List UInt8} (h : row s = true) : jP (prt s) = s := by
  obtain ⟨l, rfl, _, _⟩ := row_iff.1 h
  by_cases hl : l = []
  · subst hl; rfl
  · rw [prt_cons _ hl]
    unfold jP
    obtain ⟨x, y, e⟩ := ps_some l
    rw [if_neg (by rw [e]; exact List.cons_ne_nil _ _), jn_ps]

/-! ### words -/
def inW (n : Nat) : Bool := decide (n = 45) || decide (n = 95) || decide (n = 46) || decide (n = 126) || decide (n = 37) || (decide (97 ≤ n) && decide (n ≤ 122)) || (decide (65 ≤ n) && decide (n ≤ 90)) || (decide (48 ≤ n) && decide (n ≤ 57))
def wd (p : List UInt8) : Bool := decide (p ≠ []) && p.all fun c => inW c.toNat
/-- A word or a star. -/
def sg (p : List UInt8) : Bool := decide (p = [42]) || wd p
/-- All parts but two stars at the end. -/
def inn (l : List (List UInt8)) : List (List UInt8) := if l.getLast? = some [42, 42] then l.dropLast else l
def isR (s : List UInt8) : Bool := row s && (prt s).all wd
def patR (s : List UInt8) : Bool := row s && (inn (prt s)).all sg
def preR (p s : List UInt8) : Bool := row p && row s && (prt p).isPrefixOf (prt s)
theorem all_inn {l : List (List UInt8)} (h : l.all wd = true) : (inn l).all sg = true := by
  have h2 : l.all sg = true := by
    rw [List.all_eq_true] at h ⊢
    intro x hx
    unfold sg
    rw [h x hx, Bool.or_true]
  unfold inn
  split
  · rw [List.all_eq_true] at h2 ⊢
    exact fun x hx => h2 x (List.dropLast_subset _ hx)
  · exact h2
/-- Each route is a pattern. -/
theorem is_pat {s : List UInt8} (h : isR s = true) : patR s = true := by
  unfold isR at h; unfold patR
  rw [Bool.and_eq_true] at h ⊢
  exact ⟨h.1, all_inn h.2⟩
theorem pre_own {s : List UInt8} (h : row s = true) : preR s s = true := by
  unfold preR
  rw [h, List.isPrefixOf_iff_prefix.2 List.prefix_rfl]; rfl
theorem pre_root {s : List UInt8} (h : row s = true) : preR [47] s = true := by
  unfold preR
  rw [h, show row [47] = true from by decide, show prt [47] = [] from rfl]; rfl
theorem no_row {s : List UInt8} (h : row s = false) : isR s = false ∧ patR s = false ∧ preR s s = false := by
  unfold isR patR preR; rw [h]; exact ⟨rfl, rfl, rfl⟩

/-! ### a route with a word behind it -/
theorem grow {l m : List UInt8} (hl : l ≠ []) (hm : m ≠ []) (h1 : isR (47 :: l) = true) (h2 : isR (47 :: m) = true) :
    isR (47 :: l ++ 47 :: m) = decide ((47 :: l ++ 47 :: m).length ≤ 255 ∧ (prt (47 :: l)).length + (prt (47 :: m)).length ≤ 32) ∧
    preR (47 :: l) (47 :: l ++ 47 :: m) = decide ((47 :: l ++ 47 :: m).length ≤ 255 ∧ (prt (47 :: l)).length + (prt (47 :: m)).length ≤ 32) ∧
    preR (47 :: l ++ 47 :: m) (47 :: l) = false := by
  have e1 : prt (47 :: l) = ps l := prt_cons _ hl
  have e2 : prt (47 :: m) = ps m := prt_cons _ hm
  have e3 : prt (47 :: l ++ 47 :: m) = ps l ++ ps m := by
    show prt (47 :: (l ++ 47 :: m)) = _
    rw [prt_cons _ (by simp), ps_app]
  have hr : row (47 :: l ++ 47 :: m) = decide ((47 :: l ++ 47 :: m).length ≤ 255 ∧ (ps l).length + (ps m).length ≤ 32) := by
    show row (47 :: (l ++ 47 :: m)) = _
    rw [Bool.eq_iff_iff]
    simp only [row, Bool.and_eq_true, decide_eq_true_eq, List.length_append, List.length_cons, List.count_append, List.count_cons_self, ps_len, List.cons_append]
    rw [true_and]
    omega
  unfold isR at h1 h2
  rw [Bool.and_eq_true, e1] at h1
  rw [Bool.and_eq_true, e2] at h2
  rw [e1, e2]
  refine ⟨?_, ?_, ?_⟩
  · unfold isR
    rw [e3, List.all_append, h1.2, h2.2, hr]; simp
  · unfold preR
    rw [e3, e1, h1.1, List.isPrefixOf_iff_prefix.2 (List.prefix_append _ _), hr]; simp
  · unfold preR
    rw [e3, e1]
    have hn : (ps l ++ ps m).isPrefixOf (ps l) = false := by
      rw [Bool.eq_false_iff]
      intro h
      have := (List.isPrefixOf_iff_prefix.1 h).length_le
      obtain ⟨x, y, e⟩ := ps_some m
      rw [List.length_append, e, List.length_cons] at this
      omega
    rw [hn, Bool.and_false]

/-! ### the library's IndexByte -/
theorem ix_some : ∀ (a b : List UInt8), (47 : UInt8) ∉ a → Go.Lib.indexByte (a ++ 47 :: b) 47 = (a.length : Int)
  | [], b, _ => rfl
  | c :: a, b, h => by
    have hc : (c == 47) = false := beq_eq_false_iff_ne.2 fun e => h (by rw [e]; exact List.mem_cons_self)
    have ih := ix_some a b fun e => h (List.mem_cons_of_mem _ e)
    show (if c == 47 then 0 else if Go.Lib.indexByte (a ++ 47 :: b) 47 == -1 then -1 else Go.Lib.indexByte (a ++ 47 :: b) 47 + 1) = _
    rw [hc, if_neg (by decide), ih, if_neg (by rw [beq_iff_eq]; omega)]
    rfl
theorem ix_none : ∀ (l : List UInt8), (47 : UInt8) ∉ l → Go.Lib.indexByte l 47 = -1
  | [], _ => rfl
  | c :: l, h => by
    have hc : (c == 47) = false := beq_eq_false_iff_ne.2 fun e => h (by rw [e]; exact List.mem_cons_self)
    have ih := ix_none l fun e => h (List.mem_cons_of_mem _ e)
    show (if c == 47 then 0 else if Go.Lib.indexByte l 47 == -1 then -1 else Go.Lib.indexByte l 47 + 1) = _
    rw [hc, if_neg (by decide), ih]
    rfl
theorem parted (l : List UInt8) (h : (47 : UInt8) ∈ l) : ∃ a b, l = a ++ 47 :: b ∧ (47 : UInt8) ∉ a := by
  induction l with
  | nil => cases h
  | cons c l ih =>
    by_cases hc : c = 47
    · subst hc
      exact ⟨[], l, rfl, by simp⟩
    · obtain ⟨a, b, rfl, h2⟩ := ih (by rcases List.mem_cons.1 h with e | e; exact absurd e.symm hc; exact e)
      refine ⟨c :: a, b, rfl, ?_⟩
      rw [List.mem_cons]; rintro (e | e)
      · exact hc e.symm
      · exact h2 e
end Go.Proofs.YthkopnobekohcaaGreatDoor.Rou

namespace Go.Proofs.YthkopnobekohcaaGreatDoor.Rul

/-- A rule. -/
structure Ru where
  id : ByteArray
  no : ByteArray
  ro : ByteArray
  pr : Int
  ki : Int
  ra : Int
  pe : Int
  bu : Int
  co : Int
  mx : Int
  fa : Int
  wa : Int
  pb : Int
def zero : Ru := ⟨⟨#[]⟩, ⟨#[]⟩, ⟨#[]⟩, 0, 0, 0, 0, 0, 0, 0, 0, 0, 0⟩

/-! ### the first fault of a row of them -/
def fst : List (ByteArray × Int) → ByteArray × Int
  | [] => (⟨#[]⟩, 0)
  | (p, e) :: l => if e = 0 then fst l else (p, e)
theorem fst_yes {p : ByteArray} {e : Int} (l : List (ByteArray × Int)) (h : e ≠ 0) : fst ((p, e) :: l) = (p, e) := by rw [fst, if_neg h]
theorem fst_no {p : ByteArray} {e : Int} (l : List (ByteArray × Int)) (h : e = 0) : fst ((p, e) :: l) = fst l := by rw [fst, if_pos h]
theorem fst_zero : ∀ l : List (ByteArray × Int), (fst l).2 = 0 ↔ ∀ x ∈ l, x.2 = 0
  | [] => ⟨fun _ x h => absurd h List.not_mem_nil, fun _ => rfl⟩
  | (p, e) :: l => by
    by_cases h : e = 0
    · rw [fst_no l h, fst_zero l]
      refine ⟨fun a x hx => ?_, fun a x hx => a x (List.mem_cons_of_mem _ hx)⟩
      rcases List.mem_cons.1 hx with rfl | hx
      · exact h
      · exact a x hx
    · rw [fst_yes l h]
      exact ⟨fun a => absurd a h, fun a => absurd (a _ List.mem_cons_self) h⟩
theorem fst_ok : ∀ l : List (ByteArray × Int), (fst l).2 = 0 → fst l = (⟨#[]⟩, 0)
  | [], _ => rfl
  | (p, e) :: l, h => by
    by_cases he : e = 0
    · rw [fst_no l he] at h ⊢
      exact fst_ok l h
    · rw [fst_yes l he] at h
      exact absurd h he
theorem fst_name : ∀ l : List (ByteArray × Int), (∀ x ∈ l, x.1 ≠ ⟨#[]⟩) → (fst l).2 ≠ 0 → (fst l).1 ≠ ⟨#[]⟩
  | [], _, h => absurd rfl h
  | (p, e) :: l, hn, h => by
    by_cases he : e = 0
    · rw [fst_no l he] at h ⊢
      exact fst_name l (fun x hx => hn x (List.mem_cons_of_mem _ hx)) h
    · rw [fst_yes l he]
      exact hn _ List.mem_cons_self

/-! ### the fields -/
/-- A number's fault: k is the kind that it is of. -/
def fd (k ki n lo hi : Int) : Int := if k ≠ ki ∧ n ≠ 0 then 17 else if k = ki ∧ (n < lo ∨ hi < n) then 2 else 0
theorem fd_zero (k ki n lo hi : Int) : fd k ki n lo hi = 0 ↔ (k ≠ ki → n = 0) ∧ (k = ki → lo ≤ n ∧ n ≤ hi) := by
  unfold fd
  split
  · exact ⟨fun h => absurd h (by decide), fun h => by omega⟩
  · split
    · exact ⟨fun h => absurd h (by decide), fun h => by omega⟩
    · exact ⟨fun _ => by omega, fun _ => rfl⟩
def isId (s : ByteArray) : Bool := Ide.idL s.data.toList
def isTx (s : ByteArray) : Bool := decide (Utf.badL s.data.toList = none)
def isPa (s : ByteArray) : Bool := Rou.patR s.data.toList
def e1 (r : Ru) : Int := if isId r.id = true then 0 else 13
def e2 (r : Ru) : Int := if 255 < r.no.size then 5 else if isTx r.no = true then 0 else 8
def e3 (r : Ru) : Int := if isPa r.ro = true then 0 else 14
def e4 (r : Ru) : Int := if r.pr < 0 ∨ 1000 < r.pr then 2 else 0
def e5 (r : Ru) : Int := if r.ki = 1 ∨ r.ki = 2 ∨ r.ki = 3 then 0 else 15
def p1 : ByteArray := ⟨#[47, 105, 100]⟩
def p2 : ByteArray := ⟨#[47, 110, 111, 116, 101]⟩
def p3 : ByteArray := ⟨#[47, 114, 111, 117, 116, 101]⟩
def p4 : ByteArray := ⟨#[47, 112, 114, 105, 111, 114, 105, 116, 121]⟩
def p5 : ByteArray := ⟨#[47, 107, 105, 110, 100]⟩
def f1 : ByteArray := ⟨#[47, 114, 97, 116, 101]⟩
def f2 : ByteArray := ⟨#[47, 112, 101, 114]⟩
def f3 : ByteArray := ⟨#[47, 98, 117, 114, 115, 116]⟩
def f4 : ByteArray := ⟨#[47, 99, 111, 115, 116]⟩
def f5 : ByteArray := ⟨#[47, 109, 97, 120]⟩
def f6 : ByteArray := ⟨#[47, 102, 97, 105, 108, 115]⟩
def f7 : ByteArray := ⟨#[47, 119, 97, 105, 116]⟩
def f8 : ByteArray := ⟨#[47, 112, 114, 111, 98, 101, 115]⟩
/-- The numbers that hang on the kind, and their faults. -/
def nums (r : Ru) : List (ByteArray × Int) :=
  [(f1, fd 1 r.ki r.ra 0 1000000), (f2, fd 1 r.ki r.pe 1 86400000), (f3, fd 1 r.ki r.bu 1 1000000), (f4, fd 1 r.ki r.co 0 1000),
   (f5, fd 2 r.ki r.mx 1 1000000), (f6, fd 3 r.ki r.fa 1 1000), (f7, fd 3 r.ki r.wa 1 86400000), (f8, fd 3 r.ki r.pb 0 100)]
/-- All that may be wrong, in its order. -/
def errs (r : Ru) : List (ByteArray × Int) := (p1, e1 r) :: (p2, e2 r) :: (p3, e3 r) :: (p4, e4 r) :: (p5, e5 r) :: nums r
def chk (r : Ru) : ByteArray × Int := fst (errs r)
/-- The same of texts, priority and kind alone. -/
def txs (r : Ru) : ByteArray × Int := fst [(p1, e1 r), (p2, e2 r), (p3, e3 r), (p4, e4 r), (p5, e5 r)]
theorem fst_app : ∀ l m : List (ByteArray × Int), fst (l ++ m) = if (fst l).2 = 0 then fst m else fst l
  | [], _ => rfl
  | (p, e) :: l, m => by
    by_cases h : e = 0
    · rw [List.cons_append, fst_no _ h, fst_no _ h, fst_app l m]
    · rw [List.cons_append, fst_yes _ h, fst_yes _ h, if_neg h]
theorem chk_two (r : Ru) : chk r = if (txs r).2 = 0 then fst (nums r) else txs r := fst_app [(p1, e1 r), (p2, e2 r), (p3, e3 r), (p4, e4 r), (p5, e5 r)] (nums r)

/-- A right rule. -/
structure Rt (r : Ru) : Prop where
  id : isId r.id = true
  no : r.no.size ≤ 255
  tx : isTx r.no = true
  ro : isPa r.ro = true
  pr : 0 ≤ r.pr ∧ r.pr ≤ 1000
  ki : (r.ki = 1 ∧ (0 ≤ r.ra ∧ r.ra ≤ 1000000) ∧ (1 ≤ r.pe ∧ r.pe ≤ 86400000) ∧ (1 ≤ r.bu ∧ r.bu ≤ 1000000) ∧ (0 ≤ r.co ∧ r.co ≤ 1000) ∧ r.mx = 0 ∧ r.fa = 0 ∧ r.wa = 0 ∧ r.pb = 0)
    ∨ (r.ki = 2 ∧ r.ra = 0 ∧ r.pe = 0 ∧ r.bu = 0 ∧ r.co = 0 ∧ (1 ≤ r.mx ∧ r.mx ≤ 1000000) ∧ r.fa = 0 ∧ r.wa = 0 ∧ r.pb = 0)
    ∨ (r.ki = 3 ∧ r.ra = 0 ∧ r.pe = 0 ∧ r.bu = 0 ∧ r.co = 0 ∧ r.mx = 0 ∧ (1 ≤ r.fa ∧ r.fa ≤ 1000) ∧ (1 ≤ r.wa ∧ r.wa ≤ 86400000) ∧ (0 ≤ r.pb ∧ r.pb ≤ 100))
theorem e1_zero (r : Ru) : e1 r = 0 ↔ isId r.id = true := by unfold e1; split <;> simp [*]
theorem e2_zero (r : Ru) : e2 r = 0 ↔ r.no.size ≤ 255 ∧ isTx r.no = true := by
  unfold e2
  split
  · exact ⟨fun h => absurd h (by decide), fun h => by omega⟩
  · split
    · exact ⟨fun _ => ⟨by omega, by assumption⟩, fun _ => rfl⟩
    · exact ⟨fun h => absurd h (by decide), fun h => absurd h.2 (by assumption)⟩
theorem e3_zero (r : Ru) : e3 r = 0 ↔ isPa r.ro = true := by unfold e3; split <;> simp [*]
theorem e4_zero (r : Ru) : e4 r = 0 ↔ 0 ≤ r.pr ∧ r.pr ≤ 1000 := by unfold e4; split <;> omega
theorem e5_zero (r : Ru) : e5 r = 0 ↔ r.ki = 1 ∨ r.ki = 2 ∨ r.ki = 3 := by unfold e5; split <;> omega
theorem all_cons {p : ByteArray} {e : Int} {l : List (ByteArray × Int)} : (∀ x ∈ (p, e) :: l, x.2 = 0) ↔ e = 0 ∧ ∀ x ∈ l, x.2 = 0 :=
  ⟨fun h => ⟨h _ List.mem_cons_self, fun x hx => h x (List.mem_cons_of_mem _ hx)⟩, fun h x hx => by
    rcases List.mem_cons.1 hx with rfl | hx
    · exact h.1
    · exact h.2 x hx⟩
theorem all_nil : (∀ x ∈ ([] : List (ByteArray × Int)), x.2 = 0) ↔ True := ⟨fun _ => trivial, fun _ x h => by cases h⟩
theorem chk_zero (r : Ru) : (chk r).2 = 0 ↔ Rt r := by
  unfold chk errs nums
  rw [fst_zero]
  simp only [all_cons, all_nil, e1_zero, e2_zero, e3_zero, e4_zero, e5_zero, fd_zero]
  constructor
  · rintro ⟨h1, ⟨h2, h2'⟩, h3, h4, h5, a1, a2, a3, a4, a5, a6, a7, a8, _⟩
    refine ⟨h1, h2, h2', h3, h4, ?_⟩
    rcases h5 with hk | hk | hk
    · exact .inl ⟨hk, a1.2 hk.symm, a2.2 hk.symm, a3.2 hk.symm, a4.2 hk.symm, a5.1 (by omega), a6.1 (by omega), a7.1 (by omega), a8.1 (by omega)⟩
    · exact .inr (.inl ⟨hk, a1.1 (by omega), a2.1 (by omega), a3.1 (by omega), a4.1 (by omega), a5.2 hk.symm, a6.1 (by omega), a7.1 (by omega), a8.1 (by omega)⟩)
    · exact .inr (.inr ⟨hk, a1.1 (by omega), a2.1 (by omega), a3.1 (by omega), a4.1 (by omega), a5.1 (by omega), a6.2 hk.symm, a7.2 hk.symm, a8.2 hk.symm⟩)
  · rintro ⟨h1, h2, h2', h3, h4, h5⟩
    rcases h5 with ⟨hk, b1, b2, b3, b4, b5, b6, b7, b8⟩ | ⟨hk, b1, b2, b3, b4, b5, b6, b7, b8⟩ | ⟨hk, b1, b2, b3, b4, b5, b6, b7, b8⟩
    · exact ⟨h1, ⟨h2, h2'⟩, h3, h4, .inl hk, ⟨fun h => absurd hk.symm h, fun _ => b1⟩, ⟨fun h => absurd hk.symm h, fun _ => b2⟩, ⟨fun h => absurd hk.symm h, fun _ => b3⟩, ⟨fun h => absurd hk.symm h, fun _ => b4⟩,
        ⟨fun _ => b5, fun h => by omega⟩, ⟨fun _ => b6, fun h => by omega⟩, ⟨fun _ => b7, fun h => by omega⟩, ⟨fun _ => b8, fun h => by omega⟩, trivial⟩
    · exact ⟨h1, ⟨h2, h2'⟩, h3, h4, .inr (.inl hk), ⟨fun _ => b1, fun h => by omega⟩, ⟨fun _ => b2, fun h => by omega⟩, ⟨fun _ => b3, fun h => by omega⟩, ⟨fun _ => b4, fun h => by omega⟩,
        ⟨fun h => absurd hk.symm h, fun _ => b5⟩, ⟨fun _ => b6, fun h => by omega⟩, ⟨fun _ => b7, fun h => by omega⟩, ⟨fun _ => b8, fun h => by omega⟩, trivial⟩
    · exact ⟨h1, ⟨h2, h2'⟩, h3, h4, .inr (.inr hk), ⟨fun _ => b1, fun h => by omega⟩, ⟨fun _ => b2, fun h => by omega⟩, ⟨fun _ => b3, fun h => by omega⟩, ⟨fun _ => b4, fun h => by omega⟩,
        ⟨fun _ => b5, fun h => by omega⟩, ⟨fun h => absurd hk.symm h, fun _ => b6⟩, ⟨fun h => absurd hk.symm h, fun _ => b7⟩, ⟨fun h => absurd hk.symm h, fun _ => b8⟩, trivial⟩
theorem chk_ok {r : Ru} (h : Rt r) : chk r = (⟨#[]⟩, 0) := fst_ok _ ((chk_zero r).2 h)
theorem paths : ∀ p ∈ [p1, p2, p3, p4, p5, f1, f2, f3, f4, f5, f6, f7, f8], p ≠ (⟨#[]⟩ : ByteArray) := by decide
theorem chk_name {r : Ru} (h : (chk r).2 ≠ 0) : (chk r).1 ≠ ⟨#[]⟩ := fst_name _ (fun x hx => by
  unfold errs nums at hx
  simp only [List.mem_cons, List.not_mem_nil, or_false] at hx
  rcases hx with rfl | rfl | rfl | rfl | rfl | rfl | rfl | rfl | rfl | rfl | rfl | rfl | rfl <;> exact paths _ (by simp only [List.mem_cons, true_or, or_true])) h

/-! ### the canonical form -/
def can (r : Ru) : Ru :=
  if r.ki = 1 then { r with ra := r.ra / Sat.gd r.ra r.pe, pe := r.pe / Sat.gd r.ra r.pe, co := max r.co 1 } else if r.ki = 3 then { r with pb := max r.pb 1 } else r
def cn (r : Ru) : Ru := if (chk r).2 = 0 then can r else zero
theorem gd_nat (a b : Nat) : Sat.gd (a : Int) (b : Int) = ((Nat.gcd a b : Nat) : Int) := rfl
theorem gd_div {a b : Int} (ha : 0 ≤ a) (hb : 1 ≤ b) : 1 ≤ Sat.gd a b ∧ Sat.gd a b ≤ b ∧ a / Sat.gd a b * b = a * (b / Sat.gd a b) ∧ 0 ≤ a / Sat.gd a b ∧ a / Sat.gd a b ≤ a ∧ 1 ≤ b / Sat.gd a b ∧ b / Sat.gd a b ≤ b ∧ Sat.gd (a / Sat.gd a b) (b / Sat.gd a b) = 1 := by
  obtain ⟨m, rfl⟩ := Int.eq_ofNat_of_zero_le ha
  obtain ⟨n, rfl⟩ := Int.eq_ofNat_of_zero_le (show 0 ≤ b by omega)
  rw [gd_nat]
  have hn : 0 < n := by omega
  have hg : 0 < Nat.gcd m n := Nat.gcd_pos_of_pos_right m hn
  have hl : Nat.gcd m n ≤ n := Nat.gcd_le_right m hn
  have hc : Nat.gcd (m / Nat.gcd m n) (n / Nat.gcd m n) = 1 := Nat.coprime_div_gcd_div_gcd hg
  obtain ⟨x, hx⟩ := Nat.gcd_dvd_left m n
  obtain ⟨y, hy⟩ := Nat.gcd_dvd_right m n
  have ex : m / Nat.gcd m n = x := by
    conv => lhs; arg 1; rw [hx]
    exact Nat.mul_div_cancel_left x hg
  have ey : n / Nat.gcd m n = y := by
    conv => lhs; arg 1; rw [hy]
    exact Nat.mul_div_cancel_left y hg
  have cx : ((m : Int) / ((Nat.gcd m n : Nat) : Int)) = (x : Int) := by rw [← Int.natCast_ediv, ex]
  have cy : ((n : Int) / ((Nat.gcd m n : Nat) : Int)) = (y : Int) := by rw [← Int.natCast_ediv, ey]
  rw [cx, cy, gd_nat]
  rw [ex, ey] at hc
  have hy0 : 0 < y := by
    rcases Nat.eq_zero_or_pos y with h | h
    · rw [h, Nat.mul_zero] at hy; omega
    · exact h
  have hxm : x ≤ m := by rw [← ex]; exact Nat.div_le_self _ _
  have hyn : y ≤ n := by rw [← ey]; exact Nat.div_le_self _ _
  refine ⟨by omega, by omega, ?_, by omega, by omega, by omega, by omega, by rw [hc]; rfl⟩
  rw [← Int.natCast_mul, ← Int.natCast_mul]
  congr 1
  generalize Nat.gcd m n = g at *
  rw [hx, hy, Nat.mul_left_comm, ← Nat.mul_assoc]
theorem can_one {r : Ru} (h : r.ki = 1) : can r = { r with ra := r.ra / Sat.gd r.ra r.pe, pe := r.pe / Sat.gd r.ra r.pe, co := max r.co 1 } := by unfold can; rw [if_pos h]
theorem can_two {r : Ru} (h : r.ki = 2) : can r = r := by unfold can; rw [if_neg (by omega), if_neg (by omega)]
theorem can_three {r : Ru} (h : r.ki = 3) : can r = { r with pb := max r.pb 1 } := by unfold can; rw [if_neg (by omega), if_pos h]
theorem can_right {r : Ru} (h : Rt r) : Rt (can r) := by
  rcases h.ki with hk | hk | hk
  · rw [can_one hk.1]
    have := gd_div hk.2.1.1 hk.2.2.1.1
    exact ⟨h.id, h.no, h.tx, h.ro, h.pr, .inl ⟨hk.1, (show 0 ≤ r.ra / Sat.gd r.ra r.pe ∧ r.ra / Sat.gd r.ra r.pe ≤ 1000000 by omega), (show 1 ≤ r.pe / Sat.gd r.ra r.pe ∧ r.pe / Sat.gd r.ra r.pe ≤ 86400000 by omega), hk.2.2.2.1, (show 0 ≤ max r.co 1 ∧ max r.co 1 ≤ 1000 by omega), hk.2.2.2.2.2⟩⟩
  · rw [can_two hk.1]; exact h
  · rw [can_three hk.1]
    exact ⟨h.id, h.no, h.tx, h.ro, h.pr, .inr (.inr ⟨hk.1, hk.2.1, hk.2.2.1, hk.2.2.2.1, hk.2.2.2.2.1, hk.2.2.2.2.2.1, hk.2.2.2.2.2.2.1, hk.2.2.2.2.2.2.2.1, (show 0 ≤ max r.pb 1 ∧ max r.pb 1 ≤ 100 by omega)⟩)⟩
theorem can_can {r : Ru} (h : Rt r) : can (can r) = can r := by
  rcases h.ki with hk | hk | hk
  · rw [can_one hk.1]
    have hg := gd_div hk.2.1.1 hk.2.2.1.1
    refine Eq.trans (can_one (by exact hk.1)) ?_
    show Ru.mk _ _ _ _ _ (r.ra / Sat.gd r.ra r.pe / Sat.gd (r.ra / Sat.gd r.ra r.pe) (r.pe / Sat.gd r.ra r.pe)) (r.pe / Sat.gd r.ra r.pe / Sat.gd (r.ra / Sat.gd r.ra r.pe) (r.pe / Sat.gd r.ra r.pe)) _ (max (max r.co 1) 1) _ _ _ _ = _
    rw [hg.2.2.2.2.2.2.2, Int.ediv_one, Int.ediv_one, show max (max r.co 1) 1 = max r.co 1 by omega]
  · rw [can_two hk.1, can_two hk.1]
  · rw [can_three hk.1]
    refine Eq.trans (can_three (by exact hk.1)) ?_
    show Ru.mk _ _ _ _ _ _ _ _ _ _ _ _ (max (max r.pb 1) 1) = _
    rw [show max (max r.pb 1) 1 = max r.pb 1 by omega]
/-- What the canonical form keeps, and the quotient. -/
theorem can_keeps {r : Ru} (h : Rt r) : (can r).id = r.id ∧ (can r).no = r.no ∧ (can r).ro = r.ro ∧ (can r).pr = r.pr ∧ (can r).ki = r.ki ∧ (can r).bu = r.bu ∧ (can r).mx = r.mx
    ∧ (can r).ra * r.pe = r.ra * (can r).pe ∧ (r.ki = 1 → 1 ≤ (can r).co) ∧ (r.ki = 3 → 1 ≤ (can r).pb) := by
  rcases h.ki with hk | hk | hk
  · rw [can_one hk.1]
    have hg := gd_div hk.2.1.1 hk.2.2.1.1
    exact ⟨rfl, rfl, rfl, rfl, rfl, rfl, rfl, hg.2.2.1, fun _ => by show _ ≤ max _ _; omega, fun e => by omega⟩
  · rw [can_two hk.1]
    exact ⟨rfl, rfl, rfl, rfl, rfl, rfl, rfl, rfl, fun e => by omega, fun e => by omega⟩
  · rw [can_three hk.1]
    exact ⟨rfl, rfl, rfl, rfl, rfl, rfl, rfl, rfl, fun e => by omega, fun _ => by show _ ≤ max _ _; omega⟩

/-! ### a field that is spoilt -/
theorem chk_id {r : Ru} (h : isId r.id = false) : chk r = (p1, 13) := by
  have : e1 r = 13 := by unfold e1; rw [h]; rfl
  unfold chk errs
  rw [fst_yes _ (by rw [this]; decide), this]
theorem chk_no {r : Ru} (h1 : isId r.id = true) (h2 : r.no.size ≤ 255) (h3 : isTx r.no = false) : chk r = (p2, 8) := by
  have : e2 r = 8 := by unfold e2; rw [if_neg (by omega), h3]; rfl
  unfold chk errs
  rw [fst_no _ ((e1_zero r).2 h1), fst_yes _ (by rw [this]; decide), this]
theorem chk_ro {r : Ru} (h1 : isId r.id = true) (h2 : r.no.size ≤ 255) (h3 : isTx r.no = true) (h4 : isPa r.ro = false) : chk r = (p3, 14) := by
  have : e3 r = 14 := by unfold e3; rw [h4]; rfl
  unfold chk errs
  rw [fst_no _ ((e1_zero r).2 h1), fst_no _ ((e2_zero r).2 ⟨h2, h3⟩), fst_yes _ (by rw [this]; decide), this]
theorem chk_pr {r : Ru} (h1 : isId r.id = true) (h2 : r.no.size ≤ 255) (h3 : isTx r.no = true) (h4 : isPa r.ro = true) (h5 : r.pr < 0 ∨ 1000 < r.pr) : chk r = (p4, 2) := by
  have : e4 r = 2 := by unfold e4; rw [if_pos h5]
  unfold chk errs
  rw [fst_no _ ((e1_zero r).2 h1), fst_no _ ((e2_zero r).2 ⟨h2, h3⟩), fst_no _ ((e3_zero r).2 h4), fst_yes _ (by rw [this]; decide), this]
theorem chk_ki {r : Ru} (h1 : isId r.id = true) (h2 : r.no.size ≤ 255) (h3 : isTx r.no = true) (h4 : isPa r.ro = true) (h5 : 0 ≤ r.pr ∧ r.pr ≤ 1000) (h6 : r.ki < 1 ∨ 3 < r.ki) : chk r = (p5, 15) := by
  have : e5 r = 15 := by unfold e5; rw [if_neg (by omega)]
  unfold chk errs
  rw [fst_no _ ((e1_zero r).2 h1), fst_no _ ((e2_zero r).2 ⟨h2, h3⟩), fst_no _ ((e3_zero r).2 h4), fst_no _ ((e4_zero r).2 h5), fst_yes _ (by rw [this]; decide), this]
theorem id_spoilt (l : List UInt8) : isId ⟨(65 :: l).toArray⟩ = false := by
  show Ide.idL (65 :: l) = false
  unfold Ide.idL
  show (decide (l.length ≤ 63) && false && (l.all fun d => Ide.fo d.toNat)) = false
  rw [Bool.and_false, Bool.false_and]
theorem no_spoilt : isTx ⟨#[255]⟩ = false := by decide
theorem ro_spoilt (l : List UInt8) (h : l ≠ []) : isPa ⟨(l ++ [47, 47]).toArray⟩ = false := by
  show Rou.patR (l ++ [47, 47]) = false
  obtain ⟨c, m, rfl⟩ : ∃ c m, l = c :: m := by
    cases l with
    | nil => exact absurd rfl h
    | cons c m => exact ⟨c, m, rfl⟩
  have hp : Rou.prt (c :: m ++ [47, 47]) = Rou.ps m ++ [[], []] := by
    rw [List.cons_append, Rou.prt_cons c (by simp)]
    rw [show m ++ [47, 47] = (m ++ [47]) ++ [47] by simp, Rou.ps_snoc_slash, Rou.ps_snoc_slash, List.append_assoc]
    rfl
  unfold Rou.patR Rou.inn
  rw [hp, if_neg (by simp), List.all_append]
  rw [show List.all [[], []] Rou.sg = false by decide, Bool.and_false, Bool.and_false]

/-! ### kinds' names -/
def k1 : ByteArray := ⟨#[98, 117, 99, 107, 101, 116]⟩
def k2 : ByteArray := ⟨#[99, 97, 112]⟩
def k3 : ByteArray := ⟨#[98, 114, 101, 97, 107, 101, 114]⟩
def kB (k : Int) : ByteArray := if k = 1 then k1 else if k = 2 then k2 else if k = 3 then k3 else ⟨#[]⟩
def kO (s : ByteArray) : Int := if s = k1 then 1 else if s = k2 then 2 else if s = k3 then 3 else 0
theorem kO_at {k : Nat} (h : k < 4) : kO (kB k) = k := by
  match k, h with
  | 0, _ => decide
  | 1, _ => decide
  | 2, _ => decide
  | 3, _ => decide
theorem kO_no {s : ByteArray} (h : ∀ k : Nat, 1 ≤ k → k < 4 → kB k ≠ s) : kO s = 0 := by
  have a1 := h 1 (by omega) (by omega); have a2 := h 2 (by omega) (by omega); have a3 := h 3 (by omega) (by omega)
  unfold kO
  rw [if_neg (fun e : s = k1 => a1 e.symm), if_neg (fun e : s = k2 => a2 e.symm), if_neg (fun e : s = k3 => a3 e.symm)]
theorem kB_none (k : Int) : kB k = ⟨#[]⟩ ↔ ¬ (k = 1 ∨ k = 2 ∨ k = 3) := by
  unfold kB
  split
  · exact ⟨fun h => absurd h (by decide), fun h => by omega⟩
  · split
    · exact ⟨fun h => absurd h (by decide), fun h => by omega⟩
    · split
      · exact ⟨fun h => absurd h (by decide), fun h => by omega⟩
      · exact ⟨fun _ => by omega, fun _ => rfl⟩
end Go.Proofs.YthkopnobekohcaaGreatDoor.Rul

namespace Go.Proofs.YthkopnobekohcaaGreatDoor.Thr
open Go.Proofs.YthkopnobekohcaaGreatDoor.Rul (Ru zero chk can cn Rt fst fst_yes fst_no fst_zero fst_ok chk_zero chk_ok can_right can_can can_keeps)
open Go.Proofs.YthkopnobekohcaaGreatDoor.Ide (lt lt_irrefl lt_trans lt_asymm lt_total)

/-! ### two rules, two sets -/
def rE (a b : Ru) : Bool :=
  decide (a.id = b.id) && (decide (a.no = b.no) && (decide (a.ro = b.ro) && (decide (a.pr = b.pr) && (decide (a.ki = b.ki) && (decide (a.ra = b.ra) && (decide (a.pe = b.pe) && (decide (a.bu = b.bu) && (decide (a.co = b.co) && (decide (a.mx = b.mx) && (decide (a.fa = b.fa) && (decide (a.wa = b.wa) && decide (a.pb = b.pb))))))))))))
theorem rE_iff (a b : Ru) : rE a b = true ↔ a = b := by
  unfold rE
  simp only [Bool.and_eq_true, decide_eq_true_eq]
  obtain ⟨a0, a1, a2, a3, a4, a5, a6, a7, a8, a9, a10, a11, a12⟩ := a
  obtain ⟨b0, b1, b2, b3, b4, b5, b6, b7, b8, b9, b10, b11, b12⟩ := b
  dsimp only
  constructor
  · rintro ⟨rfl, rfl, rfl, rfl, rfl, rfl, rfl, rfl, rfl, rfl, rfl, rfl, rfl⟩; rfl
  · intro h
    cases h
    exact ⟨rfl, rfl, rfl, rfl, rfl, rfl, rfl, rfl, rfl, rfl, rfl, rfl, rfl⟩
theorem rE_self (a : Ru) : rE a a = true := (rE_iff a a).2 rfl
theorem rE_no {a b : Ru} (h : a ≠ b) : rE a b = false := by
  cases hr : rE a b with
  | false => rfl
  | true => exact absurd ((rE_iff a b).1 hr) h
def ga (L : List Ru) (i : Nat) : Ru := L.getD i zero
theorem ga_at {L : List Ru} {i : Nat} (h : i < L.length) : ga L i = L[i] := by
  unfold ga
  rw [List.getD_eq_getElem?_getD, List.getElem?_eq_getElem h]; rfl
theorem ga_mem {L : List Ru} {i : Nat} (h : i < L.length) : ga L i ∈ L := by rw [ga_at h]; exact List.getElem_mem _
theorem mem_ga {L : List Ru} {r : Ru} (h : r ∈ L) : ∃ i, i < L.length ∧ ga L i = r := by
  obtain ⟨i, hi, e⟩ := List.getElem_of_mem h
  exact ⟨i, hi, by rw [ga_at hi, e]⟩
/-- Are both the same rules in the same order? -/
def sm : List Ru → List Ru → Bool
  | [], [] => true
  | a :: l, b :: m => rE a b && sm l m
  | _, _ => false
theorem sm_iff : ∀ l m : List Ru, sm l m = true ↔ l = m
  | [], [] => ⟨fun _ => rfl, fun _ => rfl⟩
  | [], _ :: _ => ⟨fun h => (by cases h), fun h => (by cases h)⟩
  | _ :: _, [] => ⟨fun h => (by cases h), fun h => (by cases h)⟩
  | a :: l, b :: m => by
    unfold sm
    rw [Bool.and_eq_true, rE_iff, sm_iff l m]
    constructor
    · rintro ⟨rfl, rfl⟩; rfl
    · intro h; cases h; exact ⟨rfl, rfl⟩
theorem sm_self (l : List Ru) : sm l l = true := (sm_iff l l).2 rfl
theorem ext_ga {l m : List Ru} (hl : l.length = m.length) (h : ∀ i, i < l.length → ga l i = ga m i) : l = m := by
  refine List.ext_getElem hl fun i h1 h2 => ?_
  have := h i h1
  rwa [ga_at h1, ga_at h2] at this
theorem sm_no_len {l m : List Ru} (h : l.length ≠ m.length) : sm l m = false := by
  cases hs : sm l m with
  | false => rfl
  | true => exact absurd (by rw [(sm_iff l m).1 hs]) h
theorem sm_no_at {l m : List Ru} (i : Nat) (h : ga l i ≠ ga m i) : sm l m = false := by
  cases hs : sm l m with
  | false => rfl
  | true => exact absurd (by rw [(sm_iff l m).1 hs]) h
theorem sm_yes {l m : List Ru} (hl : l.length = m.length) (h : ∀ i, i < l.length → ga l i = ga m i) : sm l m = true := (sm_iff l m).2 (ext_ga hl h)

/-! ### what is wrong -/
/-- A path behind a rule's place. -/
def pre (i : Nat) (p : ByteArray) : ByteArray := ⟨#[47]⟩ ++ ⟨(Lib.itoa (i : Int)).toArray⟩ ++ p
/-- Has an earlier rule the id of rule i? -/
def tw (L : List Ru) (i : Nat) : Bool := (L.take i).any fun x => decide (x.id = (ga L i).id)
def nx (L : List Ru) (i : Nat) : ByteArray × Int :=
  if (chk (ga L i)).2 = 0 then (if tw L i = true then (pre i Rul.p1, 11) else (⟨#[]⟩, 0)) else (pre i (chk (ga L i)).1, (chk (ga L i)).2)
def nxs (L : List Ru) : List (ByteArray × Int) := (List.range L.length).map (nx L)
def sck (L : List Ru) : ByteArray × Int := if 4096 < L.length then (⟨#[]⟩, 12) else fst (nxs L)
theorem nxs_len (L : List Ru) : (nxs L).length = L.length := by unfold nxs; rw [List.length_map, List.length_range]
theorem nxs_drop (L : List Ru) {i : Nat} (h : i < L.length) : (nxs L).drop i = nx L i :: (nxs L).drop (i + 1) := by
  rw [List.drop_eq_getElem_cons (by rw [nxs_len]; exact h)]
  congr 1
  unfold nxs
  rw [List.getElem_map, List.getElem_range]
theorem nx_bad {L : List Ru} {i : Nat} (h : (chk (ga L i)).2 ≠ 0) : nx L i = (pre i (chk (ga L i)).1, (chk (ga L i)).2) := by unfold nx; rw [if_neg h]
theorem nx_twice {L : List Ru} {i : Nat} (h : (chk (ga L i)).2 = 0) (k : tw L i = true) : nx L i = (pre i Rul.p1, 11) := by unfold nx; rw [if_pos h, if_pos k]
theorem nx_ok {L : List Ru} {i : Nat} (h : (chk (ga L i)).2 = 0) (k : tw L i = false) : nx L i = (⟨#[]⟩, 0) := by unfold nx; rw [if_pos h, if_neg (by rw [k]; decide)]
theorem tw_yes {L : List Ru} {i k : Nat} (hi : i < L.length) (hk : k < i) (h : (ga L k).id = (ga L i).id) : tw L i = true := by
  unfold tw
  rw [List.any_eq_true]
  refine ⟨ga L k, ?_, decide_eq_true h⟩
  rw [List.mem_take_iff_getElem]
  exact ⟨k, by omega, (ga_at (by omega)).symm⟩
theorem tw_no {L : List Ru} {i : Nat} (h : ∀ k, k < i → k < L.length → (ga L k).id ≠ (ga L i).id) : tw L i = false := by
  unfold tw
  rw [List.any_eq_false]
  intro x hx hd
  rw [List.mem_take_iff_getElem] at hx
  obtain ⟨k, hk, rfl⟩ := hx
  have h2 : k < i ∧ k < L.length := by omega
  exact h k h2.1 h2.2 (by rw [ga_at h2.2]; exact of_decide_eq_true hd)
theorem tw_iff {L : List Ru} {i : Nat} (hi : i < L.length) : tw L i = false ↔ ∀ k, k < i → (ga L k).id ≠ (ga L i).id :=
  ⟨fun h k hk e => absurd (tw_yes hi hk e) (by rw [h]; decide), fun h => tw_no fun k hk _ => h k hk⟩
theorem nx_zero {L : List Ru} {i : Nat} (hi : i < L.length) : (nx L i).2 = 0 ↔ Rt (ga L i) ∧ ∀ k, k < i → (ga L k).id ≠ (ga L i).id := by
  rw [← chk_zero, ← tw_iff hi]
  unfold nx
  by_cases h : (chk (ga L i)).2 = 0
  · rw [if_pos h]
    cases tw L i with
    | false => exact ⟨fun _ => ⟨h, rfl⟩, fun _ => rfl⟩
    | true => exact ⟨fun q => absurd q (by simp), fun q => by cases q.2⟩
  · rw [if_neg h]
    exact ⟨fun q => absurd q h, fun q => absurd q.1 h⟩
/-- A right set. -/
structure Rs (L : List Ru) : Prop where
  len : L.length ≤ 4096
  rt : ∀ r ∈ L, Rt r
  nd : (L.map (·.id)).Nodup
theorem nodup_ga (L : List Ru) : (L.map (·.id)).Nodup ↔ ∀ i, i < L.length → ∀ k, k < i → (ga L k).id ≠ (ga L i).id := by
  unfold List.Nodup
  rw [List.pairwise_map, List.pairwise_iff_getElem]
  constructor
  · intro h i hi k hk
    rw [ga_at hi, ga_at (by omega)]
    exact h k i (by omega) hi hk
  · intro h i j hi hj hij
    have := h j hj i hij
    rwa [ga_at hi, ga_at hj] at this
theorem sck_zero (L : List Ru) : (sck L).2 = 0 ↔ Rs L := by
  unfold sck
  by_cases h : 4096 < L.length
  · rw [if_pos h]
    exact ⟨fun q => absurd q (by decide), fun q => absurd q.len (by omega)⟩
  · rw [if_neg h, fst_zero]
    have key : (∀ x ∈ nxs L, x.2 = 0) ↔ ∀ i, i < L.length → (nx L i).2 = 0 := by
      unfold nxs
      constructor
      · intro q i hi
        exact q _ (List.mem_map.2 ⟨i, List.mem_range.2 hi, rfl⟩)
      · intro q x hx
        obtain ⟨i, hi, rfl⟩ := List.mem_map.1 hx
        exact q i (List.mem_range.1 hi)
    rw [key]
    constructor
    · intro q
      refine ⟨by omega, fun r hr => ?_, (nodup_ga L).2 fun i hi => ((nx_zero hi).1 (q i hi)).2⟩
      obtain ⟨i, hi, rfl⟩ := mem_ga hr
      exact ((nx_zero hi).1 (q i hi)).1
    · intro q i hi
      exact (nx_zero hi).2 ⟨q.rt _ (ga_mem hi), (nodup_ga L).1 q.nd i hi⟩
theorem sck_ok {L : List Ru} (h : Rs L) : sck L = (⟨#[]⟩, 0) := by
  have hz := (sck_zero L).2 h
  unfold sck at hz ⊢
  rw [if_neg (by have := h.len; omega)] at hz ⊢
  exact fst_ok _ hz

/-! ### rising ids -/
def ls (a b : Ru) : Prop := lt a.id b.id = true
def ins (r : Ru) : List Ru → List Ru
  | [] => [r]
  | x :: l => if lt x.id r.id = true then x :: ins r l else r :: x :: l
theorem ins_perm (r : Ru) : ∀ l, (ins r l).Perm (r :: l)
  | [] => List.Perm.refl _
  | x :: l => by
    unfold ins
    split
    · exact ((ins_perm r l).cons x).trans (List.Perm.swap r x l)
    · exact List.Perm.refl _
theorem ins_rises {r : Ru} : ∀ {l : List Ru}, (∀ x ∈ l, x.id ≠ r.id) → l.Pairwise ls → (ins r l).Pairwise ls
  | [], _, _ => List.pairwise_singleton _ _
  | x :: l, hn, hp => by
    rw [List.pairwise_cons] at hp
    unfold ins
    by_cases hx : lt x.id r.id = true
    · rw [if_pos hx, List.pairwise_cons]
      refine ⟨fun y hy => ?_, ins_rises (fun y hy => hn y (List.mem_cons_of_mem _ hy)) hp.2⟩
      rcases List.mem_cons.1 ((ins_perm r l).mem_iff.1 hy) with rfl | hy
      · exact hx
      · exact hp.1 y hy
    · rw [if_neg hx, List.pairwise_cons]
      have hrx : lt r.id x.id = true := by
        cases hq : lt r.id x.id with
        | true => rfl
        | false => exact absurd (lt_total (by simpa using hx) hq) (hn x List.mem_cons_self)
      refine ⟨fun y hy => ?_, List.pairwise_cons.2 hp⟩
      rcases List.mem_cons.1 hy with rfl | hy
      · exact hrx
      · exact lt_trans hrx (hp.1 y hy)
/-- Where a rule is put among others. -/
def pl (L : List Ru) (s : ByteArray) : Nat := Ide.fn (L.map (·.id)) s
theorem ids_ga {L : List Ru} {j : Nat} (h : j < L.length) : Ide.ga (L.map (·.id)) j = (ga L j).id := by
  unfold Ide.ga
  rw [List.getD_eq_getElem?_getD, List.getElem?_map, List.getElem?_eq_getElem h, ga_at h]; rfl
theorem pl_le (L : List Ru) (s : ByteArray) : pl L s ≤ L.length := by
  have := Ide.fn_le (L.map (·.id)) s
  rwa [List.length_map] at this
theorem pl_is {L : List Ru} {s : ByteArray} {k : Nat} (hk : k ≤ L.length) (h1 : ∀ j, j < k → lt (ga L j).id s = true) (h2 : k < L.length → lt (ga L k).id s = false) : pl L s = k :=
  Ide.fn_is (by rw [List.length_map]; exact hk) (fun j hj => by rw [ids_ga (by omega)]; exact h1 j hj) (fun h => by rw [List.length_map] at h; rw [ids_ga h]; exact h2 h)
theorem ins_split (r : Ru) : ∀ L : List Ru, ins r L = L.take (pl L r.id) ++ r :: L.drop (pl L r.id)
  | [] => rfl
  | x :: L => by
    have e : pl (x :: L) r.id = if lt x.id r.id = true then pl L r.id + 1 else 0 := by
      unfold pl Ide.fn
      rw [List.map_cons, List.takeWhile_cons]
      split <;> rfl
    unfold ins
    rw [e]
    split
    · rw [ins_split r L, List.take_succ_cons, List.drop_succ_cons, List.cons_append]
    · rfl
/-- The rules by rising ids. -/
def srt (L : List Ru) : List Ru := L.foldl (fun l r => ins r l) []
theorem fold_perm : ∀ (L l : List Ru), (L.foldl (fun l r => ins r l) l).Perm (L ++ l)
  | [], l => List.Perm.refl _
  | r :: L, l => by
    rw [List.foldl_cons]
    refine (fold_perm L (ins r l)).trans ?_
    refine (List.Perm.append_left L (ins_perm r l)).trans ?_
    exact List.perm_middle
theorem srt_perm (L : List Ru) : (srt L).Perm L := by
  have := fold_perm L []
  rwa [List.append_nil] at this
theorem fold_rises : ∀ (L l : List Ru), l.Pairwise ls → ((L ++ l).map (·.id)).Nodup → (L.foldl (fun l r => ins r l) l).Pairwise ls
  | [], l, h, _ => h
  | r :: L, l, h, hn => by
    rw [List.foldl_cons]
    have hp : ((r :: L) ++ l).Perm (L ++ ins r l) := (List.perm_middle (a := r) (l₁ := L) (l₂ := l)).symm.trans (List.Perm.append_left L (ins_perm r l).symm)
    refine fold_rises L (ins r l) (ins_rises (fun x hx e => ?_) h) ((hp.map _).nodup_iff.1 hn)
    rw [List.cons_append, List.map_cons, List.nodup_cons] at hn
    exact hn.1 (List.mem_map.2 ⟨x, List.mem_append_right _ hx, e⟩)
theorem srt_rises {L : List Ru} (h : (L.map (·.id)).Nodup) : (srt L).Pairwise ls := fold_rises L [] List.Pairwise.nil (by rwa [List.append_nil])
theorem rises_one : ∀ (l m : List Ru), l.Pairwise ls → m.Pairwise ls → l.Perm m → l = m
  | [], m, _, _, h => (List.Perm.nil_eq h)
  | a :: l, [], _, _, h => absurd h.length_eq (by simp)
  | a :: l, b :: m, hl, hm, h => by
    rw [List.pairwise_cons] at hl hm
    have hab : a = b := by
      have h1 : a ∈ b :: m := h.mem_iff.1 List.mem_cons_self
      have h2 : b ∈ a :: l := h.mem_iff.2 List.mem_cons_self
      rcases List.mem_cons.1 h1 with e | h1
      · exact e
      rcases List.mem_cons.1 h2 with e | h2
      · exact e.symm
      have k1 := hm.1 a h1
      have k2 := hl.1 b h2
      unfold ls at k1 k2
      rw [lt_asymm k1] at k2
      cases k2
    subst hab
    rw [rises_one l m hl.2 hm.2 (h.cons_inv)]
theorem srt_self {L : List Ru} (h : L.Pairwise ls) (hn : (L.map (·.id)).Nodup) : srt L = L := rises_one _ _ (srt_rises hn) h (srt_perm L)

/-! ### the canonical form -/
def scn (L : List Ru) : List Ru := if (sck L).2 = 0 then srt (L.map can) else []
theorem scn_ok {L : List Ru} (h : Rs L) : scn L = srt (L.map can) := by unfold scn; rw [if_pos ((sck_zero L).2 h)]
theorem scn_no {L : List Ru} (h : (sck L).2 ≠ 0) : scn L = [] := by unfold scn; rw [if_neg h]
theorem can_id {r : Ru} (h : Rt r) : (can r).id = r.id := (can_keeps h).1
theorem can_ids {L : List Ru} (h : ∀ r ∈ L, Rt r) : (L.map can).map (·.id) = L.map (·.id) := by
  rw [List.map_map]
  exact List.map_congr_left fun r hr => can_id (h r hr)
theorem cans_right {L : List Ru} (h : Rs L) : Rs (L.map can) :=
  ⟨by rw [List.length_map]; exact h.len, fun r hr => by obtain ⟨q, hq, rfl⟩ := List.mem_map.1 hr; exact can_right (h.rt q hq), by rw [can_ids h.rt]; exact h.nd⟩
theorem right_perm {L M : List Ru} (hp : L.Perm M) (h : Rs L) : Rs M :=
  ⟨by rw [← hp.length_eq]; exact h.len, fun r hr => h.rt r (hp.mem_iff.2 hr), (hp.map _).nodup_iff.1 h.nd⟩
theorem scn_perm {L : List Ru} (h : Rs L) : (scn L).Perm (L.map can) := by rw [scn_ok h]; exact srt_perm _
theorem scn_right {L : List Ru} (h : Rs L) : Rs (scn L) := right_perm (scn_perm h).symm (cans_right h)
theorem scn_rises {L : List Ru} (h : Rs L) : (scn L).Pairwise ls := by rw [scn_ok h]; exact srt_rises (cans_right h).nd
theorem scn_len {L : List Ru} (h : Rs L) : (scn L).length = L.length := by rw [(scn_perm h).length_eq, List.length_map]
/-- The canonical form's own is itself. -/
theorem scn_scn {L : List Ru} (h : Rs L) : scn (scn L) = scn L := by
  rw [scn_ok (scn_right h)]
  have e : (scn L).map can = scn L := by
    have : ∀ r ∈ scn L, can r = r := fun r hr => by
      obtain ⟨q, hq, rfl⟩ := List.mem_map.1 ((scn_perm h).mem_iff.1 hr)
      exact can_can (h.rt q hq)
    rw [List.map_congr_left this, List.map_id']
  rw [e]
  exact srt_self (scn_rises h) (scn_right h).nd
/-- It hangs on no order. -/
theorem scn_turn {L M : List Ru} (hp : L.Perm M) (h : Rs L) : scn M = scn L := by
  have hm := right_perm hp h
  exact rises_one _ _ (scn_rises hm) (scn_rises h) ((scn_perm hm).trans ((hp.symm.map _).trans (scn_perm h).symm))
/-- Is it in its canonical form? -/
def isC (L : List Ru) : Bool := decide ((sck L).2 = 0) && sm (scn L) L
theorem isC_no {L : List Ru} (h : (sck L).2 ≠ 0) : isC L = false := by unfold isC; rw [decide_eq_false h]; rfl
theorem isC_ok {L : List Ru} (h : Rs L) : isC L = sm (scn L) L := by unfold isC; rw [decide_eq_true ((sck_zero L).2 h)]; rfl
theorem isC_scn {L : List Ru} (h : Rs L) : isC (scn L) = true := by rw [isC_ok (scn_right h), scn_scn h]; exact sm_self _
theorem rises_at {L : List Ru} (h : L.Pairwise ls) {i : Nat} (h0 : 0 < i) (hi : i < L.length) : lt (ga L (i - 1)).id (ga L i).id = true := by
  rw [List.pairwise_iff_getElem] at h
  rw [ga_at hi, ga_at (by omega)]
  exact h (i - 1) i (by omega) hi (by omega)

/-! ### where an id stands -/
def fd (L : List Ru) (s : ByteArray) : Int := Ide.fst (fun i => decide ((ga L i).id = s)) L.length
theorem fd_at {L : List Ru} {s : ByteArray} {k : Nat} (hk : k < L.length) (h : (ga L k).id = s) (hb : ∀ j, j < k → (ga L j).id ≠ s) : fd L s = k :=
  Ide.fst_at hk (decide_eq_true h) fun j hj => decide_eq_false (hb j hj)
theorem fd_none {L : List Ru} {s : ByteArray} (h : ∀ j, j < L.length → (ga L j).id ≠ s) : fd L s = -1 := Ide.fst_none fun j hj => decide_eq_false (h j hj)
theorem fd_some {L : List Ru} {s : ByteArray} (h : ∃ j, j < L.length ∧ (ga L j).id = s) : ∃ n : Nat, fd L s = n ∧ n < L.length ∧ (ga L n).id = s := by
  have hb := Ide.fst_bounds (fun i => decide ((ga L i).id = s)) L.length
  by_cases hn : fd L s < 0
  · obtain ⟨j, hj, e⟩ := h
    exact absurd (decide_eq_true e) (by rw [Ide.fst_neg hn j hj]; decide)
  · obtain ⟨j, hj, e⟩ := h
    -- the first of them
    have hex : ∃ n, n < L.length ∧ (ga L n).id = s ∧ ∀ k, k < n → (ga L k).id ≠ s := by
      clear hn hb
      induction j using Nat.strongRecOn with
      | _ j ih =>
        by_cases q : ∃ k, k < j ∧ (ga L k).id = s
        · obtain ⟨k, hk, ek⟩ := q
          exact ih k hk (by omega) ek
        · exact ⟨j, hj, e, fun k hk ek => q ⟨k, hk, ek⟩⟩
    obtain ⟨n, h1, h2, h3⟩ := hex
    exact ⟨n, fd_at h1 h2 h3, h1, h2⟩
theorem fd_scn {L : List Ru} (h : Rs L) {i : Nat} (hi : i < (scn L).length) : ∃ n : Nat, fd L (ga (scn L) i).id = n ∧ n < L.length ∧ (ga L n).id = (ga (scn L) i).id := by
  refine fd_some ?_
  have hm := (scn_perm h).mem_iff.1 (ga_mem hi)
  obtain ⟨q, hq, e⟩ := List.mem_map.1 hm
  obtain ⟨j, hj, rfl⟩ := mem_ga hq
  exact ⟨j, hj, by rw [← e, can_id (h.rt _ hq)]⟩
end Go.Proofs.YthkopnobekohcaaGreatDoor.Thr

namespace Go.Proofs.YthkopnobekohcaaGreatDoor.Mat
open Go.Proofs.YthkopnobekohcaaGreatDoor.Rou

/-- A part's text. -/
abbrev T := List UInt8
def st : T := [42]
def ss : T := [42, 42]
/-- Does x stand for y, or is it y? -/
def one (x y : T) : Bool := decide (x = st) || decide (x = y)
/-- The pattern of parts l matches the route of parts m. -/
def mt : List T → List T → Bool
  | [], m => decide (m = [])
  | x :: l, m => if x = ss then true else match m with
    | [] => false
    | y :: m => one x y && mt l m
/-- The pattern of parts l covers that of parts m. -/
def cv : List T → List T → Bool
  | [], m => decide (m = [])
  | x :: l, m => if x = ss then true else match m with
    | [] => false
    | y :: m => if y = ss then false else one x y && cv l m
/-- The patterns of parts l and m meet. -/
def me : List T → List T → Bool
  | [], [] => true
  | [], y :: _ => decide (y = ss)
  | x :: _, [] => decide (x = ss)
  | x :: l, y :: m => if x = ss ∨ y = ss then true else (decide (x = st) || decide (y = st) || decide (x = y)) && me l m
theorem mt_ss (l m : List T) : mt (ss :: l) m = true := by cases m <;> (unfold mt; rw [if_pos rfl])
theorem mt_nil {x : T} (l : List T) (h : x ≠ ss) : mt (x :: l) [] = false := by rw [mt, if_neg h]
theorem mt_cons {x : T} (l : List T) (y : T) (m : List T) (h : x ≠ ss) : mt (x :: l) (y :: m) = (one x y && mt l m) := by rw [mt, if_neg h]
theorem cv_ss (l m : List T) : cv (ss :: l) m = true := by cases m <;> (unfold cv; rw [if_pos rfl])
theorem cv_nil {x : T} (l : List T) (h : x ≠ ss) : cv (x :: l) [] = false := by rw [cv, if_neg h]
theorem cv_cons {x : T} (l : List T) (y : T) (m : List T) (h : x ≠ ss) : cv (x :: l) (y :: m) = if y = ss then false else one x y && cv l m := by rw [cv, if_neg h]
theorem one_iff {x y : T} : one x y = true ↔ x = st ∨ x = y := by unfold one; rw [Bool.or_eq_true, decide_eq_true_eq, decide_eq_true_eq]
theorem one_trans {x y z : T} (h1 : one x y = true) (h2 : one y z = true) : one x z = true := by
  rw [one_iff] at *
  rcases h1 with rfl | rfl
  · exact .inl rfl
  · exact h2
/-- What covers matches all that is matched by what it covers. -/
theorem cv_mt : ∀ (l m s : List T), cv l m = true → mt m s = true → mt l s = true
  | [], m, s, h1, h2 => by
    obtain rfl : m = [] := of_decide_eq_true h1
    exact h2
  | x :: l, m, s, h1, h2 => by
    by_cases hx : x = ss
    · rw [hx]; exact mt_ss l s
    · cases m with
      | nil => rw [cv_nil l hx] at h1; cases h1
      | cons y m =>
        rw [cv_cons l y m hx] at h1
        by_cases hy : y = ss
        · rw [if_pos hy] at h1; cases h1
        · rw [if_neg hy, Bool.and_eq_true] at h1
          cases s with
          | nil => rw [mt_nil m hy] at h2; cases h2
          | cons z s =>
            rw [mt_cons m z s hy, Bool.and_eq_true] at h2
            rw [mt_cons l z s hx, Bool.and_eq_true]
            exact ⟨one_trans h1.1 h2.1, cv_mt l m s h1.2 h2.2⟩
theorem cv_cv : ∀ (l m s : List T), cv l m = true → cv m s = true → cv l s = true
  | [], m, s, h1, h2 => by
    obtain rfl : m = [] := of_decide_eq_true h1
    exact h2
  | x :: l, m, s, h1, h2 => by
    by_cases hx : x = ss
    · rw [hx]; exact cv_ss l s
    · cases m with
      | nil => rw [cv_nil l hx] at h1; cases h1
      | cons y m =>
        rw [cv_cons l y m hx] at h1
        by_cases hy : y = ss
        · rw [if_pos hy] at h1; cases h1
        · rw [if_neg hy, Bool.and_eq_true] at h1
          cases s with
          | nil => rw [cv_nil m hy] at h2; cases h2
          | cons z s =>
            rw [cv_cons m z s hy] at h2
            rw [cv_cons l z s hx]
            by_cases hz : z = ss
            · rw [if_pos hz] at h2; cases h2
            · rw [if_neg hz, Bool.and_eq_true] at h2
              rw [if_neg hz, Bool.and_eq_true]
              exact ⟨one_trans h1.1 h2.1, cv_cv l m s h1.2 h2.2⟩
theorem one_self (x : T) : one x x = true := one_iff.2 (.inr rfl)
theorem cv_self : ∀ l : List T, cv l l = true
  | [] => rfl
  | x :: l => by
    by_cases hx : x = ss
    · rw [hx]; exact cv_ss l _
    · rw [cv_cons l x l hx, if_neg hx, one_self, cv_self l]; rfl
theorem mt_self : ∀ l : List T, mt l l = true
  | [] => rfl
  | x :: l => by
    by_cases hx : x = ss
    · rw [hx]; exact mt_ss l _
    · rw [mt_cons l x l hx, one_self, mt_self l]; rfl
theorem me_ssl (l m : List T) : me (ss :: l) m = true := by
  cases m with
  | nil => show decide (ss = ss) = true; exact decide_eq_true rfl
  | cons y m => rw [me, if_pos (.inl rfl)]
theorem me_ssr (l m : List T) : me l (ss :: m) = true := by
  cases l with
  | nil => show decide (ss = ss) = true; exact decide_eq_true rfl
  | cons y l => rw [me, if_pos (.inr rfl)]
theorem me_cons {x y : T} (l m : List T) (h1 : x ≠ ss) (h2 : y ≠ ss) : me (x :: l) (y :: m) = ((decide (x = st) || decide (y = st) || decide (x = y)) && me l m) := by
  rw [me, if_neg (fun h => h.elim h1 h2)]
theorem me_comm : ∀ l m : List T, me l m = me m l
  | [], [] => rfl
  | [], _ :: _ => rfl
  | _ :: _, [] => rfl
  | x :: l, y :: m => by
    by_cases h1 : x = ss
    · rw [h1, me_ssl, me_ssr]
    · by_cases h2 : y = ss
      · rw [h2, me_ssl, me_ssr]
      · rw [me_cons l m h1 h2, me_cons m l h2 h1, me_comm l m]
        congr 1
        rw [Bool.eq_iff_iff]
        simp only [Bool.or_eq_true, decide_eq_true_eq]
        constructor
        · rintro ((h | h) | h)
          · exact .inl (.inr h)
          · exact .inl (.inl h)
          · exact .inr h.symm
        · rintro ((h | h) | h)
          · exact .inl (.inr h)
          · exact .inl (.inl h)
          · exact .inr h.symm
/-- Patterns that match one route meet. -/
theorem mt_me : ∀ (l m s : List T), mt l s = true → mt m s = true → me l m = true
  | [], m, s, h1, h2 => by
    obtain rfl : s = [] := of_decide_eq_true h1
    cases m with
    | nil => rfl
    | cons y m =>
      by_cases hy : y = ss
      · rw [hy]; exact me_ssr _ _
      · rw [mt_nil m hy] at h2; cases h2
  | x :: l, m, s, h1, h2 => by
    by_cases hx : x = ss
    · rw [hx]; exact me_ssl l m
    · cases s with
      | nil => rw [mt_nil l hx] at h1; cases h1
      | cons z s =>
        rw [mt_cons l z s hx, Bool.and_eq_true] at h1
        cases m with
        | nil => cases h2
        | cons y m =>
          by_cases hy : y = ss
          · rw [hy]; exact me_ssr _ _
          · rw [mt_cons m z s hy, Bool.and_eq_true] at h2
            rw [me_cons l m hx hy, Bool.and_eq_true]
            refine ⟨?_, mt_me l m s h1.2 h2.2⟩
            have k1 := one_iff.1 h1.1
            have k2 := one_iff.1 h2.1
            simp only [Bool.or_eq_true, decide_eq_true_eq]
            rcases k1 with k1 | k1
            · exact .inl (.inl k1)
            · rcases k2 with k2 | k2
              · exact .inl (.inr k2)
              · exact .inr (k1.trans k2.symm)
/-- What covers another one meets it. -/
theorem cv_me : ∀ (l m : List T), cv l m = true → me l m = true
  | [], m, h => by
    obtain rfl : m = [] := of_decide_eq_true h
    rfl
  | x :: l, m, h => by
    by_cases hx : x = ss
    · rw [hx]; exact me_ssl l m
    · cases m with
      | nil => rw [cv_nil l hx] at h; cases h
      | cons y m =>
        rw [cv_cons l y m hx] at h
        by_cases hy : y = ss
        · rw [if_pos hy] at h; cases h
        · rw [if_neg hy, Bool.and_eq_true] at h
          rw [me_cons l m hx hy, Bool.and_eq_true]
          refine ⟨?_, cv_me l m h.2⟩
          simp only [Bool.or_eq_true, decide_eq_true_eq]
          rcases one_iff.1 h.1 with k | k
          · exact .inl (.inl k)
          · exact .inr k

/-! ### what both match -/
/-- A word for x. -/
def pk1 (x : T) : T := if x = st then [97] else x
/-- A word for both. -/
def pk (x y : T) : T := if x = st then pk1 y else x
/-- The parts of a route that both match. -/
def bt1 : List T → List T
  | [] => []
  | x :: l => if x = ss then [] else pk1 x :: bt1 l
def bt : List T → List T → List T
  | [], m => bt1 m
  | x :: l, [] => bt1 (x :: l)
  | x :: l, y :: m => if x = ss then bt1 (y :: m) else if y = ss then bt1 (x :: l) else pk x y :: bt l m
theorem pk1_one (x : T) : one x (pk1 x) = true := by
  rw [one_iff]; unfold pk1
  by_cases h : x = st
  · exact .inl h
  · rw [if_neg h]; exact .inr rfl
theorem mt_bt1 : ∀ l : List T, mt l (bt1 l) = true
  | [] => rfl
  | x :: l => by
    by_cases hx : x = ss
    · rw [hx]; exact mt_ss _ _
    · rw [bt1, if_neg hx, mt_cons _ _ _ hx, pk1_one, mt_bt1 l]; rfl
/-- Both match it, where they meet. -/
theorem mt_bt : ∀ (l m : List T), me l m = true → mt l (bt l m) = true ∧ mt m (bt l m) = true
  | [], m, h => by
    cases m with
    | nil => exact ⟨rfl, rfl⟩
    | cons y m =>
      obtain rfl : y = ss := of_decide_eq_true h
      refine ⟨?_, mt_bt1 _⟩
      show mt [] (bt1 (ss :: m)) = true
      rw [bt1, if_pos rfl]; rfl
  | x :: l, [], h => by
    obtain rfl : x = ss := of_decide_eq_true h
    refine ⟨mt_bt1 _, ?_⟩
    show mt [] (bt1 (ss :: l)) = true
    rw [bt1, if_pos rfl]; rfl
  | x :: l, y :: m, h => by
    by_cases hx : x = ss
    · rw [bt, if_pos hx]
      rw [hx]; exact ⟨mt_ss _ _, mt_bt1 _⟩
    · by_cases hy : y = ss
      · rw [bt, if_neg hx, if_pos hy]
        rw [hy]; exact ⟨mt_bt1 _, mt_ss _ _⟩
      · rw [me_cons l m hx hy, Bool.and_eq_true] at h
        rw [bt, if_neg hx, if_neg hy, mt_cons _ _ _ hx, mt_cons _ _ _ hy, (mt_bt l m h.2).1, (mt_bt l m h.2).2, Bool.and_true, Bool.and_true]
        have h1 := h.1
        simp only [Bool.or_eq_true, decide_eq_true_eq] at h1
        rw [one_iff, one_iff]
        unfold pk
        by_cases k : x = st
        · rw [if_pos k]
          exact ⟨.inl k, one_iff.1 (pk1_one y)⟩
        · rw [if_neg k]
          refine ⟨.inr rfl, ?_⟩
          rcases h1 with (h1 | h1) | h1
          · exact absurd h1 k
          · exact .inl h1
          · exact .inr h1.symm
/-- Words stay words. -/
theorem sg_pk1 {x : T} (h : sg x = true) : wd (pk1 x) = true := by
  unfold pk1
  unfold sg at h
  rw [Bool.or_eq_true, decide_eq_true_eq] at h
  by_cases k : x = st
  · rw [if_pos k]; decide
  · rw [if_neg k]
    rcases h with h | h
    · exact absurd h k
    · exact h
theorem sg_pk {x y : T} (hx : sg x = true) (hy : sg y = true) : wd (pk x y) = true := by
  unfold pk
  by_cases k : x = st
  · rw [if_pos k]; exact sg_pk1 hy
  · rw [if_neg k]
    have := sg_pk1 hx
    unfold pk1 at this
    rwa [if_neg k] at this
/-- The parts of a pattern: each a word or a star, two stars at the end alone. -/
def Pt (l : List T) : Prop := (inn l).all sg = true
theorem sg_ss : sg ss = false := by decide
theorem pt_cons {x : T} {l : List T} (h : Pt (x :: l)) : (x = ss ∧ l = []) ∨ (sg x = true ∧ x ≠ ss ∧ Pt l) := by
  unfold Pt inn at h
  cases l with
  | nil =>
    by_cases hx : x = ss
    · exact .inl ⟨hx, rfl⟩
    · rw [if_neg (fun q : [x].getLast? = some [42, 42] => hx (Option.some.inj q))] at h
      exact .inr ⟨by simpa using h, hx, by unfold Pt inn; rfl⟩
  | cons y l =>
    right
    rw [List.getLast?_cons_cons] at h
    by_cases hl : (y :: l).getLast? = some [42, 42]
    · rw [if_pos hl, List.dropLast_cons_cons, List.all_cons, Bool.and_eq_true] at h
      refine ⟨h.1, fun e => ?_, ?_⟩
      · rw [e, sg_ss] at h; cases h.1
      · unfold Pt inn; rw [if_pos hl]; exact h.2
    · rw [if_neg hl, List.all_cons, Bool.and_eq_true] at h
      refine ⟨h.1, fun e => ?_, ?_⟩
      · rw [e, sg_ss] at h; cases h.1
      · unfold Pt inn; rw [if_neg hl]; exact h.2
theorem wd_bt1 : ∀ l : List T, Pt l → (bt1 l).all wd = true
  | [], _ => rfl
  | x :: l, h => by
    rcases pt_cons h with ⟨rfl, rfl⟩ | ⟨h1, h2, h3⟩
    · rw [bt1, if_pos rfl]; rfl
    · rw [bt1, if_neg h2, List.all_cons, sg_pk1 h1, wd_bt1 l h3]; rfl
theorem wd_bt : ∀ l m : List T, Pt l → Pt m → (bt l m).all wd = true
  | [], m, _, h => wd_bt1 m h
  | x :: l, [], h, _ => wd_bt1 (x :: l) h
  | x :: l, y :: m, h, k => by
    rw [bt]
    by_cases hx : x = ss
    · rw [if_pos hx]; exact wd_bt1 _ k
    · rw [if_neg hx]
      by_cases hy : y = ss
      · rw [if_pos hy]; exact wd_bt1 _ h
      · rw [if_neg hy]
        rcases pt_cons h with ⟨h1, _⟩ | ⟨h1, _, h3⟩
        · exact absurd h1 hx
        · rcases pt_cons k with ⟨k1, _⟩ | ⟨k1, _, k3⟩
          · exact absurd k1 hy
          · rw [List.all_cons, sg_pk h1 k1, wd_bt l m h3 k3]; rfl

/-! ### what is joined is parted again -/
theorem wd_slash {p : T} (h : wd p = true) : (47 : UInt8) ∉ p := by
  intro q
  unfold wd at h
  rw [Bool.and_eq_true, List.all_eq_true] at h
  have := h.2 47 q
  exact absurd this (by decide)
theorem wd_ne {p : T} (h : wd p = true) : p ≠ [] := by
  unfold wd at h
  rw [Bool.and_eq_true, decide_eq_true_eq] at h
  exact h.1
theorem ps_sj : ∀ (p : T) (l : List T), wd p = true → l.all wd = true → ps (sj (p :: l)) = p :: l
  | p, [], h, _ => ps_one p (wd_slash h)
  | p, q :: l, h, k => by
    rw [List.all_cons, Bool.and_eq_true] at k
    show ps (p ++ 47 :: sj (q :: l)) = _
    rw [ps_cut _ _ (wd_slash h), ps_sj q l k.1 k.2]
theorem sj_ne {p : T} (l : List T) (h : wd p = true) : sj (p :: l) ≠ [] := by
  cases l with
  | nil => exact wd_ne h
  | cons q l => show p ++ 47 :: _ ≠ []; simp
/-- Words joined have these parts. -/
theorem prt_jP {l : List T} (h : l.all wd = true) : prt (jP l) = l := by
  cases l with
  | nil => rfl
  | cons p l =>
    rw [List.all_cons, Bool.and_eq_true] at h
    rw [jP_sj, prt_cons _ (sj_ne l h.1), ps_sj p l h.1 h.2]
theorem row_jP {l : List T} (h : l.all wd = true) : row (jP l) = (decide ((jP l).length ≤ 255) && decide (l.length ≤ 32)) := by
  cases l with
  | nil => rfl
  | cons p l =>
    rw [List.all_cons, Bool.and_eq_true] at h
    have hn := ps_len (sj (p :: l))
    rw [ps_sj p l h.1 h.2] at hn
    rw [jP_sj, Bool.eq_iff_iff]
    simp only [row, Bool.and_eq_true, decide_eq_true_eq, List.length_cons, true_and]
    simp only [List.length_cons] at hn
    omega
theorem isR_jP {l : List T} (h : l.all wd = true) : isR (jP l) = (decide ((jP l).length ≤ 255) && decide (l.length ≤ 32)) := by
  unfold isR
  rw [prt_jP h, h, Bool.and_true, row_jP h]

/-! ### how long it is -/
theorem jn_len_cons (p : T) (l : List T) : (jn (p :: l)).length = p.length + 1 + (jn l).length := by rw [jn_cons, List.length_cons, List.length_append]; omega
theorem pk1_len (x : T) : (pk1 x).length ≤ x.length + 0 ∨ x = st := by
  unfold pk1
  by_cases h : x = st
  · exact .inr h
  · rw [if_neg h]; exact .inl (Nat.le_refl _)
theorem pk1_le (x : T) : (pk1 x).length ≤ x.length := by
  unfold pk1
  by_cases h : x = st
  · rw [if_pos h, h]; decide
  · rw [if_neg h]; exact Nat.le_refl _
theorem bt1_len : ∀ l : List T, (jn (bt1 l)).length ≤ (jn l).length ∧ (bt1 l).length ≤ l.length
  | [] => ⟨Nat.le_refl _, Nat.le_refl _⟩
  | x :: l => by
    rw [bt1]
    by_cases hx : x = ss
    · rw [if_pos hx]; exact ⟨Nat.zero_le _, Nat.zero_le _⟩
    · rw [if_neg hx, jn_len_cons, jn_len_cons, List.length_cons, List.length_cons]
      have := bt1_len l
      have := pk1_le x
      omega
theorem bt_len : ∀ l m : List T, (jn (bt l m)).length ≤ (jn l).length + (jn m).length ∧ (bt l m).length ≤ max l.length m.length
  | [], m => by
    have := bt1_len m
    show (jn (bt1 m)).length ≤ _ ∧ (bt1 m).length ≤ _
    omega
  | x :: l, [] => by
    have := bt1_len (x :: l)
    show (jn (bt1 (x :: l))).length ≤ _ ∧ (bt1 (x :: l)).length ≤ _
    omega
  | x :: l, y :: m => by
    have h1 := bt1_len (x :: l)
    have h2 := bt1_len (y :: m)
    have h3 := bt_len l m
    rw [bt]
    split
    · omega
    · split
      · omega
      · rw [jn_len_cons, jn_len_cons, jn_len_cons, List.length_cons, List.length_cons, List.length_cons]
        have : (pk x y).length ≤ x.length + y.length := by
          unfold pk
          have := pk1_le y
          split <;> omega
        omega
end Go.Proofs.YthkopnobekohcaaGreatDoor.Mat

namespace Go.Proofs.YthkopnobekohcaaGreatDoor.Ord
open Go.Proofs.YthkopnobekohcaaGreatDoor.Rou Go.Proofs.YthkopnobekohcaaGreatDoor.Mat

/-! ### keys -/
/-- A part's digit. -/
def wg (x : T) : UInt8 := if x = st then 49 else if x = ss then 51 else 48
def ky (l : List T) : List UInt8 := l.map wg ++ [50]
def kyS (s : List UInt8) : List UInt8 := if patR s = true then ky (prt s) else []
def kyB (s : ByteArray) : ByteArray := ⟨(kyS s.data.toList).toArray⟩
theorem kyB_dt (s : ByteArray) : (kyB s).data.toList = kyS s.data.toList := by simp [kyB]
theorem ky_cons (x : T) (l : List T) : ky (x :: l) = wg x :: ky l := rfl
theorem ky_len (l : List T) : (ky l).length = l.length + 1 := by unfold ky; rw [List.length_append, List.length_map]; rfl
theorem kyS_len {s : List UInt8} : (kyS s).length ≤ 33 := by
  unfold kyS
  split
  · rename_i h
    unfold patR at h
    rw [Bool.and_eq_true] at h
    have := prt_len h.1
    rw [ky_len]; omega
  · exact Nat.zero_le _
/-- What covers another one has no lesser key. -/
theorem cv_ky : ∀ l m : List T, Pt l → Pt m → cv l m = true → ¬ ky l < ky m
  | [], m, _, _, h => by
    obtain rfl : m = [] := of_decide_eq_true h
    exact List.lt_irrefl _
  | x :: l, m, hl, hm, h => by
    rcases pt_cons hl with ⟨rfl, rfl⟩ | ⟨h1, h2, h3⟩
    · cases m with
      | nil => decide
      | cons y m =>
        rcases pt_cons hm with ⟨rfl, rfl⟩ | ⟨k1, k2, k3⟩
        · exact List.lt_irrefl _
        · show ¬ ((51 : UInt8) :: [50] < wg y :: ky m)
          intro q
          rw [List.cons_lt_cons_iff] at q
          unfold wg at q
          rw [if_neg k2] at q
          by_cases e : y = st
          · rw [if_pos e] at q; revert q; rintro (q | ⟨q, _⟩) <;> revert q <;> decide
          · rw [if_neg e] at q; revert q; rintro (q | ⟨q, _⟩) <;> revert q <;> decide
    · cases m with
      | nil => rw [cv_nil l h2] at h; cases h
      | cons y m =>
        rw [cv_cons l y m h2] at h
        by_cases hy : y = ss
        · rw [if_pos hy] at h; cases h
        · rw [if_neg hy, Bool.and_eq_true] at h
          rcases pt_cons hm with ⟨rfl, _⟩ | ⟨_, _, k3⟩
          · exact absurd rfl hy
          · have ih := cv_ky l m h3 k3 h.2
            intro q
            rw [ky_cons, ky_cons, List.cons_lt_cons_iff] at q
            rcases one_iff.1 h.1 with e | e
            · rcases q with q | ⟨_, q⟩
              · unfold wg at q
                rw [if_pos e, if_neg hy] at q
                by_cases e2 : y = st
                · rw [if_pos e2] at q; revert q; decide
                · rw [if_neg e2] at q; revert q; decide
              · exact ih q
            · subst e
              rcases q with q | ⟨_, q⟩
              · exact absurd q (UInt8.lt_irrefl _)
              · exact ih q
theorem key_cv {p q : ByteArray} (h1 : patR p.data.toList = true) (h2 : patR q.data.toList = true) (h : cv (prt p.data.toList) (prt q.data.toList) = true) : Ide.lt (kyB p) (kyB q) = false := by
  rw [Ide.lt_is, kyB_dt, kyB_dt]
  unfold kyS
  rw [if_pos h1, if_pos h2]
  unfold patR at h1 h2
  rw [Bool.and_eq_true] at h1 h2
  exact decide_eq_false (cv_ky _ _ h1.2 h2.2 h)

/-! ### ahead -/
/-- p stands ahead of q. -/
def ls (p q : ByteArray) : Bool := if kyB p = kyB q then Ide.lt p q else Ide.lt (kyB p) (kyB q)
theorem ls_irrefl (p : ByteArray) : ls p p = false := by unfold ls; rw [if_pos rfl]; exact Ide.lt_irrefl p
theorem ls_trans {p q s : ByteArray} (h : ls p q = true) (k : ls q s = true) : ls p s = true := by
  unfold ls at *
  by_cases e1 : kyB p = kyB q
  · rw [if_pos e1] at h
    by_cases e2 : kyB q = kyB s
    · rw [if_pos e2] at k
      rw [if_pos (e1.trans e2)]; exact Ide.lt_trans h k
    · rw [if_neg e2] at k
      rw [if_neg (fun e => e2 (e1.symm.trans e)), e1]; exact k
  · rw [if_neg e1] at h
    by_cases e2 : kyB q = kyB s
    · rw [if_neg (fun e => e1 (e.trans e2.symm)), ← e2]; exact h
    · rw [if_neg e2] at k
      have := Ide.lt_trans h k
      by_cases e3 : kyB p = kyB s
      · rw [e3, Ide.lt_irrefl] at this; cases this
      · rw [if_neg e3]; exact this
theorem ls_asymm {p q : ByteArray} (h : ls p q = true) : ls q p = false := by
  cases k : ls q p with
  | false => rfl
  | true => have := ls_trans h k; rw [ls_irrefl] at this; cases this
theorem ls_total {p q : ByteArray} (h : ls p q = false) (k : ls q p = false) : p = q := by
  unfold ls at *
  by_cases e : kyB p = kyB q
  · rw [if_pos e] at h; rw [if_pos e.symm] at k
    exact Ide.lt_total h k
  · rw [if_neg e] at h; rw [if_neg (fun q => e q.symm)] at k
    exact absurd (Ide.lt_total h k) e
/-- Of two texts just one stands ahead, if they are unlike. -/
theorem ls_one (p q : ByteArray) : (ls p q || ls q p) = decide (p ≠ q) := by
  by_cases e : p = q
  · subst e; rw [ls_irrefl]; simp
  · rw [decide_eq_true e]
    cases h : ls p q with
    | true => rfl
    | false =>
      cases k : ls q p with
      | true => rfl
      | false => exact absurd (ls_total h k) e
theorem ls_negtrans {p q s : ByteArray} (h : ls p q = false) (k : ls q s = false) : ls p s = false := by
  cases e : ls p s with
  | false => rfl
  | true =>
    cases h2 : ls q p with
    | true => rw [ls_trans h2 e] at k; cases k
    | false =>
      have := ls_total h h2
      subst this
      rw [e] at k; cases k

/-! ### the best one -/
def ga (l : List ByteArray) (k : Nat) : ByteArray := l.getD k ⟨#[]⟩
/-- The place of the best one of the first k of l that f takes, or -1. -/
def bs (f : ByteArray → Bool) (l : List ByteArray) : Nat → Int
  | 0 => -1
  | k + 1 => if (f (ga l k) && (decide (bs f l k < 0) || ls (ga l k) (ga l (bs f l k).toNat))) = true then (k : Int) else bs f l k
/-- b is the place of the best one of the first k, or -1. -/
def Bst (f : ByteArray → Bool) (l : List ByteArray) (k : Nat) (b : Int) : Prop :=
  (b = -1 ∧ ∀ j, j < k → f (ga l j) = false) ∨
  ∃ n : Nat, b = (n : Int) ∧ n < k ∧ f (ga l n) = true ∧ (∀ j, j < k → f (ga l j) = true → ls (ga l j) (ga l n) = false) ∧ ∀ j, j < n → f (ga l j) = true → ga l j ≠ ga l n
theorem bst_zero (f : ByteArray → Bool) (l : List ByteArray) : Bst f l 0 (-1) := .inl ⟨rfl, fun _ hj => absurd hj (Nat.not_lt_zero _)⟩
/-- One more that f does not take, or that does not stand ahead. -/
theorem bst_keep {f : ByteArray → Bool} {l : List ByteArray} {k : Nat} {b : Int} (h : Bst f l k b) (h2 : f (ga l k) = false ∨ (0 ≤ b ∧ ls (ga l k) (ga l b.toNat) = false)) : Bst f l (k + 1) b := by
  rcases h with ⟨rfl, h⟩ | ⟨n, rfl, hn, h3, h4, h5⟩
  · rcases h2 with h2 | ⟨h2, _⟩
    · refine .inl ⟨rfl, fun j hj => ?_⟩
      by_cases q : j < k
      · exact h j q
      · obtain rfl : j = k := by omega
        exact h2
    · omega
  · refine .inr ⟨n, rfl, by omega, h3, fun j hj hf => ?_, h5⟩
    by_cases q : j < k
    · exact h4 j q hf
    · obtain rfl : j = k := by omega
      rcases h2 with h2 | ⟨_, h2⟩
      · rw [h2] at hf; cases hf
      · exact h2
/-- One more that stands ahead. -/
theorem bst_next {f : ByteArray → Bool} {l : List ByteArray} {k : Nat} {b : Int} (h : Bst f l k b) (hf : f (ga l k) = true) (h2 : b < 0 ∨ ls (ga l k) (ga l b.toNat) = true) : Bst f l (k + 1) (k : Int) := by
  refine .inr ⟨k, rfl, by omega, hf, fun j hj hj2 => ?_, fun j hj hj2 e => ?_⟩
  · by_cases q : j < k
    · rcases h with ⟨_, h⟩ | ⟨n, rfl, hn, h3, h4, h5⟩
      · rw [h j q] at hj2; cases hj2
      · rcases h2 with h2 | h2
        · omega
        · exact ls_negtrans (h4 j q hj2) (ls_asymm h2)
    · obtain rfl : j = k := by omega
      exact ls_irrefl _
  · rcases h with ⟨_, h⟩ | ⟨n, rfl, hn, h3, h4, h5⟩
    · rw [h j hj] at hj2; cases hj2
    · rcases h2 with h2 | h2
      · omega
      · have := h4 j hj hj2
        rw [e] at this
        rw [show (n : Int).toNat = n from rfl] at h2
        rw [h2] at this; cases this
theorem bst_bs (f : ByteArray → Bool) (l : List ByteArray) : ∀ k, Bst f l k (bs f l k)
  | 0 => bst_zero f l
  | k + 1 => by
    have ih := bst_bs f l k
    unfold bs
    split
    · rename_i h
      rw [Bool.and_eq_true, Bool.or_eq_true, decide_eq_true_eq] at h
      exact bst_next ih h.1 h.2
    · rename_i h
      refine bst_keep ih ?_
      cases hf : f (ga l k) with
      | false => exact .inl rfl
      | true =>
        right
        rw [hf, Bool.true_and, Bool.or_eq_true, decide_eq_true_eq, not_or] at h
        exact ⟨by omega, by rw [Bool.not_eq_true] at h; exact h.2⟩
/-- There is but one. -/
theorem bst_one {f : ByteArray → Bool} {l : List ByteArray} {k : Nat} {b c : Int} (h : Bst f l k b) (h2 : Bst f l k c) : b = c := by
  rcases h with ⟨rfl, h⟩ | ⟨n, rfl, hn, h3, h4, h5⟩
  · rcases h2 with ⟨rfl, _⟩ | ⟨m, rfl, hm, k3, _, _⟩
    · rfl
    · rw [h m hm] at k3; cases k3
  · rcases h2 with ⟨rfl, k⟩ | ⟨m, rfl, hm, k3, k4, k5⟩
    · rw [k n hn] at h3; cases h3
    · have e := ls_total (h4 m hm k3) (k4 n hn h3)
      rcases Nat.lt_trichotomy n m with q | q | q
      · exact absurd e.symm (k5 n q h3)
      · rw [q]
      · exact absurd e (h5 m q k3)
theorem ga_rev {l : List ByteArray} {j : Nat} (h : j < l.length) : ga l.reverse j = ga l (l.length - 1 - j) := by
  unfold ga
  rw [List.getD_eq_getElem?_getD, List.getD_eq_getElem?_getD, List.getElem?_reverse h]
/-- The best one of the list turned about is the same text. -/
theorem bst_rev {f : ByteArray → Bool} {l : List ByteArray} {b c : Int} (h : Bst f l l.length b) (h2 : Bst f l.reverse l.length c) :
    (b = -1 ∧ c = -1) ∨ ∃ n m : Nat, b = (n : Int) ∧ c = (m : Int) ∧ n < l.length ∧ m < l.length ∧ f (ga l n) = true ∧ ga l.reverse m = ga l n ∧ ∀ j, j < l.length → f (ga l j) = true → ls (ga l j) (ga l n) = false := by
  rcases h with ⟨rfl, h⟩ | ⟨n, rfl, hn, h3, h4, h5⟩
  · rcases h2 with ⟨rfl, _⟩ | ⟨m, rfl, hm, k3, _, _⟩
    · exact .inl ⟨rfl, rfl⟩
    · rw [ga_rev hm, h _ (by omega)] at k3; cases k3
  · right
    rcases h2 with ⟨rfl, k⟩ | ⟨m, rfl, hm, k3, k4, k5⟩
    · have := k (l.length - 1 - n) (by omega)
      rw [ga_rev (by omega), show l.length - 1 - (l.length - 1 - n) = n by omega, h3] at this
      cases this
    · refine ⟨n, m, rfl, rfl, hn, hm, h3, ?_, h4⟩
      have e1 := h4 (l.length - 1 - m) (by omega) (by rw [← ga_rev hm]; exact k3)
      have e2 := k4 (l.length - 1 - n) (by omega) (by rw [ga_rev (by omega), show l.length - 1 - (l.length - 1 - n) = n by omega]; exact h3)
      rw [ga_rev (by omega), show l.length - 1 - (l.length - 1 - n) = n by omega] at e2
      rw [← ga_rev hm] at e1
      exact ls_total e1 e2
end Go.Proofs.YthkopnobekohcaaGreatDoor.Ord
