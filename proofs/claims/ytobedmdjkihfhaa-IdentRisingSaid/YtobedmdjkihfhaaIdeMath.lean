/- Plain facts of ids: which texts are ids; the order of texts by their bytes; the first place at which something holds; what is less in a rising row; no program. Conditions: as each theorem states. -/
import Derived.Test.YtobedmdjkihfhaaRows
import Derived.Lib.Strings
namespace Go.Proofs.Ytobedmdjkihfhaa.Ide

/-! ### ids -/
/-- A small letter. -/
def sm (n : Nat) : Bool := decide (97 ≤ n) && decide (n ≤ 122)
/-- What may stand behind the first byte. -/
def fo (n : Nat) : Bool := sm n || (decide (48 ≤ n) && decide (n ≤ 57)) || decide (n = 45) || decide (n = 95) || decide (n = 46)
def idL : List UInt8 → Bool
  | [] => false
  | c :: r => decide (r.length ≤ 63) && sm c.toNat && r.all fun d => fo d.toNat
theorem sm_fo {n : Nat} (h : sm n = true) : fo n = true := by unfold fo; rw [h]; rfl
theorem idL_iff (l : List UInt8) : idL l = true ↔ 1 ≤ l.length ∧ l.length ≤ 64 ∧ sm (l.getD 0 0).toNat = true ∧ ∀ j, 1 ≤ j → j < l.length → fo (l.getD j 0).toNat = true := by
  cases l with
  | nil => simp [idL]
  | cons c r =>
    unfold idL
    rw [Bool.and_eq_true, Bool.and_eq_true, decide_eq_true_eq, List.all_eq_true]
    simp only [List.length_cons, List.getD_cons_zero]
    constructor
    · rintro ⟨⟨h1, h2⟩, h3⟩
      refine ⟨by omega, by omega, h2, fun j hj hl => ?_⟩
      obtain ⟨k, rfl⟩ : ∃ k, j = k + 1 := ⟨j - 1, by omega⟩
      rw [List.getD_cons_succ, List.getD_eq_getElem?_getD, List.getElem?_eq_getElem (by omega)]
      exact h3 _ (List.getElem_mem _)
    · rintro ⟨_, h1, h2, h3⟩
      refine ⟨⟨by omega, h2⟩, fun d hd => ?_⟩
      obtain ⟨k, hk, rfl⟩ := List.getElem_of_mem hd
      have := h3 (k + 1) (by omega) (by omega)
      rwa [List.getD_cons_succ, List.getD_eq_getElem?_getD, List.getElem?_eq_getElem hk] at this
theorem id_digit {l : List UInt8} (h : idL l = true) : idL (l ++ [48]) = decide (l.length < 64) := by
  cases l with
  | nil => simp [idL] at h
  | cons c r =>
    unfold idL at h
    rw [Bool.and_eq_true, Bool.and_eq_true] at h
    show (decide ((r ++ [48]).length ≤ 63) && sm c.toNat && (r ++ [48]).all fun d => fo d.toNat) = _
    rw [List.all_append, h.2, h.1.2, List.length_append, List.length_cons]
    simp only [List.length_cons, List.length_nil, List.all_cons, List.all_nil]
    rw [show fo (48 : UInt8).toNat = true from rfl]
    simp
    omega
theorem id_first {l : List UInt8} : idL (48 :: l) = false := by
  show (decide (l.length ≤ 63) && sm (48 : UInt8).toNat && l.all fun d => fo d.toNat) = false
  rw [show sm (48 : UInt8).toNat = false from rfl]
  simp
theorem id_capital {l : List UInt8} (k : Nat) : idL (l.take k ++ 90 :: l.drop k) = false := by
  cases k with
  | zero =>
    show (decide (l.length ≤ 63) && sm (90 : UInt8).toNat && l.all fun d => fo d.toNat) = false
    rw [show sm (90 : UInt8).toNat = false from rfl]
    simp
  | succ k =>
    cases l with
    | nil =>
      show idL [90] = false
      rfl
    | cons c r =>
      show (decide ((r.take k ++ 90 :: r.drop k).length ≤ 63) && sm c.toNat && (r.take k ++ 90 :: r.drop k).all fun d => fo d.toNat) = false
      rw [List.all_append, List.all_cons, show fo (90 : UInt8).toNat = false from rfl]
      simp

/-! ### the first place at which something holds -/
def fst (p : Nat → Bool) (n : Nat) : Int := ((List.range n).find? p).elim (-1) fun i => (i : Int)
theorem fst_at {p : Nat → Bool} {n k : Nat} (hk : k < n) (h : p k = true) (hb : ∀ j, j < k → p j = false) : fst p n = k := by
  unfold fst
  have : (List.range n).find? p = some k := List.find?_range_eq_some.2 ⟨h, List.mem_range.2 hk, fun j hj => by rw [hb j hj]; rfl⟩
  rw [this]
  rfl
theorem fst_none {p : Nat → Bool} {n : Nat} (h : ∀ j, j < n → p j = false) : fst p n = -1 := by
  unfold fst
  have : (List.range n).find? p = none := List.find?_range_eq_none.2 fun j hj => by rw [h j hj]; rfl
  rw [this]
  rfl
theorem fst_neg {p : Nat → Bool} {n : Nat} (h : fst p n < 0) : ∀ j, j < n → p j = false := by
  unfold fst at h
  cases hf : (List.range n).find? p with
  | some i => rw [hf] at h; simp at h; omega
  | none =>
    intro j hj
    have := List.find?_range_eq_none.1 hf j hj
    simpa using this
theorem fst_bounds (p : Nat → Bool) (n : Nat) : -1 ≤ fst p n ∧ fst p n < max (n : Int) 0 := by
  unfold fst
  cases hf : (List.range n).find? p with
  | some i =>
    have := List.mem_range.1 (List.mem_of_find?_eq_some hf)
    simp
    omega
  | none => simp; omega

/-! ### the order of texts -/
def lt (a b : ByteArray) : Bool := Op.bytesLess a.toList b.toList
theorem less_eq : ∀ x y : List UInt8, Op.bytesLess x y = decide (x < y)
  | [], [] => by simp [Op.bytesLess]
  | _ :: _, [] => by simp [Op.bytesLess]
  | [], _ :: _ => by simp [Op.bytesLess]
  | a :: x, b :: y => by
    rw [Op.bytesLess, less_eq x y]
    simp only [List.cons_lt_cons_iff]
    by_cases h1 : a < b <;> by_cases h2 : a = b <;> by_cases h3 : x < y <;> simp [h1, h2, h3]
theorem lt_is (a b : ByteArray) : lt a b = decide (a.data.toList < b.data.toList) := by
  unfold lt
  rw [less_eq, Lib.toList_data, Lib.toList_data]
theorem lt_irrefl (a : ByteArray) : lt a a = false := by
  rw [lt_is]
  exact decide_eq_false (List.lt_irrefl _)
theorem lt_trans {a b c : ByteArray} (h : lt a b = true) (k : lt b c = true) : lt a c = true := by
  rw [lt_is, decide_eq_true_eq] at *
  exact List.lt_trans h k
theorem lt_asymm {a b : ByteArray} (h : lt a b = true) : lt b a = false := by
  cases k : lt b a with
  | false => rfl
  | true => have := lt_trans h k; rw [lt_irrefl] at this; cases this
theorem lt_total {a b : ByteArray} (h : lt a b = false) (k : lt b a = false) : a = b := by
  rw [lt_is, decide_eq_false_iff_not] at *
  exact ByteArray.ext (Array.toList_inj.1 (List.le_antisymm (List.not_lt.1 k) (List.not_lt.1 h)))
/-- '<=' as the model says it. -/
theorem le_is (a b : ByteArray) : (Op.bytesLess a.toList b.toList || a.toList == b.toList) = !lt b a := by
  show (lt a b || a.toList == b.toList) = !lt b a
  have he : (a.toList == b.toList) = decide (a = b) := by
    rw [Bool.eq_iff_iff, beq_iff_eq, decide_eq_true_eq, Lib.toList_data, Lib.toList_data]
    exact ⟨fun q => ByteArray.ext (Array.toList_inj.1 q), fun q => by rw [q]⟩
  rw [he]
  cases h : lt a b with
  | true => rw [lt_asymm h]; rfl
  | false =>
    cases k : lt b a with
    | true =>
      rw [decide_eq_false (fun q => by rw [q, lt_irrefl] at k; cases k)]
      rfl
    | false =>
      rw [decide_eq_true (lt_total h k)]
      rfl
theorem snoc_le : ∀ a b : List UInt8, a < b → ¬ b < a ++ [0]
  | [], [], h => fun _ => absurd h (List.lt_irrefl _)
  | [], c :: t, _ => by
    show ¬ (c :: t) < [0]
    rw [List.cons_lt_cons_iff]
    rintro (h | ⟨_, h⟩)
    · exact absurd h (by simp)
    · simp at h
  | x :: a, [], h => by simp at h
  | x :: a, y :: b, h => by
    rw [List.cons_lt_cons_iff] at h
    show ¬ (y :: b) < x :: (a ++ [0])
    rw [List.cons_lt_cons_iff]
    rcases h with h | ⟨rfl, h⟩
    · rintro (k | ⟨rfl, _⟩)
      · exact UInt8.lt_irrefl _ (UInt8.lt_trans h k)
      · exact UInt8.lt_irrefl _ h
    · rintro (k | ⟨_, k⟩)
      · exact UInt8.lt_irrefl _ k
      · exact snoc_le a b h k
theorem lt_snoc : ∀ a : List UInt8, a < a ++ [0]
  | [] => by simp
  | x :: a => by
    show (x :: a) < x :: (a ++ [0])
    rw [List.cons_lt_cons_iff]
    exact .inr ⟨rfl, lt_snoc a⟩
/-- A text with a zero byte behind it. -/
def z0 (a : ByteArray) : ByteArray := ⟨(a.data.toList ++ [0]).toArray⟩
theorem z0_lt (a : ByteArray) : lt a (z0 a) = true := by
  rw [lt_is, decide_eq_true_eq]
  simpa [z0] using lt_snoc a.data.toList
theorem z0_le {a b : ByteArray} (h : lt a b = true) : lt b (z0 a) = false := by
  rw [lt_is, decide_eq_true_eq] at h
  rw [lt_is, decide_eq_false_iff_not]
  simpa [z0] using snoc_le _ _ h

/-! ### rows -/
def ga (l : List ByteArray) (i : Nat) : ByteArray := l.getD i ⟨#[]⟩
/-- Does what stands at i stand ahead of it too? -/
def twAt (l : List ByteArray) (i : Nat) : Bool := (l.take i).any fun x => decide (x = ga l i)
def rsAt (l : List ByteArray) (i : Nat) : Bool := decide (1 ≤ i) && !lt (ga l (i - 1)) (ga l i)
def tw (l : List ByteArray) : Int := fst (twAt l) l.length
def rs (l : List ByteArray) : Int := fst (rsAt l) l.length
/-- How many stand at the row's beginning that are less than s. -/
def fn (l : List ByteArray) (s : ByteArray) : Nat := (l.takeWhile fun x => lt x s).length
def fi (l : List ByteArray) (s : ByteArray) : Bool := decide (fn l s < l.length ∧ ga l (fn l s) = s)
theorem fn_le (l : List ByteArray) (s : ByteArray) : fn l s ≤ l.length := (List.takeWhile_prefix _).length_le
theorem ga_mem {l : List ByteArray} {i : Nat} (h : i < l.length) : ga l i ∈ l := by
  unfold ga
  rw [List.getD_eq_getElem?_getD, List.getElem?_eq_getElem h]
  exact List.getElem_mem h
theorem fn_below {s : ByteArray} : ∀ {l : List ByteArray} {j : Nat}, j < fn l s → lt (ga l j) s = true
  | [], j, h => by simp [fn] at h
  | a :: l, j, h => by
    unfold fn at h
    rw [List.takeWhile_cons] at h
    cases ha : lt a s with
    | false => rw [ha] at h; simp at h
    | true =>
      cases j with
      | zero => exact ha
      | succ j =>
        rw [ha] at h
        simp only [if_true, List.length_cons] at h
        exact fn_below (l := l) (j := j) (by unfold fn; omega)
theorem fn_at {s : ByteArray} : ∀ {l : List ByteArray}, fn l s < l.length → lt (ga l (fn l s)) s = false
  | [], h => by simp at h
  | a :: l, h => by
    cases ha : lt a s with
    | false =>
      have : fn (a :: l) s = 0 := by unfold fn; rw [List.takeWhile_cons, ha]; rfl
      rw [this]
      exact ha
    | true =>
      have : fn (a :: l) s = fn l s + 1 := by unfold fn; rw [List.takeWhile_cons, ha]; rfl
      rw [this] at h ⊢
      exact fn_at (l := l) (by simpa using h)
theorem fn_is {l : List ByteArray} {s : ByteArray} {k : Nat} (hk : k ≤ l.length) (h1 : ∀ j, j < k → lt (ga l j) s = true) (h2 : k < l.length → lt (ga l k) s = false) : fn l s = k := by
  have h3 := fn_le l s
  rcases Nat.lt_trichotomy (fn l s) k with h | h | h
  · have := fn_at (l := l) (s := s) (by omega)
    rw [h1 _ h] at this
    cases this
  · exact h
  · have := fn_below h
    rw [h2 (by omega)] at this
    cases this
theorem rises {l : List ByteArray} (h : rs l < 0) : ∀ i j, i < j → j < l.length → lt (ga l i) (ga l j) = true := by
  have hst : ∀ i, i + 1 < l.length → lt (ga l i) (ga l (i + 1)) = true := by
    intro i hi
    have := fst_neg h (i + 1) hi
    unfold rsAt at this
    rw [decide_eq_true (by omega), Bool.true_and, Bool.not_eq_false'] at this
    simpa using this
  intro i j hij
  induction j with
  | zero => omega
  | succ j ih =>
    intro hj
    by_cases he : i = j
    · subst he; exact hst i hj
    · exact lt_trans (ih (by omega) (by omega)) (hst j hj)
/-- In a rising row: less up to a place, and not behind it. -/
theorem fn_head {l : List ByteArray} (h : rs l < 0) (s : ByteArray) : (∀ t, t < fn l s → lt (ga l t) s = true) ∧ ∀ t, fn l s ≤ t → t < l.length → lt (ga l t) s = false := by
  refine ⟨fun t ht => fn_below ht, fun t ht hl => ?_⟩
  have h1 := fn_at (l := l) (s := s) (by omega)
  rcases Nat.eq_or_lt_of_le ht with rfl | hlt
  · exact h1
  · cases h2 : lt (ga l t) s with
    | false => rfl
    | true =>
      have := lt_trans (rises h _ _ hlt hl) h2
      rw [h1] at this
      cases this
theorem fn_own {l : List ByteArray} (h : rs l < 0) {i : Nat} (hi : i < l.length) : fn l (ga l i) = i :=
  fn_is (by omega) (fun j hj => rises h j i hj hi) (fun _ => lt_irrefl _)
theorem fi_own {l : List ByteArray} (h : rs l < 0) {i : Nat} (hi : i < l.length) : fi l (ga l i) = true := by
  unfold fi
  rw [fn_own h hi]
  exact decide_eq_true ⟨hi, rfl⟩
theorem fn_z0 {l : List ByteArray} (h : rs l < 0) {i : Nat} (hi : i < l.length) : fn l (z0 (ga l i)) = i + 1 :=
  fn_is (by omega) (fun j hj => by
    by_cases he : j = i
    · subst he; exact z0_lt _
    · exact lt_trans (rises h j i (by omega) hi) (z0_lt _)) (fun hl => z0_le (rises h i (i + 1) (by omega) hl))
theorem fi_z0 {l : List ByteArray} (h : rs l < 0) {i : Nat} (hi : i < l.length) : fi l (z0 (ga l i)) = decide (i + 1 < l.length ∧ ga l (i + 1) = z0 (ga l i)) := by
  unfold fi
  rw [fn_z0 h hi]
theorem tw_none {l : List ByteArray} (h : rs l < 0) : tw l = -1 := by
  refine fst_none fun i hi => ?_
  unfold twAt
  rw [List.any_eq_false]
  intro x hx
  obtain ⟨k, hk, rfl⟩ := List.getElem_of_mem hx
  have hk2 : k < i := by rw [List.length_take] at hk; omega
  have := rises h k i hk2 hi
  rw [List.getElem_take]
  intro q
  have q := of_decide_eq_true q
  have e : ga l k = l[k]'(by omega) := by
    unfold ga
    rw [List.getD_eq_getElem?_getD, List.getElem?_eq_getElem (by omega)]
    rfl
  rw [e, q, lt_irrefl] at this
  cases this
end Go.Proofs.Ytobedmdjkihfhaa.Ide
