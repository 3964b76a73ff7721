/- Plain facts of routes: the parts of a row, words, patterns; what parts joined are; no program. Conditions: as each theorem states. -/
import Derived.Test.YtmlpgfjopkobbaaRows
import Derived.Lib.Strings
import Derived.Lib.Bytealg
namespace Go.Proofs.Ytmlpgfjopkobbaa.Rou

/-! ### parts -/
/-- A byte more at the first part's head. -/
def hd (c : UInt8) : List (List UInt8) → List (List UInt8)
  | [] => [[c]]
  | h :: t => (c :: h) :: t
/-- The parts of what stands behind a row's first byte. -/
def ps : List UInt8 → List (List UInt8)
  | [] => [[]]
  | c :: l => if c = 47 then [] :: ps l else hd c (ps l)
theorem ps_nil : ps [] = [[]] := rfl
theorem ps_slash (l : List UInt8) : ps (47 :: l) = [] :: ps l := by rw [ps, if_pos rfl]
theorem ps_plain {c : UInt8} (l : List UInt8) (h : c ≠ 47) : ps (c :: l) = hd c (ps l) := by rw [ps, if_neg h]
theorem ps_some (l : List UInt8) : ∃ h t, ps l = h :: t := by
  cases l with
  | nil => exact ⟨_, _, rfl⟩
  | cons c l =>
    by_cases h : c = 47
    · subst h; exact ⟨_, _, ps_slash l⟩
    · rw [ps_plain l h]
      cases ps l with
      | nil => exact ⟨_, _, rfl⟩
      | cons a b => exact ⟨_, _, rfl⟩
theorem ps_len (l : List UInt8) : (ps l).length = l.count 47 + 1 := by
  induction l with
  | nil => rfl
  | cons c l ih =>
    by_cases h : c = 47
    · subst h; rw [ps_slash, List.length_cons, ih, List.count_cons_self]
    · rw [ps_plain l h, List.count_cons_of_ne (by simpa using h), ← ih]
      obtain ⟨a, b, e⟩ := ps_some l
      rw [e]; rfl
/-- A text without a slash. -/
theorem ps_one : ∀ (l : List UInt8), (47 : UInt8) ∉ l → ps l = [l]
  | [], _ => rfl
  | c :: l, h => by
    rw [ps_plain l (fun e => h (by rw [e]; exact List.mem_cons_self)), ps_one l (fun e => h (List.mem_cons_of_mem _ e))]
    rfl
/-- A part, and what stands behind it. -/
theorem ps_cut : ∀ (a b : List UInt8), (47 : UInt8) ∉ a → ps (a ++ 47 :: b) = a :: ps b
  | [], b, _ => ps_slash b
  | c :: a, b, h => by
    rw [List.cons_append, ps_plain _ (fun e => h (by rw [e]; exact List.mem_cons_self)), ps_cut a b (fun e => h (List.mem_cons_of_mem _ e))]
    rfl
/-- A row behind a row. -/
theorem ps_app (a b : List UInt8) : ps (a ++ 47 :: b) = ps a ++ ps b := by
  induction a with
  | nil => exact ps_slash b
  | cons c a ih =>
    rw [List.cons_append]
    by_cases h : c = 47
    · subst h; rw [ps_slash, ps_slash, ih, List.cons_append]
    · rw [ps_plain _ h, ps_plain _ h, ih]
      obtain ⟨x, y, e⟩ := ps_some a
      rw [e]; rfl
/-- The last part with a byte more. -/
def tl1 (c : UInt8) (l : List (List UInt8)) : List (List UInt8) := l.dropLast ++ [(l.getLast?.getD []) ++ [c]]
theorem ps_snoc_slash (l : List UInt8) : ps (l ++ [47]) = ps l ++ [[]] := by
  have := ps_app l []
  rwa [ps_nil] at this
theorem ps_snoc {c : UInt8} (l : List UInt8) (h : c ≠ 47) : ps (l ++ [c]) = tl1 c (ps l) := by
  induction l with
  | nil => rw [List.nil_append, ps_plain [] h]; rfl
  | cons d l ih =>
    rw [List.cons_append]
    obtain ⟨x, y, e⟩ := ps_some l
    by_cases hd0 : d = 47
    · subst hd0
      rw [ps_slash, ps_slash, ih, e]
      rfl
    · rw [ps_plain _ hd0, ps_plain _ hd0, ih, e]
      cases y with
      | nil => rfl
      | cons u v => rfl
/-- Each part stands in the text. -/
theorem ps_size : ∀ (l : List UInt8), ∀ p ∈ ps l, p.length ≤ l.length
  | [], p, h => by rw [ps_nil, List.mem_singleton] at h; rw [h]; exact Nat.le_refl _
  | c :: l, p, h => by
    have ih := ps_size l
    by_cases hc : c = 47
    · subst hc
      rw [ps_slash] at h
      rcases List.mem_cons.1 h with rfl | h
      · exact Nat.zero_le _
      · have := ih p h; rw [List.length_cons]; omega
    · rw [ps_plain l hc] at h
      obtain ⟨x, y, e⟩ := ps_some l
      rw [e] at h ih
      rcases List.mem_cons.1 h with rfl | h
      · have := ih x List.mem_cons_self; rw [List.length_cons, List.length_cons]; omega
      · have := ih p (List.mem_cons_of_mem _ h); rw [List.length_cons]; omega

/-! ### joined -/
/-- Each part behind a slash. -/
def jn (l : List (List UInt8)) : List UInt8 := l.flatMap fun p => 47 :: p
theorem jn_cons (p : List UInt8) (l : List (List UInt8)) : jn (p :: l) = 47 :: (p ++ jn l) := by
  unfold jn; rw [List.flatMap_cons]; rfl
theorem jn_app (a b : List (List UInt8)) : jn (a ++ b) = jn a ++ jn b := List.flatMap_append
theorem jn_ps (l : List UInt8) : jn (ps l) = 47 :: l := by
  induction l with
  | nil => rfl
  | cons c l ih =>
    by_cases h : c = 47
    · subst h; rw [ps_slash, jn_cons, ih]; rfl
    · rw [ps_plain l h]
      obtain ⟨x, y, e⟩ := ps_some l
      rw [e] at ih ⊢
      rw [jn_cons] at ih
      show jn ((c :: x) :: y) = _
      rw [jn_cons, List.cons_append, (List.cons_inj_right _).1 ih]
/-- The parts l joined, as the document has it. -/
def jP (l : List (List UInt8)) : List UInt8 := if l = [] then [47] else jn l
/-- The parts l with a slash between two. -/
def sj : List (List UInt8) → List UInt8
  | [] => []
  | [p] => p
  | p :: q :: l => p ++ 47 :: sj (q :: l)
theorem jP_sj (l : List (List UInt8)) : jP l = 47 :: sj l := by
  cases l with
  | nil => rfl
  | cons p l =>
    unfold jP
    rw [if_neg (List.cons_ne_nil _ _)]
    induction l generalizing p with
    | nil => rw [jn_cons]; simp [jn, sj]
    | cons q l ih => rw [jn_cons, ih q]; rfl

/-! ### rows -/
/-- The parts of a row. -/
def prt : List UInt8 → List (List UInt8)
  | [] => []
  | _ :: l => if l = [] then [] else ps l
def row : List UInt8 → Bool
  | [] => false
  | c :: l => decide (c = 47) && decide (l.length ≤ 254) && decide (l.count 47 ≤ 31)
theorem row_iff {s : List UInt8} : row s = true ↔ ∃ l, s = 47 :: l ∧ l.length ≤ 254 ∧ l.count 47 ≤ 31 := by
  cases s with
  | nil => simp [row]
  | cons c l =>
    simp only [row, Bool.and_eq_true, decide_eq_true_eq, List.cons.injEq]
    constructor
    · rintro ⟨⟨h1, h2⟩, h3⟩; exact ⟨l, ⟨h1, rfl⟩, h2, h3⟩
    · rintro ⟨m, ⟨h1, rfl⟩, h2, h3⟩; exact ⟨⟨h1, h2⟩, h3⟩
theorem prt_cons (c : UInt8) {l : List UInt8} (h : l ≠ []) : prt (c :: l) = ps l := by
  show (if l = [] then [] else ps l) = _
  rw [if_neg h]
theorem prt_len {s : List UInt8} (h : row s = true) : (prt s).length ≤ 32 := by
  obtain ⟨l, rfl, _, h3⟩ := row_iff.1 h
  by_cases hl : l = []
  · subst hl; exact Nat.zero_le _
  · rw [prt_cons _ hl, ps_len]; omega
/-- The parts of a row are joined to it again. -/
theorem back {s : List UInt8} (h : row s = true) : jP (prt s) = s := by
  obtain ⟨l, rfl, _, _⟩ := row_iff.1 h
  by_cases hl : l = []
  · subst hl; rfl
  · rw [prt_cons _ hl]
    unfold jP
    obtain ⟨x, y, e⟩ := ps_some l
    rw [if_neg (by rw [e]; exact List.cons_ne_nil _ _), jn_ps]

/-! ### words -/
def inW (n : Nat) : Bool := decide (n = 45) || decide (n = 95) || decide (n = 46) || decide (n = 126) || decide (n = 37) || (decide (97 ≤ n) && decide (n ≤ 122)) || (decide (65 ≤ n) && decide (n ≤ 90)) || (decide (48 ≤ n) && decide (n ≤ 57))
def wd (p : List UInt8) : Bool := decide (p ≠ []) && p.all fun c => inW c.toNat
/-- A word or a star. -/
def sg (p : List UInt8) : Bool := decide (p = [42]) || wd p
/-- All parts but two stars at the end. -/
def inn (l : List (List UInt8)) : List (List UInt8) := if l.getLast? = some [42, 42] then l.dropLast else l
def isR (s : List UInt8) : Bool := row s && (prt s).all wd
def patR (s : List UInt8) : Bool := row s && (inn (prt s)).all sg
def preR (p s : List UInt8) : Bool := row p && row s && (prt p).isPrefixOf (prt s)
theorem all_inn {l : List (List UInt8)} (h : l.all wd = true) : (inn l).all sg = true := by
  have h2 : l.all sg = true := by
    rw [List.all_eq_true] at h ⊢
    intro x hx
    unfold sg
    rw [h x hx, Bool.or_true]
  unfold inn
  split
  · rw [List.all_eq_true] at h2 ⊢
    exact fun x hx => h2 x (List.dropLast_subset _ hx)
  · exact h2
/-- Each route is a pattern. -/
theorem is_pat {s : List UInt8} (h : isR s = true) : patR s = true := by
  unfold isR at h; unfold patR
  rw [Bool.and_eq_true] at h ⊢
  exact ⟨h.1, all_inn h.2⟩
theorem pre_own {s : List UInt8} (h : row s = true) : preR s s = true := by
  unfold preR
  rw [h, List.isPrefixOf_iff_prefix.2 List.prefix_rfl]; rfl
theorem pre_root {s : List UInt8} (h : row s = true) : preR [47] s = true := by
  unfold preR
  rw [h, show row [47] = true from by decide, show prt [47] = [] from rfl]; rfl
theorem no_row {s : List UInt8} (h : row s = false) : isR s = false ∧ patR s = false ∧ preR s s = false := by
  unfold isR patR preR; rw [h]; exact ⟨rfl, rfl, rfl⟩

/-! ### a route with a word behind it -/
theorem grow {l m : List UInt8} (hl : l ≠ []) (hm : m ≠ []) (h1 : isR (47 :: l) = true) (h2 : isR (47 :: m) = true) :
    isR (47 :: l ++ 47 :: m) = decide ((47 :: l ++ 47 :: m).length ≤ 255 ∧ (prt (47 :: l)).length + (prt (47 :: m)).length ≤ 32) ∧
    preR (47 :: l) (47 :: l ++ 47 :: m) = decide ((47 :: l ++ 47 :: m).length ≤ 255 ∧ (prt (47 :: l)).length + (prt (47 :: m)).length ≤ 32) ∧
    preR (47 :: l ++ 47 :: m) (47 :: l) = false := by
  have e1 : prt (47 :: l) = ps l := prt_cons _ hl
  have e2 : prt (47 :: m) = ps m := prt_cons _ hm
  have e3 : prt (47 :: l ++ 47 :: m) = ps l ++ ps m := by
    show prt (47 :: (l ++ 47 :: m)) = _
    rw [prt_cons _ (by simp), ps_app]
  have hr : row (47 :: l ++ 47 :: m) = decide ((47 :: l ++ 47 :: m).length ≤ 255 ∧ (ps l).length + (ps m).length ≤ 32) := by
    show row (47 :: (l ++ 47 :: m)) = _
    rw [Bool.eq_iff_iff]
    simp only [row, Bool.and_eq_true, decide_eq_true_eq, List.length_append, List.length_cons, List.count_append, List.count_cons_self, ps_len, List.cons_append]
    rw [true_and]
    omega
  unfold isR at h1 h2
  rw [Bool.and_eq_true, e1] at h1
  rw [Bool.and_eq_true, e2] at h2
  rw [e1, e2]
  refine ⟨?_, ?_, ?_⟩
  · unfold isR
    rw [e3, List.all_append, h1.2, h2.2, hr]; simp
  · unfold preR
    rw [e3, e1, h1.1, List.isPrefixOf_iff_prefix.2 (List.prefix_append _ _), hr]; simp
  · unfold preR
    rw [e3, e1]
    have hn : (ps l ++ ps m).isPrefixOf (ps l) = false := by
      rw [Bool.eq_false_iff]
      intro h
      have := (List.isPrefixOf_iff_prefix.1 h).length_le
      obtain ⟨x, y, e⟩ := ps_some m
      rw [List.length_append, e, List.length_cons] at this
      omega
    rw [hn, Bool.and_false]

/-! ### the library's IndexByte -/
theorem ix_some : ∀ (a b : List UInt8), (47 : UInt8) ∉ a → Go.Lib.indexByte (a ++ 47 :: b) 47 = (a.length : Int)
  | [], b, _ => rfl
  | c :: a, b, h => by
    have hc : (c == 47) = false := beq_eq_false_iff_ne.2 fun e => h (by rw [e]; exact List.mem_cons_self)
    have ih := ix_some a b fun e => h (List.mem_cons_of_mem _ e)
    show (if c == 47 then 0 else if Go.Lib.indexByte (a ++ 47 :: b) 47 == -1 then -1 else Go.Lib.indexByte (a ++ 47 :: b) 47 + 1) = _
    rw [hc, if_neg (by decide), ih, if_neg (by rw [beq_iff_eq]; omega)]
    rfl
theorem ix_none : ∀ (l : List UInt8), (47 : UInt8) ∉ l → Go.Lib.indexByte l 47 = -1
  | [], _ => rfl
  | c :: l, h => by
    have hc : (c == 47) = false := beq_eq_false_iff_ne.2 fun e => h (by rw [e]; exact List.mem_cons_self)
    have ih := ix_none l fun e => h (List.mem_cons_of_mem _ e)
    show (if c == 47 then 0 else if Go.Lib.indexByte l 47 == -1 then -1 else Go.Lib.indexByte l 47 + 1) = _
    rw [hc, if_neg (by decide), ih]
    rfl
theorem parted (l : List UInt8) (h : (47 : UInt8) ∈ l) : ∃ a b, l = a ++ 47 :: b ∧ (47 : UInt8) ∉ a := by
  induction l with
  | nil => cases h
  | cons c l ih =>
    by_cases hc : c = 47
    · subst hc
      exact ⟨[], l, rfl, by simp⟩
    · obtain ⟨a, b, rfl, h2⟩ := ih (by rcases List.mem_cons.1 h with e | e; exact absurd e.symm hc; exact e)
      refine ⟨c :: a, b, rfl, ?_⟩
      rw [List.mem_cons]; rintro (e | e)
      · exact hc e.symm
      · exact h2 e
end Go.Proofs.Ytmlpgfjopkobbaa.Rou
