/- Plain facts of routes: the parts of a row, words, patterns; what parts joined are; no program. Conditions: as each theorem states. · Plain facts of patterns by their parts: which routes they match, which they cover, which they meet; the parts of what is joined. Conditions: as each theorem states. -/
import Derived.Test.YtnhiloikficigaaRows
import Derived.Lib.Strings
import Derived.Lib.Bytealg
namespace Go.Proofs.Ytnhiloikficigaa.Rou

/-! ### parts -/
/-- A byte more at the first part's head. -/
def hd (c : UInt8) : List (List UInt8) → List (List UInt8)
  | [] => [[c]]
  | h :: t => (c :: h) :: t
/-- The parts of what stands behind a row's first byte. -/
def ps : List UInt8 → List (List UInt8)
  | [] => [[]]
  | c :: l => if c = 47 then [] :: ps l else hd c (ps l)
theorem ps_nil : ps [] = [[]] := rfl
theorem ps_slash (l : List UInt8) : ps (47 :: l) = [] :: ps l := by rw [ps, if_pos rfl]
theorem ps_plain {c : UInt8} (l : List UInt8) (h : c ≠ 47) : ps (c :: l) = hd c (ps l) := by rw [ps, if_neg h]
theorem ps_some (l : List UInt8) : ∃ h t, ps l = h :: t := by
  cases l with
  | nil => exact ⟨_, _, rfl⟩
  | cons c l =>
    by_cases h : c = 47
    · subst h; exact ⟨_, _, ps_slash l⟩
    · rw [ps_plain l h]
      cases ps l with
      | nil => exact ⟨_, _, rfl⟩
      | cons a b => exact ⟨_, _, rfl⟩
theorem ps_len (l : List UInt8) : (ps l).length = l.count 47 + 1 := by
  induction l with
  | nil => rfl
  | cons c l ih =>
    by_cases h : c = 47
    · subst h; rw [ps_slash, List.length_cons, ih, List.count_cons_self]
    · rw [ps_plain l h, List.count_cons_of_ne (by simpa using h), ← ih]
      obtain ⟨a, b, e⟩ := ps_some l
      rw [e]; rfl
/-- A text without a slash. -/
theorem ps_one : ∀ (l : List UInt8), (47 : UInt8) ∉ l → ps l = [l]
  | [], _ => rfl
  | c :: l, h => by
    rw [ps_plain l (fun e => h (by rw [e]; exact List.mem_cons_self)), ps_one l (fun e => h (List.mem_cons_of_mem _ e))]
    rfl
/-- A part, and what stands behind it. -/
theorem ps_cut : ∀ (a b : List UInt8), (47 : UInt8) ∉ a → ps (a ++ 47 :: b) = a :: ps b
  | [], b, _ => ps_slash b
  | c :: a, b, h => by
    rw [List.cons_append, ps_plain _ (fun e => h (by rw [e]; exact List.mem_cons_self)), ps_cut a b (fun e => h (List.mem_cons_of_mem _ e))]
    rfl
/-- A row behind a row. -/
theorem ps_app (a b : List UInt8) : ps (a ++ 47 :: b) = ps a ++ ps b := by
  induction a with
  | nil => exact ps_slash b
  | cons c a ih =>
    rw [List.cons_append]
    by_cases h : c = 47
    · subst h; rw [ps_slash, ps_slash, ih, List.cons_append]
    · rw [ps_plain _ h, ps_plain _ h, ih]
      obtain ⟨x, y, e⟩ := ps_some a
      rw [e]; rfl
/-- The last part with a byte more. -/
def tl1 (c : UInt8) (l : List (List UInt8)) : List (List UInt8) := l.dropLast ++ [(l.getLast?.getD []) ++ [c]]
theorem ps_snoc_slash (l : List UInt8) : ps (l ++ [47]) = ps l ++ [[]] := by
  have := ps_app l []
  rwa [ps_nil] at this
theorem ps_snoc {c : UInt8} (l : List UInt8) (h : c ≠ 47) : ps (l ++ [c]) = tl1 c (ps l) := by
  induction l with
  | nil => rw [List.nil_append, ps_plain [] h]; rfl
  | cons d l ih =>
    rw [List.cons_append]
    obtain ⟨x, y, e⟩ := ps_some l
    by_cases hd0 : d = 47
    · subst hd0
      rw [ps_slash, ps_slash, ih, e]
      rfl
    · rw [ps_plain _ hd0, ps_plain _ hd0, ih, e]
      cases y with
      | nil => rfl
      | cons u v => rfl
/-- Each part stands in the text. -/
theorem ps_size : ∀ (l : List UInt8), ∀ p ∈ ps l, p.length ≤ l.length
  | [], p, h => by rw [ps_nil, List.mem_singleton] at h; rw [h]; exact Nat.le_refl _
  | c :: l, p, h => by
    have ih := ps_size l
    by_cases hc : c = 47
    · subst hc
      rw [ps_slash] at h
      rcases List.mem_cons.1 h with rfl | h
      · exact Nat.zero_le _
      · have := ih p h; rw [List.length_cons]; omega
    · rw [ps_plain l hc] at h
      obtain ⟨x, y, e⟩ := ps_some l
      rw [e] at h ih
      rcases List.mem_cons.1 h with rfl | h
      · have := ih x List.mem_cons_self; rw [List.length_cons, List.length_cons]; omega
      · have := ih p (List.mem_cons_of_mem _ h); rw [List.length_cons]; omega

/-! ### joined -/
/-- Each part behind a slash. -/
def jn (l : List (List UInt8)) : List UInt8 := l.flatMap fun p => 47 :: p
theorem jn_cons (p : List UInt8) (l : List (List UInt8)) : jn (p :: l) = 47 :: (p ++ jn l) := by
  unfold jn; rw [List.flatMap_cons]; rfl
theorem jn_app (a b : List (List UInt8)) : jn (a ++ b) = jn a ++ jn b := List.flatMap_append
theorem jn_ps (l : List UInt8) : jn (ps l) = 47 :: l := by
  induction l with
  | nil => rfl
  | cons c l ih =>
    by_cases h : c = 47
    · subst h; rw [ps_slash, jn_cons, ih]; rfl
    · rw [ps_plain l h]
      obtain ⟨x, y, e⟩ := ps_some l
      rw [e] at ih ⊢
      rw [jn_cons] at ih
      show jn ((c :: x) :: y) = _
      rw [jn_cons, List.cons_append, (List.cons_inj_right _).1 ih]
/-- The parts l joined, as the document has it. -/
def jP (l : List (List UInt8)) : List UInt8 := if l = [] then [47] else jn l
/-- The parts l with a slash between two. -/
def sj : List (List UInt8) → List UInt8
  | [] => []
  | [p] => p
  | p :: q :: l => p ++ 47 :: sj (q :: l)
theorem jP_sj (l : List (List UInt8)) : jP l = 47 :: sj l := by
  cases l with
  | nil => rfl
  | cons p l =>
    unfold jP
    rw [if_neg (List.cons_ne_nil _ _)]
    induction l generalizing p with
    | nil => rw [jn_cons]; simp [jn, sj]
    | cons q l ih => rw [jn_cons, ih q]; rfl

/-! ### rows -/
/-- The parts of a row. -/
def prt : List UInt8 → List (List UInt8)
  | [] => []
  | _ :: l => if l = [] then [] else ps l
def row : List UInt8 → Bool
  | [] => false
  | c :: l => decide (c = 47) && decide (l.length ≤ 254) && decide (l.count 47 ≤ 31)
theorem row_iff {s : List UInt8} : row s = true ↔ ∃ l, s = 47 :: l ∧ l.length ≤ 254 ∧ l.count 47 ≤ 31 := by
  cases s with
  | nil => simp [row]
  | cons c l =>
    simp only [row, Bool.and_eq_true, decide_eq_true_eq, List.cons.injEq]
    constructor
    · rintro ⟨⟨h1, h2⟩, h3⟩; exact ⟨l, ⟨h1, rfl⟩, h2, h3⟩
    · rintro ⟨m, ⟨h1, rfl⟩, h2, h3⟩; exact ⟨⟨h1, h2⟩, h3⟩
theorem prt_cons (c : UInt8) {l : List UInt8} (h : l ≠ []) : prt (c :: l) = ps l := by
  show (if l = [] then [] else ps l) = _
  rw [if_neg h]
theorem prt_len {s : List UInt8} (h : row s = true) : (prt s).length ≤ 32 := by
  obtain ⟨l, rfl, _, h3⟩ := row_iff.1 h
  by_cases hl : l = []
  · subst hl; exact Nat.zero_le _
  · rw [prt_cons _ hl, ps_len]; omega
/-- The parts of a row are joined to it again. -/
theorem back {s : List UInt8} (h : row s = true) : jP (prt s) = s := by
  obtain ⟨l, rfl, _, _⟩ := row_iff.1 h
  by_cases hl : l = []
  · subst hl; rfl
  · rw [prt_cons _ hl]
    unfold jP
    obtain ⟨x, y, e⟩ := ps_some l
    rw [if_neg (by rw [e]; exact List.cons_ne_nil _ _), jn_ps]

/-! ### words -/
def inW (n : Nat) : Bool := decide (n = 45) || decide (n = 95) || decide (n = 46) || decide (n = 126) || decide (n = 37) || (decide (97 ≤ n) && decide (n ≤ 122)) || (decide (65 ≤ n) && decide (n ≤ 90)) || (decide (48 ≤ n) && decide (n ≤ 57))
def wd (p : List UInt8) : Bool := decide (p ≠ []) && p.all fun c => inW c.toNat
/-- A word or a star. -/
def sg (p : List UInt8) : Bool := decide (p = [42]) || wd p
/-- All parts but two stars at the end. -/
def inn (l : List (List UInt8)) : List (List UInt8) := if l.getLast? = some [42, 42] then l.dropLast else l
def isR (s : List UInt8) : Bool := row s && (prt s).all wd
def patR (s : List UInt8) : Bool := row s && (inn (prt s)).all sg
def preR (p s : List UInt8) : Bool := row p && row s && (prt p).isPrefixOf (prt s)
theorem all_inn {l : List (List UInt8)} (h : l.all wd = true) : (inn l).all sg = true := by
  have h2 : l.all sg = true := by
    rw [List.all_eq_true] at h ⊢
    intro x hx
    unfold sg
    rw [h x hx, Bool.or_true]
  unfold inn
  split
  · rw [List.all_eq_true] at h2 ⊢
    exact fun x hx => h2 x (List.dropLast_subset _ hx)
  · exact h2
/-- Each route is a pattern. -/
theorem is_pat {s : List UInt8} (h : isR s = true) : patR s = true := by
  unfold isR at h; unfold patR
  rw [Bool.and_eq_true] at h ⊢
  exact ⟨h.1, all_inn h.2⟩
theorem pre_own {s : List UInt8} (h : row s = true) : preR s s = true := by
  unfold preR
  rw [h, List.isPrefixOf_iff_prefix.2 List.prefix_rfl]; rfl
theorem pre_root {s : List UInt8} (h : row s = true) : preR [47] s = true := by
  unfold preR
  rw [h, show row [47] = true from by decide, show prt [47] = [] from rfl]; rfl
theorem no_row {s : List UInt8} (h : row s = false) : isR s = false ∧ patR s = false ∧ preR s s = false := by
  unfold isR patR preR; rw [h]; exact ⟨rfl, rfl, rfl⟩

/-! ### a route with a word behind it -/
theorem grow {l m : List UInt8} (hl : l ≠ []) (hm : m ≠ []) (h1 : isR (47 :: l) = true) (h2 : isR (47 :: m) = true) :
    isR (47 :: l ++ 47 :: m) = decide ((47 :: l ++ 47 :: m).length ≤ 255 ∧ (prt (47 :: l)).length + (prt (47 :: m)).length ≤ 32) ∧
    preR (47 :: l) (47 :: l ++ 47 :: m) = decide ((47 :: l ++ 47 :: m).length ≤ 255 ∧ (prt (47 :: l)).length + (prt (47 :: m)).length ≤ 32) ∧
    preR (47 :: l ++ 47 :: m) (47 :: l) = false := by
  have e1 : prt (47 :: l) = ps l := prt_cons _ hl
  have e2 : prt (47 :: m) = ps m := prt_cons _ hm
  have e3 : prt (47 :: l ++ 47 :: m) = ps l ++ ps m := by
    show prt (47 :: (l ++ 47 :: m)) = _
    rw [prt_cons _ (by simp), ps_app]
  have hr : row (47 :: l ++ 47 :: m) = decide ((47 :: l ++ 47 :: m).length ≤ 255 ∧ (ps l).length + (ps m).length ≤ 32) := by
    show row (47 :: (l ++ 47 :: m)) = _
    rw [Bool.eq_iff_iff]
    simp only [row, Bool.and_eq_true, decide_eq_true_eq, List.length_append, List.length_cons, List.count_append, List.count_cons_self, ps_len, List.cons_append]
    rw [true_and]
    omega
  unfold isR at h1 h2
  rw [Bool.and_eq_true, e1] at h1
  rw [Bool.and_eq_true, e2] at h2
  rw [e1, e2]
  refine ⟨?_, ?_, ?_⟩
  · unfold isR
    rw [e3, List.all_append, h1.2, h2.2, hr]; simp
  · unfold preR
    rw [e3, e1, h1.1, List.isPrefixOf_iff_prefix.2 (List.prefix_append _ _), hr]; simp
  · unfold preR
    rw [e3, e1]
    have hn : (ps l ++ ps m).isPrefixOf (ps l) = false := by
      rw [Bool.eq_false_iff]
      intro h
      have := (List.isPrefixOf_iff_prefix.1 h).length_le
      obtain ⟨x, y, e⟩ := ps_some m
      rw [List.length_append, e, List.length_cons] at this
      omega
    rw [hn, Bool.and_false]

/-! ### the library's IndexByte -/
theorem ix_some : ∀ (a b : List UInt8), (47 : UInt8) ∉ a → Go.Lib.indexByte (a ++ 47 :: b) 47 = (a.length : Int)
  | [], b, _ => rfl
  | c :: a, b, h => by
    have hc : (c == 47) = false := beq_eq_false_iff_ne.2 fun e => h (by rw [e]; exact List.mem_cons_self)
    have ih := ix_some a b fun e => h (List.mem_cons_of_mem _ e)
    show (if c == 47 then 0 else if Go.Lib.indexByte (a ++ 47 :: b) 47 == -1 then -1 else Go.Lib.indexByte (a ++ 47 :: b) 47 + 1) = _
    rw [hc, if_neg (by decide), ih, if_neg (by rw [beq_iff_eq]; omega)]
    rfl
theorem ix_none : ∀ (l : List UInt8), (47 : UInt8) ∉ l → Go.Lib.indexByte l 47 = -1
  | [], _ => rfl
  | c :: l, h => by
    have hc : (c == 47) = false := beq_eq_false_iff_ne.2 fun e => h (by rw [e]; exact List.mem_cons_self)
    have ih := ix_none l fun e => h (List.mem_cons_of_mem _ e)
    show (if c == 47 then 0 else if Go.Lib.indexByte l 47 == -1 then -1 else Go.Lib.indexByte l 47 + 1) = _
    rw [hc, if_neg (by decide), ih]
    rfl
theorem parted (l : List UInt8) (h : (47 : UInt8) ∈ l) : ∃ a b, l = a ++ 47 :: b ∧ (47 : UInt8) ∉ a := by
  induction l with
  | nil => cases h
  | cons c l ih =>
    by_cases hc : c = 47
    · subst hc
      exact ⟨[], l, rfl, by simp⟩
    · obtain ⟨a, b, rfl, h2⟩ := ih (by rcases List.mem_cons.1 h with e | e; exact absurd e.symm hc; exact e)
      refine ⟨c :: a, b, rfl, ?_⟩
      rw [List.mem_cons]; rintro (e | e)
      · exact hc e.symm
      · exact h2 e
end Go.Proofs.Ytnhiloikficigaa.Rou

namespace Go.Proofs.Ytnhiloikficigaa.Mat
open Go.Proofs.Ytnhiloikficigaa.Rou

/-- A part's text. -/
abbrev T := List UInt8
def st : T := [42]
def ss : T := [42, 42]
/-- Does x stand for y, or is it y? -/
def one (x y : T) : Bool := decide (x = st) || decide (x = y)
/-- The pattern of parts l matches the route of parts m. -/
def mt : List T → List T → Bool
  | [], m => decide (m = [])
  | x :: l, m => if x = ss then true else match m with
    | [] => false
    | y :: m => one x y && mt l m
/-- The pattern of parts l covers that of parts m. -/
def cv : List T → List T → Bool
  | [], m => decide (m = [])
  | x :: l, m => if x = ss then true else match m with
    | [] => false
    | y :: m => if y = ss then false else one x y && cv l m
/-- The patterns of parts l and m meet. -/
def me : List T → List T → Bool
  | [], [] => true
  | [], y :: _ => decide (y = ss)
  | x :: _, [] => decide (x = ss)
  | x :: l, y :: m => if x = ss ∨ y = ss then true else (decide (x = st) || decide (y = st) || decide (x = y)) && me l m
theorem mt_ss (l m : List T) : mt (ss :: l) m = true := by cases m <;> (unfold mt; rw [if_pos rfl])
theorem mt_nil {x : T} (l : List T) (h : x ≠ ss) : mt (x :: l) [] = false := by rw [mt, if_neg h]
theorem mt_cons {x : T} (l : List T) (y : T) (m : List T) (h : x ≠ ss) : mt (x :: l) (y :: m) = (one x y && mt l m) := by rw [mt, if_neg h]
theorem cv_ss (l m : List T) : cv (ss :: l) m = true := by cases m <;> (unfold cv; rw [if_pos rfl])
theorem cv_nil {x : T} (l : List T) (h : x ≠ ss) : cv (x :: l) [] = false := by rw [cv, if_neg h]
theorem cv_cons {x : T} (l : List T) (y : T) (m : List T) (h : x ≠ ss) : cv (x :: l) (y :: m) = if y = ss then false else one x y && cv l m := by rw [cv, if_neg h]
theorem one_iff {x y : T} : one x y = true ↔ x = st ∨ x = y := by unfold one; rw [Bool.or_eq_true, decide_eq_true_eq, decide_eq_true_eq]
theorem one_trans {x y z : T} (h1 : one x y = true) (h2 : one y z = true) : one x z = true := by
  rw [one_iff] at *
  rcases h1 with rfl | rfl
  · exact .inl rfl
  · exact h2
/-- What covers matches all that is matched by what it covers. -/
theorem cv_mt : ∀ (l m s : List T), cv l m = true → mt m s = true → mt l s = true
  | [], m, s, h1, h2 => by
    obtain rfl : m = [] := of_decide_eq_true h1
    exact h2
  | x :: l, m, s, h1, h2 => by
    by_cases hx : x = ss
    · rw [hx]; exact mt_ss l s
    · cases m with
      | nil => rw [cv_nil l hx] at h1; cases h1
      | cons y m =>
        rw [cv_cons l y m hx] at h1
        by_cases hy : y = ss
        · rw [if_pos hy] at h1; cases h1
        · rw [if_neg hy, Bool.and_eq_true] at h1
          cases s with
          | nil => rw [mt_nil m hy] at h2; cases h2
          | cons z s =>
            rw [mt_cons m z s hy, Bool.and_eq_true] at h2
            rw [mt_cons l z s hx, Bool.and_eq_true]
            exact ⟨one_trans h1.1 h2.1, cv_mt l m s h1.2 h2.2⟩
theorem cv_cv : ∀ (l m s : List T), cv l m = true → cv m s = true → cv l s = true
  | [], m, s, h1, h2 => by
    obtain rfl : m = [] := of_decide_eq_true h1
    exact h2
  | x :: l, m, s, h1, h2 => by
    by_cases hx : x = ss
    · rw [hx]; exact cv_ss l s
    · cases m with
      | nil => rw [cv_nil l hx] at h1; cases h1
      | cons y m =>
        rw [cv_cons l y m hx] at h1
        by_cases hy : y = ss
        · rw [if_pos hy] at h1; cases h1
        · rw [if_neg hy, Bool.and_eq_true] at h1
          cases s with
          | nil => rw [cv_nil m hy] at h2; cases h2
          | cons z s =>
            rw [cv_cons m z s hy] at h2
            rw [cv_cons l z s hx]
            by_cases hz : z = ss
            · rw [if_pos hz] at h2; cases h2
            · rw [if_neg hz, Bool.and_eq_true] at h2
              rw [if_neg hz, Bool.and_eq_true]
              exact ⟨one_trans h1.1 h2.1, cv_cv l m s h1.2 h2.2⟩
theorem one_self (x : T) : one x x = true := one_iff.2 (.inr rfl)
theorem cv_self : ∀ l : List T, cv l l = true
  | [] => rfl
  | x :: l => by
    by_cases hx : x = ss
    · rw [hx]; exact cv_ss l _
    · rw [cv_cons l x l hx, if_neg hx, one_self, cv_self l]; rfl
theorem mt_self : ∀ l : List T, mt l l = true
  | [] => rfl
  | x :: l => by
    by_cases hx : x = ss
    · rw [hx]; exact mt_ss l _
    · rw [mt_cons l x l hx, one_self, mt_self l]; rfl
theorem me_ssl (l m : List T) : me (ss :: l) m = true := by
  cases m with
  | nil => show decide (ss = ss) = true; exact decide_eq_true rfl
  | cons y m => rw [me, if_pos (.inl rfl)]
theorem me_ssr (l m : List T) : me l (ss :: m) = true := by
  cases l with
  | nil => show decide (ss = ss) = true; exact decide_eq_true rfl
  | cons y l => rw [me, if_pos (.inr rfl)]
theorem me_cons {x y : T} (l m : List T) (h1 : x ≠ ss) (h2 : y ≠ ss) : me (x :: l) (y :: m) = ((decide (x = st) || decide (y = st) || decide (x = y)) && me l m) := by
  rw [me, if_neg (fun h => h.elim h1 h2)]
theorem me_comm : ∀ l m : List T, me l m = me m l
  | [], [] => rfl
  | [], _ :: _ => rfl
  | _ :: _, [] => rfl
  | x :: l, y :: m => by
    by_cases h1 : x = ss
    · rw [h1, me_ssl, me_ssr]
    · by_cases h2 : y = ss
      · rw [h2, me_ssl, me_ssr]
      · rw [me_cons l m h1 h2, me_cons m l h2 h1, me_comm l m]
        congr 1
        rw [Bool.eq_iff_iff]
        simp only [Bool.or_eq_true, decide_eq_true_eq]
        constructor
        · rintro ((h | h) | h)
          · exact .inl (.inr h)
          · exact .inl (.inl h)
          · exact .inr h.symm
        · rintro ((h | h) | h)
          · exact .inl (.inr h)
          · exact .inl (.inl h)
          · exact .inr h.symm
/-- Patterns that match one route meet. -/
theorem mt_me : ∀ (l m s : List T), mt l s = true → mt m s = true → me l m = true
  | [], m, s, h1, h2 => by
    obtain rfl : s = [] := of_decide_eq_true h1
    cases m with
    | nil => rfl
    | cons y m =>
      by_cases hy : y = ss
      · rw [hy]; exact me_ssr _ _
      · rw [mt_nil m hy] at h2; cases h2
  | x :: l, m, s, h1, h2 => by
    by_cases hx : x = ss
    · rw [hx]; exact me_ssl l m
    · cases s with
      | nil => rw [mt_nil l hx] at h1; cases h1
      | cons z s =>
        rw [mt_cons l z s hx, Bool.and_eq_true] at h1
        cases m with
        | nil => cases h2
        | cons y m =>
          by_cases hy : y = ss
          · rw [hy]; exact me_ssr _ _
          · rw [mt_cons m z s hy, Bool.and_eq_true] at h2
            rw [me_cons l m hx hy, Bool.and_eq_true]
            refine ⟨?_, mt_me l m s h1.2 h2.2⟩
            have k1 := one_iff.1 h1.1
            have k2 := one_iff.1 h2.1
            simp only [Bool.or_eq_true, decide_eq_true_eq]
            rcases k1 with k1 | k1
            · exact .inl (.inl k1)
            · rcases k2 with k2 | k2
              · exact .inl (.inr k2)
              · exact .inr (k1.trans k2.symm)
/-- What covers another one meets it. -/
theorem cv_me : ∀ (l m : List T), cv l m = true → me l m = true
  | [], m, h => by
    obtain rfl : m = [] := of_decide_eq_true h
    rfl
  | x :: l, m, h => by
    by_cases hx : x = ss
    · rw [hx]; exact me_ssl l m
    · cases m with
      | nil => rw [cv_nil l hx] at h; cases h
      | cons y m =>
        rw [cv_cons l y m hx] at h
        by_cases hy : y = ss
        · rw [if_pos hy] at h; cases h
        · rw [if_neg hy, Bool.and_eq_true] at h
          rw [me_cons l m hx hy, Bool.and_eq_true]
          refine ⟨?_, cv_me l m h.2⟩
          simp only [Bool.or_eq_true, decide_eq_true_eq]
          rcases one_iff.1 h.1 with k | k
          · exact .inl (.inl k)
          · exact .inr k

/-! ### what both match -/
/-- A word for x. -/
def pk1 (x : T) : T := if x = st then [97] else x
/-- A word for both. -/
def pk (x y : T) : T := if x = st then pk1 y else x
/-- The parts of a route that both match. -/
def bt1 : List T → List T
  | [] => []
  | x :: l => if x = ss then [] else pk1 x :: bt1 l
def bt : List T → List T → List T
  | [], m => bt1 m
  | x :: l, [] => bt1 (x :: l)
  | x :: l, y :: m => if x = ss then bt1 (y :: m) else if y = ss then bt1 (x :: l) else pk x y :: bt l m
theorem pk1_one (x : T) : one x (pk1 x) = true := by
  rw [one_iff]; unfold pk1
  by_cases h : x = st
  · exact .inl h
  · rw [if_neg h]; exact .inr rfl
theorem mt_bt1 : ∀ l : List T, mt l (bt1 l) = true
  | [] => rfl
  | x :: l => by
    by_cases hx : x = ss
    · rw [hx]; exact mt_ss _ _
    · rw [bt1, if_neg hx, mt_cons _ _ _ hx, pk1_one, mt_bt1 l]; rfl
/-- Both match it, where they meet. -/
theorem mt_bt : ∀ (l m : List T), me l m = true → mt l (bt l m) = true ∧ mt m (bt l m) = true
  | [], m, h => by
    cases m with
    | nil => exact ⟨rfl, rfl⟩
    | cons y m =>
      obtain rfl : y = ss := of_decide_eq_true h
      refine ⟨?_, mt_bt1 _⟩
      show mt [] (bt1 (ss :: m)) = true
      rw [bt1, if_pos rfl]; rfl
  | x :: l, [], h => by
    obtain rfl : x = ss := of_decide_eq_true h
    refine ⟨mt_bt1 _, ?_⟩
    show mt [] (bt1 (ss :: l)) = true
    rw [bt1, if_pos rfl]; rfl
  | x :: l, y :: m, h => by
    by_cases hx : x = ss
    · rw [bt, if_pos hx]
      rw [hx]; exact ⟨mt_ss _ _, mt_bt1 _⟩
    · by_cases hy : y = ss
      · rw [bt, if_neg hx, if_pos hy]
        rw [hy]; exact ⟨mt_bt1 _, mt_ss _ _⟩
      · rw [me_cons l m hx hy, Bool.and_eq_true] at h
        rw [bt, if_neg hx, if_neg hy, mt_cons _ _ _ hx, mt_cons _ _ _ hy, (mt_bt l m h.2).1, (mt_bt l m h.2).2, Bool.and_true, Bool.and_true]
        have h1 := h.1
        simp only [Bool.or_eq_true, decide_eq_true_eq] at h1
        rw [one_iff, one_iff]
        unfold pk
        by_cases k : x = st
        · rw [if_pos k]
          exact ⟨.inl k, one_iff.1 (pk1_one y)⟩
        · rw [if_neg k]
          refine ⟨.inr rfl, ?_⟩
          rcases h1 with (h1 | h1) | h1
          · exact absurd h1 k
          · exact .inl h1
          · exact .inr h1.symm
/-- Words stay words. -/
theorem sg_pk1 {x : T} (h : sg x = true) : wd (pk1 x) = true := by
  unfold pk1
  unfold sg at h
  rw [Bool.or_eq_true, decide_eq_true_eq] at h
  by_cases k : x = st
  · rw [if_pos k]; decide
  · rw [if_neg k]
    rcases h with h | h
    · exact absurd h k
    · exact h
theorem sg_pk {x y : T} (hx : sg x = true) (hy : sg y = true) : wd (pk x y) = true := by
  unfold pk
  by_cases k : x = st
  · rw [if_pos k]; exact sg_pk1 hy
  · rw [if_neg k]
    have := sg_pk1 hx
    unfold pk1 at this
    rwa [if_neg k] at this
/-- The parts of a pattern: each a word or a star, two stars at the end alone. -/
def Pt (l : List T) : Prop := (inn l).all sg = true
theorem sg_ss : sg ss = false := by decide
theorem pt_cons {x : T} {l : List T} (h : Pt (x :: l)) : (x = ss ∧ l = []) ∨ (sg x = true ∧ x ≠ ss ∧ Pt l) := by
  unfold Pt inn at h
  cases l with
  | nil =>
    by_cases hx : x = ss
    · exact .inl ⟨hx, rfl⟩
    · rw [if_neg (fun q : [x].getLast? = some [42, 42] => hx (Option.some.inj q))] at h
      exact .inr ⟨by simpa using h, hx, by unfold Pt inn; rfl⟩
  | cons y l =>
    right
    rw [List.getLast?_cons_cons] at h
    by_cases hl : (y :: l).getLast? = some [42, 42]
    · rw [if_pos hl, List.dropLast_cons_cons, List.all_cons, Bool.and_eq_true] at h
      refine ⟨h.1, fun e => ?_, ?_⟩
      · rw [e, sg_ss] at h; cases h.1
      · unfold Pt inn; rw [if_pos hl]; exact h.2
    · rw [if_neg hl, List.all_cons, Bool.and_eq_true] at h
      refine ⟨h.1, fun e => ?_, ?_⟩
      · rw [e, sg_ss] at h; cases h.1
      · unfold Pt inn; rw [if_neg hl]; exact h.2
theorem wd_bt1 : ∀ l : List T, Pt l → (bt1 l).all wd = true
  | [], _ => rfl
  | x :: l, h => by
    rcases pt_cons h with ⟨rfl, rfl⟩ | ⟨h1, h2, h3⟩
    · rw [bt1, if_pos rfl]; rfl
    · rw [bt1, if_neg h2, List.all_cons, sg_pk1 h1, wd_bt1 l h3]; rfl
theorem wd_bt : ∀ l m : List T, Pt l → Pt m → (bt l m).all wd = true
  | [], m, _, h => wd_bt1 m h
  | x :: l, [], h, _ => wd_bt1 (x :: l) h
  | x :: l, y :: m, h, k => by
    rw [bt]
    by_cases hx : x = ss
    · rw [if_pos hx]; exact wd_bt1 _ k
    · rw [if_neg hx]
      by_cases hy : y = ss
      · rw [if_pos hy]; exact wd_bt1 _ h
      · rw [if_neg hy]
        rcases pt_cons h with ⟨h1, _⟩ | ⟨h1, _, h3⟩
        · exact absurd h1 hx
        · rcases pt_cons k with ⟨k1, _⟩ | ⟨k1, _, k3⟩
          · exact absurd k1 hy
          · rw [List.all_cons, sg_pk h1 k1, wd_bt l m h3 k3]; rfl

/-! ### what is joined is parted again -/
theorem wd_slash {p : T} (h : wd p = true) : (47 : UInt8) ∉ p := by
  intro q
  unfold wd at h
  rw [Bool.and_eq_true, List.all_eq_true] at h
  have := h.2 47 q
  exact absurd this (by decide)
theorem wd_ne {p : T} (h : wd p = true) : p ≠ [] := by
  unfold wd at h
  rw [Bool.and_eq_true, decide_eq_true_eq] at h
  exact h.1
theorem ps_sj : ∀ (p : T) (l : List T), wd p = true → l.all wd = true → ps (sj (p :: l)) = p :: l
  | p, [], h, _ => ps_one p (wd_slash h)
  | p, q :: l, h, k => by
    rw [List.all_cons, Bool.and_eq_true] at k
    show ps (p ++ 47 :: sj (q :: l)) = _
    rw [ps_cut _ _ (wd_slash h), ps_sj q l k.1 k.2]
theorem sj_ne {p : T} (l : List T) (h : wd p = true) : sj (p :: l) ≠ [] := by
  cases l with
  | nil => exact wd_ne h
  | cons q l => show p ++ 47 :: _ ≠ []; simp
/-- Words joined have these parts. -/
theorem prt_jP {l : List T} (h : l.all wd = true) : prt (jP l) = l := by
  cases l with
  | nil => rfl
  | cons p l =>
    rw [List.all_cons, Bool.and_eq_true] at h
    rw [jP_sj, prt_cons _ (sj_ne l h.1), ps_sj p l h.1 h.2]
theorem row_jP {l : List T} (h : l.all wd = true) : row (jP l) = (decide ((jP l).length ≤ 255) && decide (l.length ≤ 32)) := by
  cases l with
  | nil => rfl
  | cons p l =>
    rw [List.all_cons, Bool.and_eq_true] at h
    have hn := ps_len (sj (p :: l))
    rw [ps_sj p l h.1 h.2] at hn
    rw [jP_sj, Bool.eq_iff_iff]
    simp only [row, Bool.and_eq_true, decide_eq_true_eq, List.length_cons, true_and]
    simp only [List.length_cons] at hn
    omega
theorem isR_jP {l : List T} (h : l.all wd = true) : isR (jP l) = (decide ((jP l).length ≤ 255) && decide (l.length ≤ 32)) := by
  unfold isR
  rw [prt_jP h, h, Bool.and_true, row_jP h]

/-! ### how long it is -/
theorem jn_len_cons (p : T) (l : List T) : (jn (p :: l)).length = p.length + 1 + (jn l).length := by rw [jn_cons, List.length_cons, List.length_append]; omega
theorem pk1_len (x : T) : (pk1 x).length ≤ x.length + 0 ∨ x = st := by
  unfold pk1
  by_cases h : x = st
  · exact .inr h
  · rw [if_neg h]; exact .inl (Nat.le_refl _)
theorem pk1_le (x : T) : (pk1 x).length ≤ x.length := by
  unfold pk1
  by_cases h : x = st
  · rw [if_pos h, h]; decide
  · rw [if_neg h]; exact Nat.le_refl _
theorem bt1_len : ∀ l : List T, (jn (bt1 l)).length ≤ (jn l).length ∧ (bt1 l).length ≤ l.length
  | [] => ⟨Nat.le_refl _, Nat.le_refl _⟩
  | x :: l => by
    rw [bt1]
    by_cases hx : x = ss
    · rw [if_pos hx]; exact ⟨Nat.zero_le _, Nat.zero_le _⟩
    · rw [if_neg hx, jn_len_cons, jn_len_cons, List.length_cons, List.length_cons]
      have := bt1_len l
      have := pk1_le x
      omega
theorem bt_len : ∀ l m : List T, (jn (bt l m)).length ≤ (jn l).length + (jn m).length ∧ (bt l m).length ≤ max l.length m.length
  | [], m => by
    have := bt1_len m
    show (jn (bt1 m)).length ≤ _ ∧ (bt1 m).length ≤ _
    omega
  | x :: l, [] => by
    have := bt1_len (x :: l)
    show (jn (bt1 (x :: l))).length ≤ _ ∧ (bt1 (x :: l)).length ≤ _
    omega
  | x :: l, y :: m => by
    have h1 := bt1_len (x :: l)
    have h2 := bt1_len (y :: m)
    have h3 := bt_len l m
    rw [bt]
    split
    · omega
    · split
      · omega
      · rw [jn_len_cons, jn_len_cons, jn_len_cons, List.length_cons, List.length_cons, List.length_cons]
        have : (pk x y).length ≤ x.length + y.length := by
          unfold pk
          have := pk1_le y
          split <;> omega
        omega
end Go.Proofs.Ytnhiloikficigaa.Mat
