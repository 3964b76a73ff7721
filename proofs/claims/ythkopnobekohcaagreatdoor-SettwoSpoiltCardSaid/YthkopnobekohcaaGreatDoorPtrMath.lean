/- Plain facts of paths: parts and their text; no program. Conditions: as each theorem states. -/
import Derived.Test.YthkopnobekohcaaGreatDoorRows
namespace Go.Proofs.YthkopnobekohcaaGreatDoor.Ptr

/-- A byte of a part, escaped where it is a sign. -/
def eB (c : UInt8) : List UInt8 := if c = 126 then [126, 48] else if c = 47 then [126, 49] else [c]
def eL (l : List UInt8) : List UInt8 := l.flatMap eB
/-- The text of a path. -/
def putP (ps : List (List UInt8)) : List UInt8 := ps.flatMap fun p => 47 :: eL p
/-- What a text says behind the parts ds and the beginning p of one more. -/
def tk : List UInt8 → List (List UInt8) → List UInt8 → Option (List (List UInt8))
  | [], ds, p => some (ds ++ [p])
  | [c], ds, p => if c = 126 then none else if c = 47 then some (ds ++ [p] ++ [[]]) else some (ds ++ [p ++ [c]])
  | c :: d :: l, ds, p => if c = 126 then (if d = 48 then tk l ds (p ++ [126]) else if d = 49 then tk l ds (p ++ [47]) else none) else if c = 47 then tk (d :: l) (ds ++ [p]) [] else tk (d :: l) ds (p ++ [c])
def tkP (s : List UInt8) : Option (List (List UInt8)) :=
  match s with
  | [] => some []
  | c :: l => if c = 47 then tk l [] [] else none

theorem eL_nil : eL [] = [] := rfl
theorem eL_cons (c : UInt8) (l : List UInt8) : eL (c :: l) = eB c ++ eL l := by simp [eL]
theorem eL_snoc (l : List UInt8) (c : UInt8) : eL (l ++ [c]) = eL l ++ eB c := by simp [eL]
theorem putP_nil : putP [] = [] := rfl
theorem putP_cons (p : List UInt8) (ps : List (List UInt8)) : putP (p :: ps) = 47 :: (eL p ++ putP ps) := by simp [putP]
theorem putP_snoc (ps : List (List UInt8)) (p : List UInt8) : putP (ps ++ [p]) = putP ps ++ 47 :: eL p := by simp [putP]
theorem eB_len (c : UInt8) : 1 ≤ (eB c).length ∧ (eB c).length ≤ 2 := by
  unfold eB
  repeat' split
  all_goals simp
theorem eL_len (l : List UInt8) : (eL l).length ≤ 2 * l.length := by
  induction l with
  | nil => simp [eL]
  | cons c l ih => rw [eL_cons, List.length_append, List.length_cons]; have := (eB_len c).2; omega
theorem tk_slash (l : List UInt8) (ds : List (List UInt8)) (p : List UInt8) : tk (47 :: l) ds p = tk l (ds ++ [p]) [] := by
  cases l with
  | nil => simp [tk]
  | cons d l => rw [tk]; simp
theorem tk_eB (c : UInt8) (l : List UInt8) (ds : List (List UInt8)) (p : List UInt8) : tk (eB c ++ l) ds p = tk l ds (p ++ [c]) := by
  unfold eB
  by_cases h1 : c = 126
  · rw [if_pos h1, h1]
    show tk (126 :: 48 :: l) ds p = _
    rw [tk, if_pos rfl, if_pos rfl]
  · rw [if_neg h1]
    by_cases h2 : c = 47
    · rw [if_pos h2, h2]
      show tk (126 :: 49 :: l) ds p = _
      rw [tk, if_pos rfl, if_neg (by decide), if_pos rfl]
    · rw [if_neg h2]
      cases l with
      | nil =>
        show tk [c] ds p = some (ds ++ [p ++ [c]])
        unfold tk
        rw [if_neg h1, if_neg h2]
      | cons d l => show tk (c :: d :: l) ds p = _; rw [tk, if_neg h1, if_neg h2]
theorem tk_eL (q l : List UInt8) (ds : List (List UInt8)) : ∀ p, tk (eL q ++ l) ds p = tk l ds (p ++ q) := by
  induction q with
  | nil => intro p; rw [eL_nil, List.append_nil]; rfl
  | cons c q ih => intro p; rw [eL_cons, List.append_assoc, tk_eB, ih, List.append_assoc]; rfl
theorem tk_putP : ∀ (ps : List (List UInt8)) (ds : List (List UInt8)) (p : List UInt8), tk (putP ps) ds p = some (ds ++ [p] ++ ps)
  | [], ds, p => by rw [putP_nil, tk, List.append_nil]
  | q :: ps, ds, p => by rw [putP_cons, tk_slash, tk_eL, List.nil_append, tk_putP ps]; simp
/-- What is put is taken. -/
theorem put_take (ps : List (List UInt8)) : tkP (putP ps) = some ps := by
  cases ps with
  | nil => rfl
  | cons q ps =>
    rw [putP_cons]
    show (if (47 : UInt8) = 47 then tk (eL q ++ putP ps) [] [] else none) = _
    rw [if_pos rfl, tk_eL, List.nil_append, tk_putP]
    rfl
theorem put_same {a b : List (List UInt8)} (h : putP a = putP b) : a = b := by
  have := put_take a
  rw [h, put_take] at this
  exact (Option.some.inj this).symm
theorem tk_len : ∀ (n : Nat) (l : List UInt8), l.length < n → ∀ (ds : List (List UInt8)) (p : List UInt8) (r : List (List UInt8)), tk l ds p = some r → putP r = putP (ds ++ [p]) ++ l
  | 0, _, h, _, _, _, _ => by omega
  | _ + 1, [], _, ds, p, r, h => by
    unfold tk at h
    rw [← Option.some.inj h, List.append_nil]
  | _ + 1, [c], _, ds, p, r, h => by
    unfold tk at h
    by_cases h1 : c = 126
    · rw [if_pos h1] at h; cases h
    · rw [if_neg h1] at h
      by_cases h2 : c = 47
      · rw [if_pos h2] at h
        rw [← Option.some.inj h, putP_snoc, h2]; rfl
      · rw [if_neg h2] at h
        rw [← Option.some.inj h, putP_snoc, putP_snoc, eL_snoc]
        unfold eB
        rw [if_neg h1, if_neg h2]
        simp
  | n + 1, c :: d :: l, hn, ds, p, r, h => by
    simp only [List.length_cons] at hn
    have e : ∀ x : UInt8, putP (ds ++ [p ++ [x]]) = putP (ds ++ [p]) ++ eB x := fun x => by rw [putP_snoc, putP_snoc, eL_snoc]; simp
    unfold tk at h
    by_cases h1 : c = 126
    · rw [if_pos h1] at h
      by_cases h2 : d = 48
      · rw [if_pos h2] at h
        rw [tk_len n l (by omega) ds _ r h, e, h1, h2]
        simp [eB]
      · rw [if_neg h2] at h
        by_cases h3 : d = 49
        · rw [if_pos h3] at h
          rw [tk_len n l (by omega) ds _ r h, e, h1, h3]
          simp [eB]
        · rw [if_neg h3] at h; cases h
    · rw [if_neg h1] at h
      by_cases h2 : c = 47
      · rw [if_pos h2] at h
        rw [tk_len n (d :: l) (by simp only [List.length_cons]; omega) _ _ r h, putP_snoc (ds ++ [p]), h2, eL_nil]
        simp
      · rw [if_neg h2] at h
        rw [tk_len n (d :: l) (by simp only [List.length_cons]; omega) _ _ r h, e]
        unfold eB
        rw [if_neg h1, if_neg h2]
        simp
/-- What is taken has that text. -/
theorem take_put {s : List UInt8} {r : List (List UInt8)} (h : tkP s = some r) : putP r = s := by
  cases s with
  | nil =>
    have : some [] = some r := h
    rw [← Option.some.inj this]; rfl
  | cons c l =>
    have h' : (if c = 47 then tk l [] [] else none) = some r := h
    by_cases h1 : c = 47
    · rw [if_pos h1] at h'
      rw [tk_len (l.length + 1) l (by omega) [] [] r h', h1]
      rfl
    · rw [if_neg h1] at h'; cases h'
end Go.Proofs.YthkopnobekohcaaGreatDoor.Ptr
