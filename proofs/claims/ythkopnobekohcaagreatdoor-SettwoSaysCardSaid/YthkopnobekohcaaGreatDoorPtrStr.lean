/- Plain facts: what the library's Count, ReplaceAll and Split make of a path's text. Conditions: as each theorem states. -/
import Derived.Test.YthkopnobekohcaaGreatDoorPtrMath
import Derived.Lib.ReplaceLaws
namespace Go.Proofs.YthkopnobekohcaaGreatDoor.Ptr
open Go.Lib (index count countB replaceK replaceAll replaceNum splitK splitB)

/-! ### one step of each -/
theorem idx_hit {s old : List UInt8} (hs : s ≠ []) (h : old.isPrefixOf s = true) : index s old = 0 := by
  cases s with
  | nil => exact absurd rfl hs
  | cons x l => rw [index, if_pos h]
theorem idx_skip (x : UInt8) (l old : List UInt8) (h : old.isPrefixOf (x :: l) = false) : index (x :: l) old = if index l old = -1 then -1 else index l old + 1 := by
  rw [index, h, if_neg (by decide)]
  by_cases e : index l old = -1
  · rw [if_pos (beq_iff_eq.2 e), if_pos e]
  · rw [if_neg (fun q => e (beq_iff_eq.1 q)), if_neg e]
theorem cnt_hit {s old : List UInt8} (hs : s ≠ []) (ho : old ≠ []) (h : old.isPrefixOf s = true) : count s old = 1 + count (s.drop old.length) old := by
  have := Lib.count_hit (i := 0) ho (idx_hit hs h)
  rwa [Nat.zero_add] at this
theorem cnt_skip (x : UInt8) (l old : List UInt8) (ho : old ≠ []) (h : old.isPrefixOf (x :: l) = false) : count (x :: l) old = count l old := by
  have hi := idx_skip x l old h
  by_cases e : index l old = -1
  · rw [if_pos e] at hi
    rw [Lib.count_miss hi, Lib.count_miss e]
  · rw [if_neg e] at hi
    have hge := Lib.index_ge l old
    obtain ⟨i, hi2⟩ : ∃ i : Nat, index l old = (i : Int) := ⟨(index l old).toNat, by omega⟩
    have h3 : index (x :: l) old = ((i + 1 : Nat) : Int) := by rw [hi, hi2]; rfl
    rw [Lib.count_hit ho h3, Lib.count_hit ho hi2, show i + 1 + old.length = (i + old.length) + 1 by omega, List.drop_succ_cons]
theorem rep_hit {s old : List UInt8} (new : List UInt8) (k : Nat) (hs : s ≠ []) (h : old.isPrefixOf s = true) : replaceK old new (k + 1) s = new ++ replaceK old new k (s.drop old.length) := by
  rw [Lib.replaceK_hit old new k s 0 (idx_hit hs h), List.take_zero, List.nil_append, Nat.zero_add]
theorem rep_skip (x : UInt8) (l old new : List UInt8) (k : Nat) (h : old.isPrefixOf (x :: l) = false) : replaceK old new k (x :: l) = x :: replaceK old new k l := by
  cases k with
  | zero => rfl
  | succ k =>
    have hi := idx_skip x l old h
    by_cases e : index l old = -1
    · rw [if_pos e] at hi
      rw [replaceK, replaceK, if_pos (beq_iff_eq.2 hi), if_pos (beq_iff_eq.2 e)]
    · rw [if_neg e] at hi
      have hge := Lib.index_ge l old
      obtain ⟨i, hi2⟩ : ∃ i : Nat, index l old = (i : Int) := ⟨(index l old).toNat, by omega⟩
      have h3 : index (x :: l) old = ((i + 1 : Nat) : Int) := by rw [hi, hi2]; rfl
      rw [Lib.replaceK_hit old new k _ _ h3, Lib.replaceK_hit old new k _ _ hi2, show i + 1 + old.length = (i + old.length) + 1 by omega, List.drop_succ_cons, List.take_succ_cons]
      rfl
theorem spl_hit {s sep : List UInt8} (k : Nat) (hs : s ≠ []) (h : sep.isPrefixOf s = true) : splitK sep 0 (k + 1) s = [] :: splitK sep 0 k (s.drop sep.length) := by
  rw [splitK, if_neg (by rw [idx_hit hs h]; decide), idx_hit hs h]
  simp
/-- A byte more ahead of the first piece. -/
def ahead (p : List UInt8) : List (List UInt8) → List (List UInt8)
  | [] => [p]
  | h :: t => (p ++ h) :: t
theorem spl_skip (x : UInt8) (l sep : List UInt8) (k : Nat) (h : sep.isPrefixOf (x :: l) = false) : splitK sep 0 k (x :: l) = ahead [x] (splitK sep 0 k l) := by
  cases k with
  | zero => rfl
  | succ k =>
    have hi := idx_skip x l sep h
    by_cases e : index l sep = -1
    · rw [if_pos e] at hi
      rw [splitK, splitK, if_pos (beq_iff_eq.2 hi), if_pos (beq_iff_eq.2 e)]
      rfl
    · rw [if_neg e] at hi
      have hge := Lib.index_ge l sep
      obtain ⟨i, hi2⟩ : ∃ i : Nat, index l sep = (i : Int) := ⟨(index l sep).toNat, by omega⟩
      have h3 : index (x :: l) sep = ((i + 1 : Nat) : Int) := by rw [hi, hi2]; rfl
      rw [splitK, splitK, if_neg (by rw [h3, beq_iff_eq]; omega), if_neg (by rw [hi2, beq_iff_eq]; omega), h3, hi2]
      rw [show ((i + 1 : Nat) : Int).toNat + 0 = i + 1 by omega, show ((i : Nat) : Int).toNat + 0 = i by omega, show ((i + 1 : Nat) : Int).toNat + sep.length = (((i : Nat) : Int).toNat + sep.length) + 1 by omega, List.drop_succ_cons, List.take_succ_cons]
      rfl

/-! ### all instances -/
/-- Each instance of old in s replaced by new. -/
def ra (old new s : List UInt8) : List UInt8 := replaceK old new (count s old) s
/-- s cut at each sep. -/
def sp (sep s : List UInt8) : List (List UInt8) := splitK sep 0 (count s sep) s
theorem ra_is {old new : List UInt8} (s : List UInt8) (h : old ≠ new) : replaceAll s old new = ra old new s := by
  unfold replaceAll Lib.replace ra
  have hb : (old == new) = false := by rw [beq_eq_false_iff_ne]; exact h
  rw [hb, if_neg (by decide)]
  unfold replaceNum
  rw [if_pos (Or.inl (by decide))]
theorem pre_cons (a x : UInt8) (o l : List UInt8) : (a :: o).isPrefixOf (x :: l) = (a == x && o.isPrefixOf l) := rfl
theorem pre_nil (l : List UInt8) : ([] : List UInt8).isPrefixOf l = true := by cases l <;> rfl
theorem pre_end (a : UInt8) (o : List UInt8) : (a :: o).isPrefixOf [] = false := rfl
theorem ra_nil {old : List UInt8} (new : List UInt8) (ho : old ≠ []) : ra old new [] = [] := by
  have : count [] old = 0 := by
    refine Lib.count_miss ?_
    cases old with
    | nil => exact absurd rfl ho
    | cons a o => rfl
  unfold ra; rw [this]; rfl
theorem ra_hit {s old : List UInt8} (new : List UInt8) (hs : s ≠ []) (ho : old ≠ []) (h : old.isPrefixOf s = true) : ra old new s = new ++ ra old new (s.drop old.length) := by
  unfold ra
  rw [cnt_hit hs ho h, Nat.add_comm, rep_hit new _ hs h]
theorem ra_skip {x : UInt8} {l old : List UInt8} (new : List UInt8) (ho : old ≠ []) (h : old.isPrefixOf (x :: l) = false) : ra old new (x :: l) = x :: ra old new l := by
  unfold ra
  rw [cnt_skip x l old ho h, rep_skip x l old new _ h]
theorem sp_nil {sep : List UInt8} (ho : sep ≠ []) : sp sep [] = [[]] := by
  have : count [] sep = 0 := by
    refine Lib.count_miss ?_
    cases sep with
    | nil => exact absurd rfl ho
    | cons a o => rfl
  unfold sp; rw [this]; rfl
theorem sp_hit {s sep : List UInt8} (hs : s ≠ []) (ho : sep ≠ []) (h : sep.isPrefixOf s = true) : sp sep s = [] :: sp sep (s.drop sep.length) := by
  unfold sp
  rw [cnt_hit hs ho h, Nat.add_comm, spl_hit _ hs h]
theorem sp_skip {x : UInt8} {l sep : List UInt8} (ho : sep ≠ []) (h : sep.isPrefixOf (x :: l) = false) : sp sep (x :: l) = ahead [x] (sp sep l) := by
  unfold sp
  rw [cnt_skip x l sep ho h, spl_skip x l sep _ h]

/-! ### a part -/
theorem one_yes (a : UInt8) (l : List UInt8) : [a].isPrefixOf (a :: l) = true := by rw [pre_cons, pre_nil]; simp
theorem one_no {a x : UInt8} (l : List UInt8) (h : x ≠ a) : [a].isPrefixOf (x :: l) = false := by rw [pre_cons, beq_eq_false_iff_ne.2 (Ne.symm h)]; rfl
theorem two_yes (a b : UInt8) (l : List UInt8) : [a, b].isPrefixOf (a :: b :: l) = true := by rw [pre_cons, one_yes]; simp
theorem two_no {a x : UInt8} (b : UInt8) (l : List UInt8) (h : x ≠ a) : [a, b].isPrefixOf (x :: l) = false := by rw [pre_cons, beq_eq_false_iff_ne.2 (Ne.symm h)]; rfl
theorem two_no2 {a b x y : UInt8} (l : List UInt8) (h : y ≠ b) : [a, b].isPrefixOf (x :: y :: l) = false := by rw [pre_cons, one_no l h, Bool.and_false]
theorem two_end (a b x : UInt8) : [a, b].isPrefixOf [x] = false := by rw [pre_cons, pre_end, Bool.and_false]
/-- A part, escaped. -/
theorem esc_is (s : List UInt8) : replaceAll (replaceAll s [126] [126, 48]) [47] [126, 49] = eL s := by
  rw [ra_is s (by decide), ra_is _ (by decide)]
  induction s with
  | nil => rw [ra_nil _ (by decide), ra_nil _ (by decide)]; rfl
  | cons c l ih =>
    rw [eL_cons, ← ih]
    unfold eB
    by_cases h1 : c = 126
    · subst h1
      rw [if_pos rfl, ra_hit _ (by simp) (by decide) (one_yes _ _)]
      show ra [47] [126, 49] (126 :: 48 :: ra [126] [126, 48] l) = _
      rw [ra_skip _ (by decide) (one_no _ (by decide)), ra_skip _ (by decide) (one_no _ (by decide))]
      rfl
    · rw [if_neg h1, ra_skip _ (by decide) (one_no _ h1)]
      by_cases h2 : c = 47
      · subst h2
        rw [if_pos rfl, ra_hit _ (by simp) (by decide) (one_yes _ _)]
        rfl
      · rw [if_neg h2, ra_skip _ (by decide) (one_no _ h2)]
        rfl
/-- What a part's bytes say. -/
def un (s : List UInt8) : List UInt8 := replaceAll (replaceAll s [126, 49] [47]) [126, 48] [126]
theorem un_ra (s : List UInt8) : un s = ra [126, 48] [126] (ra [126, 49] [47] s) := by
  unfold un; rw [ra_is s (by decide), ra_is _ (by decide)]
theorem un_nil : un [] = [] := by rw [un_ra, ra_nil _ (by decide), ra_nil _ (by decide)]
theorem un_plain {c : UInt8} (l : List UInt8) (h : c ≠ 126) : un (c :: l) = c :: un l := by
  rw [un_ra, un_ra, ra_skip _ (by decide) (two_no _ _ h), ra_skip _ (by decide) (two_no _ _ h)]
theorem un_tilde (l : List UInt8) : un (126 :: 48 :: l) = 126 :: un l := by
  have e : ra [126, 49] [47] (126 :: 48 :: l) = 126 :: 48 :: ra [126, 49] [47] l := by rw [ra_skip _ (by decide) (two_no2 _ (by decide)), ra_skip _ (by decide) (two_no _ _ (by decide))]
  rw [un_ra, un_ra, e, ra_hit _ (by simp) (by decide) (two_yes _ _ _)]
  rfl
theorem un_slash (l : List UInt8) : un (126 :: 49 :: l) = 47 :: un l := by
  rw [un_ra, un_ra, ra_hit _ (by simp) (by decide) (two_yes _ _ _)]
  show ra [126, 48] [126] (47 :: ra [126, 49] [47] l) = _
  rw [ra_skip _ (by decide) (two_no _ _ (by decide))]

/-! ### right signs -/
/-- Is each sign followed by 0 or 1? -/
def okE : List UInt8 → Bool
  | [] => true
  | [c] => decide (c ≠ 126)
  | c :: d :: l => if c = 126 then (if d = 48 ∨ d = 49 then okE l else false) else okE (d :: l)
theorem okE_plain {c : UInt8} (l : List UInt8) (h : c ≠ 126) : okE (c :: l) = okE l := by
  cases l with
  | nil => simp [okE, h]
  | cons d l => rw [okE, if_neg h]
theorem okE_two {d : UInt8} (l : List UInt8) (h : d = 48 ∨ d = 49) : okE (126 :: d :: l) = okE l := by rw [okE, if_pos rfl, if_pos h]
theorem ind2 {p : List UInt8 → Prop} (h0 : p []) (h1 : ∀ c l, c ≠ 126 → p l → p (c :: l)) (h2 : ∀ d l, (d = 48 ∨ d = 49) → p l → p (126 :: d :: l)) (h3 : p [126]) (h4 : ∀ d l, ¬ (d = 48 ∨ d = 49) → p (d :: l) → p (126 :: d :: l)) (s : List UInt8) : p s := by
  have key : ∀ n (s : List UInt8), s.length < n → p s := by
    intro n
    induction n with
    | zero => intro s h; omega
    | succ n ih =>
      intro s h
      cases s with
      | nil => exact h0
      | cons c l =>
        simp only [List.length_cons] at h
        by_cases hc : c = 126
        · subst hc
          cases l with
          | nil => exact h3
          | cons d l =>
            simp only [List.length_cons] at h
            by_cases hd : d = 48 ∨ d = 49
            · exact h2 d l hd (ih l (by omega))
            · exact h4 d l hd (ih (d :: l) (by simp only [List.length_cons]; omega))
        · exact h1 c l hc (ih l (by omega))
  exact key (s.length + 1) s (by omega)
theorem signs (s : List UInt8) : (count s [126, 48] + count s [126, 49] ≤ count s [126]) ∧ (count s [126] = count s [126, 48] + count s [126, 49] ↔ okE s = true) := by
  refine ind2 (p := fun s => (count s [126, 48] + count s [126, 49] ≤ count s [126]) ∧ (count s [126] = count s [126, 48] + count s [126, 49] ↔ okE s = true)) ?_ ?_ ?_ ?_ ?_ s
  · decide
  · rintro c l hc ⟨i1, i2⟩
    rw [cnt_skip c l _ (by decide) (one_no l hc), cnt_skip c l _ (by decide) (two_no 48 l hc), cnt_skip c l _ (by decide) (two_no 49 l hc), okE_plain l hc]
    exact ⟨i1, i2⟩
  · rintro d l hd ⟨i1, i2⟩
    have hd2 : d ≠ 126 := by rcases hd with rfl | rfl <;> decide
    rw [okE_two l hd, cnt_hit (by simp) (by decide) (one_yes 126 (d :: l))]
    show _ ≤ 1 + count (d :: l) [126] ∧ (1 + count (d :: l) [126] = _ ↔ _)
    rw [cnt_skip d l _ (by decide) (one_no l hd2)]
    rcases hd with rfl | rfl
    · rw [cnt_hit (by simp) (by decide) (two_yes 126 48 l), cnt_skip 126 _ [126, 49] (by decide) (two_no2 _ (by decide)), cnt_skip 48 l _ (by decide) (two_no _ _ (by decide))]
      show 1 + count l [126, 48] + _ ≤ _ ∧ (_ = 1 + count l [126, 48] + _ ↔ _)
      rw [← i2]
      omega
    · rw [cnt_hit (by simp) (by decide) (two_yes 126 49 l), cnt_skip 126 _ [126, 48] (by decide) (two_no2 _ (by decide)), cnt_skip 49 l _ (by decide) (two_no _ _ (by decide))]
      show _ + (1 + count l [126, 49]) ≤ _ ∧ (_ = _ + (1 + count l [126, 49]) ↔ _)
      rw [← i2]
      omega
  · decide
  · rintro d l hd ⟨i1, _⟩
    have h48 : d ≠ 48 := fun e => hd (.inl e)
    have h49 : d ≠ 49 := fun e => hd (.inr e)
    rw [cnt_hit (by simp) (by decide) (one_yes 126 (d :: l)), cnt_skip 126 _ [126, 48] (by decide) (two_no2 _ h48), cnt_skip 126 _ [126, 49] (by decide) (two_no2 _ h49), okE, if_pos rfl, if_neg hd]
    show _ ≤ 1 + count (d :: l) [126] ∧ (1 + count (d :: l) [126] = _ ↔ _)
    refine ⟨by omega, fun h => by omega, fun h => by cases h⟩

/-! ### the parts -/
theorem sp_some {sep : List UInt8} (s : List UInt8) : ∃ h t, sp sep s = h :: t := by
  unfold sp
  cases hk : count s sep with
  | zero => exact ⟨_, _, rfl⟩
  | succ k =>
    rw [splitK]
    split
    · exact ⟨_, _, rfl⟩
    · exact ⟨_, _, rfl⟩
theorem ahead_ahead (p q : List UInt8) {l : List (List UInt8)} (hl : l ≠ []) : ahead p (ahead q l) = ahead (p ++ q) l := by
  cases l with
  | nil => exact absurd rfl hl
  | cons h t => simp [ahead]
theorem ahead_nil {l : List (List UInt8)} (hl : l ≠ []) : ahead [] l = l := by
  cases l with
  | nil => exact absurd rfl hl
  | cons h t => simp [ahead]
theorem sp_ne {sep : List UInt8} (s : List UInt8) : sp sep s ≠ [] := by
  obtain ⟨h, t, e⟩ := sp_some (sep := sep) s
  rw [e]; exact List.cons_ne_nil _ _
/-- The parts of a text behind its first byte. -/
def pts (s : List UInt8) : List (List UInt8) := (sp [47] s).map un
theorem pts_ne (s : List UInt8) : pts s ≠ [] := by
  unfold pts
  intro h
  exact sp_ne s (List.map_eq_nil_iff.1 h)
theorem pts_slash (l : List UInt8) : pts (47 :: l) = [] :: pts l := by
  unfold pts
  rw [sp_hit (by simp) (by decide) (one_yes _ _), List.map_cons, un_nil]
  rfl
theorem pts_plain {c : UInt8} (l : List UInt8) (h1 : c ≠ 126) (h2 : c ≠ 47) : pts (c :: l) = ahead [c] (pts l) := by
  unfold pts
  rw [sp_skip (by decide) (one_no l h2)]
  obtain ⟨h, t, e⟩ := sp_some (sep := [47]) l
  rw [e]
  show un (c :: h) :: t.map un = _
  rw [un_plain h h1]
  rfl
theorem pts_two {d : UInt8} (l : List UInt8) (h : d = 48 ∨ d = 49) : pts (126 :: d :: l) = ahead [if d = 48 then 126 else 47] (pts l) := by
  have h2 : d ≠ 47 := by rcases h with rfl | rfl <;> decide
  unfold pts
  rw [sp_skip (by decide) (one_no _ (by decide)), sp_skip (by decide) (one_no l h2)]
  obtain ⟨x, t, e⟩ := sp_some (sep := [47]) l
  rw [e]
  show un (126 :: d :: x) :: t.map un = _
  rcases h with rfl | rfl
  · rw [un_tilde]; rfl
  · rw [un_slash]; rfl
theorem tk_is (s : List UInt8) : ∀ (ds : List (List UInt8)) (p : List UInt8), tk s ds p = if okE s = true then some (ds ++ ahead p (pts s)) else none := by
  refine ind2 (p := fun s => ∀ ds p, tk s ds p = if okE s = true then some (ds ++ ahead p (pts s)) else none) ?_ ?_ ?_ ?_ ?_ s
  · intro ds p
    have e : pts [] = [[]] := by unfold pts; rw [sp_nil (by decide)]; show [un []] = _; rw [un_nil]
    rw [e, if_pos (by rfl), tk, ahead, List.append_nil]
  · intro c l hc ih ds p
    rw [okE_plain l hc]
    by_cases h : c = 47
    · subst h
      rw [tk_slash, ih, pts_slash, ahead_nil (pts_ne l)]
      simp [ahead]
    · have e : tk (c :: l) ds p = tk l ds (p ++ [c]) := by
        have := tk_eB c l ds p
        unfold eB at this
        rw [if_neg hc, if_neg h] at this
        exact this
      rw [e, ih, pts_plain l hc h, ahead_ahead _ _ (pts_ne l)]
  · intro d l hd ih ds p
    rw [okE_two l hd, pts_two l hd, ahead_ahead _ _ (pts_ne l), tk, if_pos rfl]
    rcases hd with rfl | rfl
    · rw [if_pos rfl, ih]; rfl
    · rw [if_neg (by decide), if_pos rfl, ih]; rfl
  · intro ds p
    rw [tk, if_pos rfl, if_neg (by decide)]
  · intro d l hd _ ds p
    have h48 : d ≠ 48 := fun e => hd (.inl e)
    have h49 : d ≠ 49 := fun e => hd (.inr e)
    rw [tk, if_pos rfl, if_neg h48, if_neg h49, okE, if_pos rfl, if_neg hd, if_neg (by decide)]
/-- What a text says, as the code finds it. -/
theorem take_is (c : UInt8) (l : List UInt8) : tkP (c :: l) = if c = 47 ∧ okE (c :: l) = true then some (pts l) else none := by
  show (if c = 47 then tk l [] [] else none) = _
  by_cases h : c = 47
  · subst h
    rw [if_pos rfl, tk_is, okE_plain l (by decide), List.nil_append, ahead_nil (pts_ne l)]
    by_cases h2 : okE l = true
    · rw [if_pos h2, if_pos ⟨rfl, h2⟩]
    · rw [if_neg h2, if_neg (fun q => h2 q.2)]
  · rw [if_neg h, if_neg (fun q => h q.1)]
end Go.Proofs.YthkopnobekohcaaGreatDoor.Ptr
