/- Plain facts of the grammar: the machine that reads a text once, the grammar of pieces, and that both say the same; no program. Conditions: as each theorem states. · Plain facts of the grammar: blanks around, texts in brackets, how long a text of a level is; no program. Conditions: as each theorem states. · Plain facts of the grammar, piece by piece: what the document's tables hold; no program. Conditions: as each theorem states. -/
import Derived.Test.YtbpofhlnnldceaaGreatDoorPlainA
namespace Go.Proofs.YtbpofhlnnldceaaGreatDoor.Gr
open Go.Lib Go.Proofs.YtbpofhlnnldceaaGreatDoor.Utf Go.Proofs.YtbpofhlnnldceaaGreatDoor.Oct Go.Proofs.YtbpofhlnnldceaaGreatDoor.Quo Go.Proofs.YtbpofhlnnldceaaGreatDoor.Lx

/-! ### values without parts -/
/-- How many bytes of a quoted string stand at the head; 0: none. -/
def qn (l : List UInt8) : Nat := if hd l = 34 ∧ (tkQ (l.drop 1)).1 = 0 then (tkQ (l.drop 1)).2.1 + 1 else 0
/-- Of an integer. -/
def jn (l : List UInt8) : Nat := if dc l = 0 then 0 else sgn l + dc l
/-- Of one of the three words. -/
def wn (l : List UInt8) : Nat := if l.take 4 = [110, 117, 108, 108] then 4 else if l.take 4 = [116, 114, 117, 101] then 4 else if l.take 5 = [102, 97, 108, 115, 101] then 5 else 0
def sn (l : List UInt8) : Nat := if qn l ≠ 0 then qn l else if jn l ≠ 0 then jn l else wn l
/-- A value without parts. -/
def Sc (v : List UInt8) : Prop := v ≠ [] ∧ sn v = v.length
def Nm (v : List UInt8) : Prop := v ≠ [] ∧ qn v = v.length
def Bl (b : List UInt8) : Prop := ∀ c ∈ b, bl c.toNat = true
/-- No digit follows. -/
def fol (y : List UInt8) : Prop := dg (hd y) = false

theorem hd_nil : hd [] = 0 := rfl
theorem hd_cons (c : UInt8) (l : List UInt8) : hd (c :: l) = c.toNat := rfl
theorem qn_le (l : List UInt8) : qn l ≤ l.length := by
  unfold qn
  split
  · rename_i h
    have h1 := List.length_pos_iff.2 (hd_ne (l := l) (by omega))
    have h2 := (tkQ_in (l.drop 1)).1
    rw [List.length_drop] at h2
    omega
  · omega
theorem jn_le (l : List UInt8) : jn l ≤ l.length := by
  unfold jn; have := dc_le l; split <;> omega
theorem wn_le (l : List UInt8) : wn l ≤ l.length := by
  unfold wn
  split
  · rename_i h; exact take_le h
  · split
    · rename_i h; exact take_le h
    · split
      · rename_i h; exact take_le h
      · omega
theorem sn_le (l : List UInt8) : sn l ≤ l.length := by
  unfold sn
  split
  · exact qn_le l
  · split
    · exact jn_le l
    · exact wn_le l
theorem qn_hd {l : List UInt8} (h : qn l ≠ 0) : hd l = 34 := by
  unfold qn at h
  split at h
  · rename_i h1; exact h1.1
  · exact absurd rfl h
theorem dgs_hd {l : List UInt8} (h : dgs l ≠ 0) : dg (hd l) = true := by
  cases l with
  | nil => exact absurd rfl h
  | cons c l =>
    rw [dgs] at h
    by_cases h1 : dg c.toNat = true
    · exact h1
    · rw [if_neg h1] at h; exact absurd rfl h
theorem dg_iff (c : Nat) : dg c = true ↔ 48 ≤ c ∧ c ≤ 57 := by unfold dg; simp
theorem jn_hd {l : List UInt8} (h : jn l ≠ 0) : hd l = 45 ∨ dg (hd l) = true := by
  by_cases h1 : hd l = 45
  · exact .inl h1
  · right
    have hs : sgn l = 0 := if_neg h1
    unfold jn dc at h
    rw [hs, List.drop_zero] at h
    unfold dgc at h
    by_cases h0 : hd l = 48
    · rw [h0]; rfl
    · rw [if_neg h0] at h
      by_cases h2 : dgs l = 0
      · rw [if_pos h2] at h; exact absurd rfl h
      · exact dgs_hd h2
theorem hd_take {l x : List UInt8} {n : Nat} (h : l.take (n + 1) = x) : hd l = hd x := by
  subst h
  cases l <;> rfl
theorem wn_hd {l : List UInt8} (h : wn l ≠ 0) : hd l = 110 ∨ hd l = 116 ∨ hd l = 102 := by
  unfold wn at h
  split at h
  · rename_i h1; exact .inl (hd_take h1)
  · split at h
    · rename_i h1; exact .inr (.inl (hd_take h1))
    · split at h
      · rename_i h1; exact .inr (.inr (hd_take h1))
      · exact absurd rfl h
/-- What can stand at the head of a value without parts. -/
theorem sn_hd {l : List UInt8} (h : sn l ≠ 0) : hd l = 34 ∨ hd l = 45 ∨ (48 ≤ hd l ∧ hd l ≤ 57) ∨ hd l = 110 ∨ hd l = 116 ∨ hd l = 102 := by
  unfold sn at h
  by_cases h1 : qn l = 0
  · rw [if_neg (by simpa using h1)] at h
    by_cases h2 : jn l = 0
    · rw [if_neg (by simpa using h2)] at h
      have := wn_hd h
      omega
    · have := jn_hd h2
      rw [dg_iff] at this
      omega
  · exact .inl (qn_hd h1)
theorem qn_keep {v : List UInt8} (h : Nm v) (y : List UInt8) : qn (v ++ y) = v.length := by
  obtain ⟨h0, h1⟩ := h
  have hp := List.length_pos_iff.2 h0
  unfold qn at h1 ⊢
  rw [hd_left v y h0]
  by_cases h2 : hd v = 34 ∧ (tkQ (v.drop 1)).1 = 0
  · rw [if_pos h2] at h1
    have e := tkQ_keep (v.drop 1) [] y (by rw [List.append_nil]; exact h2.2) (by rw [List.append_nil, List.length_drop]; omega)
    rw [List.append_nil] at e
    rw [drop_left v y 1 hp, e, if_pos h2]
    exact h1
  · rw [if_neg h2] at h1; omega
theorem dgs_keep0 (p y : List UInt8) (h : dgs p = p.length) (hy : fol y) : dgs (p ++ y) = p.length := by
  cases y with
  | nil => rw [List.append_nil]; exact h
  | cons c t => exact dgs_keep p [] c t (by rw [List.append_nil]; exact h) hy
theorem jn_keep {v : List UInt8} (h0 : v ≠ []) (h : jn v = v.length) (y : List UInt8) (hy : fol y) : jn (v ++ y) = v.length := by
  have hp := List.length_pos_iff.2 h0
  have hsl := sgn_le1 v
  have hs : sgn (v ++ y) = sgn v := by unfold sgn; rw [hd_left v y h0]
  unfold jn at h ⊢
  by_cases h1 : dc v = 0
  · rw [if_pos h1] at h; omega
  · rw [if_neg h1] at h
    have hd1 : (v ++ y).drop (sgn v) = v.drop (sgn v) ++ y := drop_left v y _ (by omega)
    have hl : (v.drop (sgn v)).length = dc v := by rw [List.length_drop]; omega
    have hne : v.drop (sgn v) ≠ [] := fun e => by rw [e] at hl; exact h1 hl.symm
    have hdc : dc (v ++ y) = dc v := by
      unfold dc at hl ⊢
      rw [hs, hd1]
      unfold dgc at hl ⊢
      rw [hd_left _ y hne]
      by_cases h3 : hd (v.drop (sgn v)) = 48
      · rw [if_pos h3, if_pos h3]
      · rw [if_neg h3] at hl ⊢
        rw [if_neg h3, dgs_keep0 _ y hl.symm hy, hl]
    rw [hdc, hs, if_neg h1]
    exact h
theorem qn_none {l : List UInt8} (h : hd l ≠ 34) : qn l = 0 := by
  by_cases h1 : qn l = 0
  · exact h1
  · exact absurd (qn_hd h1) h
theorem jn_none {l : List UInt8} (h : hd l ≠ 45) (h2 : dg (hd l) = false) : jn l = 0 := by
  by_cases h1 : jn l = 0
  · exact h1
  · rcases jn_hd h1 with h3 | h3
    · exact absurd h3 h
    · rw [h2] at h3; cases h3
theorem wn_words {v : List UInt8} (h0 : v ≠ []) (h : wn v = v.length) : v = [110, 117, 108, 108] ∨ v = [116, 114, 117, 101] ∨ v = [102, 97, 108, 115, 101] := by
  unfold wn at h
  split at h
  · rename_i h1; rw [List.take_of_length_le (by omega)] at h1; exact .inl h1
  · split at h
    · rename_i h1; rw [List.take_of_length_le (by omega)] at h1; exact .inr (.inl h1)
    · split at h
      · rename_i h1; rw [List.take_of_length_le (by omega)] at h1; exact .inr (.inr h1)
      · exact absurd (List.eq_nil_of_length_eq_zero h.symm) h0
/-- A value without parts is read whole, if no digit follows. -/
theorem sn_keep {v : List UInt8} (h : Sc v) (y : List UInt8) (hy : fol y) : sn (v ++ y) = v.length := by
  obtain ⟨h0, h⟩ := h
  have hp := List.length_pos_iff.2 h0
  have e := hd_left v y h0
  unfold sn at h ⊢
  by_cases h1 : qn v = 0
  · rw [if_neg (by simpa using h1)] at h
    by_cases h2 : jn v = 0
    · rw [if_neg (by simpa using h2)] at h
      have hw : wn v ≠ 0 := by omega
      have h3 := wn_hd hw
      rw [qn_none (by rw [e]; omega), if_neg (by simp), jn_none (by rw [e]; omega) (by rw [e]; unfold dg; simp; omega), if_neg (by simp)]
      rcases wn_words h0 h with rfl | rfl | rfl
      · unfold wn; simp
      · unfold wn; simp
      · unfold wn; simp
    · rw [if_pos h2] at h
      have h3 := jn_hd h2
      rw [qn_none (by rw [e]; rw [dg_iff] at h3; omega), if_neg (by simp), jn_keep h0 h y hy, if_pos (by omega)]
  · rw [if_pos h1] at h
    rw [qn_keep ⟨h0, h⟩ y, if_pos (by omega)]

/-! ### the machine -/
/-- What is expected, what closes the open brackets (the innermost first), the most that were open. -/
structure St where
  ex : Nat
  E : List UInt8
  lv : Nat
def opened (s : St) (ex : Nat) (c : UInt8) : St := ⟨ex, c :: s.E, max s.lv (s.E.length + 1)⟩
def vStep (s : St) (m : List UInt8) : Option (St × Nat) :=
  if hd m = 91 then some (opened s 1 93, 1) else if hd m = 123 then some (opened s 2 125, 1) else if sn m ≠ 0 then some (⟨4, s.E, s.lv⟩, sn m) else none
/-- What closes the innermost brackets; 0: none. -/
def inr (E : List UInt8) : Nat := hd E
def eStep (s : St) (m : List UInt8) : Option (St × Nat) := if s.E ≠ [] ∧ hd m = hd s.E then some (⟨4, s.E.tail, s.lv⟩, 1) else none
def cStep (s : St) (m : List UInt8) : Option (St × Nat) := if s.E ≠ [] ∧ hd m = 44 then some (⟨if hd s.E = 125 then 3 else 0, s.E, s.lv⟩, 1) else none
/-- Where the colon behind a name is expected. -/
def kn (m : List UInt8) : Nat := qn m + skp (m.drop (qn m))
def nStep (s : St) (m : List UInt8) : Option (St × Nat) := if qn m ≠ 0 ∧ hd (m.drop (kn m)) = 58 then some (⟨0, s.E, s.lv⟩, kn m + 1) else none
def orE {α} (a b : Option α) : Option α := match a with | some x => some x | none => b
def step (s : St) (m : List UInt8) : Option (St × Nat) :=
  if s.ex = 0 then vStep s m else if s.ex = 1 then orE (eStep s m) (vStep s m) else if s.ex = 2 then orE (eStep s m) (nStep s m) else if s.ex = 3 then nStep s m else orE (cStep s m) (eStep s m)
def fin (s : St) : Int := if s.ex = 4 ∧ s.E = [] then (s.lv : Int) else -1
def runF : Nat → St → List UInt8 → Int
  | 0, _, _ => -1
  | f + 1, s, l => if l.drop (skp l) = [] then fin s else match step s (l.drop (skp l)) with
      | none => -1
      | some p => runF f p.1 ((l.drop (skp l)).drop p.2)
def run (s : St) (l : List UInt8) : Int := runF (l.length + 1) s l
def lvl (l : List UInt8) : Int := run ⟨0, [], 0⟩ l

theorem vStep_pos {s : St} {m : List UInt8} {p : St × Nat} (h : vStep s m = some p) : 1 ≤ p.2 ∧ p.2 ≤ m.length := by
  unfold vStep at h
  split at h
  · rename_i h1; cases h; exact ⟨Nat.le_refl _, List.length_pos_iff.2 (hd_ne (by omega))⟩
  · split at h
    · rename_i h1; cases h; exact ⟨Nat.le_refl _, List.length_pos_iff.2 (hd_ne (by omega))⟩
    · split at h
      · rename_i h1; cases h; exact ⟨by simp only; omega, sn_le m⟩
      · cases h
theorem eStep_pos {s : St} {m : List UInt8} {p : St × Nat} (hm : m ≠ []) (h : eStep s m = some p) : 1 ≤ p.2 ∧ p.2 ≤ m.length := by
  unfold eStep at h
  split at h
  · cases h; exact ⟨Nat.le_refl _, List.length_pos_iff.2 hm⟩
  · cases h
theorem cStep_pos {s : St} {m : List UInt8} {p : St × Nat} (hm : m ≠ []) (h : cStep s m = some p) : 1 ≤ p.2 ∧ p.2 ≤ m.length := by
  unfold cStep at h
  split at h
  · cases h; exact ⟨Nat.le_refl _, List.length_pos_iff.2 hm⟩
  · cases h
theorem kn_lt {m : List UInt8} (h : hd (m.drop (kn m)) = 58) : kn m < m.length := by
  have := List.length_pos_iff.2 (hd_ne (l := m.drop (kn m)) (by omega))
  rw [List.length_drop] at this
  omega
theorem nStep_pos {s : St} {m : List UInt8} {p : St × Nat} (h : nStep s m = some p) : 1 ≤ p.2 ∧ p.2 ≤ m.length := by
  unfold nStep at h
  split at h
  · rename_i h1; cases h; have := kn_lt h1.2; exact ⟨by simp only; omega, by simp only; omega⟩
  · cases h
theorem orE_some {α} {a b : Option α} {x : α} (h : orE a b = some x) : a = some x ∨ b = some x := by
  cases a with
  | none => exact .inr h
  | some y => exact .inl h
theorem step_pos {s : St} {m : List UInt8} {p : St × Nat} (hm : m ≠ []) (h : step s m = some p) : 1 ≤ p.2 ∧ p.2 ≤ m.length := by
  unfold step at h
  split at h
  · exact vStep_pos h
  · split at h
    · rcases orE_some h with h | h
      · exact eStep_pos hm h
      · exact vStep_pos h
    · split at h
      · rcases orE_some h with h | h
        · exact eStep_pos hm h
        · exact nStep_pos h
      · split at h
        · exact nStep_pos h
        · rcases orE_some h with h | h
          · exact cStep_pos hm h
          · exact eStep_pos hm h
theorem runF_fuel : ∀ (f g : Nat) (s : St) (l : List UInt8), l.length < f → l.length < g → runF f s l = runF g s l
  | 0, _, _, _, h, _ => by omega
  | _ + 1, 0, _, _, _, h => by omega
  | f + 1, g + 1, s, l, h1, h2 => by
    rw [runF, runF]
    by_cases hn : l.drop (skp l) = []
    · rw [if_pos hn, if_pos hn]
    · rw [if_neg hn, if_neg hn]
      cases hs : step s (l.drop (skp l)) with
      | none => rfl
      | some p =>
        have := step_pos hn hs
        simp only
        have hl : (l.drop (skp l)).length ≤ l.length := by rw [List.length_drop]; omega
        exact runF_fuel f g p.1 _ (by rw [List.length_drop]; omega) (by rw [List.length_drop]; omega)
theorem run_eq (s : St) (l : List UInt8) : run s l = if l.drop (skp l) = [] then fin s else match step s (l.drop (skp l)) with
      | none => -1
      | some p => run p.1 ((l.drop (skp l)).drop p.2) := by
  conv => lhs; unfold run
  rw [runF]
  by_cases hn : l.drop (skp l) = []
  · rw [if_pos hn, if_pos hn]
  · rw [if_neg hn, if_neg hn]
    cases hs : step s (l.drop (skp l)) with
    | none => rfl
    | some p =>
      have := step_pos hn hs
      simp only
      have hl : (l.drop (skp l)).length ≤ l.length := by rw [List.length_drop]; omega
      exact runF_fuel _ _ p.1 _ (by rw [List.length_drop]; omega) (by omega)
theorem run_end {s : St} {l : List UInt8} (h : l.drop (skp l) = []) : run s l = fin s := by rw [run_eq, if_pos h]
theorem run_bad {s : St} {l : List UInt8} (h : l.drop (skp l) ≠ []) (h2 : step s (l.drop (skp l)) = none) : run s l = -1 := by rw [run_eq, if_neg h, h2]
theorem run_go {s : St} {l : List UInt8} {p : St × Nat} (h : l.drop (skp l) ≠ []) (h2 : step s (l.drop (skp l)) = some p) : run s l = run p.1 ((l.drop (skp l)).drop p.2) := by rw [run_eq, if_neg h, h2]
theorem run_at {s : St} {m : List UInt8} {p : St × Nat} (h : m ≠ []) (hb : bl (hd m) = false) (h2 : step s m = some p) : run s m = run p.1 (m.drop p.2) := by
  have e : m.drop (skp m) = m := by rw [skp_none hb, List.drop_zero]
  have := run_go (s := s) (l := m) (p := p) (by rw [e]; exact h) (by rw [e]; exact h2)
  rw [e] at this
  exact this
theorem skp_pre {b : List UInt8} (h : Bl b) (l : List UInt8) : skp (b ++ l) = b.length + skp l := (nx_pre h l).2
theorem skp_Bl (l : List UInt8) : Bl (l.take (skp l)) := by
  induction l with
  | nil => intro c h; simp at h
  | cons c l ih =>
    rw [skp]
    by_cases h : bl c.toNat = true
    · rw [if_pos h, List.take_succ_cons]
      intro d hd
      rcases List.mem_cons.1 hd with rfl | h1
      · exact h
      · exact ih d h1
    · rw [if_neg h]; intro d hd; simp at hd
/-- Blanks ahead change nothing. -/
theorem run_bl {b : List UInt8} (h : Bl b) (s : St) (l : List UInt8) : run s (b ++ l) = run s l := by
  have e : (b ++ l).drop (skp (b ++ l)) = l.drop (skp l) := by
    rw [skp_pre h, ← List.drop_drop, List.drop_left' rfl]
  rw [run_eq, e, ← run_eq]
theorem run_skp (s : St) (l : List UInt8) : run s (l.drop (skp l)) = run s l := by
  have := run_bl (skp_Bl l) s (l.drop (skp l))
  rw [List.take_append_drop] at this
  exact this.symm

/-! ### the grammar -/
inductive Kd where
  | val
  | elm (t : Bool)
  | elms (t : Bool)
def op (t : Bool) : UInt8 := if t then 123 else 91
def cl (t : Bool) : UInt8 := if t then 125 else 93
/-- A text of each kind, and its level: lists have items, objects members. -/
inductive G : Kd → List UInt8 → Nat → Prop where
  | sc {v} : Sc v → G .val v 0
  | br0 (t) {b} : Bl b → G .val (op t :: (b ++ [cl t])) 1
  | br (t) {b d} : G (.elms t) b d → G .val (op t :: (b ++ [cl t])) (d + 1)
  | itm {a v b d} : Bl a → G .val v d → Bl b → G (.elm false) (a ++ (v ++ b)) d
  | mem {a n b x d} : Bl a → Nm n → Bl b → G (.elm false) x d → G (.elm true) (a ++ (n ++ (b ++ 58 :: x))) d
  | one {t x d} : G (.elm t) x d → G (.elms t) x d
  | more {t x d y e} : G (.elm t) x d → G (.elms t) y e → G (.elms t) (x ++ 44 :: y) (max d e)
/-- What is expected where an element begins; and right behind the bracket. -/
def st (t : Bool) : Nat := if t then 3 else 0
def st0 (t : Bool) : Nat := if t then 2 else 1

/-- How values begin. -/
theorem val_hd {v : List UInt8} {d : Nat} (h : G .val v d) : v ≠ [] ∧ bl (hd v) = false ∧ hd v ≠ 93 ∧ hd v ≠ 125 ∧ hd v ≠ 44 ∧ hd v ≠ 58 := by
  cases h with
  | sc h =>
    have h1 : sn v ≠ 0 := by rw [h.2]; have := List.length_pos_iff.2 h.1; omega
    have h2 := sn_hd h1
    refine ⟨h.1, ?_, by omega, by omega, by omega, by omega⟩
    unfold bl; simp; omega
  | br0 t h => cases t <;> exact ⟨by simp, rfl, by simp [hd_cons, op], by simp [hd_cons, op], by simp [hd_cons, op], by simp [hd_cons, op]⟩
  | br t h => cases t <;> exact ⟨by simp, rfl, by simp [hd_cons, op], by simp [hd_cons, op], by simp [hd_cons, op], by simp [hd_cons, op]⟩
theorem fol_bl {b : List UInt8} (h : Bl b) {y : List UInt8} (hy : fol y) : fol (b ++ y) := by
  cases b with
  | nil => exact hy
  | cons c b =>
    have := (bl_dg c.toNat (h c List.mem_cons_self)).1
    exact this
theorem st_inj (t : Bool) : st t = 0 ∧ t = false ∨ st t = 3 ∧ t = true := by cases t <;> simp [st]
theorem vStep_open (t : Bool) (s : St) (r : List UInt8) : vStep s (op t :: r) = some (opened s (st0 t) (cl t), 1) := by
  cases t
  · unfold vStep; rw [if_pos (by rfl)]; rfl
  · unfold vStep; rw [if_neg (by show ¬ (123 : Nat) = 91; decide), if_pos (by rfl)]; rfl
theorem eStep_none {s : St} {m : List UInt8} (h : hd m ≠ hd s.E) : eStep s m = none := if_neg fun h2 => h h2.2
theorem step_0 {s : St} (h : s.ex = 0) (m : List UInt8) : step s m = vStep s m := if_pos h
theorem step_1 {s : St} (h : s.ex = 1) (m : List UInt8) : step s m = orE (eStep s m) (vStep s m) := by
  unfold step; rw [if_neg (by omega), if_pos h]
theorem step_2 {s : St} (h : s.ex = 2) (m : List UInt8) : step s m = orE (eStep s m) (nStep s m) := by
  unfold step; rw [if_neg (by omega), if_neg (by omega), if_pos h]
theorem step_3 {s : St} (h : s.ex = 3) (m : List UInt8) : step s m = nStep s m := by
  unfold step; rw [if_neg (by omega), if_neg (by omega), if_neg (by omega), if_pos h]
theorem step_4 {s : St} (h : s.ex = 4) (m : List UInt8) : step s m = orE (cStep s m) (eStep s m) := by
  unfold step; rw [if_neg (by omega), if_neg (by omega), if_neg (by omega), if_neg (by omega)]
/-- Where an element may begin. -/
def ok (t : Bool) (s : St) : Prop := s.ex = st t ∨ s.ex = st0 t ∧ s.E ≠ [] ∧ hd s.E = (cl t).toNat
theorem step_val {s : St} {m : List UInt8} (h : ok false s) (hm : hd m ≠ 93) : step s m = vStep s m := by
  rcases h with h | ⟨h, _, h2⟩
  · exact step_0 h m
  · rw [step_1 h, eStep_none (by rw [h2]; exact hm)]
    rfl
theorem step_mem {s : St} {m : List UInt8} (h : ok true s) (hm : hd m ≠ 125) : step s m = nStep s m := by
  rcases h with h | ⟨h, _, h2⟩
  · exact step_3 h m
  · rw [step_2 h, eStep_none (by rw [h2]; exact hm)]
    rfl
theorem step_shut {s : St} {r : List UInt8} (t : Bool) (E : List UInt8) (hE : s.E = cl t :: E) (h : s.ex = st0 t ∨ s.ex = 4) : step s (cl t :: r) = some (⟨4, E, s.lv⟩, 1) := by
  have he : eStep s (cl t :: r) = some (⟨4, E, s.lv⟩, 1) := by
    unfold eStep
    rw [if_pos (by rw [hE]; exact ⟨by simp, rfl⟩), hE]; rfl
  have hc : cStep s (cl t :: r) = none := by
    unfold cStep
    refine if_neg fun h2 => ?_
    cases t <;> simp [hd_cons, cl] at h2
  rcases h with h | h
  · cases t
    · rw [step_1 h, he]; rfl
    · rw [step_2 h, he]; rfl
  · rw [step_4 h, hc, he]; rfl
theorem step_comma {s : St} {r : List UInt8} (t : Bool) (E : List UInt8) (hE : s.E = cl t :: E) (h : s.ex = 4) : step s (44 :: r) = some (⟨st t, s.E, s.lv⟩, 1) := by
  have hc : cStep s (44 :: r) = some (⟨st t, s.E, s.lv⟩, 1) := by
    unfold cStep
    rw [if_pos (by rw [hE]; exact ⟨by simp, rfl⟩), hE]
    cases t <;> rfl
  rw [step_4 h, hc]; rfl
theorem max_max (a b c : Nat) (h : b ≤ c) : max (max a b) c = max a c := by omega

/-- As many as are open, at least, were open. -/
def good (s : St) : Prop := s.E.length ≤ s.lv
/-- What the machine does on a text of each kind. -/
def Runs : Kd → List UInt8 → Nat → Prop
  | .val, v, d => ∀ s y, fol y → good s → ok false s → run s (v ++ y) = run ⟨4, s.E, max s.lv (s.E.length + d)⟩ y
  | .elm t, x, d => ∀ s y, fol y → good s → ok t s → run s (x ++ y) = run ⟨4, s.E, max s.lv (s.E.length + d)⟩ y
  | .elms t, x, d => ∀ s y E, s.E = cl t :: E → fol y → good s → ok t s → run s (x ++ y) = run ⟨4, s.E, max s.lv (s.E.length + d)⟩ y
theorem fol_cl (t : Bool) (y : List UInt8) : fol (cl t :: y) := by cases t <;> rfl
theorem bl_cl (t : Bool) (y : List UInt8) : bl (hd (cl t :: y)) = false := by cases t <;> rfl
theorem kn_at {n b x : List UInt8} (hn : Nm n) (hb : Bl b) : kn (n ++ (b ++ 58 :: x)) = n.length + b.length := by
  unfold kn
  rw [qn_keep hn, List.drop_left' rfl, skp_pre hb, skp_none (by rfl)]
  rfl
theorem Nm_hd {n : List UInt8} (h : Nm n) : hd n = 34 := qn_hd (by rw [h.2]; have := List.length_pos_iff.2 h.1; omega)
theorem open_run (t : Bool) (s : St) (hs : ok false s) (r : List UInt8) : run s (op t :: r) = run (opened s (st0 t) (cl t)) r := by
  have h1 : step s (op t :: r) = some (opened s (st0 t) (cl t), 1) := by
    rw [step_val hs (by cases t <;> simp [hd_cons, op]), vStep_open]
  have := run_at (by simp) (by cases t <;> rfl) h1
  exact this
theorem shut_run (t : Bool) (s : St) (E : List UInt8) (hE : s.E = cl t :: E) (h : s.ex = st0 t ∨ s.ex = 4) (r : List UInt8) : run s (cl t :: r) = run ⟨4, E, s.lv⟩ r := by
  have := run_at (by simp) (bl_cl t r) (step_shut (r := r) t E hE h)
  exact this
theorem comma_run (t : Bool) (s : St) (E : List UInt8) (hE : s.E = cl t :: E) (h : s.ex = 4) (r : List UInt8) : run s (44 :: r) = run ⟨st t, s.E, s.lv⟩ r := by
  have := run_at (by simp) (by rfl) (step_comma (r := r) t E hE h)
  exact this
theorem ok_st (t : Bool) (E : List UInt8) (lv : Nat) : ok t ⟨st t, E, lv⟩ := .inl rfl
theorem ok_st0 (t : Bool) (E : List UInt8) (lv : Nat) : ok t ⟨st0 t, cl t :: E, lv⟩ := .inr ⟨rfl, by simp, rfl⟩
theorem St_eq {a b : Nat} {E : List UInt8} {l : List UInt8} (h : a = b) : run ⟨4, E, a⟩ l = run ⟨4, E, b⟩ l := by rw [h]
theorem complete {k : Kd} {x : List UInt8} {d : Nat} (h : G k x d) : Runs k x d := by
  induction h with
  | @sc v h =>
    intro s y hy hg hs
    have hv := val_hd (.sc h)
    have hk := sn_keep h y hy
    have hp := List.length_pos_iff.2 h.1
    have hst : step s (v ++ y) = some (⟨4, s.E, s.lv⟩, v.length) := by
      have h0 := sn_hd (l := v ++ y) (by omega)
      have e := hd_left v y h.1
      rw [step_val hs (by rw [e]; exact hv.2.2.1)]
      unfold vStep
      rw [if_neg (by omega), if_neg (by omega), if_pos (by omega), hk]
    have := run_at (by simp [h.1]) (by rw [hd_left v y h.1]; exact hv.2.1) hst
    rw [this, List.drop_left' rfl]
    refine St_eq ?_
    unfold good at hg
    omega
  | @br0 t b h =>
    intro s y hy hg hs
    have e : op t :: (b ++ [cl t]) ++ y = op t :: (b ++ cl t :: y) := by simp
    rw [e, open_run t s hs, run_bl h, shut_run t _ s.E rfl (.inl rfl)]
    rfl
  | @br t b d h ih =>
    intro s y hy hg hs
    have e : op t :: (b ++ [cl t]) ++ y = op t :: (b ++ cl t :: y) := by simp
    rw [e, open_run t s hs, ih (opened s (st0 t) (cl t)) (cl t :: y) s.E rfl (fol_cl t y) (by unfold good opened; simp only [List.length_cons]; omega) (ok_st0 t _ _), shut_run t _ s.E rfl (.inr rfl)]
    refine St_eq ?_
    unfold opened
    simp only [List.length_cons]
    omega
  | @itm a v b d ha hv hb ih =>
    intro s y hy hg hs
    rw [List.append_assoc, run_bl ha, List.append_assoc, ih s (b ++ y) (fol_bl hb hy) hg hs, run_bl hb]
  | @mem a n b x d ha hn hb hx ih =>
    intro s y hy hg hs
    have e : a ++ (n ++ (b ++ 58 :: x)) ++ y = a ++ (n ++ (b ++ 58 :: (x ++ y))) := by simp
    rw [e, run_bl ha]
    have hh := Nm_hd hn
    have hst : step s (n ++ (b ++ 58 :: (x ++ y))) = some (⟨0, s.E, s.lv⟩, n.length + b.length + 1) := by
      have e2 := hd_left n (b ++ 58 :: (x ++ y)) hn.1
      rw [step_mem hs (by rw [e2]; omega)]
      unfold nStep
      have hp := List.length_pos_iff.2 hn.1
      have ek : kn (n ++ (b ++ 58 :: (x ++ y))) = n.length + b.length := kn_at hn hb
      rw [ek, if_pos]
      refine ⟨by rw [qn_keep hn]; omega, ?_⟩
      rw [← List.drop_drop, List.drop_left' rfl, List.drop_left' rfl]
      rfl
    have := run_at (by simp [hn.1]) (by rw [hd_left _ _ hn.1, hh]; rfl) hst
    rw [this]
    have e3 : (n ++ (b ++ 58 :: (x ++ y))).drop (n.length + b.length + 1) = x ++ y := by
      rw [← List.drop_drop, ← List.drop_drop, List.drop_left' rfl, List.drop_left' rfl]
      rfl
    simp only
    rw [e3]
    exact ih ⟨0, s.E, s.lv⟩ y hy hg (.inl rfl)
  | one h ih =>
    intro s y E hE hy hg hs
    exact ih s y hy hg hs
  | @more t x d y e h1 h2 ih1 ih2 =>
    intro s z E hE hy hg hs
    rw [List.append_assoc, ih1 s (44 :: y ++ z) (by rfl) hg hs, List.cons_append, comma_run t ⟨4, s.E, max s.lv (s.E.length + d)⟩ E hE rfl]
    unfold good at hg
    rw [ih2 ⟨st t, s.E, max s.lv (s.E.length + d)⟩ z E hE hy (by unfold good; simp only; omega) (ok_st t _ _)]
    refine St_eq ?_
    simp only
    omega

/-! ### the other way -/
theorem run_low (s : St) (l : List UInt8) : -1 ≤ run s l := by
  have h : ∀ f s l, -1 ≤ runF f s l := by
    intro f
    induction f with
    | zero => intro s l; rw [runF]; omega
    | succ f ih =>
      intro s l
      rw [runF]
      split
      · unfold fin; split <;> omega
      · split
        · omega
        · exact ih _ _
  exact h _ _ _
theorem run_yes {s : St} {l : List UInt8} (h : 0 ≤ run s l) : (l.drop (skp l) = [] ∧ s.ex = 4 ∧ s.E = []) ∨ ∃ p, l.drop (skp l) ≠ [] ∧ step s (l.drop (skp l)) = some p ∧ run s l = run p.1 ((l.drop (skp l)).drop p.2) := by
  by_cases h1 : l.drop (skp l) = []
  · rw [run_end h1] at h
    unfold fin at h
    split at h
    · rename_i h2; exact .inl ⟨h1, h2⟩
    · omega
  · right
    cases h2 : step s (l.drop (skp l)) with
    | none => rw [run_bad h1 h2] at h; omega
    | some p => exact ⟨p, h1, rfl, run_go h1 h2⟩
theorem cons_of {m : List UInt8} {c : UInt8} (h : m ≠ []) (h2 : hd m = c.toNat) : m = c :: m.drop 1 := by
  cases m with
  | nil => exact absurd rfl h
  | cons d m =>
    rw [hd_cons] at h2
    rw [UInt8.toNat_inj.1 h2]; rfl
theorem elm_bl {t : Bool} {x : List UInt8} {d : Nat} (h : G (.elm t) x d) {b : List UInt8} (hb : Bl b) : G (.elm t) (x ++ b) d := by
  have hf : ∀ {x d}, G (.elm false) x d → G (.elm false) (x ++ b) d := by
    intro x d h
    cases h with
    | @itm a v c d ha hv hc =>
      have e : a ++ (v ++ c) ++ b = a ++ (v ++ (c ++ b)) := by simp
      rw [e]
      refine .itm ha hv ?_
      intro u hu
      rcases List.mem_append.1 hu with h | h
      · exact hc u h
      · exact hb u h
  cases t with
  | false => exact hf h
  | true =>
    cases h with
    | @mem a n c x d ha hn hc hx =>
      have e : a ++ (n ++ (c ++ 58 :: x)) ++ b = a ++ (n ++ (c ++ 58 :: (x ++ b))) := by simp
      rw [e]
      exact .mem ha hn hc (hf hx)
theorem Bl_nil : Bl [] := fun c h => by cases h
/-- Texts of elements, and what closes them, stand at the head. -/
def El (t : Bool) (E : List UInt8) (lv : Nat) (l : List UInt8) : Prop :=
  ∃ z y e, G (.elms t) z e ∧ l = z ++ cl t :: y ∧ run ⟨st t, cl t :: E, lv⟩ l = run ⟨4, E, max lv (E.length + 1 + e)⟩ y
def Els (n : Nat) : Prop := ∀ t E lv l, l.length < n → E.length + 1 ≤ lv → 0 ≤ run ⟨st t, cl t :: E, lv⟩ l → El t E lv l
theorem qn_take {m : List UInt8} (h : qn m ≠ 0) : qn (m.take (qn m)) = qn m := by
  have hl := qn_le m
  have h1 := qn_hd h
  have hq : (tkQ (m.drop 1)).1 = 0 ∧ qn m = (tkQ (m.drop 1)).2.1 + 1 := by
    unfold qn at h ⊢
    by_cases h2 : hd m = 34 ∧ (tkQ (m.drop 1)).1 = 0
    · rw [if_pos h2]; exact ⟨h2.2, rfl⟩
    · rw [if_neg h2] at h; exact absurd rfl h
  obtain ⟨q1, q2⟩ := hq
  have e1 : m.drop 1 = (m.take (qn m)).drop 1 ++ m.drop (qn m) := by
    conv => lhs; rw [← List.take_append_drop (qn m) m]
    rw [drop_left _ _ 1 (by rw [List.length_take]; omega)]
  have hp : ((m.take (qn m)).drop 1).length = qn m - 1 := by rw [List.length_drop, List.length_take]; omega
  have e2 := tkQ_keep ((m.take (qn m)).drop 1) (m.drop (qn m)) [] (by rw [← e1]; exact q1) (by rw [← e1, hp]; omega)
  rw [List.append_nil, ← e1] at e2
  have h4 : hd (m.take (qn m)) = hd m := by
    cases m with
    | nil => rw [List.take_nil]
    | cons c m =>
      obtain ⟨k, hk⟩ := Nat.exists_eq_succ_of_ne_zero h
      rw [hk]; rfl
  generalize qn m = k at *
  unfold qn
  rw [h4, e2, if_pos ⟨h1, q1⟩, q2]
theorem dgs_take (l : List UInt8) : dgs (l.take (dgs l)) = dgs l := by
  induction l with
  | nil => rfl
  | cons c l ih =>
    by_cases h : dg c.toNat = true
    · have e : dgs (c :: l) = dgs l + 1 := by rw [dgs, if_pos h]
      rw [e, List.take_succ_cons, dgs, if_pos h, ih]
    · have e : dgs (c :: l) = 0 := by rw [dgs, if_neg h]
      rw [e]; rfl
theorem dgc_take (l : List UInt8) : dgc (l.take (dgc l)) = dgc l := by
  unfold dgc
  by_cases h : hd l = 48
  · rw [if_pos h]
    cases l with
    | nil => cases h
    | cons c l => rw [hd_cons] at h; rw [List.take_succ_cons, hd_cons, if_pos h]
  · rw [if_neg h]
    by_cases h1 : dgs l = 0
    · rw [h1]; rfl
    · have h4 : hd (l.take (dgs l)) = hd l := by
        cases l with
        | nil => rw [List.take_nil]
        | cons c m =>
          obtain ⟨k, hk⟩ := Nat.exists_eq_succ_of_ne_zero h1
          rw [hk]; rfl
      rw [h4, if_neg h, dgs_take]
theorem jn_take (m : List UInt8) : jn (m.take (jn m)) = jn m := by
  by_cases h : dc m = 0
  · have e : jn m = 0 := if_pos h
    rw [e]; rfl
  · have e : jn m = sgn m + dc m := if_neg h
    have h4 : hd (m.take (jn m)) = hd m := by
      cases m with
      | nil => rw [List.take_nil]
      | cons c m =>
        obtain ⟨k, hk⟩ := Nat.exists_eq_succ_of_ne_zero (n := jn (c :: m)) (by omega)
        rw [hk]; rfl
    have h5 : sgn (m.take (jn m)) = sgn m := by unfold sgn; rw [h4]
    have h6 : dc (m.take (jn m)) = dc m := by
      unfold dc
      rw [h5, e, List.drop_take, show sgn m + dc m - sgn m = dgc (m.drop (sgn m)) by unfold dc; omega, dgc_take]
    generalize jn m = k at *
    unfold jn
    rw [h5, h6, if_neg h, e]
theorem sn_q {l : List UInt8} (h : qn l ≠ 0) : sn l = qn l := if_pos h
theorem sn_j {l : List UInt8} (h : qn l = 0) (h2 : jn l ≠ 0) : sn l = jn l := by unfold sn; rw [if_neg (by simpa using h), if_pos h2]
theorem sn_w {l : List UInt8} (h : qn l = 0) (h2 : jn l = 0) : sn l = wn l := by unfold sn; rw [if_neg (by simpa using h), if_neg (by simpa using h2)]
theorem sn_take {m : List UInt8} (h : sn m ≠ 0) : sn (m.take (sn m)) = sn m := by
  by_cases h1 : qn m = 0
  · by_cases h2 : jn m = 0
    · rw [sn_w h1 h2] at h ⊢
      obtain ⟨w, hw1, hw2, hw3⟩ : ∃ w, m.take (wn m) = w ∧ w.length = wn m ∧ (w = [110, 117, 108, 108] ∨ w = [116, 114, 117, 101] ∨ w = [102, 97, 108, 115, 101]) := by
        refine ⟨_, rfl, by rw [List.length_take]; have := wn_le m; omega, ?_⟩
        unfold wn at h ⊢
        split
        · rename_i h3; exact .inl h3
        · split
          · rename_i h3; exact .inr (.inl h3)
          · split
            · rename_i h3; exact .inr (.inr h3)
            · rename_i a b c; rw [if_neg a, if_neg b, if_neg c] at h; exact absurd rfl h
      rw [hw1, ← hw2]
      rcases hw3 with rfl | rfl | rfl
      · rw [sn_w (qn_none (by decide)) (jn_none (by decide) (by decide))]; rfl
      · rw [sn_w (qn_none (by decide)) (jn_none (by decide) (by decide))]; rfl
      · rw [sn_w (qn_none (by decide)) (jn_none (by decide) (by decide))]; rfl
    · have h3 := jn_hd h2
      have h4 : hd (m.take (jn m)) = hd m := by
        cases m with
        | nil => rw [List.take_nil]
        | cons c m =>
          obtain ⟨k, hk⟩ := Nat.exists_eq_succ_of_ne_zero h2
          rw [hk]; rfl
      rw [sn_j h1 h2, sn_j (qn_none (by rw [h4]; rw [dg_iff] at h3; omega)) (by rw [jn_take]; exact h2), jn_take]
  · rw [sn_q h1, sn_q (by rw [qn_take h1]; exact h1), qn_take h1]
theorem sc_of {m : List UInt8} (h : sn m ≠ 0) : Sc (m.take (sn m)) := by
  have hl := sn_le m
  have hlen : (m.take (sn m)).length = sn m := by rw [List.length_take]; omega
  refine ⟨fun e => by rw [e] at hlen; exact h hlen.symm, ?_⟩
  rw [hlen]
  exact sn_take h
theorem val_of {n : Nat} (IH : Els n) {s : St} {m : List UInt8} {p : St × Nat} (hn : m.length ≤ n) (hg : good s) (h : vStep s m = some p) (h0 : 0 ≤ run p.1 (m.drop p.2)) :
    ∃ v y e, G .val v e ∧ m = v ++ y ∧ run p.1 (m.drop p.2) = run ⟨4, s.E, max s.lv (s.E.length + e)⟩ y := by
  have hbr : ∀ t : Bool, m = op t :: m.drop 1 → 0 ≤ run (opened s (st0 t) (cl t)) (m.drop 1) → ∃ v y e, G .val v e ∧ m = v ++ y ∧ run (opened s (st0 t) (cl t)) (m.drop 1) = run ⟨4, s.E, max s.lv (s.E.length + e)⟩ y := by
    intro t hm h1
    have hlen : (m.drop 1).length < m.length := by conv => rhs; rw [hm]
                                                   simp
    generalize m.drop 1 = r at *
    rcases run_yes h1 with ⟨_, h2, _⟩ | ⟨q, h2, h3, h4⟩
    · cases t <;> cases h2
    · have hb := skp_head r
      by_cases h5 : hd (r.drop (skp r)) = (cl t).toNat
      · have h6 := cons_of h2 h5
        have e1 : run (opened s (st0 t) (cl t)) r = run ⟨4, s.E, max s.lv (s.E.length + 1)⟩ ((r.drop (skp r)).drop 1) := by
          rw [← run_skp, h6, shut_run t _ s.E rfl (.inl rfl)]
          rfl
        refine ⟨op t :: (r.take (skp r) ++ [cl t]), (r.drop (skp r)).drop 1, 1, .br0 t (skp_Bl r), ?_, e1⟩
        rw [hm, List.cons_append, List.append_assoc, List.singleton_append, ← h6, List.take_append_drop]
      · have e0 : step (opened s (st0 t) (cl t)) (r.drop (skp r)) = step ⟨st t, cl t :: s.E, max s.lv (s.E.length + 1)⟩ (r.drop (skp r)) := by
          cases t with
          | false => rw [step_val (.inr ⟨rfl, by simp [opened], rfl⟩) h5, step_val (ok_st false _ _) h5]; rfl
          | true => rw [step_mem (.inr ⟨rfl, by simp [opened], rfl⟩) h5, step_mem (ok_st true _ _) h5]; rfl
        rw [e0] at h3
        have e1 : run (opened s (st0 t) (cl t)) r = run ⟨st t, cl t :: s.E, max s.lv (s.E.length + 1)⟩ r := by
          rw [h4, run_go h2 h3]
        rw [e1] at h1 ⊢
        obtain ⟨z, y, e, g1, g2, g3⟩ := IH t s.E _ r (by omega) (by omega) h1
        refine ⟨op t :: (z ++ [cl t]), y, e + 1, .br t g1, by rw [hm, g2]; simp, ?_⟩
        rw [g3]
        exact St_eq (by omega)
  unfold vStep at h
  by_cases h1 : hd m = 91
  · rw [if_pos h1] at h
    cases h
    exact hbr false (cons_of (hd_ne (by omega)) h1) h0
  · rw [if_neg h1] at h
    by_cases h2 : hd m = 123
    · rw [if_pos h2] at h
      cases h
      exact hbr true (cons_of (hd_ne (by omega)) h2) h0
    · rw [if_neg h2] at h
      by_cases h3 : sn m ≠ 0
      · rw [if_pos h3] at h
        cases h
        refine ⟨m.take (sn m), m.drop (sn m), 0, .sc (sc_of h3), (List.take_append_drop _ _).symm, ?_⟩
        unfold good at hg
        exact St_eq (by omega)
      · rw [if_neg h3] at h; cases h
/-- A value is expected, and blanks before it. -/
theorem item_of {n : Nat} (IH : Els n) {E : List UInt8} {lv : Nat} {l : List UInt8} (hn : l.length ≤ n) (hg : E.length ≤ lv) (h : 0 ≤ run ⟨0, E, lv⟩ l) :
    ∃ x y e, G (.elm false) x e ∧ l = x ++ y ∧ x ≠ [] ∧ run ⟨0, E, lv⟩ l = run ⟨4, E, max lv (E.length + e)⟩ y := by
  rcases run_yes h with ⟨_, h2, _⟩ | ⟨p, h2, h3, h4⟩
  · cases h2
  · have e0 : step ⟨0, E, lv⟩ (l.drop (skp l)) = vStep ⟨0, E, lv⟩ (l.drop (skp l)) := step_0 rfl _
    rw [e0] at h3
    rw [h4] at h ⊢
    obtain ⟨v, y, e, g1, g2, g3⟩ := val_of IH (s := ⟨0, E, lv⟩) (by rw [List.length_drop]; omega) hg h3 h
    refine ⟨l.take (skp l) ++ v, y, e, ?_, by rw [List.append_assoc, ← g2, List.take_append_drop], by simp [(val_hd g1).1], g3⟩
    have := G.itm (skp_Bl l) g1 Bl_nil
    rw [List.append_nil] at this
    exact this
theorem nm_of {m : List UInt8} (h : qn m ≠ 0) : Nm (m.take (qn m)) := by
  have hl := qn_le m
  have hlen : (m.take (qn m)).length = qn m := by rw [List.length_take]; omega
  refine ⟨fun e => by rw [e] at hlen; exact h hlen.symm, ?_⟩
  rw [hlen]
  exact qn_take h
theorem elm_of {n : Nat} (IH : Els n) (t : Bool) {E : List UInt8} {lv : Nat} {l : List UInt8} (hn : l.length ≤ n) (hg : E.length ≤ lv) (h : 0 ≤ run ⟨st t, E, lv⟩ l) :
    ∃ x y e, G (.elm t) x e ∧ l = x ++ y ∧ x ≠ [] ∧ run ⟨st t, E, lv⟩ l = run ⟨4, E, max lv (E.length + e)⟩ y := by
  cases t with
  | false => exact item_of IH hn hg h
  | true =>
    rcases run_yes h with ⟨_, h2, _⟩ | ⟨p, h2, h3, h4⟩
    · cases h2
    · have e0 : step ⟨st true, E, lv⟩ (l.drop (skp l)) = nStep ⟨st true, E, lv⟩ (l.drop (skp l)) := step_3 rfl _
      rw [e0] at h3
      rw [h4] at h ⊢
      have hlen : (l.drop (skp l)).length ≤ l.length := by rw [List.length_drop]; omega
      have hsplit : l = l.take (skp l) ++ l.drop (skp l) := (List.take_append_drop _ _).symm
      generalize hm : l.drop (skp l) = m at *
      unfold nStep at h3
      by_cases h5 : qn m ≠ 0 ∧ hd (m.drop (kn m)) = 58
      · rw [if_pos h5] at h3
        cases h3
        have hk := kn_lt h5.2
        obtain ⟨x, y, e, g1, g2, g3, g4⟩ := item_of IH (by rw [List.length_drop]; omega) hg h
        have hc : m.drop (kn m) = 58 :: m.drop (kn m + 1) := by
          have := cons_of (c := 58) (m := m.drop (kn m)) (hd_ne (by omega)) h5.2
          rw [List.drop_drop] at this
          exact this
        have hm2 : m = m.take (qn m) ++ ((m.drop (qn m)).take (skp (m.drop (qn m))) ++ 58 :: m.drop (kn m + 1)) := by
          rw [← hc]
          unfold kn
          rw [← List.drop_drop, List.take_append_drop, List.take_append_drop]
        refine ⟨l.take (skp l) ++ (m.take (qn m) ++ ((m.drop (qn m)).take (skp (m.drop (qn m))) ++ 58 :: x)), y, e, .mem (skp_Bl l) (nm_of h5.1) (skp_Bl _) g1, ?_, by simp, g4⟩
        conv => lhs; rw [hsplit, hm2, g2]
        simp
      · rw [if_neg h5] at h3; cases h3
theorem els_all : ∀ n, Els n
  | 0 => fun _ _ _ _ h => by omega
  | n + 1 => by
    have IH := els_all n
    intro t E lv l hl hg h
    obtain ⟨x, y, e, g1, g2, g3, g4⟩ := elm_of IH t (by omega) (by simpa using hg) h
    have hxp := List.length_pos_iff.2 g3
    have hyl : y.length + 1 ≤ n := by
      have := congrArg List.length g2
      rw [List.length_append] at this
      omega
    rw [g4] at h
    unfold El
    rw [g4]
    rcases run_yes h with ⟨_, _, h2⟩ | ⟨p, h2, h3, h4⟩
    · cases h2
    · have hsplit : y = y.take (skp y) ++ y.drop (skp y) := (List.take_append_drop _ _).symm
      have hyd : (y.drop (skp y)).length ≤ y.length := by rw [List.length_drop]; omega
      have hs : run ⟨4, cl t :: E, max lv ((cl t :: E).length + e)⟩ y = run ⟨4, cl t :: E, max lv ((cl t :: E).length + e)⟩ (y.drop (skp y)) := (run_skp _ _).symm
      rw [hs] at h ⊢
      have h9 : step ⟨4, cl t :: E, max lv ((cl t :: E).length + e)⟩ (y.drop (skp y)) = some p := h3
      clear h3 h4 hs
      have hbl := skp_Bl y
      generalize y.take (skp y) = b at *
      generalize y.drop (skp y) = m at *
      by_cases h5 : hd m = 44
      · have h6 := cons_of (c := 44) h2 h5
        rw [h6, comma_run t _ E rfl rfl] at h ⊢
        have hml : (m.drop 1).length + 1 ≤ m.length := by conv => rhs; rw [h6]
                                                          simp
        obtain ⟨z, u, f, k1, k2, k3⟩ := IH t E _ (m.drop 1) (by omega) (by simp only [List.length_cons]; omega) h
        refine ⟨x ++ b ++ 44 :: z, u, max e f, .more (elm_bl g1 hbl) k1, ?_, ?_⟩
        · conv => lhs; rw [g2, hsplit, h6, k2]
          simp
        · rw [k3]
          refine St_eq ?_
          simp only [List.length_cons]
          omega
      · by_cases h7 : hd m = (cl t).toNat
        · have h6 := cons_of h2 h7
          rw [h6, shut_run t _ E rfl (.inr rfl)]
          refine ⟨x ++ b, m.drop 1, e, .one (elm_bl g1 hbl), ?_, by rw [List.length_cons]⟩
          conv => lhs; rw [g2, hsplit, h6]
          simp
        · exfalso
          rw [step_4 rfl] at h9
          unfold cStep eStep at h9
          rw [if_neg (by simp [h5]), if_neg (fun h10 => h7 h10.2)] at h9
          cases h9

/-! ### levels -/
/-- What is read as a value, with blanks around, is one. -/
theorem lvl_sound {l : List UInt8} (h : 0 ≤ lvl l) : G (.elm false) l (lvl l).toNat := by
  obtain ⟨x, y, e, g1, g2, g3, g4⟩ := item_of (els_all l.length) (Nat.le_refl _) (Nat.le_refl _) h
  have h1 : lvl l = run ⟨4, [], max 0 (0 + e)⟩ y := g4
  rw [h1] at h ⊢
  rcases run_yes h with ⟨h2, _⟩ | ⟨p, h2, h3, h4⟩
  · have h5 := skp_Bl y
    have h6 : y.take (skp y) = y := by
      have := List.take_append_drop (skp y) y
      rw [h2, List.append_nil] at this
      exact this
    rw [h6] at h5
    rw [run_end h2, g2]
    have : (fin ⟨4, [], max 0 (0 + e)⟩).toNat = e := by unfold fin; rw [if_pos ⟨rfl, rfl⟩]; simp
    rw [this]
    exact elm_bl g1 h5
  · exfalso
    unfold step cStep eStep at h3
    simp [orE] at h3
theorem lvl_complete {l : List UInt8} {d : Nat} (h : G (.elm false) l d) : lvl l = (d : Int) := by
  have := complete h ⟨0, [], 0⟩ [] (by rfl) (Nat.le_refl _) (.inl rfl)
  rw [List.append_nil] at this
  unfold lvl
  rw [this, run_end (by rfl)]
  unfold fin
  rw [if_pos ⟨rfl, rfl⟩]
  simp
theorem lvl_low (l : List UInt8) : -1 ≤ lvl l := run_low _ _
theorem G_one {k : Kd} {x : List UInt8} {d e : Nat} (h : G k x d) (h2 : G k x e) : d = e := by
  have hv : ∀ {v d e}, G .val v d → G .val v e → d = e := by
    intro v d e h h2
    have h3 := lvl_complete (G.itm Bl_nil h Bl_nil)
    have h4 := lvl_complete (G.itm Bl_nil h2 Bl_nil)
    omega
  have hs : ∀ {t x d e}, G (.elms t) x d → G (.elms t) x e → d = e := by
    intro t x d e h h2
    have := hv (.br t h) (.br t h2)
    omega
  cases k with
  | val => exact hv h h2
  | elm t => exact hs (.one h) (.one h2)
  | elms t => exact hs h h2
end Go.Proofs.YtbpofhlnnldceaaGreatDoor.Gr

namespace Go.Proofs.YtbpofhlnnldceaaGreatDoor.Gr
open Go.Lib Go.Proofs.YtbpofhlnnldceaaGreatDoor.Utf Go.Proofs.YtbpofhlnnldceaaGreatDoor.Oct Go.Proofs.YtbpofhlnnldceaaGreatDoor.Quo Go.Proofs.YtbpofhlnnldceaaGreatDoor.Lx

/-! ### blanks at both ends -/
def lead (x : List UInt8) : List UInt8 := x.drop (skp x)
def trm (x : List UInt8) : List UInt8 := (lead (lead x).reverse).reverse
theorem lead_pre {b : List UInt8} (h : Bl b) (l : List UInt8) : lead (b ++ l) = lead l := by
  unfold lead
  rw [skp_pre h, ← List.drop_drop, List.drop_left' rfl]
theorem lead_none {l : List UInt8} (h : bl (hd l) = false) : lead l = l := by unfold lead; rw [skp_none h, List.drop_zero]
theorem lead_split (l : List UInt8) : ∃ a, Bl a ∧ l = a ++ lead l := ⟨l.take (skp l), skp_Bl l, (List.take_append_drop _ _).symm⟩
theorem lead_hd (l : List UInt8) : bl (hd (lead l)) = false := skp_head l
theorem lead_Bl {b : List UInt8} (h : Bl b) : lead b = [] := by
  have := lead_pre h []
  rw [List.append_nil] at this
  exact this
theorem Bl_rev {b : List UInt8} (h : Bl b) : Bl b.reverse := fun c hc => h c (List.mem_reverse.1 hc)
theorem Bl_app {a b : List UInt8} (h : Bl a) (h2 : Bl b) : Bl (a ++ b) := by
  intro c hc
  rcases List.mem_append.1 hc with h3 | h3
  · exact h c h3
  · exact h2 c h3
theorem trm_of {a v b : List UInt8} (ha : Bl a) (hb : Bl b) (h0 : v ≠ []) (h1 : bl (hd v) = false) (h2 : bl (hd v.reverse) = false) : trm (a ++ (v ++ b)) = v := by
  unfold trm
  rw [lead_pre ha, lead_none (l := v ++ b) (by rw [hd_left v b h0]; exact h1), List.reverse_append, lead_pre (Bl_rev hb), lead_none h2, List.reverse_reverse]
theorem trm_split (x : List UInt8) : ∃ a b, Bl a ∧ Bl b ∧ x = a ++ (trm x ++ b) := by
  obtain ⟨a, ha, e1⟩ := lead_split x
  obtain ⟨b, hb, e2⟩ := lead_split (lead x).reverse
  refine ⟨a, b.reverse, ha, Bl_rev hb, ?_⟩
  conv => lhs; rw [e1]
  congr 1
  have := congrArg List.reverse e2
  rw [List.reverse_reverse, List.reverse_append] at this
  exact this
theorem lead_app_some {s : List UInt8} (h : lead s ≠ []) (b : List UInt8) : lead (s ++ b) = lead s ++ b := by
  obtain ⟨a, ha, e⟩ := lead_split s
  conv => lhs; rw [e, List.append_assoc, lead_pre ha]
  rw [lead_none]
  rw [hd_left _ _ h]
  exact lead_hd s
/-- Blanks around change nothing. -/
theorem trm_around {a b : List UInt8} (ha : Bl a) (hb : Bl b) (s : List UInt8) : trm (a ++ (s ++ b)) = trm s := by
  unfold trm
  rw [lead_pre ha]
  by_cases h : lead s = []
  · obtain ⟨c, hc, e⟩ := lead_split s
    rw [h, List.append_nil] at e
    have h2 : lead (s ++ b) = [] := lead_Bl (Bl_app (e ▸ hc) hb)
    rw [h2, h]
  · rw [lead_app_some h, List.reverse_append, lead_pre (Bl_rev hb)]

/-! ### how values end -/
theorem bl_not {c : Nat} (h : c ≠ 32 ∧ c ≠ 9 ∧ c ≠ 10 ∧ c ≠ 13) : bl c = false := by unfold bl; simp; omega
theorem hd_rev {l : List UInt8} : hd l.reverse = (l.getD (l.length - 1) 0).toNat := by
  unfold hd
  cases l with
  | nil => rfl
  | cons c l =>
    rw [List.getD_eq_getElem?_getD, List.getD_eq_getElem?_getD, List.getElem?_reverse (by simp)]
    simp
theorem dgs_last : ∀ (l : List UInt8), dgs l = l.length → l ≠ [] → dg (hd l.reverse) = true
  | [], _, h => absurd rfl h
  | [c], h, _ => by
    rw [dgs] at h
    by_cases h1 : dg c.toNat = true
    · exact h1
    · rw [if_neg h1] at h; cases h
  | c :: d :: l, h, _ => by
    have h1 : dgs (d :: l) = (d :: l).length := by
      rw [dgs] at h
      by_cases h1 : dg c.toNat = true
      · rw [if_pos h1] at h; simp only [List.length_cons] at h ⊢; omega
      · rw [if_neg h1] at h; cases h
    have ih := dgs_last (d :: l) h1 (by simp)
    rw [List.reverse_cons, hd_left _ _ (by simp)]
    exact ih
theorem sc_last {v : List UInt8} (h : Sc v) : bl (hd v.reverse) = false := by
  obtain ⟨h0, h⟩ := h
  have hp := List.length_pos_iff.2 h0
  by_cases h1 : qn v = 0
  · by_cases h2 : jn v = 0
    · rw [sn_w h1 h2] at h
      rcases wn_words h0 h with rfl | rfl | rfl <;> rfl
    · rw [sn_j h1 h2] at h
      have h3 : dc v ≠ 0 := fun e => h2 (if_pos e)
      have h4 : jn v = sgn v + dc v := if_neg h3
      have hl : (v.drop (sgn v)).length = dc v := by rw [List.length_drop]; omega
      have hne : v.drop (sgn v) ≠ [] := fun e => by rw [e] at hl; exact h3 hl.symm
      have hlast : dg (hd (v.drop (sgn v)).reverse) = true := by
        unfold dc at hl
        unfold dgc at hl
        by_cases h48 : hd (v.drop (sgn v)) = 48
        · rw [if_pos h48] at hl
          obtain ⟨c, hc⟩ := List.length_eq_one_iff.1 hl
          rw [hc] at h48 ⊢
          rw [hd_cons] at h48
          show dg c.toNat = true
          rw [h48]; rfl
        · rw [if_neg h48] at hl
          exact dgs_last _ hl.symm hne
      have e : hd v.reverse = hd (v.drop (sgn v)).reverse := by
        conv => lhs; rw [← List.take_append_drop (sgn v) v, List.reverse_append]
        rw [hd_left _ _ (by simpa using hne)]
      rw [e]
      exact Bool.eq_false_iff.2 (fun hb => by rw [(bl_dg _ hb).1] at hlast; cases hlast)
  · rw [sn_q h1] at h
    have hq : hd v = 34 ∧ (tkQ (v.drop 1)).1 = 0 ∧ qn v = (tkQ (v.drop 1)).2.1 + 1 := by
      unfold qn at h1 ⊢
      by_cases h2 : hd v = 34 ∧ (tkQ (v.drop 1)).1 = 0
      · rw [if_pos h2]; exact ⟨h2.1, h2.2, rfl⟩
      · rw [if_neg h2] at h1; exact absurd rfl h1
    obtain ⟨_, q2, q3⟩ := hq
    obtain ⟨k1, k2⟩ := tkQ_end _ q2
    rw [List.getD_eq_getElem?_getD, List.getElem?_drop, ← List.getD_eq_getElem?_getD] at k2
    rw [hd_rev]
    have : v.length - 1 = 1 + ((tkQ (v.drop 1)).2.1 - 1) := by omega
    rw [this, k2]
    rfl
theorem val_last {v : List UInt8} {d : Nat} (h : G .val v d) : bl (hd v.reverse) = false := by
  cases h with
  | sc h => exact sc_last h
  | br0 t h => cases t <;> simp [hd_cons, cl] <;> rfl
  | br t h => cases t <;> simp [hd_cons, cl] <;> rfl
/-- An item is a value with blanks around. -/
theorem item_iff {x : List UInt8} {d : Nat} : G (.elm false) x d ↔ G .val (trm x) d := by
  constructor
  · intro h
    cases h with
    | @itm a v b d ha hv hb =>
      obtain ⟨h1, h2, _⟩ := val_hd hv
      rw [trm_of ha hb h1 h2 (val_last hv)]
      exact hv
  · intro h
    obtain ⟨a, b, ha, hb, e⟩ := trm_split x
    rw [e]
    exact .itm ha h hb
theorem lvl_none {x : List UInt8} (h : ∀ d, ¬ G (.elm false) x d) : lvl x = -1 := by
  have h1 := lvl_low x
  by_cases h2 : 0 ≤ lvl x
  · exact absurd (lvl_sound h2) (h _)
  · omega
theorem lvl_cases (x : List UInt8) : (lvl x = -1 ∧ ∀ d, ¬ G (.elm false) x d) ∨ ∃ d : Nat, lvl x = (d : Int) ∧ G (.elm false) x d := by
  by_cases h : 0 ≤ lvl x
  · exact .inr ⟨_, by omega, lvl_sound h⟩
  · exact .inl ⟨by have := lvl_low x; omega, fun d hd => by have := lvl_complete hd; omega⟩
theorem lvl_around {a b : List UInt8} (ha : Bl a) (hb : Bl b) (s : List UInt8) : lvl (a ++ (s ++ b)) = lvl s := by
  rcases lvl_cases s with ⟨h1, h2⟩ | ⟨d, h1, h2⟩
  · rw [h1]
    exact lvl_none fun d hd => h2 d (item_iff.2 (by rw [item_iff, trm_around ha hb] at hd; exact hd))
  · rw [h1]
    exact lvl_complete (item_iff.2 (by rw [trm_around ha hb]; exact item_iff.1 h2))

/-! ### in brackets -/
theorem val_item {v : List UInt8} {d : Nat} (h : G .val v d) : G (.elm false) v d := by
  have := G.itm Bl_nil h Bl_nil
  simpa using this
theorem list_of {x : List UInt8} {d : Nat} (h : G (.elm false) x d) : lvl (91 :: (x ++ [93])) = (d : Int) + 1 := by
  have := lvl_complete (val_item (.br false (.one h)))
  rw [show (91 :: (x ++ [93]) : List UInt8) = op false :: (x ++ [cl false]) from rfl, this]
  push_cast; rfl
theorem item_in {x : List UInt8} {d : Nat} (h : G (.elm false) x d) : G (.elm false) (91 :: (x ++ [93])) (d + 1) := val_item (.br false (.one h))
theorem item_bl {x : List UInt8} {d : Nat} (h : G (.elm false) x d) {b : List UInt8} (hb : Bl b) : G (.elm false) (b ++ x) d := by
  rw [item_iff] at h ⊢
  have := trm_around hb Bl_nil x
  rw [List.append_nil] at this
  rw [this]; exact h
theorem object_of {x : List UInt8} {d : Nat} (h : G (.elm false) x d) {b : List UInt8} (hb : Bl b) : lvl ([123, 34, 107, 34, 58] ++ b ++ x ++ [125]) = (d : Int) + 1 := by
  have hn : Nm [34, 107, 34] := ⟨by simp, by decide +kernel⟩
  have hm := G.mem Bl_nil hn Bl_nil (item_bl h hb)
  have := lvl_complete (val_item (.br true (.one hm)))
  have e : ([123, 34, 107, 34, 58] ++ b ++ x ++ [125] : List UInt8) = op true :: ([] ++ ([34, 107, 34] ++ ([] ++ 58 :: (b ++ x))) ++ [cl true]) := by simp [op, cl]
  rw [e, this]
  push_cast; rfl
theorem two_of {x : List UInt8} {d : Nat} (h : G (.elm false) x d) {b : List UInt8} (hb : Bl b) : lvl ([91, 48, 44] ++ x ++ [44] ++ b ++ x ++ [93]) = (d : Int) + 1 := by
  have h0 : G (.elm false) [48] 0 := val_item (.sc ⟨by simp, by decide +kernel⟩)
  have hm := G.more (t := false) h0 (G.more h (.one (item_bl h hb)))
  have := lvl_complete (val_item (.br false hm))
  have e : ([91, 48, 44] ++ x ++ [44] ++ b ++ x ++ [93] : List UInt8) = op false :: ([48] ++ 44 :: (x ++ 44 :: (b ++ x)) ++ [cl false]) := by simp [op, cl]
  rw [e, this]
  rw [show max 0 (max d d) = d by omega]
  push_cast; rfl
theorem more_bad {x : List UInt8} {d : Nat} (h : G (.elm false) x d) (c : UInt8) (hc : bl c.toNat = false) (hf : dg c.toNat = false) : lvl (x ++ [c]) = -1 := by
  have := complete h ⟨0, [], 0⟩ [c] hf (Nat.le_refl _) (.inl rfl)
  unfold lvl
  rw [this]
  have e : [c].drop (skp [c]) = [c] := lead_none (l := [c]) hc
  refine run_bad (by rw [e]; simp) ?_
  rw [step_4 rfl]
  unfold cStep eStep
  simp [orE]
theorem open_bad {x : List UInt8} {d : Nat} (h : G (.elm false) x d) : lvl (91 :: x) = -1 := by
  have h1 := open_run false ⟨0, [], 0⟩ (.inl rfl) x
  have h2 := complete (G.one h) (opened ⟨0, [], 0⟩ (st0 false) (cl false)) [] [] rfl (by rfl) (by unfold good opened; simp) (ok_st0 false _ _)
  rw [List.append_nil] at h2
  show run ⟨0, [], 0⟩ (op false :: x) = -1
  rw [h1, h2, run_end (by rfl)]
  rfl
/-- A text of a level has so many brackets. -/
theorem G_len {k : Kd} {x : List UInt8} {d : Nat} (h : G k x d) : 2 * d ≤ x.length := by
  induction h with
  | sc h => omega
  | br0 t h => simp
  | br t h ih => simp only [List.length_cons, List.length_append, List.length_nil]; omega
  | itm ha hv hb ih => simp only [List.length_append]; omega
  | mem ha hn hb hx ih => simp only [List.length_append, List.length_cons]; omega
  | one h ih => exact ih
  | more h1 h2 ih1 ih2 => simp only [List.length_append, List.length_cons]; omega
theorem lvl_len (x : List UInt8) : 2 * lvl x ≤ (x.length : Int) := by
  rcases lvl_cases x with ⟨h1, _⟩ | ⟨d, h1, h2⟩
  · omega
  · have := G_len h2; omega
end Go.Proofs.YtbpofhlnnldceaaGreatDoor.Gr

namespace Go.Proofs.YtbpofhlnnldceaaGreatDoor.Gr
open Go.Lib Go.Proofs.YtbpofhlnnldceaaGreatDoor.Utf Go.Proofs.YtbpofhlnnldceaaGreatDoor.Oct Go.Proofs.YtbpofhlnnldceaaGreatDoor.Quo Go.Proofs.YtbpofhlnnldceaaGreatDoor.Lx

/-! ### pieces -/
/-- The bytes from i to below j. -/
def pc (l : List UInt8) (i j : Nat) : List UInt8 := (l.drop i).take (j - i)
section
variable {l : List UInt8} {i j k : Nat}
theorem pc_len (h : j ≤ l.length) : (pc l i j).length = j - i := by unfold pc; rw [List.length_take, List.length_drop]; omega
theorem pc_nil (h : j ≤ i) : pc l i j = [] := by unfold pc; rw [show j - i = 0 by omega, List.take_zero]
theorem pc_whole : pc l 0 l.length = l := by unfold pc; rw [List.drop_zero, Nat.sub_zero, List.take_length]
theorem pc_drop (a : Nat) : (pc l i j).drop a = pc l (i + a) j := by
  unfold pc; rw [List.drop_take, List.drop_drop, show j - i - a = j - (i + a) by omega]
theorem pc_take (a : Nat) (h : i + a ≤ j) : (pc l i j).take a = pc l i (i + a) := by
  unfold pc; rw [List.take_take, show min a (j - i) = i + a - i by omega]
theorem pc_split (h1 : i ≤ k) (h2 : k ≤ j) : pc l i j = pc l i k ++ pc l k j := by
  have e := (List.take_append_drop (k - i) (pc l i j)).symm
  rw [pc_take _ (by omega), pc_drop, show i + (k - i) = k by omega] at e
  exact e
theorem pc_cons (h : i < j) (hj : j ≤ l.length) : pc l i j = l.getD i 0 :: pc l (i + 1) j := by
  have h2 : i < l.length := by omega
  unfold pc
  rw [List.drop_eq_getElem_cons h2, show j - i = (j - (i + 1)) + 1 by omega, List.take_succ_cons, List.getD_eq_getElem?_getD, List.getElem?_eq_getElem h2]
  rfl
theorem pc_one (h : i < l.length) : pc l i (i + 1) = [l.getD i 0] := by rw [pc_cons (by omega) (by omega), pc_nil (Nat.le_refl _)]
theorem pc_snoc (h : i < j) (hj : j ≤ l.length) : pc l i j = pc l i (j - 1) ++ [l.getD (j - 1) 0] := by
  rw [pc_split (k := j - 1) (by omega) (by omega)]
  congr 1
  have := pc_one (l := l) (i := j - 1) (by omega)
  rw [show j - 1 + 1 = j by omega] at this
  exact this
theorem pc_hd (h : i < j) (hj : j ≤ l.length) : hd (pc l i j) = (l.getD i 0).toNat := by rw [pc_cons h hj]; rfl
/-- A piece parted somewhere. -/
theorem pc_parts {a y : List UInt8} {c : UInt8} (hj : j ≤ l.length) (hi : i ≤ j) (h : pc l i j = a ++ c :: y) : ∃ k, i ≤ k ∧ k < j ∧ l.getD k 0 = c ∧ a = pc l i k ∧ y = pc l (k + 1) j := by
  have hl := congrArg List.length h
  rw [pc_len hj, List.length_append, List.length_cons] at hl
  have ht := congrArg (List.take a.length) h
  rw [List.take_left' rfl, pc_take _ (by omega)] at ht
  have hd := congrArg (List.drop a.length) h
  rw [List.drop_left' rfl, pc_drop, pc_cons (by omega) hj] at hd
  injection hd with h1 h2
  exact ⟨i + a.length, by omega, by omega, h1, ht.symm, h2.symm⟩
theorem pc_join (h1 : i ≤ k) (h2 : k < j) (hj : j ≤ l.length) : pc l i j = pc l i k ++ l.getD k 0 :: pc l (k + 1) j := by
  rw [pc_split (k := k) h1 (by omega), pc_cons (i := k) h2 hj]
end

/-! ### levels of pieces -/
open Classical in
/-- The level of a text of a kind, or -1. -/
noncomputable def gd (k : Kd) (x : List UInt8) : Int := if h : ∃ d, G k x d then (h.choose : Int) else -1
theorem gd_of {k : Kd} {x : List UInt8} {d : Nat} (h : G k x d) : gd k x = (d : Int) := by
  have hx : ∃ d, G k x d := ⟨d, h⟩
  unfold gd
  rw [dif_pos hx, G_one hx.choose_spec h]
theorem gd_none {k : Kd} {x : List UInt8} (h : ∀ d, ¬ G k x d) : gd k x = -1 := by
  unfold gd
  rw [dif_neg (fun ⟨d, hd⟩ => h d hd)]
theorem gd_cases (k : Kd) (x : List UInt8) : (gd k x = -1 ∧ ∀ d, ¬ G k x d) ∨ ∃ d : Nat, gd k x = (d : Int) ∧ G k x d := by
  by_cases h : ∃ d, G k x d
  · obtain ⟨d, h⟩ := h; exact .inr ⟨d, gd_of h, h⟩
  · have h2 : ∀ d, ¬ G k x d := fun d hd => h ⟨d, hd⟩
    exact .inl ⟨gd_none h2, h2⟩
theorem gd_low (k : Kd) (x : List UInt8) : -1 ≤ gd k x := by
  rcases gd_cases k x with ⟨h, _⟩ | ⟨d, h, _⟩ <;> omega
theorem gd_yes {k : Kd} {x : List UInt8} (h : 0 ≤ gd k x) : ∃ d : Nat, gd k x = (d : Int) ∧ G k x d := by
  rcases gd_cases k x with ⟨h1, _⟩ | h1
  · omega
  · exact h1
theorem gd_no {k : Kd} {x : List UInt8} (h : ¬ 0 ≤ gd k x) : gd k x = -1 ∧ ∀ d, ¬ G k x d := by
  rcases gd_cases k x with h1 | ⟨d, h1, _⟩
  · exact h1
  · omega
theorem gd_len (k : Kd) (x : List UInt8) : 2 * gd k x ≤ (x.length : Int) := by
  rcases gd_cases k x with ⟨h1, _⟩ | ⟨d, h1, h2⟩
  · omega
  · have := G_len h2; omega
theorem G_ne {k : Kd} {x : List UInt8} {d : Nat} (h : G k x d) : x ≠ [] := by
  induction h with
  | sc h => exact h.1
  | br0 t h => simp
  | br t h ih => simp
  | itm ha hv hb ih => simp [ih]
  | mem ha hn hb hx ih => simp
  | one h ih => exact ih
  | more h1 h2 ih1 ih2 => simp
theorem gd_nil (k : Kd) : gd k [] = -1 := gd_none fun _ h => G_ne h rfl
theorem lvl_gd (x : List UInt8) : lvl x = gd (.elm false) x := by
  rcases lvl_cases x with ⟨h1, h2⟩ | ⟨d, h1, h2⟩
  · rw [h1, gd_none h2]
  · rw [h1, gd_of h2]
theorem gd_item (x : List UInt8) : gd (.elm false) x = gd .val (trm x) := by
  rcases gd_cases (.elm false) x with ⟨h1, h2⟩ | ⟨d, h1, h2⟩
  · rw [h1, gd_none fun d hd => h2 d (item_iff.2 hd)]
  · rw [h1, gd_of (item_iff.1 h2)]

/-! ### elements with commas between -/
section
variable {l : List UInt8} {i j : Nat} {t : Bool}
theorem elms_one (h : 0 ≤ gd (.elm t) (pc l i j)) : gd (.elms t) (pc l i j) = gd (.elm t) (pc l i j) := by
  obtain ⟨d, h1, h2⟩ := gd_yes h
  rw [h1, gd_of (.one h2)]
theorem elms_more {k : Nat} (h1 : i ≤ k) (h2 : k < j) (hj : j ≤ l.length) (hc : (l.getD k 0).toNat = 44) (ha : 0 ≤ gd (.elm t) (pc l i k)) (hb : 0 ≤ gd (.elms t) (pc l (k + 1) j)) :
    gd (.elms t) (pc l i j) = max (gd (.elm t) (pc l i k)) (gd (.elms t) (pc l (k + 1) j)) := by
  obtain ⟨d, e1, g1⟩ := gd_yes ha
  obtain ⟨e, e2, g2⟩ := gd_yes hb
  have hc2 : l.getD k 0 = 44 := UInt8.toNat_inj.1 hc
  rw [e1, e2, pc_join h1 h2 hj, hc2, gd_of (.more g1 g2)]
  omega
theorem elms_none (hij : i ≤ j) (hj : j ≤ l.length) (h : ¬ 0 ≤ gd (.elm t) (pc l i j)) (h2 : ∀ k, i ≤ k → k < j → ¬ ((l.getD k 0).toNat = 44 ∧ 0 ≤ gd (.elm t) (pc l i k) ∧ 0 ≤ gd (.elms t) (pc l (k + 1) j))) : gd (.elms t) (pc l i j) = -1 := by
  refine gd_none fun d hd => ?_
  generalize hx : pc l i j = x at hd
  cases hd with
  | one h3 => rw [hx, gd_of h3] at h; omega
  | more h3 h4 =>
    obtain ⟨k, k1, k2, k3, k4, k5⟩ := pc_parts hj hij hx
    refine h2 k k1 k2 ⟨by rw [k3]; rfl, ?_, ?_⟩
    · rw [← k4, gd_of h3]; omega
    · rw [← k5, gd_of h4]; omega

/-! ### members -/
theorem nm_sc {n : List UInt8} (h : Nm n) : Sc n := ⟨h.1, by have := List.length_pos_iff.2 h.1; rw [sn_q (by rw [h.2]; omega), h.2]⟩
theorem trm_nm {a n b : List UInt8} (ha : Bl a) (hn : Nm n) (hb : Bl b) : trm (a ++ (n ++ b)) = n :=
  trm_of ha hb hn.1 (by rw [Nm_hd hn]; rfl) (sc_last (nm_sc hn))
theorem member_yes {k : Nat} (h1 : i ≤ k) (h2 : k < j) (hj : j ≤ l.length) (hc : (l.getD k 0).toNat = 58) (hn : Nm (trm (pc l i k))) (ha : 0 ≤ gd (.elm false) (pc l (k + 1) j)) :
    gd (.elm true) (pc l i j) = gd (.elm false) (pc l (k + 1) j) := by
  obtain ⟨d, e1, g1⟩ := gd_yes ha
  have hc2 : l.getD k 0 = 58 := UInt8.toNat_inj.1 hc
  obtain ⟨a, b, ba, bb, e⟩ := trm_split (pc l i k)
  have := G.mem ba hn bb g1
  have e2 : a ++ (trm (pc l i k) ++ (b ++ 58 :: pc l (k + 1) j)) = pc l i j := by
    rw [pc_join h1 h2 hj, hc2]
    conv => rhs; rw [e]
    simp
  rw [e2] at this
  rw [e1, gd_of this]
theorem member_none (hij : i ≤ j) (hj : j ≤ l.length) (h2 : ∀ k, i ≤ k → k < j → ¬ ((l.getD k 0).toNat = 58 ∧ Nm (trm (pc l i k)) ∧ 0 ≤ gd (.elm false) (pc l (k + 1) j))) : gd (.elm true) (pc l i j) = -1 := by
  refine gd_none fun d hd => ?_
  generalize hx : pc l i j = x at hd
  cases hd with
  | @mem a n b y d ha hn hb hy =>
    have e : a ++ (n ++ (b ++ 58 :: y)) = (a ++ (n ++ b)) ++ 58 :: y := by simp
    rw [e] at hx
    obtain ⟨k, k1, k2, k3, k4, k5⟩ := pc_parts hj hij hx
    refine h2 k k1 k2 ⟨by rw [k3]; rfl, ?_, ?_⟩
    · rw [← k4, trm_nm ha hn hb]; exact hn
    · rw [← k5, gd_of hy]; omega

/-! ### values -/
theorem val_sc {x : List UInt8} (h : Sc x) : gd .val x = 0 := gd_of (.sc h)
theorem val_open (t : Bool) (h1 : i + 2 ≤ j) (hj : j ≤ l.length) (ha : (l.getD i 0).toNat = (op t).toNat) (hb : (l.getD (j - 1) 0).toNat = (cl t).toNat) : pc l i j = op t :: (pc l (i + 1) (j - 1) ++ [cl t]) := by
  rw [pc_cons (by omega) hj, pc_snoc (i := i + 1) (by omega) hj, UInt8.toNat_inj.1 ha, UInt8.toNat_inj.1 hb]
theorem val_blank (t : Bool) (h1 : i + 2 ≤ j) (hj : j ≤ l.length) (ha : (l.getD i 0).toNat = (op t).toNat) (hb : (l.getD (j - 1) 0).toNat = (cl t).toNat) (h : Bl (pc l (i + 1) (j - 1))) : gd .val (pc l i j) = 1 := by
  rw [val_open t h1 hj ha hb]
  exact gd_of (.br0 t h)
theorem cons_inj {a b : UInt8} {x y : List UInt8} {c d : UInt8} (h : a :: (x ++ [c]) = b :: (y ++ [d])) : a = b ∧ x = y ∧ c = d := by
  injection h with h1 h2
  have := List.append_inj' h2 rfl
  exact ⟨h1, this.1, by simpa using this.2⟩
theorem op_inj {t u : Bool} (h : op t = op u) : t = u := by cases t <;> cases u <;> first | rfl | (exact absurd h (by decide))
theorem val_inside (t : Bool) (h1 : i + 2 ≤ j) (hj : j ≤ l.length) (ha : (l.getD i 0).toNat = (op t).toNat) (hb : (l.getD (j - 1) 0).toNat = (cl t).toNat) (hs : ¬ Sc (pc l i j)) (h : ¬ Bl (pc l (i + 1) (j - 1))) :
    gd .val (pc l i j) = if gd (.elms t) (pc l (i + 1) (j - 1)) < 0 then -1 else 1 + gd (.elms t) (pc l (i + 1) (j - 1)) := by
  have e := val_open t h1 hj ha hb
  by_cases h2 : gd (.elms t) (pc l (i + 1) (j - 1)) < 0
  · rw [if_pos h2]
    refine gd_none fun d hd => ?_
    rw [e] at hd hs
    generalize hx : op t :: (pc l (i + 1) (j - 1) ++ [cl t]) = x at hd hs
    cases hd with
    | sc h3 => exact hs h3
    | br0 u h3 => obtain ⟨_, k2, _⟩ := cons_inj hx; exact h (k2 ▸ h3)
    | br u h3 =>
      obtain ⟨k1, k2, _⟩ := cons_inj hx
      rw [← op_inj k1, ← k2] at h3
      rw [gd_of h3] at h2
      omega
  · rw [if_neg h2]
    obtain ⟨d, e1, g1⟩ := gd_yes (by omega : 0 ≤ gd (.elms t) (pc l (i + 1) (j - 1)))
    rw [e1, e, gd_of (.br t g1)]
    omega
theorem val_short (h : j < i + 2) (hj : j ≤ l.length) (hs : ¬ Sc (pc l i j)) : gd .val (pc l i j) = -1 := by
  refine gd_none fun d hd => ?_
  have hl := pc_len (l := l) (i := i) hj
  generalize pc l i j = x at *
  cases hd with
  | sc h3 => exact hs h3
  | br0 u h3 => simp only [List.length_cons, List.length_append, List.length_nil] at hl; omega
  | br u h3 => simp only [List.length_cons, List.length_append, List.length_nil] at hl; omega
theorem val_other (h1 : i + 2 ≤ j) (hj : j ≤ l.length) (hs : ¬ Sc (pc l i j)) (h : ∀ t, ¬ ((l.getD i 0).toNat = (op t).toNat ∧ (l.getD (j - 1) 0).toNat = (cl t).toNat)) : gd .val (pc l i j) = -1 := by
  refine gd_none fun d hd => ?_
  have e : pc l i j = l.getD i 0 :: (pc l (i + 1) (j - 1) ++ [l.getD (j - 1) 0]) := by rw [pc_cons (by omega) hj, pc_snoc (i := i + 1) (by omega) hj]
  rw [e] at hd hs
  generalize hx : l.getD i 0 :: (pc l (i + 1) (j - 1) ++ [l.getD (j - 1) 0]) = x at hd hs
  cases hd with
  | sc h3 => exact hs h3
  | br0 u h3 => obtain ⟨k1, _, k3⟩ := cons_inj hx; exact h u ⟨by rw [k1], by rw [k3]⟩
  | br u h3 => obtain ⟨k1, _, k3⟩ := cons_inj hx; exact h u ⟨by rw [k1], by rw [k3]⟩
end

/-! ### values without parts, as the document tells them -/
/-- Of an integer. -/
def Wh (v : List UInt8) : Prop := v.drop (sgn v) ≠ [] ∧ ¬ (1 < (v.drop (sgn v)).length ∧ hd (v.drop (sgn v)) = 48) ∧ dgs (v.drop (sgn v)) = (v.drop (sgn v)).length
theorem wh_iff (v : List UInt8) : Wh v ↔ v ≠ [] ∧ jn v = v.length := by
  have hsl := sgn_le1 v
  have hdl : (v.drop (sgn v)).length = v.length - sgn v := List.length_drop
  have hdc : dc v = dgc (v.drop (sgn v)) := rfl
  have hsv : sgn v + dc v ≤ v.length := Lx.dc_le v
  unfold Wh
  constructor
  · rintro ⟨h1, h2, h3⟩
    have hp := List.length_pos_iff.2 h1
    have hdc2 : dc v = (v.drop (sgn v)).length := by
      rw [hdc]; unfold dgc
      split
      · rename_i h4
        have : ¬ 1 < (v.drop (sgn v)).length := fun h5 => h2 ⟨h5, h4⟩
        omega
      · exact h3
    refine ⟨fun e => by subst e; simp at hp, ?_⟩
    have : jn v = sgn v + dc v := if_neg (by omega)
    omega
  · rintro ⟨h1, h2⟩
    have hp := List.length_pos_iff.2 h1
    have h3 : dc v ≠ 0 := fun e => by have : jn v = 0 := if_pos e; omega
    have h4 : jn v = sgn v + dc v := if_neg h3
    have h5 : dgc (v.drop (sgn v)) = (v.drop (sgn v)).length := by omega
    generalize v.drop (sgn v) = r at *
    have hr : r ≠ [] := fun e => by rw [e] at h5; rw [hdc, e] at h3; exact h3 rfl
    unfold dgc at h5
    by_cases h6 : hd r = 48
    · rw [if_pos h6] at h5
      refine ⟨hr, by omega, ?_⟩
      obtain ⟨c, rfl⟩ := List.length_eq_one_iff.1 h5.symm
      rw [hd_cons] at h6
      rw [dgs, h6]
      rfl
    · rw [if_neg h6] at h5
      exact ⟨hr, fun h => h6 h.2, h5⟩
theorem sc_iff (v : List UInt8) : Sc v ↔ v = [110, 117, 108, 108] ∨ v = [116, 114, 117, 101] ∨ v = [102, 97, 108, 115, 101] ∨ Wh v ∨ Nm v := by
  constructor
  · rintro ⟨h0, h⟩
    have hp := List.length_pos_iff.2 h0
    by_cases h1 : qn v = 0
    · by_cases h2 : jn v = 0
      · rw [sn_w h1 h2] at h
        rcases wn_words h0 h with h3 | h3 | h3
        · exact .inl h3
        · exact .inr (.inl h3)
        · exact .inr (.inr (.inl h3))
      · rw [sn_j h1 h2] at h
        exact .inr (.inr (.inr (.inl ((wh_iff v).2 ⟨h0, h⟩))))
    · rw [sn_q h1] at h
      exact .inr (.inr (.inr (.inr ⟨h0, h⟩)))
  · rintro (rfl | rfl | rfl | h | h)
    · exact ⟨by simp, by decide +kernel⟩
    · exact ⟨by simp, by decide +kernel⟩
    · exact ⟨by simp, by decide +kernel⟩
    · obtain ⟨h0, h1⟩ := (wh_iff v).1 h
      have hp := List.length_pos_iff.2 h0
      have h2 := jn_hd (l := v) (by omega)
      refine ⟨h0, ?_⟩
      rw [sn_j (qn_none (by rw [dg_iff] at h2; omega)) (by omega), h1]
    · exact nm_sc h
end Go.Proofs.YtbpofhlnnldceaaGreatDoor.Gr
