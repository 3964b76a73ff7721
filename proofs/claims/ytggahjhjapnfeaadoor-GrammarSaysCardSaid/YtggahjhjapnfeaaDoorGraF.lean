/- Plain facts of the grammar: blanks around, texts in brackets, how long a text of a level is; no program. Conditions: as each theorem states. -/
import Derived.Test.YtggahjhjapnfeaaDoorGraMath
namespace Go.Proofs.YtggahjhjapnfeaaDoor.Gr
open Go.Lib Go.Proofs.YtggahjhjapnfeaaDoor.Utf Go.Proofs.YtggahjhjapnfeaaDoor.Oct Go.Proofs.YtggahjhjapnfeaaDoor.Quo Go.Proofs.YtggahjhjapnfeaaDoor.Lx

/-! ### blanks at both ends -/
def lead (x : List UInt8) : List UInt8 := x.drop (skp x)
def trm (x : List UInt8) : List UInt8 := (lead (lead x).reverse).reverse
theorem lead_pre {b : List UInt8} (h : Bl b) (l : List UInt8) : lead (b ++ l) = lead l := by
  unfold lead
  rw [skp_pre h, ← List.drop_drop, List.drop_left' rfl]
theorem lead_none {l : List UInt8} (h : bl (hd l) = false) : lead l = l := by unfold lead; rw [skp_none h, List.drop_zero]
theorem lead_split (l : List UInt8) : ∃ a, Bl a ∧ l = a ++ lead l := ⟨l.take (skp l), skp_Bl l, (List.take_append_drop _ _).symm⟩
theorem lead_hd (l : List UInt8) : bl (hd (lead l)) = false := skp_head l
theorem lead_Bl {b : List UInt8} (h : Bl b) : lead b = [] := by
  have := lead_pre h []
  rw [List.append_nil] at this
  exact this
theorem Bl_rev {b : List UInt8} (h : Bl b) : Bl b.reverse := fun c hc => h c (List.mem_reverse.1 hc)
theorem Bl_app {a b : List UInt8} (h : Bl a) (h2 : Bl b) : Bl (a ++ b) := by
  intro c hc
  rcases List.mem_append.1 hc with h3 | h3
  · exact h c h3
  · exact h2 c h3
theorem trm_of {a v b : List UInt8} (ha : Bl a) (hb : Bl b) (h0 : v ≠ []) (h1 : bl (hd v) = false) (h2 : bl (hd v.reverse) = false) : trm (a ++ (v ++ b)) = v := by
  unfold trm
  rw [lead_pre ha, lead_none (l := v ++ b) (by rw [hd_left v b h0]; exact h1), List.reverse_append, lead_pre (Bl_rev hb), lead_none h2, List.reverse_reverse]
theorem trm_split (x : List UInt8) : ∃ a b, Bl a ∧ Bl b ∧ x = a ++ (trm x ++ b) := by
  obtain ⟨a, ha, e1⟩ := lead_split x
  obtain ⟨b, hb, e2⟩ := lead_split (lead x).reverse
  refine ⟨a, b.reverse, ha, Bl_rev hb, ?_⟩
  conv => lhs; rw [e1]
  congr 1
  have := congrArg List.reverse e2
  rw [List.reverse_reverse, List.reverse_append] at this
  exact this
theorem lead_app_some {s : List UInt8} (h : lead s ≠ []) (b : List UInt8) : lead (s ++ b) = lead s ++ b := by
  obtain ⟨a, ha, e⟩ := lead_split s
  conv => lhs; rw [e, List.append_assoc, lead_pre ha]
  rw [lead_none]
  rw [hd_left _ _ h]
  exact lead_hd s
/-- Blanks around change nothing. -/
theorem trm_around {a b : List UInt8} (ha : Bl a) (hb : Bl b) (s : List UInt8) : trm (a ++ (s ++ b)) = trm s := by
  unfold trm
  rw [lead_pre ha]
  by_cases h : lead s = []
  · obtain ⟨c, hc, e⟩ := lead_split s
    rw [h, List.append_nil] at e
    have h2 : lead (s ++ b) = [] := lead_Bl (Bl_app (e ▸ hc) hb)
    rw [h2, h]
  · rw [lead_app_some h, List.reverse_append, lead_pre (Bl_rev hb)]

/-! ### how values end -/
theorem bl_not {c : Nat} (h : c ≠ 32 ∧ c ≠ 9 ∧ c ≠ 10 ∧ c ≠ 13) : bl c = false := by unfold bl; simp; omega
theorem hd_rev {l : List UInt8} : hd l.reverse = (l.getD (l.length - 1) 0).toNat := by
  unfold hd
  cases l with
  | nil => rfl
  | cons c l =>
    rw [List.getD_eq_getElem?_getD, List.getD_eq_getElem?_getD, List.getElem?_reverse (by simp)]
    simp
theorem dgs_last : ∀ (l : List UInt8), dgs l = l.length → l ≠ [] → dg (hd l.reverse) = true
  | [], _, h => absurd rfl h
  | [c], h, _ => by
    rw [dgs] at h
    by_cases h1 : dg c.toNat = true
    · exact h1
    · rw [if_neg h1] at h; cases h
  | c :: d :: l, h, _ => by
    have h1 : dgs (d :: l) = (d :: l).length := by
      rw [dgs] at h
      by_cases h1 : dg c.toNat = true
      · rw [if_pos h1] at h; simp only [List.length_cons] at h ⊢; omega
      · rw [if_neg h1] at h; cases h
    have ih := dgs_last (d :: l) h1 (by simp)
    rw [List.reverse_cons, hd_left _ _ (by simp)]
    exact ih
theorem sc_last {v : List UInt8} (h : Sc v) : bl (hd v.reverse) = false := by
  obtain ⟨h0, h⟩ := h
  have hp := List.length_pos_iff.2 h0
  by_cases h1 : qn v = 0
  · by_cases h2 : jn v = 0
    · rw [sn_w h1 h2] at h
      rcases wn_words h0 h with rfl | rfl | rfl <;> rfl
    · rw [sn_j h1 h2] at h
      have h3 : dc v ≠ 0 := fun e => h2 (if_pos e)
      have h4 : jn v = sgn v + dc v := if_neg h3
      have hl : (v.drop (sgn v)).length = dc v := by rw [List.length_drop]; omega
      have hne : v.drop (sgn v) ≠ [] := fun e => by rw [e] at hl; exact h3 hl.symm
      have hlast : dg (hd (v.drop (sgn v)).reverse) = true := by
        unfold dc at hl
        unfold dgc at hl
        by_cases h48 : hd (v.drop (sgn v)) = 48
        · rw [if_pos h48] at hl
          obtain ⟨c, hc⟩ := List.length_eq_one_iff.1 hl
          rw [hc] at h48 ⊢
          rw [hd_cons] at h48
          show dg c.toNat = true
          rw [h48]; rfl
        · rw [if_neg h48] at hl
          exact dgs_last _ hl.symm hne
      have e : hd v.reverse = hd (v.drop (sgn v)).reverse := by
        conv => lhs; rw [← List.take_append_drop (sgn v) v, List.reverse_append]
        rw [hd_left _ _ (by simpa using hne)]
      rw [e]
      exact Bool.eq_false_iff.2 (fun hb => by rw [(bl_dg _ hb).1] at hlast; cases hlast)
  · rw [sn_q h1] at h
    have hq : hd v = 34 ∧ (tkQ (v.drop 1)).1 = 0 ∧ qn v = (tkQ (v.drop 1)).2.1 + 1 := by
      unfold qn at h1 ⊢
      by_cases h2 : hd v = 34 ∧ (tkQ (v.drop 1)).1 = 0
      · rw [if_pos h2]; exact ⟨h2.1, h2.2, rfl⟩
      · rw [if_neg h2] at h1; exact absurd rfl h1
    obtain ⟨_, q2, q3⟩ := hq
    obtain ⟨k1, k2⟩ := tkQ_end _ q2
    rw [List.getD_eq_getElem?_getD, List.getElem?_drop, ← List.getD_eq_getElem?_getD] at k2
    rw [hd_rev]
    have : v.length - 1 = 1 + ((tkQ (v.drop 1)).2.1 - 1) := by omega
    rw [this, k2]
    rfl
theorem val_last {v : List UInt8} {d : Nat} (h : G .val v d) : bl (hd v.reverse) = false := by
  cases h with
  | sc h => exact sc_last h
  | br0 t h => cases t <;> simp [hd_cons, cl] <;> rfl
  | br t h => cases t <;> simp [hd_cons, cl] <;> rfl
/-- An item is a value with blanks around. -/
theorem item_iff {x : List UInt8} {d : Nat} : G (.elm false) x d ↔ G .val (trm x) d := by
  constructor
  · intro h
    cases h with
    | @itm a v b d ha hv hb =>
      obtain ⟨h1, h2, _⟩ := val_hd hv
      rw [trm_of ha hb h1 h2 (val_last hv)]
      exact hv
  · intro h
    obtain ⟨a, b, ha, hb, e⟩ := trm_split x
    rw [e]
    exact .itm ha h hb
theorem lvl_none {x : List UInt8} (h : ∀ d, ¬ G (.elm false) x d) : lvl x = -1 := by
  have h1 := lvl_low x
  by_cases h2 : 0 ≤ lvl x
  · exact absurd (lvl_sound h2) (h _)
  · omega
theorem lvl_cases (x : List UInt8) : (lvl x = -1 ∧ ∀ d, ¬ G (.elm false) x d) ∨ ∃ d : Nat, lvl x = (d : Int) ∧ G (.elm false) x d := by
  by_cases h : 0 ≤ lvl x
  · exact .inr ⟨_, by omega, lvl_sound h⟩
  · exact .inl ⟨by have := lvl_low x; omega, fun d hd => by have := lvl_complete hd; omega⟩
theorem lvl_around {a b : List UInt8} (ha : Bl a) (hb : Bl b) (s : List UInt8) : lvl (a ++ (s ++ b)) = lvl s := by
  rcases lvl_cases s with ⟨h1, h2⟩ | ⟨d, h1, h2⟩
  · rw [h1]
    exact lvl_none fun d hd => h2 d (item_iff.2 (by rw [item_iff, trm_around ha hb] at hd; exact hd))
  · rw [h1]
    exact lvl_complete (item_iff.2 (by rw [trm_around ha hb]; exact item_iff.1 h2))

/-! ### in brackets -/
theorem val_item {v : List UInt8} {d : Nat} (h : G .val v d) : G (.elm false) v d := by
  have := G.itm Bl_nil h Bl_nil
  simpa using this
theorem list_of {x : List UInt8} {d : Nat} (h : G (.elm false) x d) : lvl (91 :: (x ++ [93])) = (d : Int) + 1 := by
  have := lvl_complete (val_item (.br false (.one h)))
  rw [show (91 :: (x ++ [93]) : List UInt8) = op false :: (x ++ [cl false]) from rfl, this]
  push_cast; rfl
theorem item_in {x : List UInt8} {d : Nat} (h : G (.elm false) x d) : G (.elm false) (91 :: (x ++ [93])) (d + 1) := val_item (.br false (.one h))
theorem item_bl {x : List UInt8} {d : Nat} (h : G (.elm false) x d) {b : List UInt8} (hb : Bl b) : G (.elm false) (b ++ x) d := by
  rw [item_iff] at h ⊢
  have := trm_around hb Bl_nil x
  rw [List.append_nil] at this
  rw [this]; exact h
theorem object_of {x : List UInt8} {d : Nat} (h : G (.elm false) x d) {b : List UInt8} (hb : Bl b) : lvl ([123, 34, 107, 34, 58] ++ b ++ x ++ [125]) = (d : Int) + 1 := by
  have hn : Nm [34, 107, 34] := ⟨by simp, by decide +kernel⟩
  have hm := G.mem Bl_nil hn Bl_nil (item_bl h hb)
  have := lvl_complete (val_item (.br true (.one hm)))
  have e : ([123, 34, 107, 34, 58] ++ b ++ x ++ [125] : List UInt8) = op true :: ([] ++ ([34, 107, 34] ++ ([] ++ 58 :: (b ++ x))) ++ [cl true]) := by simp [op, cl]
  rw [e, this]
  push_cast; rfl
theorem two_of {x : List UInt8} {d : Nat} (h : G (.elm false) x d) {b : List UInt8} (hb : Bl b) : lvl ([91, 48, 44] ++ x ++ [44] ++ b ++ x ++ [93]) = (d : Int) + 1 := by
  have h0 : G (.elm false) [48] 0 := val_item (.sc ⟨by simp, by decide +kernel⟩)
  have hm := G.more (t := false) h0 (G.more h (.one (item_bl h hb)))
  have := lvl_complete (val_item (.br false hm))
  have e : ([91, 48, 44] ++ x ++ [44] ++ b ++ x ++ [93] : List UInt8) = op false :: ([48] ++ 44 :: (x ++ 44 :: (b ++ x)) ++ [cl false]) := by simp [op, cl]
  rw [e, this]
  rw [show max 0 (max d d) = d by omega]
  push_cast; rfl
theorem more_bad {x : List UInt8} {d : Nat} (h : G (.elm false) x d) (c : UInt8) (hc : bl c.toNat = false) (hf : dg c.toNat = false) : lvl (x ++ [c]) = -1 := by
  have := complete h ⟨0, [], 0⟩ [c] hf (Nat.le_refl _) (.inl rfl)
  unfold lvl
  rw [this]
  have e : [c].drop (skp [c]) = [c] := lead_none (l := [c]) hc
  refine run_bad (by rw [e]; simp) ?_
  rw [step_4 rfl]
  unfold cStep eStep
  simp [orE]
theorem open_bad {x : List UInt8} {d : Nat} (h : G (.elm false) x d) : lvl (91 :: x) = -1 := by
  have h1 := open_run false ⟨0, [], 0⟩ (.inl rfl) x
  have h2 := complete (G.one h) (opened ⟨0, [], 0⟩ (st0 false) (cl false)) [] [] rfl (by rfl) (by unfold good opened; simp) (ok_st0 false _ _)
  rw [List.append_nil] at h2
  show run ⟨0, [], 0⟩ (op false :: x) = -1
  rw [h1, h2, run_end (by rfl)]
  rfl
/-- A text of a level has so many brackets. -/
theorem G_len {k : Kd} {x : List UInt8} {d : Nat} (h : G k x d) : 2 * d ≤ x.length := by
  induction h with
  | sc h => omega
  | br0 t h => simp
  | br t h ih => simp only [List.length_cons, List.length_append, List.length_nil]; omega
  | itm ha hv hb ih => simp only [List.length_append]; omega
  | mem ha hn hb hx ih => simp only [List.length_append, List.length_cons]; omega
  | one h ih => exact ih
  | more h1 h2 ih1 ih2 => simp only [List.length_append, List.length_cons]; omega
theorem lvl_len (x : List UInt8) : 2 * lvl x ≤ (x.length : Int) := by
  rcases lvl_cases x with ⟨h1, _⟩ | ⟨d, h1, h2⟩
  · omega
  · have := G_len h2; omega
end Go.Proofs.YtggahjhjapnfeaaDoor.Gr
