/- Plain facts of the grammar, piece by piece: what the document's tables hold; no program. Conditions: as each theorem states. -/
import Derived.Test.YtggahjhjapnfeaaDoorGraF
namespace Go.Proofs.YtggahjhjapnfeaaDoor.Gr
open Go.Lib Go.Proofs.YtggahjhjapnfeaaDoor.Utf Go.Proofs.YtggahjhjapnfeaaDoor.Oct Go.Proofs.YtggahjhjapnfeaaDoor.Quo Go.Proofs.YtggahjhjapnfeaaDoor.Lx

/-! ### pieces -/
/-- The bytes from i to below j. -/
def pc (l : List UInt8) (i j : Nat) : List UInt8 := (l.drop i).take (j - i)
section
variable {l : List UInt8} {i j k : Nat}
theorem pc_len (h : j ≤ l.length) : (pc l i j).length = j - i := by unfold pc; rw [List.length_take, List.length_drop]; omega
theorem pc_nil (h : j ≤ i) : pc l i j = [] := by unfold pc; rw [show j - i = 0 by omega, List.take_zero]
theorem pc_whole : pc l 0 l.length = l := by unfold pc; rw [List.drop_zero, Nat.sub_zero, List.take_length]
theorem pc_drop (a : Nat) : (pc l i j).drop a = pc l (i + a) j := by
  unfold pc; rw [List.drop_take, List.drop_drop, show j - i - a = j - (i + a) by omega]
theorem pc_take (a : Nat) (h : i + a ≤ j) : (pc l i j).take a = pc l i (i + a) := by
  unfold pc; rw [List.take_take, show min a (j - i) = i + a - i by omega]
theorem pc_split (h1 : i ≤ k) (h2 : k ≤ j) : pc l i j = pc l i k ++ pc l k j := by
  have e := (List.take_append_drop (k - i) (pc l i j)).symm
  rw [pc_take _ (by omega), pc_drop, show i + (k - i) = k by omega] at e
  exact e
theorem pc_cons (h : i < j) (hj : j ≤ l.length) : pc l i j = l.getD i 0 :: pc l (i + 1) j := by
  have h2 : i < l.length := by omega
  unfold pc
  rw [List.drop_eq_getElem_cons h2, show j - i = (j - (i + 1)) + 1 by omega, List.take_succ_cons, List.getD_eq_getElem?_getD, List.getElem?_eq_getElem h2]
  rfl
theorem pc_one (h : i < l.length) : pc l i (i + 1) = [l.getD i 0] := by rw [pc_cons (by omega) (by omega), pc_nil (Nat.le_refl _)]
theorem pc_snoc (h : i < j) (hj : j ≤ l.length) : pc l i j = pc l i (j - 1) ++ [l.getD (j - 1) 0] := by
  rw [pc_split (k := j - 1) (by omega) (by omega)]
  congr 1
  have := pc_one (l := l) (i := j - 1) (by omega)
  rw [show j - 1 + 1 = j by omega] at this
  exact this
theorem pc_hd (h : i < j) (hj : j ≤ l.length) : hd (pc l i j) = (l.getD i 0).toNat := by rw [pc_cons h hj]; rfl
/-- A piece parted somewhere. -/
theorem pc_parts {a y : List UInt8} {c : UInt8} (hj : j ≤ l.length) (hi : i ≤ j) (h : pc l i j = a ++ c :: y) : ∃ k, i ≤ k ∧ k < j ∧ l.getD k 0 = c ∧ a = pc l i k ∧ y = pc l (k + 1) j := by
  have hl := congrArg List.length h
  rw [pc_len hj, List.length_append, List.length_cons] at hl
  have ht := congrArg (List.take a.length) h
  rw [List.take_left' rfl, pc_take _ (by omega)] at ht
  have hd := congrArg (List.drop a.length) h
  rw [List.drop_left' rfl, pc_drop, pc_cons (by omega) hj] at hd
  injection hd with h1 h2
  exact ⟨i + a.length, by omega, by omega, h1, ht.symm, h2.symm⟩
theorem pc_join (h1 : i ≤ k) (h2 : k < j) (hj : j ≤ l.length) : pc l i j = pc l i k ++ l.getD k 0 :: pc l (k + 1) j := by
  rw [pc_split (k := k) h1 (by omega), pc_cons (i := k) h2 hj]
end

/-! ### levels of pieces -/
open Classical in
/-- The level of a text of a kind, or -1. -/
noncomputable def gd (k : Kd) (x : List UInt8) : Int := if h : ∃ d, G k x d then (h.choose : Int) else -1
theorem gd_of {k : Kd} {x : List UInt8} {d : Nat} (h : G k x d) : gd k x = (d : Int) := by
  have hx : ∃ d, G k x d := ⟨d, h⟩
  unfold gd
  rw [dif_pos hx, G_one hx.choose_spec h]
theorem gd_none {k : Kd} {x : List UInt8} (h : ∀ d, ¬ G k x d) : gd k x = -1 := by
  unfold gd
  rw [dif_neg (fun ⟨d, hd⟩ => h d hd)]
theorem gd_cases (k : Kd) (x : List UInt8) : (gd k x = -1 ∧ ∀ d, ¬ G k x d) ∨ ∃ d : Nat, gd k x = (d : Int) ∧ G k x d := by
  by_cases h : ∃ d, G k x d
  · obtain ⟨d, h⟩ := h; exact .inr ⟨d, gd_of h, h⟩
  · have h2 : ∀ d, ¬ G k x d := fun d hd => h ⟨d, hd⟩
    exact .inl ⟨gd_none h2, h2⟩
theorem gd_low (k : Kd) (x : List UInt8) : -1 ≤ gd k x := by
  rcases gd_cases k x with ⟨h, _⟩ | ⟨d, h, _⟩ <;> omega
theorem gd_yes {k : Kd} {x : List UInt8} (h : 0 ≤ gd k x) : ∃ d : Nat, gd k x = (d : Int) ∧ G k x d := by
  rcases gd_cases k x with ⟨h1, _⟩ | h1
  · omega
  · exact h1
theorem gd_no {k : Kd} {x : List UInt8} (h : ¬ 0 ≤ gd k x) : gd k x = -1 ∧ ∀ d, ¬ G k x d := by
  rcases gd_cases k x with h1 | ⟨d, h1, _⟩
  · exact h1
  · omega
theorem gd_len (k : Kd) (x : List UInt8) : 2 * gd k x ≤ (x.length : Int) := by
  rcases gd_cases k x with ⟨h1, _⟩ | ⟨d, h1, h2⟩
  · omega
  · have := G_len h2; omega
theorem G_ne {k : Kd} {x : List UInt8} {d : Nat} (h : G k x d) : x ≠ [] := by
  induction h with
  | sc h => exact h.1
  | br0 t h => simp
  | br t h ih => simp
  | itm ha hv hb ih => simp [ih]
  | mem ha hn hb hx ih => simp
  | one h ih => exact ih
  | more h1 h2 ih1 ih2 => simp
theorem gd_nil (k : Kd) : gd k [] = -1 := gd_none fun _ h => G_ne h rfl
theorem lvl_gd (x : List UInt8) : lvl x = gd (.elm false) x := by
  rcases lvl_cases x with ⟨h1, h2⟩ | ⟨d, h1, h2⟩
  · rw [h1, gd_none h2]
  · rw [h1, gd_of h2]
theorem gd_item (x : List UInt8) : gd (.elm false) x = gd .val (trm x) := by
  rcases gd_cases (.elm false) x with ⟨h1, h2⟩ | ⟨d, h1, h2⟩
  · rw [h1, gd_none fun d hd => h2 d (item_iff.2 hd)]
  · rw [h1, gd_of (item_iff.1 h2)]

/-! ### elements with commas between -/
section
variable {l : List UInt8} {i j : Nat} {t : Bool}
theorem elms_one (h : 0 ≤ gd (.elm t) (pc l i j)) : gd (.elms t) (pc l i j) = gd (.elm t) (pc l i j) := by
  obtain ⟨d, h1, h2⟩ := gd_yes h
  rw [h1, gd_of (.one h2)]
theorem elms_more {k : Nat} (h1 : i ≤ k) (h2 : k < j) (hj : j ≤ l.length) (hc : (l.getD k 0).toNat = 44) (ha : 0 ≤ gd (.elm t) (pc l i k)) (hb : 0 ≤ gd (.elms t) (pc l (k + 1) j)) :
    gd (.elms t) (pc l i j) = max (gd (.elm t) (pc l i k)) (gd (.elms t) (pc l (k + 1) j)) := by
  obtain ⟨d, e1, g1⟩ := gd_yes ha
  obtain ⟨e, e2, g2⟩ := gd_yes hb
  have hc2 : l.getD k 0 = 44 := UInt8.toNat_inj.1 hc
  rw [e1, e2, pc_join h1 h2 hj, hc2, gd_of (.more g1 g2)]
  omega
theorem elms_none (hij : i ≤ j) (hj : j ≤ l.length) (h : ¬ 0 ≤ gd (.elm t) (pc l i j)) (h2 : ∀ k, i ≤ k → k < j → ¬ ((l.getD k 0).toNat = 44 ∧ 0 ≤ gd (.elm t) (pc l i k) ∧ 0 ≤ gd (.elms t) (pc l (k + 1) j))) : gd (.elms t) (pc l i j) = -1 := by
  refine gd_none fun d hd => ?_
  generalize hx : pc l i j = x at hd
  cases hd with
  | one h3 => rw [hx, gd_of h3] at h; omega
  | more h3 h4 =>
    obtain ⟨k, k1, k2, k3, k4, k5⟩ := pc_parts hj hij hx
    refine h2 k k1 k2 ⟨by rw [k3]; rfl, ?_, ?_⟩
    · rw [← k4, gd_of h3]; omega
    · rw [← k5, gd_of h4]; omega

/-! ### members -/
theorem nm_sc {n : List UInt8} (h : Nm n) : Sc n := ⟨h.1, by have := List.length_pos_iff.2 h.1; rw [sn_q (by rw [h.2]; omega), h.2]⟩
theorem trm_nm {a n b : List UInt8} (ha : Bl a) (hn : Nm n) (hb : Bl b) : trm (a ++ (n ++ b)) = n :=
  trm_of ha hb hn.1 (by rw [Nm_hd hn]; rfl) (sc_last (nm_sc hn))
theorem member_yes {k : Nat} (h1 : i ≤ k) (h2 : k < j) (hj : j ≤ l.length) (hc : (l.getD k 0).toNat = 58) (hn : Nm (trm (pc l i k))) (ha : 0 ≤ gd (.elm false) (pc l (k + 1) j)) :
    gd (.elm true) (pc l i j) = gd (.elm false) (pc l (k + 1) j) := by
  obtain ⟨d, e1, g1⟩ := gd_yes ha
  have hc2 : l.getD k 0 = 58 := UInt8.toNat_inj.1 hc
  obtain ⟨a, b, ba, bb, e⟩ := trm_split (pc l i k)
  have := G.mem ba hn bb g1
  have e2 : a ++ (trm (pc l i k) ++ (b ++ 58 :: pc l (k + 1) j)) = pc l i j := by
    rw [pc_join h1 h2 hj, hc2]
    conv => rhs; rw [e]
    simp
  rw [e2] at this
  rw [e1, gd_of this]
theorem member_none (hij : i ≤ j) (hj : j ≤ l.length) (h2 : ∀ k, i ≤ k → k < j → ¬ ((l.getD k 0).toNat = 58 ∧ Nm (trm (pc l i k)) ∧ 0 ≤ gd (.elm false) (pc l (k + 1) j))) : gd (.elm true) (pc l i j) = -1 := by
  refine gd_none fun d hd => ?_
  generalize hx : pc l i j = x at hd
  cases hd with
  | @mem a n b y d ha hn hb hy =>
    have e : a ++ (n ++ (b ++ 58 :: y)) = (a ++ (n ++ b)) ++ 58 :: y := by simp
    rw [e] at hx
    obtain ⟨k, k1, k2, k3, k4, k5⟩ := pc_parts hj hij hx
    refine h2 k k1 k2 ⟨by rw [k3]; rfl, ?_, ?_⟩
    · rw [← k4, trm_nm ha hn hb]; exact hn
    · rw [← k5, gd_of hy]; omega

/-! ### values -/
theorem val_sc {x : List UInt8} (h : Sc x) : gd .val x = 0 := gd_of (.sc h)
theorem val_open (t : Bool) (h1 : i + 2 ≤ j) (hj : j ≤ l.length) (ha : (l.getD i 0).toNat = (op t).toNat) (hb : (l.getD (j - 1) 0).toNat = (cl t).toNat) : pc l i j = op t :: (pc l (i + 1) (j - 1) ++ [cl t]) := by
  rw [pc_cons (by omega) hj, pc_snoc (i := i + 1) (by omega) hj, UInt8.toNat_inj.1 ha, UInt8.toNat_inj.1 hb]
theorem val_blank (t : Bool) (h1 : i + 2 ≤ j) (hj : j ≤ l.length) (ha : (l.getD i 0).toNat = (op t).toNat) (hb : (l.getD (j - 1) 0).toNat = (cl t).toNat) (h : Bl (pc l (i + 1) (j - 1))) : gd .val (pc l i j) = 1 := by
  rw [val_open t h1 hj ha hb]
  exact gd_of (.br0 t h)
theorem cons_inj {a b : UInt8} {x y : List UInt8} {c d : UInt8} (h : a :: (x ++ [c]) = b :: (y ++ [d])) : a = b ∧ x = y ∧ c = d := by
  injection h with h1 h2
  have := List.append_inj' h2 rfl
  exact ⟨h1, this.1, by simpa using this.2⟩
theorem op_inj {t u : Bool} (h : op t = op u) : t = u := by cases t <;> cases u <;> first | rfl | (exact absurd h (by decide))
theorem val_inside (t : Bool) (h1 : i + 2 ≤ j) (hj : j ≤ l.length) (ha : (l.getD i 0).toNat = (op t).toNat) (hb : (l.getD (j - 1) 0).toNat = (cl t).toNat) (hs : ¬ Sc (pc l i j)) (h : ¬ Bl (pc l (i + 1) (j - 1))) :
    gd .val (pc l i j) = if gd (.elms t) (pc l (i + 1) (j - 1)) < 0 then -1 else 1 + gd (.elms t) (pc l (i + 1) (j - 1)) := by
  have e := val_open t h1 hj ha hb
  by_cases h2 : gd (.elms t) (pc l (i + 1) (j - 1)) < 0
  · rw [if_pos h2]
    refine gd_none fun d hd => ?_
    rw [e] at hd hs
    generalize hx : op t :: (pc l (i + 1) (j - 1) ++ [cl t]) = x at hd hs
    cases hd with
    | sc h3 => exact hs h3
    | br0 u h3 => obtain ⟨_, k2, _⟩ := cons_inj hx; exact h (k2 ▸ h3)
    | br u h3 =>
      obtain ⟨k1, k2, _⟩ := cons_inj hx
      rw [← op_inj k1, ← k2] at h3
      rw [gd_of h3] at h2
      omega
  · rw [if_neg h2]
    obtain ⟨d, e1, g1⟩ := gd_yes (by omega : 0 ≤ gd (.elms t) (pc l (i + 1) (j - 1)))
    rw [e1, e, gd_of (.br t g1)]
    omega
theorem val_short (h : j < i + 2) (hj : j ≤ l.length) (hs : ¬ Sc (pc l i j)) : gd .val (pc l i j) = -1 := by
  refine gd_none fun d hd => ?_
  have hl := pc_len (l := l) (i := i) hj
  generalize pc l i j = x at *
  cases hd with
  | sc h3 => exact hs h3
  | br0 u h3 => simp only [List.length_cons, List.length_append, List.length_nil] at hl; omega
  | br u h3 => simp only [List.length_cons, List.length_append, List.length_nil] at hl; omega
theorem val_other (h1 : i + 2 ≤ j) (hj : j ≤ l.length) (hs : ¬ Sc (pc l i j)) (h : ∀ t, ¬ ((l.getD i 0).toNat = (op t).toNat ∧ (l.getD (j - 1) 0).toNat = (cl t).toNat)) : gd .val (pc l i j) = -1 := by
  refine gd_none fun d hd => ?_
  have e : pc l i j = l.getD i 0 :: (pc l (i + 1) (j - 1) ++ [l.getD (j - 1) 0]) := by rw [pc_cons (by omega) hj, pc_snoc (i := i + 1) (by omega) hj]
  rw [e] at hd hs
  generalize hx : l.getD i 0 :: (pc l (i + 1) (j - 1) ++ [l.getD (j - 1) 0]) = x at hd hs
  cases hd with
  | sc h3 => exact hs h3
  | br0 u h3 => obtain ⟨k1, _, k3⟩ := cons_inj hx; exact h u ⟨by rw [k1], by rw [k3]⟩
  | br u h3 => obtain ⟨k1, _, k3⟩ := cons_inj hx; exact h u ⟨by rw [k1], by rw [k3]⟩
end

/-! ### values without parts, as the document tells them -/
/-- Of an integer. -/
def Wh (v : List UInt8) : Prop := v.drop (sgn v) ≠ [] ∧ ¬ (1 < (v.drop (sgn v)).length ∧ hd (v.drop (sgn v)) = 48) ∧ dgs (v.drop (sgn v)) = (v.drop (sgn v)).length
theorem wh_iff (v : List UInt8) : Wh v ↔ v ≠ [] ∧ jn v = v.length := by
  have hsl := sgn_le1 v
  have hdl : (v.drop (sgn v)).length = v.length - sgn v := List.length_drop
  have hdc : dc v = dgc (v.drop (sgn v)) := rfl
  have hsv : sgn v + dc v ≤ v.length := Lx.dc_le v
  unfold Wh
  constructor
  · rintro ⟨h1, h2, h3⟩
    have hp := List.length_pos_iff.2 h1
    have hdc2 : dc v = (v.drop (sgn v)).length := by
      rw [hdc]; unfold dgc
      split
      · rename_i h4
        have : ¬ 1 < (v.drop (sgn v)).length := fun h5 => h2 ⟨h5, h4⟩
        omega
      · exact h3
    refine ⟨fun e => by subst e; simp at hp, ?_⟩
    have : jn v = sgn v + dc v := if_neg (by omega)
    omega
  · rintro ⟨h1, h2⟩
    have hp := List.length_pos_iff.2 h1
    have h3 : dc v ≠ 0 := fun e => by have : jn v = 0 := if_pos e; omega
    have h4 : jn v = sgn v + dc v := if_neg h3
    have h5 : dgc (v.drop (sgn v)) = (v.drop (sgn v)).length := by omega
    generalize v.drop (sgn v) = r at *
    have hr : r ≠ [] := fun e => by rw [e] at h5; rw [hdc, e] at h3; exact h3 rfl
    unfold dgc at h5
    by_cases h6 : hd r = 48
    · rw [if_pos h6] at h5
      refine ⟨hr, by omega, ?_⟩
      obtain ⟨c, rfl⟩ := List.length_eq_one_iff.1 h5.symm
      rw [hd_cons] at h6
      rw [dgs, h6]
      rfl
    · rw [if_neg h6] at h5
      exact ⟨hr, fun h => h6 h.2, h5⟩
theorem sc_iff (v : List UInt8) : Sc v ↔ v = [110, 117, 108, 108] ∨ v = [116, 114, 117, 101] ∨ v = [102, 97, 108, 115, 101] ∨ Wh v ∨ Nm v := by
  constructor
  · rintro ⟨h0, h⟩
    have hp := List.length_pos_iff.2 h0
    by_cases h1 : qn v = 0
    · by_cases h2 : jn v = 0
      · rw [sn_w h1 h2] at h
        rcases wn_words h0 h with h3 | h3 | h3
        · exact .inl h3
        · exact .inr (.inl h3)
        · exact .inr (.inr (.inl h3))
      · rw [sn_j h1 h2] at h
        exact .inr (.inr (.inr (.inl ((wh_iff v).2 ⟨h0, h⟩))))
    · rw [sn_q h1] at h
      exact .inr (.inr (.inr (.inr ⟨h0, h⟩)))
  · rintro (rfl | rfl | rfl | h | h)
    · exact ⟨by simp, by decide +kernel⟩
    · exact ⟨by simp, by decide +kernel⟩
    · exact ⟨by simp, by decide +kernel⟩
    · obtain ⟨h0, h1⟩ := (wh_iff v).1 h
      have hp := List.length_pos_iff.2 h0
      have h2 := jn_hd (l := v) (by omega)
      refine ⟨h0, ?_⟩
      rw [sn_j (qn_none (by rw [dg_iff] at h2; omega)) (by omega), h1]
    · exact nm_sc h
end Go.Proofs.YtggahjhjapnfeaaDoor.Gr
