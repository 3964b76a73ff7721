/- Plain facts of match over rows of texts: what its loops tell step by step, what holds of patterns' parts. Conditions: as each theorem states. · Contracts of match's at, coversPart, covers, meetsPart, meets. Conditions: as each theorem states. · Contracts of match's single, word, chosen, shared, parts, Covers, Meets, Is, Both. Conditions: as each theorem states. -/
import Derived.Test.YtjkdhgjicajboaaPlainB
import Derived.Test.YtjkdhgjicajboaaRouL
import Derived.Test.YtjkdhgjicajboaaRouG3
namespace Go.Proofs.Ytjkdhgjicajboaa.Mat
open Go.Proofs.Ytjkdhgjicajboaa.Rou Go.Proofs.Ytjkdhgjicajboaa.Byt

theorem mt_cv : ∀ (l m : List T), m.all wd = true → mt l m = cv l m
  | [], m, _ => rfl
  | x :: l, m, h => by
    by_cases hx : x = ss
    · rw [hx, mt_ss, cv_ss]
    · cases m with
      | nil => rw [mt_nil l hx, cv_nil l hx]
      | cons y m =>
        rw [List.all_cons, Bool.and_eq_true] at h
        rw [mt_cons l y m hx, cv_cons l y m hx, if_neg (fun e => by rw [e] at h; exact absurd h.1 (by decide)), mt_cv l m h.2]
theorem sg_ne {x : T} (h : sg x = true) : x ≠ [] := by
  rintro rfl
  exact absurd h (by decide)
theorem pt_ne : ∀ {l : List T}, Pt l → ∀ x ∈ l, x ≠ []
  | [], _, x, hx => by cases hx
  | y :: l, h, x, hx => by
    rcases pt_cons h with ⟨rfl, rfl⟩ | ⟨h1, _, h3⟩
    · rw [List.mem_singleton] at hx; rw [hx]; decide
    · rcases List.mem_cons.1 hx with rfl | hx
      · exact sg_ne h1
      · exact pt_ne h3 x hx

/-! ### rows of texts -/
abbrev Bs := List ByteArray
/-- No text of L is empty. -/
def Ne (L : Bs) : Prop := ∀ k, k < L.length → L.getD k ⟨#[]⟩ ≠ ⟨#[]⟩
def cvB (L M : Bs) : Bool := cv (dts L) (dts M)
def meB (L M : Bs) : Bool := me (dts L) (dts M)
def mtB (L M : Bs) : Bool := mt (dts L) (dts M)
theorem dt_inj {x y : ByteArray} : x.data.toList = y.data.toList ↔ x = y := ⟨ext_data, fun h => by rw [h]⟩
theorem drop_at {L : Bs} {k : Nat} (h : k < L.length) : dts (L.drop k) = (L.getD k ⟨#[]⟩).data.toList :: dts (L.drop (k + 1)) := by
  rw [List.drop_eq_getElem_cons h, List.getD_eq_getElem?_getD, List.getElem?_eq_getElem h]; rfl
theorem drop_no {L : Bs} {k : Nat} (h : L.length ≤ k) : dts (L.drop k) = [] := by rw [List.drop_eq_nil_of_le h]; rfl
theorem get_no {L : Bs} {k : Nat} (h : L.length ≤ k) : L.getD k ⟨#[]⟩ = ⟨#[]⟩ := by rw [List.getD_eq_getElem?_getD, List.getElem?_eq_none h]; rfl
def cpB (x y : ByteArray) : Bool := !(decide (y = ⟨#[]⟩) || decide (y = ⟨#[42, 42]⟩)) && (decide (x = ⟨#[42]⟩) || decide (x = y))
def cvK (L M : Bs) (k : Nat) : Bool := cv (dts (L.drop k)) (dts (M.drop k))
theorem cvK_zero (L M : Bs) : cvK L M 0 = cvB L M := by unfold cvK cvB; rw [List.drop_zero, List.drop_zero]
theorem ne_dt {x y : ByteArray} (h : x ≠ y) : x.data.toList ≠ y.data.toList := fun e => h (ext_data e)
theorem ne_ss {x : ByteArray} (h : x ≠ ⟨#[42, 42]⟩) : x.data.toList ≠ ss := fun e => h (ext_data e)
theorem eq_ss {x : ByteArray} (h : x = ⟨#[42, 42]⟩) : x.data.toList = ss := by rw [h]; rfl
theorem cvK_ss {L M : Bs} {k : Nat} (hk : k < L.length) (h : L.getD k ⟨#[]⟩ = ⟨#[42, 42]⟩) : cvK L M k = true := by
  unfold cvK
  rw [drop_at hk, h]
  exact cv_ss _ _
theorem cvK_step {L M : Bs} {k : Nat} (hM : Ne M) (hk : k < L.length) (h : L.getD k ⟨#[]⟩ ≠ ⟨#[42, 42]⟩) : cvK L M k = (cpB (L.getD k ⟨#[]⟩) (M.getD k ⟨#[]⟩) && cvK L M (k + 1)) := by
  unfold cvK cpB
  rw [drop_at hk]
  by_cases hm : k < M.length
  · rw [drop_at hm, cv_cons _ _ _ (ne_ss h), decide_eq_false (hM k hm), Bool.false_or]
    by_cases hy : M.getD k ⟨#[]⟩ = ⟨#[42, 42]⟩
    · rw [if_pos (eq_ss hy), decide_eq_true hy]; rfl
    · rw [if_neg (ne_ss hy), decide_eq_false hy]
      unfold one
      congr 1
      rw [Bool.not_false, Bool.true_and]
      congr 1
      · exact decide_eq_decide.2 (dt_inj (y := ⟨#[42]⟩))
      · exact decide_eq_decide.2 dt_inj
  · rw [drop_no (Nat.le_of_not_lt hm), get_no (Nat.le_of_not_lt hm), cv_nil _ (ne_ss h)]
    rfl
theorem cp_in {L M : Bs} {k : Nat} (h : cpB (L.getD k ⟨#[]⟩) (M.getD k ⟨#[]⟩) = true) : k < M.length := by
  rcases Nat.lt_or_ge k M.length with hk | hk
  · exact hk
  · rw [get_no hk] at h; cases h
theorem cvK_end {L M : Bs} (h : L.length ≤ M.length) : cvK L M L.length = decide (L.length = M.length) := by
  unfold cvK
  rw [drop_no (Nat.le_refl _)]
  show decide (dts (M.drop L.length) = []) = _
  refine decide_eq_decide.2 ⟨fun e => ?_, fun e => drop_no (by omega)⟩
  have := congrArg List.length e
  rw [dts_len, List.length_drop] at this
  show L.length = M.length
  have h0 : ([] : List T).length = 0 := rfl
  omega

def mpB (x y : ByteArray) : Bool := !(decide (x = ⟨#[]⟩) || decide (y = ⟨#[]⟩)) && (decide (x = y) || decide (x = ⟨#[42]⟩) || decide (y = ⟨#[42]⟩))
def meK (L M : Bs) (k : Nat) : Bool := me (dts (L.drop k)) (dts (M.drop k))
theorem meK_zero (L M : Bs) : meK L M 0 = meB L M := by unfold meK meB; rw [List.drop_zero, List.drop_zero]
theorem at_in {L : Bs} {k : Nat} {x : ByteArray} (hx : x ≠ ⟨#[]⟩) (h : L.getD k ⟨#[]⟩ = x) : k < L.length := by
  rcases Nat.lt_or_ge k L.length with hk | hk
  · exact hk
  · rw [get_no hk] at h; exact absurd h.symm hx
theorem ss_ne : (⟨#[42, 42]⟩ : ByteArray) ≠ ⟨#[]⟩ := by decide
theorem meK_ssl {L M : Bs} {k : Nat} (h : L.getD k ⟨#[]⟩ = ⟨#[42, 42]⟩) : meK L M k = true := by
  unfold meK
  rw [drop_at (at_in ss_ne h), h]
  exact me_ssl _ _
theorem meK_ssr {L M : Bs} {k : Nat} (h : M.getD k ⟨#[]⟩ = ⟨#[42, 42]⟩) : meK L M k = true := by
  unfold meK
  rw [drop_at (at_in ss_ne h), h]
  exact me_ssr _ _
theorem meK_step {L M : Bs} {k : Nat} (hL : Ne L) (hM : Ne M) (hk : k < max L.length M.length) (h1 : L.getD k ⟨#[]⟩ ≠ ⟨#[42, 42]⟩) (h2 : M.getD k ⟨#[]⟩ ≠ ⟨#[42, 42]⟩) :
    meK L M k = (mpB (L.getD k ⟨#[]⟩) (M.getD k ⟨#[]⟩) && meK L M (k + 1)) := by
  unfold meK mpB
  by_cases hl : k < L.length
  · rw [drop_at hl, decide_eq_false (hL k hl), Bool.false_or]
    by_cases hm : k < M.length
    · rw [drop_at hm, me_cons _ _ (ne_ss h1) (ne_ss h2), decide_eq_false (hM k hm), Bool.not_false, Bool.true_and]
      congr 1
      have e1 : decide ((L.getD k ⟨#[]⟩).data.toList = st) = decide (L.getD k ⟨#[]⟩ = ⟨#[42]⟩) := decide_eq_decide.2 (dt_inj (y := ⟨#[42]⟩))
      have e2 : decide ((M.getD k ⟨#[]⟩).data.toList = st) = decide (M.getD k ⟨#[]⟩ = ⟨#[42]⟩) := decide_eq_decide.2 (dt_inj (y := ⟨#[42]⟩))
      have e3 : decide ((L.getD k ⟨#[]⟩).data.toList = (M.getD k ⟨#[]⟩).data.toList) = decide (L.getD k ⟨#[]⟩ = M.getD k ⟨#[]⟩) := decide_eq_decide.2 dt_inj
      rw [e1, e2, e3]
      generalize decide (L.getD k ⟨#[]⟩ = ⟨#[42]⟩) = a
      generalize decide (M.getD k ⟨#[]⟩ = ⟨#[42]⟩) = b
      generalize decide (L.getD k ⟨#[]⟩ = M.getD k ⟨#[]⟩) = c
      cases a <;> cases b <;> cases c <;> rfl
    · rw [drop_no (Nat.le_of_not_lt hm), get_no (Nat.le_of_not_lt hm)]
      show decide (_ = ss) = _
      rw [decide_eq_false (ne_ss h1)]; rfl
  · have hm : k < M.length := by omega
    rw [drop_no (Nat.le_of_not_lt hl), get_no (Nat.le_of_not_lt hl), drop_at hm]
    show decide (_ = ss) = _
    rw [decide_eq_false (ne_ss h2)]; rfl
theorem meK_end {L M : Bs} {k : Nat} (h1 : L.length ≤ k) (h2 : M.length ≤ k) : meK L M k = true := by
  unfold meK
  rw [drop_no h1, drop_no h2]; rfl

/-! ### what both match -/
/-- A word of a pattern. -/
def wrB (x : ByteArray) : Bool := decide (x ≠ ⟨#[]⟩) && (decide (x ≠ ⟨#[42]⟩) && decide (x ≠ ⟨#[42, 42]⟩))
def chB (x y : ByteArray) : ByteArray := if wrB x = true then x else if wrB y = true then y else ⟨#[97]⟩
/-- How many parts stand for one each. -/
def sgl (L : Bs) : Nat := if L.getLast? = some ⟨#[42, 42]⟩ then L.length - 1 else L.length
def btB (L M : Bs) : Bs := (List.range (max (sgl L) (sgl M))).map fun i => chB (L.getD i ⟨#[]⟩) (M.getD i ⟨#[]⟩)
theorem sgl_le (L : Bs) : sgl L ≤ L.length := by unfold sgl; split <;> omega
/-- The same over bytes. -/
def wr (x : T) : Bool := decide (x ≠ []) && (decide (x ≠ st) && decide (x ≠ ss))
def ch (x y : T) : T := if wr x = true then x else if wr y = true then y else [97]
def sl (l : List T) : Nat := if l.getLast? = some ss then l.length - 1 else l.length
def btx (l m : List T) : List T := (List.range (max (sl l) (sl m))).map fun i => ch (l.getD i []) (m.getD i [])
theorem wr_dt (x : ByteArray) : wr x.data.toList = wrB x := by
  unfold wr wrB
  congr 1
  · exact decide_eq_decide.2 (not_congr (dt_inj (y := ⟨#[]⟩)))
  · congr 1
    · exact decide_eq_decide.2 (not_congr (dt_inj (y := ⟨#[42]⟩)))
    · exact decide_eq_decide.2 (not_congr (dt_inj (y := ⟨#[42, 42]⟩)))
theorem ch_dt (x y : ByteArray) : (chB x y).data.toList = ch x.data.toList y.data.toList := by
  unfold ch chB
  rw [wr_dt, wr_dt]
  split
  · rfl
  · split <;> rfl
theorem sl_dt (L : Bs) : sl (dts L) = sgl L := by
  unfold sl sgl
  rw [dts_len]
  have : (dts L).getLast? = some ss ↔ L.getLast? = some ⟨#[42, 42]⟩ := by
    unfold dts
    rw [List.getLast?_map, Option.map_eq_some_iff]
    constructor
    · rintro ⟨x, h1, h2⟩; rw [h1, dt_inj (y := ⟨#[42, 42]⟩) |>.1 h2]
    · intro h; exact ⟨_, h, rfl⟩
  by_cases h : L.getLast? = some ⟨#[42, 42]⟩
  · rw [if_pos h, if_pos (this.2 h)]
  · rw [if_neg h, if_neg (fun q => h (this.1 q))]
theorem get_dt (L : Bs) (i : Nat) : (dts L).getD i [] = (L.getD i ⟨#[]⟩).data.toList := by
  unfold dts
  rw [List.getD_eq_getElem?_getD, List.getD_eq_getElem?_getD, List.getElem?_map]
  cases L[i]? <;> rfl
theorem btB_dt (L M : Bs) : dts (btB L M) = btx (dts L) (dts M) := by
  unfold btx btB
  rw [sl_dt, sl_dt]
  unfold dts
  rw [List.map_map]
  refine List.map_congr_left fun i _ => ?_
  show (chB _ _).data.toList = _
  rw [ch_dt, ← get_dt, ← get_dt]; rfl

theorem sl_nil : sl [] = 0 := rfl
theorem sl_ss : sl [ss] = 0 := by decide
theorem sl_cons {x : T} {l : List T} (h : x ≠ ss) : sl (x :: l) = sl l + 1 := by
  unfold sl
  cases l with
  | nil =>
    rw [if_neg (fun q : [x].getLast? = some ss => h (Option.some.inj q))]
    rfl
  | cons y l =>
    rw [List.getLast?_cons_cons]
    split
    · rw [List.length_cons, List.length_cons]; omega
    · rfl
theorem wr_sg {x : T} (h : sg x = true) (h2 : x ≠ ss) : wr x = decide (x ≠ st) := by
  unfold wr
  rw [decide_eq_true (sg_ne h), decide_eq_true h2, Bool.true_and, Bool.and_true]
theorem ch_nil {y : T} (h : sg y = true) (h2 : y ≠ ss) : ch [] y = pk1 y := by
  unfold ch pk1
  rw [if_neg (by decide), wr_sg h h2]
  by_cases k : y = st
  · rw [if_pos k, if_neg (by simp [k])]
  · rw [if_neg k, if_pos (decide_eq_true k)]
theorem ch_ss {y : T} (h : sg y = true) (h2 : y ≠ ss) : ch ss y = pk1 y := by
  unfold ch pk1
  rw [if_neg (by decide), wr_sg h h2]
  by_cases k : y = st
  · rw [if_pos k, if_neg (by simp [k])]
  · rw [if_neg k, if_pos (decide_eq_true k)]
theorem ch_right {x y : T} (h : sg x = true) (h2 : x ≠ ss) (hy : y = [] ∨ y = ss) : ch x y = pk1 x := by
  unfold ch pk1
  rw [wr_sg h h2]
  by_cases k : x = st
  · rw [if_pos k, if_neg (by simp [k]), if_neg (by rcases hy with rfl | rfl <;> decide)]
  · rw [if_neg k, if_pos (decide_eq_true k)]
theorem ch_both {x y : T} (h : sg x = true) (h2 : x ≠ ss) (k1 : sg y = true) (k2 : y ≠ ss) : ch x y = pk x y := by
  unfold ch pk pk1
  rw [wr_sg h h2, wr_sg k1 k2]
  by_cases k : x = st
  · rw [if_pos k, if_neg (by simp [k])]
    by_cases k' : y = st
    · rw [if_pos k', if_neg (by simp [k'])]
    · rw [if_neg k', if_pos (decide_eq_true k')]
  · rw [if_neg k, if_pos (decide_eq_true k)]
theorem range_cons (n : Nat) (f : Nat → T) : (List.range (n + 1)).map f = f 0 :: (List.range n).map fun i => f (i + 1) := by
  rw [List.range_succ_eq_map, List.map_cons, List.map_map]; rfl
/-- One side alone. -/
theorem btx_l : ∀ l : List T, Pt l → btx l [] = bt1 l
  | [], _ => rfl
  | x :: l, h => by
    rcases pt_cons h with ⟨rfl, rfl⟩ | ⟨h1, h2, h3⟩
    · unfold btx bt1; rw [sl_ss, sl_nil, if_pos rfl]; rfl
    · have ih := btx_l l h3
      unfold btx at ih ⊢
      rw [bt1, if_neg h2, ← ih, sl_cons h2, sl_nil, show max (sl l + 1) 0 = max (sl l) 0 + 1 by omega, range_cons]
      congr 1
      exact ch_right h1 h2 (.inl rfl)
theorem btx_r : ∀ m : List T, Pt m → btx [] m = bt1 m
  | [], _ => rfl
  | x :: l, h => by
    rcases pt_cons h with ⟨rfl, rfl⟩ | ⟨h1, h2, h3⟩
    · unfold btx bt1; rw [sl_ss, sl_nil, if_pos rfl]; rfl
    · have ih := btx_r l h3
      unfold btx at ih ⊢
      rw [bt1, if_neg h2, ← ih, sl_cons h2, sl_nil, show max 0 (sl l + 1) = max 0 (sl l) + 1 by omega, range_cons]
      congr 1
      exact ch_nil h1 h2
theorem btx_is : ∀ l m : List T, Pt l → Pt m → btx l m = bt l m
  | [], m, _, k => btx_r m k
  | x :: l, [], h, _ => btx_l (x :: l) h
  | x :: l, y :: m, h, k => by
    rw [bt]
    rcases pt_cons h with ⟨rfl, rfl⟩ | ⟨h1, h2, h3⟩
    · rw [if_pos rfl, ← btx_r (y :: m) k]
      rcases pt_cons k with ⟨rfl, rfl⟩ | ⟨k1, k2, k3⟩
      · rfl
      · unfold btx
        rw [sl_ss, sl_nil, sl_cons k2, show max 0 (sl m + 1) = sl m + 1 by omega, range_cons, range_cons]
        congr 1
    · rw [if_neg h2]
      rcases pt_cons k with ⟨rfl, rfl⟩ | ⟨k1, k2, k3⟩
      · rw [if_pos rfl, ← btx_l (x :: l) h]
        unfold btx
        rw [sl_ss, sl_nil, sl_cons h2, show max (sl l + 1) 0 = sl l + 1 by omega, range_cons, range_cons]
        rw [show ch (List.getD (x :: l) 0 []) (List.getD [ss] 0 []) = ch (List.getD (x :: l) 0 []) (List.getD [] 0 []) from (ch_right h1 h2 (.inr rfl)).trans (ch_right h1 h2 (.inl rfl)).symm]
        rfl
      · rw [if_neg k2, ← btx_is l m h3 k3]
        unfold btx
        rw [sl_cons h2, sl_cons k2, show max (sl l + 1) (sl m + 1) = max (sl l) (sl m) + 1 by omega, range_cons]
        congr 1
        exact ch_both h1 h2 k1 k2

/-! ### of two texts -/
theorem pat_row {p : ByteArray} (h : patB p = true) : rowB p = true := by rw [patB_is, Bool.and_eq_true] at h; exact h.1
theorem is_row {p : ByteArray} (h : isB p = true) : rowB p = true := by rw [isB_is, Bool.and_eq_true] at h; exact h.1
theorem is_patB {p : ByteArray} (h : isB p = true) : patB p = true := is_pat h
theorem dts_sp {s : ByteArray} (h : rowB s = true) : dts (spB s) = prt s.data.toList := by
  unfold spB
  rw [if_pos h]
  unfold dts prB
  rw [List.map_map]
  exact (List.map_congr_left fun x _ => dt_mk x).trans (List.map_id _)
theorem pt_sp {p : ByteArray} (h : patB p = true) : Pt (dts (spB p)) := by
  rw [dts_sp (pat_row h)]
  unfold patB patR at h
  rw [Bool.and_eq_true] at h
  exact h.2
theorem ne_sp {p : ByteArray} (h : patB p = true) : Ne (spB p) := by
  intro k hk e
  have := pt_ne (pt_sp h) (spB p |>.getD k ⟨#[]⟩).data.toList (List.mem_map.2 ⟨_, mem_at hk, rfl⟩)
  exact this (by rw [e])
theorem wd_sp {s : ByteArray} (h : isB s = true) : (dts (spB s)).all wd = true := by
  rw [dts_sp (is_row h)]
  unfold isB isR at h
  rw [Bool.and_eq_true] at h
  exact h.2
def covB (p q : ByteArray) : Bool := patB p && patB q && cvB (spB p) (spB q)
def matB (p s : ByteArray) : Bool := patB p && isB s && mtB (spB p) (spB s)
def mtsB (p q : ByteArray) : Bool := patB p && patB q && meB (spB p) (spB q)
def rtB (p q : ByteArray) : ByteArray := joB (btB (spB p) (spB q))
def bokB (p q : ByteArray) : Bool := mtsB p q && isB (rtB p q)
def botB (p q : ByteArray) : ByteArray := if bokB p q = true then rtB p q else ⟨#[]⟩
theorem matB_is (p s : ByteArray) : matB p s = (isB s && covB p s) := by
  unfold matB covB
  cases h : isB s with
  | false => rw [Bool.and_false, Bool.false_and, Bool.false_and]
  | true =>
    rw [is_patB h, Bool.true_and, Bool.and_true]
    unfold mtB cvB
    rw [mt_cv _ _ (wd_sp h)]

theorem cov_mat {p q s : ByteArray} (h1 : covB p q = true) (h2 : matB q s = true) : matB p s = true := by
  unfold covB at h1; unfold matB at h2 ⊢
  rw [Bool.and_eq_true, Bool.and_eq_true] at h1 h2 ⊢
  exact ⟨⟨h1.1.1, h2.1.2⟩, cv_mt _ _ _ h1.2 h2.2⟩
theorem cov_cov {p q s : ByteArray} (h1 : covB p q = true) (h2 : covB q s = true) : covB p s = true := by
  unfold covB at h1 h2 ⊢
  rw [Bool.and_eq_true, Bool.and_eq_true] at h1 h2 ⊢
  exact ⟨⟨h1.1.1, h2.1.2⟩, cv_cv _ _ _ h1.2 h2.2⟩
theorem cov_self (p : ByteArray) : covB p p = patB p := by
  unfold covB cvB
  rw [cv_self, Bool.and_true, Bool.and_self]
theorem sp_all : dts (spB ⟨#[47, 42, 42]⟩) = [ss] := by
  rw [dts_sp (by decide)]; decide
theorem cov_all (p : ByteArray) : covB ⟨#[47, 42, 42]⟩ p = patB p := by
  unfold covB cvB
  rw [sp_all, cv_ss, Bool.and_true, show patB ⟨#[47, 42, 42]⟩ = true by decide, Bool.true_and]
theorem mat_self (s : ByteArray) : matB s s = isB s := by
  unfold matB mtB
  rw [mt_self, Bool.and_true]
  cases h : isB s with
  | false => rw [Bool.and_false]
  | true => rw [is_patB h]; rfl
theorem mts_comm (p q : ByteArray) : mtsB p q = mtsB q p := by
  unfold mtsB meB
  rw [me_comm, Bool.and_comm (patB p)]
theorem mat_mts {p q s : ByteArray} (h1 : matB p s = true) (h2 : matB q s = true) : mtsB p q = true := by
  unfold matB at h1 h2; unfold mtsB
  rw [Bool.and_eq_true, Bool.and_eq_true] at h1 h2 ⊢
  exact ⟨⟨h1.1.1, h2.1.1⟩, mt_me _ _ _ h1.2 h2.2⟩
theorem cov_mts {p q : ByteArray} (h : covB p q = true) : mtsB p q = true := by
  unfold covB at h; unfold mtsB
  rw [Bool.and_eq_true, Bool.and_eq_true] at h ⊢
  exact ⟨⟨h.1.1, h.1.2⟩, cv_me _ _ h.2⟩
theorem bt_sp {p q : ByteArray} (h1 : patB p = true) (h2 : patB q = true) : dts (btB (spB p) (spB q)) = bt (dts (spB p)) (dts (spB q)) ∧ (bt (dts (spB p)) (dts (spB q))).all wd = true := by
  rw [btB_dt, btx_is _ _ (pt_sp h1) (pt_sp h2)]
  exact ⟨rfl, wd_bt _ _ (pt_sp h1) (pt_sp h2)⟩
theorem dt_rt {p q : ByteArray} (h1 : patB p = true) (h2 : patB q = true) : (rtB p q).data.toList = jP (bt (dts (spB p)) (dts (spB q))) := by
  unfold rtB joB
  rw [dt_mk, (bt_sp h1 h2).1]
theorem sp_rt {p q : ByteArray} (h1 : patB p = true) (h2 : patB q = true) (h : isB (rtB p q) = true) : dts (spB (rtB p q)) = bt (dts (spB p)) (dts (spB q)) := by
  rw [dts_sp (is_row h), dt_rt h1 h2, prt_jP (bt_sp h1 h2).2]
theorem bok_mat {p q : ByteArray} (h : bokB p q = true) : mtsB p q = true ∧ matB p (rtB p q) = true ∧ matB q (rtB p q) = true := by
  unfold bokB at h
  rw [Bool.and_eq_true] at h
  have hm := h.1
  unfold mtsB at hm
  rw [Bool.and_eq_true, Bool.and_eq_true] at hm
  have := mt_bt _ _ hm.2
  unfold matB mtB
  rw [hm.1.1, hm.1.2, h.2, sp_rt hm.1.1 hm.1.2 h.2]
  exact ⟨h.1, by rw [this.1]; rfl, by rw [this.2]; rfl⟩
theorem jn_sp {p : ByteArray} (h : rowB p = true) : (jn (dts (spB p))).length ≤ p.size ∧ (dts (spB p)).length ≤ 32 := by
  rw [dts_sp h]
  refine ⟨?_, prt_len h⟩
  have := back h
  unfold jP at this
  split at this
  · rename_i e; rw [e]; exact Nat.zero_le _
  · rw [this, len_dt]; exact Nat.le_refl _
theorem rt_size {p q : ByteArray} (h1 : patB p = true) (h2 : patB q = true) : (rtB p q).size ≤ p.size + q.size + 1 ∧ (btB (spB p) (spB q)).length ≤ 32 := by
  have e := dt_rt h1 h2
  obtain ⟨a1, a2⟩ := jn_sp (pat_row h1)
  obtain ⟨b1, b2⟩ := jn_sp (pat_row h2)
  obtain ⟨c1, c2⟩ := bt_len (dts (spB p)) (dts (spB q))
  constructor
  · rw [← len_dt, e]
    unfold jP
    split
    · show 1 ≤ _; omega
    · omega
  · rw [← dts_len, (bt_sp h1 h2).1]; omega
theorem bok_short {p q : ByteArray} (h : mtsB p q = true) (hp : p.size ≤ 100) (hq : q.size ≤ 100) : bokB p q = true := by
  have hm := h
  unfold mtsB at hm
  rw [Bool.and_eq_true, Bool.and_eq_true] at hm
  obtain ⟨⟨h1, h2⟩, h3⟩ := hm
  obtain ⟨r1, r2⟩ := rt_size h1 h2
  unfold bokB
  rw [h, Bool.true_and]
  unfold isB
  rw [dt_rt h1 h2, isR_jP (bt_sp h1 h2).2, ← dt_rt h1 h2, len_dt, Bool.and_eq_true, decide_eq_true_eq, decide_eq_true_eq]
  rw [← dts_len, (bt_sp h1 h2).1] at r2
  omega
end Go.Proofs.Ytjkdhgjicajboaa.Mat

namespace Go.Proofs.Ytjkdhgjicajboaa.Mat
open Go.RowKit Go.Lib Go.Proofs.Ytjkdhgjicajboaa.Byt Go.Proofs.Ytjkdhgjicajboaa.Rou

theorem max_run (x y : Nat) (w : World) : (Builtin.max_ #[3, 3] 3 #[.int .i64 (x : Int), .int .i64 (y : Int)]).run Try.prog w = .ok (.int .i64 ((max x y : Nat) : Int)) w := by
  rw [run_max_int2]
  congr 2
  split <;> omega
theorem em_eq (x : ByteArray) : x.toList.isEmpty = decide (x = ⟨#[]⟩) := by
  rw [Byt.toList_data, Bool.eq_iff_iff, List.isEmpty_iff, decide_eq_true_eq]
  exact dt_inj (y := ⟨#[]⟩)
theorem s1_eq (x : ByteArray) : (x.toList == [42]) = decide (x = ⟨#[42]⟩) := by
  have := sb_eq (x := x) (y := ⟨#[42]⟩)
  rwa [Byt.toList_data ⟨#[42]⟩] at this
theorem s2_eq (x : ByteArray) : (x.toList == [42, 42]) = decide (x = ⟨#[42, 42]⟩) := by
  have := sb_eq (x := x) (y := ⟨#[42, 42]⟩)
  rwa [Byt.toList_data ⟨#[42, 42]⟩] at this
theorem lt_dec (a b : Nat) : decide ((a : Int) < (b : Int)) = decide (a < b) := by rw [Bool.eq_iff_iff, decide_eq_true_eq, decide_eq_true_eq]; omega
theorem le_dec (a b : Nat) : decide ((a : Int) ≤ (b : Int)) = decide (a ≤ b) := by rw [Bool.eq_iff_iff, decide_eq_true_eq, decide_eq_true_eq]; omega

/-! ### at -/
theorem at_any (L : Bs) (v : Value) (w : World) (hr : Strs.Row w v L) (k : Nat) :
    Calls Try.prog 39 #[v, .int .i64 (k : Int)] w fun e w' => e = .returned (.string (L.getD k ⟨#[]⟩)) ∧ w = w' := by
  obtain ⟨a, cap, rfl, hc⟩ := hr.open_
  have g0 : decide ((k : Int) < 0) = false := decide_eq_false (by omega)
  by_cases h : k < L.length
  · obtain ⟨b, off, rfl, hcl⟩ := hc k h
    have g1 : decide ((L.length : Int) ≤ (k : Int)) = false := decide_eq_false (by omega)
    have g2 : decide (L.length ≤ k) = false := decide_eq_false (by omega)
    clear hc hr
    generalize L.getD k ⟨#[]⟩ = x at *
    generalize L.length = n at *
    go_enter Try.func39, Try.ntmps39
    go_wp2_with fail
    go_ret
    exact ⟨rfl, rfl⟩
  · rw [get_no (Nat.le_of_not_lt h)]
    have g1 : decide ((L.length : Int) ≤ (k : Int)) = true := decide_eq_true (by omega)
    have g2 : decide (L.length ≤ k) = true := decide_eq_true (by omega)
    clear hc hr
    generalize L.length = n at *
    go_enter Try.func39, Try.ntmps39
    go_wp2_with fail
    go_ret
    exact ⟨rfl, rfl⟩
theorem at_neg (n cap : Nat) (a : Option Addr) (w : World) :
    Calls Try.prog 39 #[.slice a n cap, .int .i64 (-1)] w fun e w' => e = .returned (.string ⟨#[]⟩) ∧ w = w' := by
  go_enter Try.func39, Try.ntmps39
  go_wp2_with fail
  go_ret
  exact ⟨rfl, rfl⟩

/-! ### covers -/
theorem cp_any (x y : ByteArray) (w : World) :
    Calls Try.prog 38 #[.string x, .string y] w fun e w' => e = .returned (.bool (cpB x y)) ∧ w = w' := by
  have f1 := em_eq y
  have f2 := s2_eq y
  have f3 := s1_eq x
  have f4 := sb_eq (x := x) (y := y)
  unfold cpB
  generalize decide (y = ⟨#[]⟩) = b1 at *
  generalize decide (y = ⟨#[42, 42]⟩) = b2 at *
  generalize decide (x = ⟨#[42]⟩) = b3 at *
  generalize decide (x = y) = b4 at *
  cases b1 <;> cases b2 <;> cases b3 <;> cases b4
  all_goals
    go_enter Try.func38, Try.ntmps38
    go_wp2_with fail
    go_ret
    exact ⟨rfl, rfl⟩
set_option maxHeartbeats 2000000 in
set_option maxRecDepth 100000 in
theorem covers_any (L M : Bs) (u v : Value) (w : World) (hu : Strs.Row w u L) (hv : Strs.Row w v M) (hM : Ne M) (hl : L.length ≤ 140737488355328) (_hm : M.length ≤ 140737488355328) :
    Calls Try.prog 26 #[u, v] w fun e w' => e = .returned (.bool (cvB L M)) ∧ w = w' := by
  have HA := Lib.hid fun k => at_any M v w hv k
  have HR := Lib.hid hu
  obtain ⟨a, cap, rfl, hc⟩ := hu.open_
  obtain ⟨a2, cap2, rfl, _⟩ := hv.open_
  have HC := Lib.hid hc
  have HS := Lib.hid fun k (h : k < L.length) => cvK_ss (L := L) (M := M) h
  have HT := Lib.hid fun k (h : k < L.length) => cvK_step (L := L) (M := M) hM h
  have HI := Lib.hid fun k => cp_in (L := L) (M := M) (k := k)
  have HE := Lib.hid (cvK_end (L := L) (M := M))
  have HP := Lib.hid cp_any
  rw [← cvK_zero]
  obtain ⟨R, hR⟩ : ∃ R, cvK L M 0 = R := ⟨_, rfl⟩
  rw [hR]
  have H0 := Lib.hid hR
  clear hc hu hv hM hR
  go_enter Try.func26, Try.ntmps26
  go_wp2_with fail
  go_loop [9] (fun i => ∃ k : Nat, i = .int .i64 (k : Int) ∧ k ≤ L.length ∧ k ≤ M.length ∧ Hid (cvK L M k = R)) (fun i => L.length - (RowKit.intOf i).toNat)
  case atStart => exact ⟨0, rfl, Nat.zero_le _, Nat.zero_le _, H0⟩
  case round =>
    obtain ⟨k, rfl, hk, hk2, HK⟩ := hrel
    by_cases hlt : k < L.length
    · obtain ⟨b, off, rfl, hcl⟩ := HC.out k hlt
      have hs := s2_eq (L.getD k ⟨#[]⟩)
      by_cases hx : L.getD k ⟨#[]⟩ = ⟨#[42, 42]⟩
      · obtain rfl : R = true := HK.out.symm.trans (HS.out k hlt hx)
        rw [decide_eq_true hx] at hs
        clear HK HS HT HI HE H0 hx
        generalize L.getD k ⟨#[]⟩ = x at *
        go_wp2_with fail
        go_ret
        exact ⟨rfl, rfl⟩
      · have hst := HK.out.symm.trans (HT.out k hlt hx)
        rw [decide_eq_false hx] at hs
        have hin := HI.out k
        have HA1 := Lib.hid (HA.out k)
        have HP1 := Lib.hid (HP.out (L.getD k ⟨#[]⟩) (M.getD k ⟨#[]⟩))
        cases hcp : cpB (L.getD k ⟨#[]⟩) (M.getD k ⟨#[]⟩) with
        | false =>
          rw [hcp] at HP1 hst
          obtain rfl : R = false := hst
          clear HK HS HT HI HE H0 HA HP hx hin hcp
          generalize L.getD k ⟨#[]⟩ = x at *
          generalize M.getD k ⟨#[]⟩ = y at *
          go_wp2_with (first
            | (go_at_call 39; (with_reducible refine HA1.out.mono ?_); rintro e w1 ⟨rfl, rfl⟩)
            | (go_at_call 38; (with_reducible refine (HP1.out _).mono ?_); rintro e w1 ⟨rfl, rfl⟩))
          go_ret
          exact ⟨rfl, rfl⟩
        | true =>
          have hlm := hin hcp
          rw [hcp, Bool.true_and] at hst
          rw [hcp] at HP1
          have HK2 := Lib.hid hst.symm
          clear HK HS HT HI HE H0 HA HP hx hin hcp hst
          generalize L.getD k ⟨#[]⟩ = x at *
          generalize M.getD k ⟨#[]⟩ = y at *
          go_wp2_with (first
            | (go_at_call 39; (with_reducible refine HA1.out.mono ?_); rintro e w1 ⟨rfl, rfl⟩)
            | (go_at_call 38; (with_reducible refine (HP1.out _).mono ?_); rintro e w1 ⟨rfl, rfl⟩))
          go_round
          case rel => exact ⟨k + 1, by go_num, by omega, by omega, HK2⟩
          case measure => simp [RowKit.intOf]; omega
    · obtain rfl : k = L.length := by omega
      have he := HK.out.symm.trans (HE.out hk2)
      have hq : ((L.length : Int) == (M.length : Int)) = decide (L.length = M.length) := by rw [Bool.eq_iff_iff, beq_iff_eq, decide_eq_true_eq]; omega
      rw [← he] at hq
      clear HK HS HT HI HE H0 HA HP he
      generalize L.length = n at *
      generalize M.length = m at *
      go_wp2_with fail
      go_ret
      exact ⟨rfl, rfl⟩

/-! ### meets -/
end Go.Proofs.Ytjkdhgjicajboaa.Mat

namespace Go.Proofs.Ytjkdhgjicajboaa.Mat
open Go.RowKit Go.Lib Go.Proofs.Ytjkdhgjicajboaa.Byt Go.Proofs.Ytjkdhgjicajboaa.Rou

/-! ### single, word, chosen -/
theorem last_ss {L : Bs} {m : Nat} (h : L.length = m + 1) : sgl L = if L.getD m ⟨#[]⟩ = ⟨#[42, 42]⟩ then m else m + 1 := by
  unfold sgl
  rw [last_at (by omega), h, Nat.add_sub_cancel]
  by_cases q : L.getD m ⟨#[]⟩ = ⟨#[42, 42]⟩
  · rw [if_pos q, if_pos (by rw [q])]
  · rw [if_neg q, if_neg (fun e => q (Option.some.inj e))]
/-! ### shared -/
section
variable {ops : Array Oper} {rest : List Oper} {o : Oper} {a : Act} {Q : Exit → Act → World → Prop}
/-- 'make([]string, n)'. -/
theorem wpList_madeS (W : World) (hg : o.guard = none) (x y : Operand) (ho : o.op = .makeSlice 22 x y) (B : Nat) (w0 : World) (hb : Below B w0 W) (hB : B ≤ w0.heap.size) (L C : Int) (n : Nat) (hx : a.eval x = .int .i64 L) (hy : a.eval y = .int .i64 C) (hL : L = (n : Int)) (hC : C = (n : Int)) (hlim : n ≤ 8796093022208)
    (h : ∀ w', Strs.Own w' B (.slice (some ⟨W.heap.size, 0, none⟩) n n) (List.replicate n ⟨#[]⟩) → Below B w0 w' → wpList Try.prog ops Q rest (a.put o.dst (.slice (some ⟨W.heap.size, 0, none⟩) n n)) w') : wpList Try.prog ops Q (o :: rest) a W := by
  obtain ⟨i0, hi, hz0, hz1, hz2⟩ := info_parts Strs.info16
  have hsz := hb.size
  refine wpList_make_full W hg x y _ ho B _ i0 _ 1 Try.underlying22 hi hz0 hz1 .i64 .i64 L C n hx hy hL hC (by rw [hz2]; omega) (by unfold maxLen; omega) (by omega) ?_
  intro w' h1 h2
  refine h w' ?_ (hb.grown h2 (by omega) (fun k hk => by cases hk))
  unfold Strs.Own
  rw [List.length_replicate, List.map_replicate]
  have hz : (madeCells (Value.string ⟨#[]⟩).cells (n * 1)).toList = List.replicate n (Value.string ⟨#[]⟩) := by
    rw [Nat.mul_one, show (Value.string ⟨#[]⟩).cells = #[Value.string ⟨#[]⟩] from rfl, toList_madeCells_one]
  rw [hz] at h1
  exact h1
end
theorem set_own {w : World} {B g n cap : Nat} {l : Bs} (h : Strs.Own w B (.slice (some ⟨g, 0, none⟩) n cap) l) (hn : l.length = n) (j : Nat) (b : ByteArray) :
    Strs.Own (w.setCell ⟨g, j, none⟩ (.string b)) B (.slice (some ⟨g, 0, none⟩) n cap) (l.set j b) := by
  subst hn
  exact own_set h j b
def bf (L M : Bs) (i : Nat) : ByteArray := chB (L.getD i ⟨#[]⟩) (M.getD i ⟨#[]⟩)
/-- The first k of what both match, and room for the rest. -/
def bh (L M : Bs) (n k : Nat) : Bs := (List.range k).map (bf L M) ++ List.replicate (n - k) ⟨#[]⟩
theorem bh_len {L M : Bs} {n k : Nat} (h : k ≤ n) : (bh L M n k).length = n := by
  unfold bh; rw [List.length_append, List.length_map, List.length_range, List.length_replicate]; omega
theorem bh_set {L M : Bs} {n k : Nat} (h : k < n) : (bh L M n k).set k (bf L M k) = bh L M n (k + 1) := by
  unfold bh
  have hl : ((List.range k).map (bf L M)).length = k := by rw [List.length_map, List.length_range]
  rw [show n - k = (n - (k + 1)) + 1 by omega, List.replicate_succ, List.set_append_right _ _ (by omega), hl, Nat.sub_self, List.set_cons_zero, List.range_succ, List.map_append]
  simp
theorem bh_zero (L M : Bs) (n : Nat) : bh L M n 0 = List.replicate n ⟨#[]⟩ := rfl
theorem bh_end (L M : Bs) : bh L M (max (sgl L) (sgl M)) (max (sgl L) (sgl M)) = btB L M := by
  unfold bh btB
  rw [Nat.sub_self, List.replicate_zero, List.append_nil]; rfl
theorem btB_len (L M : Bs) : (btB L M).length = max (sgl L) (sgl M) := by unfold btB; rw [List.length_map, List.length_range]
/-! ### parts -/
/-- The parts of a pattern; none of another text. -/
def ptB (p : ByteArray) : Bs := if patB p = true then spB p else []
theorem ptB_yes {p : ByteArray} (h : patB p = true) : ptB p = spB p := by unfold ptB; rw [if_pos h]
theorem ptB_no {p : ByteArray} (h : patB p = false) : ptB p = [] := by unfold ptB; rw [h]; rfl
theorem ptB_ne (p : ByteArray) : Ne (ptB p) := by
  cases h : patB p with
  | true => rw [ptB_yes h]; exact ne_sp h
  | false => rw [ptB_no h]; exact fun k hk => absurd hk (Nat.not_lt_zero _)
theorem ptB_len (p : ByteArray) : (ptB p).length ≤ 32 := by
  unfold ptB
  split
  · exact (spB_size p).1
  · exact Nat.zero_le _
theorem parts_any (p : ByteArray) (w : World) (hp : p.size ≤ 140737488355328) :
    Calls Try.prog 25 #[.string p] w fun e w' => ∃ a c, e = .returned (.tuple #[.slice a (ptB p).length c, .bool (patB p)]) ∧ Strs.Row w' (.slice a (ptB p).length c) (ptB p) ∧ Below w.heap.size w w' := by
  have HP := Lib.hid (pat_at p (patB p) rfl hp)
  cases h : patB p with
  | false =>
    rw [h] at HP
    rw [ptB_no h]
    clear h
    show Calls Try.prog _ _ w fun e w' => ∃ a c, e = .returned (.tuple #[.slice a 0 c, .bool false]) ∧ Strs.Row w' (.slice a 0 c) [] ∧ _
    go_enter Try.func25, Try.ntmps25
    go_wp2_with (go_at_call 16; (with_reducible refine (HP.out _).mono ?_); rintro e w1 ⟨rfl, hb1⟩)
    go_ret2
    exact ⟨_, _, rfl, Strs.Row.nil _, hb1⟩
  | true =>
    have HS := Lib.hid (split_at p (spB p) true rfl (pat_row h) hp)
    rw [h] at HP
    rw [ptB_yes h]
    generalize spB p = L at *
    clear h
    go_enter Try.func25, Try.ntmps25
    go_wp2_with (first
      | (go_at_call 16; (with_reducible refine (HP.out _).mono ?_); rintro e w1 ⟨rfl, hb1⟩)
      | (go_at_call 17; (with_reducible refine (HS.out _).mono ?_); rintro e w2 ⟨a2, c2, rfl, hr2, _, hb2⟩))
    go_ret2
    exact ⟨_, _, rfl, hr2, hb1.trans (hb2.mono hb1.size)⟩
theorem covB_pt (p q : ByteArray) : covB p q = (patB p && patB q && cvB (ptB p) (ptB q)) := by
  unfold covB ptB
  cases patB p <;> cases patB q <;> rfl
theorem mtsB_pt (p q : ByteArray) : mtsB p q = (patB p && patB q && meB (ptB p) (ptB q)) := by
  unfold mtsB ptB
  cases patB p <;> cases patB q <;> rfl

/-! ### Covers, Meets, Is, Both -/
set_option maxRecDepth 100000 in
theorem cov_any (p q : ByteArray) (w : World) (hp : p.size ≤ 140737488355328) (hq : q.size ≤ 140737488355328) :
    Calls Try.prog 14 #[.string p, .string q] w fun e w' => e = .returned (.bool (covB p q)) ∧ Below w.heap.size w w' := by
  have HP := Lib.hid fun W => parts_any p W hp
  have HQ := Lib.hid fun W => parts_any q W hq
  have h1 := ptB_len p
  have h2 := ptB_len q
  have hn := ptB_ne q
  have HC := Lib.hid fun (W : World) (u v : Value) (hu : Strs.Row W u (ptB p)) (hv : Strs.Row W v (ptB q)) => covers_any (ptB p) (ptB q) u v W hu hv hn (by omega) (by omega)
  rw [covB_pt]
  generalize cvB (ptB p) (ptB q) = b3 at *
  generalize ptB p = L at *
  generalize ptB q = M at *
  generalize patB p = b1 at *
  generalize patB q = b2 at *
  clear hn
  cases b1 <;> cases b2
  all_goals
    go_enter Try.func14, Try.ntmps14
    go_wp2_with (first
      | (go_at_call 25; first
        | ((with_reducible refine (HP.out _).mono ?_); rintro e w1 ⟨a1, c1, rfl, hr1, hb1⟩; clear HP)
        | ((with_reducible refine (HQ.out _).mono ?_); rintro e w2 ⟨a2, c2, rfl, hr2, hb2⟩; have HR := Lib.hid (hr1.next hb2); have HB := Lib.hid (hb1.trans (hb2.mono hb1.size)); clear HQ hr1 hb1 hb2))
      | (go_at_call 26; (with_reducible refine (HC.out _ _ _ HR.out hr2).mono ?_); rintro e w3 ⟨rfl, rfl⟩))
    go_ret
    exact ⟨rfl, HB.out⟩
theorem mat_any (p s : ByteArray) (w : World) (hp : p.size ≤ 140737488355328) (hs : s.size ≤ 140737488355328) :
    Calls Try.prog 15 #[.string p, .string s] w fun e w' => e = .returned (.bool (matB p s)) ∧ Below w.heap.size w w' := by
  rw [matB_is]
  have HI := Lib.hid (is_at s (isB s) rfl hs)
  have HC := Lib.hid fun W => cov_any p s W hp hs
  generalize isB s = b1 at *
  generalize covB p s = b2 at *
  cases b1
  · go_enter Try.func15, Try.ntmps15
    go_wp2_with (go_at_call 27; (with_reducible refine (HI.out _).mono ?_); rintro e w1 ⟨rfl, hb1⟩)
    go_ret
    exact ⟨rfl, hb1⟩
  · go_enter Try.func15, Try.ntmps15
    go_wp2_with (first
      | (go_at_call 27; (with_reducible refine (HI.out _).mono ?_); rintro e w1 ⟨rfl, hb1⟩)
      | (go_at_call 14; (with_reducible refine (HC.out _).mono ?_); rintro e w2 ⟨rfl, hb2⟩))
    go_ret
    exact ⟨rfl, hb1.trans (hb2.mono hb1.size)⟩
def rt2 (p q : ByteArray) : ByteArray := joB (btB (ptB p) (ptB q))
theorem bokB_pt (p q : ByteArray) : bokB p q = (patB p && patB q && meB (ptB p) (ptB q) && isB (rt2 p q)) := by
  unfold bokB
  rw [mtsB_pt]
  unfold rtB rt2 ptB
  cases patB p <;> cases patB q <;> rfl
theorem botB_pt (p q : ByteArray) : botB p q = if (patB p && patB q && meB (ptB p) (ptB q) && isB (rt2 p q)) = true then rt2 p q else ⟨#[]⟩ := by
  unfold botB
  rw [bokB_pt]
  unfold rtB rt2 ptB
  cases patB p <;> cases patB q <;> rfl
theorem rt2_size {p q : ByteArray} (h1 : patB p = true) (h2 : patB q = true) : (rt2 p q).size ≤ 8000000 := by
  have := (rt_size h1 h2).1
  have := rowB_size (pat_row h1)
  have := rowB_size (pat_row h2)
  unfold rt2
  rw [ptB_yes h1, ptB_yes h2]
  unfold rtB at *
  omega
end Go.Proofs.Ytjkdhgjicajboaa.Mat
