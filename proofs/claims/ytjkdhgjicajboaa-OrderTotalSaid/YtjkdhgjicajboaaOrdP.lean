/- Plain facts of keys over rows of texts; the best one step by step; how the library's comparison says which text stands ahead; no program. Conditions: as each theorem states. -/
import Derived.Test.YtjkdhgjicajboaaPlainB
import Derived.Test.YtjkdhgjicajboaaMatG1
namespace Go.Proofs.Ytjkdhgjicajboaa.Ord
open Go.Proofs.Ytjkdhgjicajboaa.Rou Go.Proofs.Ytjkdhgjicajboaa.Mat

/-! ### keys -/
def wgB (x : ByteArray) : UInt8 := wg x.data.toList
theorem wgB_one {x : ByteArray} (h : x = ⟨#[42]⟩) : wgB x = 49 := by subst h; rfl
theorem wgB_rest {x : ByteArray} (h : x = ⟨#[42, 42]⟩) : wgB x = 51 := by subst h; rfl
theorem wgB_word {x : ByteArray} (h : x ≠ ⟨#[42]⟩) (h2 : x ≠ ⟨#[42, 42]⟩) : wgB x = 48 := by
  unfold wgB wg
  rw [if_neg (show ¬ x.data.toList = st from fun e => h (dt_inj (y := ⟨#[42]⟩).1 e)), if_neg (ne_ss h2)]
/-- The digits of the first k parts. -/
def kyK (L : Bs) (k : Nat) : List UInt8 := (L.take k).map wgB
theorem kyK_zero (L : Bs) : kyK L 0 = [] := rfl
theorem kyK_len {L : Bs} {k : Nat} (h : k ≤ L.length) : (kyK L k).length = k := by unfold kyK; rw [List.length_map, List.length_take]; omega
theorem kyK_next {L : Bs} {k : Nat} (h : k < L.length) : kyK L (k + 1) = kyK L k ++ [wgB (L.getD k ⟨#[]⟩)] := by
  unfold kyK
  rw [List.take_add_one, List.getElem?_eq_getElem h, Option.toList_some, List.map_append, List.getD_eq_getElem?_getD, List.getElem?_eq_getElem h]
  rfl
theorem dts_wg (L : Bs) : (dts L).map wg = L.map wgB := by unfold dts; rw [List.map_map]; rfl
theorem key_yes {p : ByteArray} (h : patB p = true) : kyB p = ⟨(kyK (spB p) (spB p).length ++ [50]).toArray⟩ := by
  unfold kyB kyS
  rw [if_pos (show patR p.data.toList = true from h), ← dts_sp (pat_row h)]
  unfold ky kyK
  rw [dts_wg, List.take_length]
theorem key_none {p : ByteArray} (h : patB p = false) : kyB p = ⟨#[]⟩ := by
  unfold kyB kyS
  unfold patB at h
  rw [h]
  rfl
theorem key_size (p : ByteArray) : (kyB p).size ≤ 33 := by
  have := kyS_len (s := p.data.toList)
  show (kyS p.data.toList).toArray.size ≤ 33
  rw [List.size_toArray]; exact this
/-- The same digits as a text. -/
def kyT (L : Bs) (k : Nat) : ByteArray := ⟨(kyK L k).toArray⟩
def dgT (x : ByteArray) : ByteArray := ⟨#[wgB x]⟩
theorem kyT_zero (L : Bs) : kyT L 0 = ⟨#[]⟩ := rfl
theorem kyT_size {L : Bs} {k : Nat} (h : k ≤ L.length) : (kyT L k).size = k := by
  show (kyK L k).toArray.size = k
  rw [List.size_toArray, kyK_len h]
theorem kyT_next {L : Bs} {k : Nat} (h : k < L.length) : kyT L k ++ dgT (L.getD k ⟨#[]⟩) = kyT L (k + 1) := by
  refine ext_data ?_
  show (kyT L k ++ dgT _).data.toList = (kyK L (k + 1)).toArray.toList
  rw [kyK_next h]
  simp [kyT, dgT]
theorem kyT_end {p : ByteArray} (h : patB p = true) : kyT (spB p) (spB p).length ++ ⟨#[50]⟩ = kyB p := by
  rw [key_yes h]
  refine ext_data ?_
  simp [kyT]

/-! ### ahead -/
theorem cmp_zero : ∀ a b : List UInt8, Lib.compareBytes a b = 0 ↔ a = b
  | [], [] => by simp [Lib.compareBytes]
  | [], _ :: _ => by simp [Lib.compareBytes]
  | _ :: _, [] => by simp [Lib.compareBytes]
  | a :: x, b :: y => by
    unfold Lib.compareBytes
    by_cases h : a < b
    · rw [if_pos h]
      constructor
      · intro q; omega
      · intro q; injection q with q1 _; subst q1; exact absurd h (UInt8.lt_irrefl _)
    · rw [if_neg h]
      by_cases h2 : b < a
      · rw [if_pos h2]
        constructor
        · intro q; omega
        · intro q; injection q with q1 _; subst q1; exact absurd h2 (UInt8.lt_irrefl _)
      · rw [if_neg h2, cmp_zero x y]
        obtain rfl : a = b := UInt8.le_antisymm (UInt8.not_lt.1 h2) (UInt8.not_lt.1 h)
        exact ⟨fun q => by rw [q], fun q => by injection q⟩
theorem cmp_neg : ∀ a b : List UInt8, Lib.compareBytes a b < 0 ↔ a < b
  | [], [] => by simp [Lib.compareBytes]
  | [], _ :: _ => by simp [Lib.compareBytes]
  | _ :: _, [] => by simp [Lib.compareBytes]
  | a :: x, b :: y => by
    unfold Lib.compareBytes
    rw [List.cons_lt_cons_iff]
    by_cases h : a < b
    · rw [if_pos h]
      exact ⟨fun _ => .inl h, fun _ => by omega⟩
    · rw [if_neg h]
      by_cases h2 : b < a
      · rw [if_pos h2]
        refine ⟨fun q => by omega, fun q => ?_⟩
        rcases q with q | ⟨q, _⟩
        · exact absurd q h
        · subst q; exact absurd h2 (UInt8.lt_irrefl _)
      · rw [if_neg h2, cmp_neg x y]
        obtain rfl : a = b := UInt8.le_antisymm (UInt8.not_lt.1 h2) (UInt8.not_lt.1 h)
        exact ⟨fun q => .inr ⟨rfl, q⟩, fun q => by rcases q with q | ⟨_, q⟩; exact absurd q h; exact q⟩
/-- The first one that is not nought. -/
def orI (x y : Int) : Int := if x = 0 then y else x
/-- How two texts stand. -/
def cmpB (a b : ByteArray) : Int := Lib.compareBytes a.data.toList b.data.toList
theorem ls_cmp (p q : ByteArray) : decide (orI (cmpB (kyB p) (kyB q)) (cmpB p q) < 0) = ls p q := by
  unfold ls orI cmpB
  by_cases h : kyB p = kyB q
  · rw [if_pos h, if_pos ((cmp_zero _ _).2 (congrArg (fun x : ByteArray => x.data.toList) h)), Ide.lt_is]
    exact decide_eq_decide.2 (cmp_neg _ _)
  · rw [if_neg h, if_neg (fun e => h (dt_inj.1 ((cmp_zero _ _).1 e))), Ide.lt_is]
    exact decide_eq_decide.2 (cmp_neg _ _)
theorem ls_keys {p q : ByteArray} (h : kyB p ≠ kyB q) : ls p q = Ide.lt (kyB p) (kyB q) := by unfold ls; rw [if_neg h]
theorem ls_texts {p q : ByteArray} (h : kyB p = kyB q) : ls p q = Ide.lt p q := by unfold ls; rw [if_pos h]

/-! ### the best one -/
section
variable {f : ByteArray → Bool} {l : List ByteArray} {k : Nat}
theorem bs_zero : bs f l 0 = -1 := rfl
theorem bs_no (h : f (ga l k) = false) : bs f l (k + 1) = bs f l k := by
  show (if (f (ga l k) && _) = true then _ else _) = _
  rw [h]; rfl
theorem bs_first (h : f (ga l k) = true) (h2 : bs f l k < 0) : bs f l (k + 1) = (k : Int) := by
  show (if (f (ga l k) && _) = true then _ else _) = _
  rw [h, decide_eq_true h2]; rfl
theorem bs_ahead {n : Nat} (h : f (ga l k) = true) (h2 : bs f l k = (n : Int)) (h3 : ls (ga l k) (ga l n) = true) : bs f l (k + 1) = (k : Int) := by
  show (if (f (ga l k) && _) = true then _ else _) = _
  rw [h, h2, show (n : Int).toNat = n from rfl, h3, Bool.or_true]; rfl
theorem bs_behind {n : Nat} (h : f (ga l k) = true) (h2 : bs f l k = (n : Int)) (h3 : ls (ga l k) (ga l n) = false) : bs f l (k + 1) = (n : Int) := by
  show (if (f (ga l k) && _) = true then _ else _) = _
  rw [h, h2, show (n : Int).toNat = n from rfl, h3, decide_eq_false (by omega)]; rfl
theorem bs_some (h : ¬ bs f l k < 0) : ∃ n : Nat, bs f l k = (n : Int) ∧ n < k := by
  rcases bst_bs f l k with ⟨e, _⟩ | ⟨n, e, hn, _⟩
  · omega
  · exact ⟨n, e, hn⟩
theorem bs_neg (h : bs f l k < 0) : bs f l k = -1 := by
  rcases bst_bs f l k with ⟨e, _⟩ | ⟨n, e, hn, _⟩
  · exact e
  · omega
end
end Go.Proofs.Ytjkdhgjicajboaa.Ord
