/- Plain facts of an index: what the library's Atoi and Itoa make of a part. Conditions: as each theorem states. -/
import Derived.Test.YtfefbfohenmajaaDoorPtrFd
import Derived.Test.YtfefbfohenmajaaDoorRenN
import Derived.Lib.AtoiTie
namespace Go.Proofs.YtfefbfohenmajaaDoor.Ptr
open Go.Lib (atoiAll atoi decNat decFrom digitVal itoa NumEnd)
open Go.Proofs.YtfefbfohenmajaaDoor.Lx (vl hd allD dcL d8 nL2)

/-- The number that a part names, or one below 0. -/
def pIx (s : List UInt8) : Int :=
  match atoiAll s with
  | .ok v => if s.length ≤ 9 ∧ itoa v = s then v else -1
  | _ => -1
/-- Digits, at most nine, none too many. -/
def dgP (s : List UInt8) : Prop := s ≠ [] ∧ s.length ≤ 9 ∧ ¬ (1 < s.length ∧ hd s = 48) ∧ allD s
theorem all_iff (s : List UInt8) : (s.all fun c => Lx.dg c.toNat) = true ↔ allD s := List.all_eq_true
theorem plc_yes {s : List UInt8} (h : dgP s) (e : Nat) : plc s e = if vl s < e then some (vl s) else none := by
  obtain ⟨h1, h2, h3, h4⟩ := h
  unfold plc
  rw [if_neg]
  rintro (q | q | q | q)
  · exact h1 q
  · omega
  · exact h3 q
  · rw [(all_iff s).2 h4] at q; cases q
theorem plc_no {s : List UInt8} (h : ¬ dgP s) (e : Nat) : plc s e = none := by
  unfold plc
  rw [if_pos]
  by_cases h1 : s = []
  · exact .inl h1
  by_cases h2 : 9 < s.length
  · exact .inr (.inl h2)
  by_cases h3 : 1 < s.length ∧ hd s = 48
  · exact .inr (.inr (.inl h3))
  · refine .inr (.inr (.inr ?_))
    cases hb : s.all fun c => Lx.dg c.toNat with
    | false => rfl
    | true => exact absurd ⟨h1, by omega, h3, (all_iff s).1 hb⟩ h
theorem dec_fold (l : List UInt8) : ∀ a : Nat, allD l → decFrom a l = some (l.foldl (fun n c => 10 * n + (c.toNat - 48)) a) := by
  induction l with
  | nil => intro a _; rfl
  | cons c l ih =>
    intro a h
    have hc := h c List.mem_cons_self
    unfold Lx.dg at hc
    rw [decide_eq_true_eq] at hc
    have hd : digitVal c = some (c.toNat - 48) := by unfold digitVal; rw [if_pos hc]
    rw [decFrom, hd]
    show decFrom (a * 10 + (c.toNat - 48)) l = _
    rw [ih _ fun d hd => h d (List.mem_cons_of_mem _ hd), List.foldl_cons, Nat.mul_comm]
theorem dec_of {l : List UInt8} (h : allD l) (hne : l ≠ []) : decNat l = some (vl l) := by
  unfold decNat
  cases l with
  | nil => exact absurd rfl hne
  | cons c l =>
    rw [List.isEmpty_cons, if_neg (by decide), dec_fold _ _ h]
    rfl
theorem atoi_of {s : List UInt8} (h : dgP s) : atoiAll s = .ok (vl s : Int) := by
  obtain ⟨h1, h2, _, h4⟩ := h
  rw [Lib.atoiAll_short s (by omega)]
  have hd := dec_of h4 h1
  cases s with
  | nil => exact absurd rfl h1
  | cons c l =>
    have hc := h4 c List.mem_cons_self
    unfold Lx.dg at hc
    rw [decide_eq_true_eq] at hc
    have e1 : ¬ (c == 45) = true := fun q => by have : c = 45 := beq_iff_eq.1 q; subst this; simp at hc
    have e2 : ¬ (c == 43) = true := fun q => by have : c = 43 := beq_iff_eq.1 q; subst this; simp at hc
    rw [atoi, if_neg e1, if_neg e2, hd]
    rfl
theorem vl_pos {l : List UInt8} (h : allD l) (hne : l ≠ []) (h0 : hd l ≠ 48) : 0 < vl l := by
  have key : ∀ (l : List UInt8) (a : Nat), a ≤ l.foldl (fun n c => 10 * n + (c.toNat - 48)) a := by
    intro l
    induction l with
    | nil => intro a; exact Nat.le_refl _
    | cons c l ih => intro a; rw [List.foldl_cons]; have := ih (10 * a + (c.toNat - 48)); omega
  cases l with
  | nil => exact absurd rfl hne
  | cons c l =>
    have hc := h c List.mem_cons_self
    unfold Lx.dg at hc
    rw [decide_eq_true_eq] at hc
    have h1 : c.toNat ≠ 48 := h0
    have := key l (10 * 0 + (c.toNat - 48))
    show 0 < l.foldl _ (10 * 0 + (c.toNat - 48))
    omega
theorem d8_of {c : UInt8} (h : Lx.dg c.toNat = true) : d8 (c.toNat - 48) = c := by
  unfold Lx.dg at h
  rw [decide_eq_true_eq] at h
  apply UInt8.toNat_inj.1
  rw [Lx.d8_nat (by omega)]
  omega
theorem dcL_vl : ∀ (n : Nat) (l : List UInt8), l.length = n → n ≤ 9 → l ≠ [] → allD l → ¬ (1 < l.length ∧ hd l = 48) → dcL (vl l) = l ∧ vl l < 10 ^ l.length
  | 0, l, h, _, hne, _, _ => absurd (List.length_eq_zero_iff.1 h) hne
  | n + 1, l, h, h9, hne, ha, h0 => by
    obtain ⟨m, c, rfl⟩ : ∃ m c, l = m ++ [c] := ⟨l.dropLast, l.getLast hne, (List.dropLast_concat_getLast hne).symm⟩
    have hlen : m.length = n := by simpa using h
    have hc : Lx.dg c.toNat = true := ha c (by simp)
    have hc2 := hc
    unfold Lx.dg at hc2
    rw [decide_eq_true_eq] at hc2
    rw [Lx.vl_snoc]
    by_cases hm : m = []
    · subst hm
      have e : vl [] = 0 := rfl
      rw [e, Nat.mul_zero, Nat.zero_add, Lx.dcL_low (by omega), d8_of hc]
      refine ⟨rfl, ?_⟩
      show c.toNat - 48 < 10 ^ 1
      omega
    · have hml := List.length_pos_iff.2 hm
      have hh : hd (m ++ [c]) = hd m := Lx.hd_left _ _ hm
      have h48 : hd m ≠ 48 := fun q => h0 ⟨by rw [List.length_append, List.length_singleton]; omega, by rw [hh]; exact q⟩
      have ham : allD m := fun d hd => ha d (List.mem_append_left _ hd)
      obtain ⟨i1, i2⟩ := dcL_vl n m hlen (by omega) hm ham fun q => h48 q.2
      have hp := vl_pos ham hm h48
      have hb : vl m < 1000000000 := Nat.lt_of_lt_of_le i2 (Nat.le_trans (Nat.pow_le_pow_right (by omega) (show m.length ≤ 9 by omega)) (by decide))
      refine ⟨?_, ?_⟩
      · rw [Lx.dcL_high (by omega) (by omega), show (10 * vl m + (c.toNat - 48)) / 10 = vl m by omega, show (10 * vl m + (c.toNat - 48)) % 10 = c.toNat - 48 by omega, i1, d8_of hc]
      · rw [List.length_append, List.length_singleton, Nat.pow_succ]; omega
theorem itoa_pos (u : Nat) (h : u < 18446744073709551616) : itoa (u : Int) = dcL u := by
  unfold itoa
  rw [if_neg (by omega)]
  exact Ren.dec_is u h
/-- Of digits it is their number. -/
theorem pIx_yes {s : List UInt8} (h : dgP s) : pIx s = (vl s : Int) ∧ vl s < 1000000000 := by
  obtain ⟨h1, h2, h3, h4⟩ := id h
  obtain ⟨e1, e2⟩ := dcL_vl s.length s rfl h2 h1 h4 h3
  have hb : vl s < 1000000000 := Nat.lt_of_lt_of_le e2 (Nat.le_trans (Nat.pow_le_pow_right (by omega) h2) (by decide))
  refine ⟨?_, hb⟩
  unfold pIx
  rw [atoi_of h]
  show (if s.length ≤ 9 ∧ itoa (vl s : Int) = s then (vl s : Int) else -1) = _
  rw [if_pos ⟨h2, by rw [itoa_pos _ (by omega)]; exact e1⟩]
theorem pIx_no {s : List UInt8} (h : ¬ dgP s) : pIx s < 0 := by
  refine Int.lt_of_not_ge fun hge => h ?_
  unfold pIx at hge
  cases ha : atoiAll s with
  | ok v =>
    rw [ha] at hge
    by_cases hc : s.length ≤ 9 ∧ itoa v = s
    · have hge2 : 0 ≤ (if s.length ≤ 9 ∧ itoa v = s then v else -1) := hge
      rw [if_pos hc] at hge2
      obtain ⟨u, rfl⟩ : ∃ u : Nat, v = (u : Int) := ⟨v.toNat, by omega⟩
      have hb := (Lib.atoiAll_bounds ha).2
      have hu : u < 18446744073709551616 := by omega
      have e := hc.2
      rw [itoa_pos u hu] at e
      obtain ⟨f1, f2, f3, f4⟩ := Lx.dcL_facts u hu
      rw [e] at f1 f2 f3 f4
      refine ⟨f1, hc.1, ?_, f2⟩
      rintro ⟨q1, q2⟩
      have := f4 q2
      subst this
      rw [← e, Lx.dcL_low (by omega)] at q1
      simp at q1
    · have hge2 : 0 ≤ (if s.length ≤ 9 ∧ itoa v = s then v else -1) := hge
      rw [if_neg hc] at hge2
      omega
  | _ => rw [ha] at hge; simp at hge
/-- What the code asks of an index. -/
theorem plc_is (s : List UInt8) (e : Nat) : (0 ≤ pIx s ∧ pIx s < (e : Int) ∧ plc s e = some (pIx s).toNat) ∨ ((pIx s < 0 ∨ (e : Int) ≤ pIx s) ∧ plc s e = none) := by
  by_cases h : dgP s
  · obtain ⟨h1, _⟩ := pIx_yes h
    rw [plc_yes h, h1]
    by_cases hl : vl s < e
    · rw [if_pos hl]; exact .inl ⟨by omega, by omega, by simp⟩
    · rw [if_neg hl]; exact .inr ⟨.inr (by omega), rfl⟩
  · rw [plc_no h]
    exact .inr ⟨.inl (pIx_no h), rfl⟩
theorem pIx_bd (s : List UInt8) : -9223372036854775808 ≤ pIx s ∧ pIx s ≤ 9223372036854775807 := by
  unfold pIx
  split
  · rename_i v h
    have := Lib.atoiAll_bounds h
    split <;> omega
  · omega
end Go.Proofs.YtfefbfohenmajaaDoor.Ptr
