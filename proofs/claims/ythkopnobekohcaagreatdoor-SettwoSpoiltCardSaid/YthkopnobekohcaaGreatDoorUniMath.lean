/- Plain facts of spans of time: ticks of a unit, the norm, names; no program. Conditions: as each theorem states. -/
import Derived.Test.YthkopnobekohcaaGreatDoorRows
namespace Go.Proofs.YthkopnobekohcaaGreatDoor.Uni

/-- The ticks of a unit; 0: there is no such unit. -/
def sz (u : Int) : Int := if u = 1 then 1 else if u = 2 then 1000 else if u = 3 then 60000 else 0
theorem sz_cases (u : Int) : (u = 1 ∧ sz u = 1) ∨ (u = 2 ∧ sz u = 1000) ∨ (u = 3 ∧ sz u = 60000) ∨ (u ≠ 1 ∧ u ≠ 2 ∧ u ≠ 3 ∧ sz u = 0) := by
  unfold sz
  split
  · exact .inl ⟨by assumption, rfl⟩
  · split
    · exact .inr (.inl ⟨by assumption, rfl⟩)
    · split
      · exact .inr (.inr (.inl ⟨by assumption, rfl⟩))
      · exact .inr (.inr (.inr ⟨by assumption, by assumption, by assumption, rfl⟩))
/-- Is n within what the unit allows? -/
def okT (n u : Int) : Bool := decide (sz u ≠ 0) && (decide (1 ≤ n) && decide (n ≤ 86400000 / sz u))
theorem okT_iff (n u : Int) : okT n u = true ↔ (u = 1 ∧ 1 ≤ n ∧ n ≤ 86400000) ∨ (u = 2 ∧ 1 ≤ n ∧ n ≤ 86400) ∨ (u = 3 ∧ 1 ≤ n ∧ n ≤ 1440) := by
  unfold okT
  rw [Bool.and_eq_true, Bool.and_eq_true, decide_eq_true_eq, decide_eq_true_eq, decide_eq_true_eq]
  rcases sz_cases u with ⟨h, e⟩ | ⟨h, e⟩ | ⟨h, e⟩ | ⟨h1, h2, h3, e⟩ <;> rw [e] <;> omega
/-- The ticks of n units. -/
def tV (n u : Int) : Int := if okT n u = true then n * sz u else 0
/-- The same's error: e is that for a unit that there is not, r that for a number out of range. -/
def tE (n u e r : Int) : Int := if sz u = 0 then e else if okT n u = true then 0 else r
theorem tV_in {n u : Int} (h : okT n u = true) : (u = 1 ∧ tV n u = n) ∨ (u = 2 ∧ tV n u = n * 1000) ∨ (u = 3 ∧ tV n u = n * 60000) := by
  unfold tV
  rw [if_pos h]
  rcases (okT_iff n u).1 h with ⟨e, _⟩ | ⟨e, _⟩ | ⟨e, _⟩
  · subst e; exact .inl ⟨rfl, Int.mul_one n⟩
  · subst e; exact .inr (.inl ⟨rfl, rfl⟩)
  · subst e; exact .inr (.inr ⟨rfl, rfl⟩)
theorem tV_range {n u : Int} (h : okT n u = true) : 1 ≤ tV n u ∧ tV n u ≤ 86400000 := by
  have := (okT_iff n u).1 h
  have := tV_in h
  omega
theorem tV_no {n u : Int} (h : okT n u = false) : tV n u = 0 := by unfold tV; rw [h]; rfl
theorem tE_ok {n u e r : Int} (h : okT n u = true) : tE n u e r = 0 := by
  unfold tE
  rw [if_neg, if_pos h]
  have := (okT_iff n u).1 h
  have := sz_cases u
  omega
theorem tE_no {n u e r : Int} (h : okT n u = false) (he : e ≠ 0) (hr : r ≠ 0) : tE n u e r ≠ 0 := by
  unfold tE
  split
  · exact he
  · rw [h]; exact hr

/-- Ticks within their bounds. -/
def cl (t : Int) : Int := if t < 1 then 1 else if 86400000 < t then 86400000 else t
theorem cl_range (t : Int) : 1 ≤ cl t ∧ cl t ≤ 86400000 := by unfold cl; split; omega; split <;> omega
theorem cl_own {t : Int} (h : 1 ≤ t) (h2 : t ≤ 86400000) : cl t = t := by unfold cl; rw [if_neg (by omega), if_neg (by omega)]
theorem cl_is (t : Int) : cl t = min (max t 1) 86400000 := by unfold cl; split; omega; split <;> omega
/-- The norm's number and unit. -/
def nN (t : Int) : Int := if cl t % 60000 = 0 then cl t / 60000 else if cl t % 1000 = 0 then cl t / 1000 else cl t
def nU (t : Int) : Int := if cl t % 60000 = 0 then 3 else if cl t % 1000 = 0 then 2 else 1
theorem n_cases (t : Int) : (nU t = 3 ∧ cl t = nN t * 60000) ∨ (nU t = 2 ∧ cl t = nN t * 1000 ∧ cl t % 60000 ≠ 0) ∨ (nU t = 1 ∧ cl t = nN t ∧ cl t % 60000 ≠ 0 ∧ cl t % 1000 ≠ 0) := by
  unfold nU nN
  by_cases h : cl t % 60000 = 0
  · rw [if_pos h, if_pos h]; exact .inl ⟨rfl, by omega⟩
  · rw [if_neg h, if_neg h]
    by_cases h2 : cl t % 1000 = 0
    · rw [if_pos h2, if_pos h2]; exact .inr (.inl ⟨rfl, by omega, h⟩)
    · rw [if_neg h2, if_neg h2]; exact .inr (.inr ⟨rfl, rfl, h, h2⟩)
/-- Ticks undo the norm. -/
theorem n_ok (t : Int) : okT (nN t) (nU t) = true := by
  rw [okT_iff]
  have := cl_range t
  have := n_cases t
  omega
theorem n_back (t : Int) : tV (nN t) (nU t) = cl t := by
  have h1 := tV_in (n_ok t)
  have h2 := n_cases t
  omega
/-- Of a span the norm is of the same length, in no lesser unit, and has no greater number. -/
theorem n_span {n u : Int} (h : okT n u = true) : tV (nN (tV n u)) (nU (tV n u)) = tV n u ∧ u ≤ nU (tV n u) ∧ nN (tV n u) ≤ n ∧ 1 ≤ nU (tV n u) ∧ nU (tV n u) ≤ 3 := by
  have h0 := tV_range h
  have h1 := tV_in h
  have h2 := n_back (tV n u)
  have h3 := n_cases (tV n u)
  rw [cl_own h0.1 h0.2] at h2 h3
  have h4 := (okT_iff n u).1 h
  refine ⟨h2, ?_, ?_, ?_, ?_⟩ <;> omega

/-! ### names -/
def nm1 : ByteArray := ⟨#[116, 105, 99, 107]⟩
def nm2 : ByteArray := ⟨#[115, 101, 99, 111, 110, 100]⟩
def nm3 : ByteArray := ⟨#[109, 105, 110, 117, 116, 101]⟩
def nmB (u : Int) : ByteArray := if u = 1 then nm1 else if u = 2 then nm2 else if u = 3 then nm3 else ⟨#[]⟩
def pa (s : ByteArray) : Int := if s = nm1 then 1 else if s = nm2 then 2 else if s = nm3 then 3 else 0
theorem pa_nm {u : Int} (h : 1 ≤ u) (h2 : u ≤ 3) : pa (nmB u) = u := by
  obtain rfl | rfl | rfl : u = 1 ∨ u = 2 ∨ u = 3 := by omega
  · rfl
  · decide
  · decide
end Go.Proofs.YthkopnobekohcaaGreatDoor.Uni
