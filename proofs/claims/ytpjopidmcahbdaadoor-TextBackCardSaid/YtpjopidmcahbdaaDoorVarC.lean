/- Contracts of Take at any place, Number, Zig, Zag, and of the document's; the example. Conditions: as each theorem states. -/
import Derived.Test.YtpjopidmcahbdaaDoorVarB
namespace Go.Proofs.YtpjopidmcahbdaaDoor.Var
open Go.RowKit Go.Lib Go.Proofs.YtpjopidmcahbdaaDoor.Byt

/-- What Take tells of any place: the number, how many bytes, the error. -/
def tk (s : ByteArray) (a : Int) : Nat × Nat × Nat := if a < 0 ∨ (s.size : Int) < a then (0, 0, 1) else tkR 0 0 (s.data.toList.drop a.toNat)
def tkN (s : ByteArray) (a : Int) : Nat := (tk s a).1
def tkE (s : ByteArray) (a : Int) : Nat := if (tk s a).2.2 = 0 then a.toNat + (tk s a).2.1 else 0
def tkC (s : ByteArray) (a : Int) : Nat := (tk s a).2.2
theorem rt_tk (s : ByteArray) (a : Int) : rt a.toNat (tk s a) = .returned (.tuple #[.int .u64 (tkN s a : Nat), .int .i64 (tkE s a : Nat), .int .i64 (tkC s a : Nat)]) := rfl
theorem tkN_lt (s : ByteArray) (a : Int) : tkN s a < 18446744073709551616 := by
  unfold tkN tk
  split
  · simp
  · exact tkR_lt _ 0 0 (by omega) (by simp)
theorem tkE_le (s : ByteArray) (a : Int) : tkE s a ≤ s.size := by
  unfold tkE tk
  split
  · simp
  · rename_i h
    split
    · rename_i h2
      have h3 : tkR 0 0 (s.data.toList.drop a.toNat) = ((tkR 0 0 (s.data.toList.drop a.toNat)).1, (tkR 0 0 (s.data.toList.drop a.toNat)).2.1, 0) := Prod.ext rfl (Prod.ext rfl h2)
      obtain ⟨x, _, _, h4, _, _⟩ := tkR_back _ 0 0 _ _ h3
      have : (s.data.toList.drop a.toNat).length = s.size - a.toNat := by simp
      rw [this] at h4
      omega
    · omega
theorem tkC_le (s : ByteArray) (a : Int) : tkC s a ≤ 6 := by
  unfold tkC tk
  split
  · simp
  · exact tkR_code _ _ _

theorem take_any (s : ByteArray) (a : Int) (w : World) (hs : s.size ≤ 140737488355328) :
    Calls Tryd.prog 15 #[.string s, .int .i64 a] w fun e w' => e = .returned (.tuple #[.int .u64 (tkN s a : Nat), .int .i64 (tkE s a : Nat), .int .i64 (tkC s a : Nat)]) ∧ w = w' := by
  rw [← rt_tk]
  by_cases h : a < 0 ∨ (s.size : Int) < a
  · have HR : Hid (rt a.toNat (tk s a) = .returned (.tuple #[.int .u64 0, .int .i64 0, .int .i64 1])) := Lib.hid (by unfold tk; rw [if_pos h]; exact rt_err _ 1 (by decide))
    have h' : a < 0 ∨ (0 ≤ a ∧ (s.size : Int) < a) := by omega
    clear h
    rcases h' with h | ⟨h0, h⟩
    all_goals
      go_enter Tryd.func15, Tryd.ntmps15
      go_wp2_with fail
      all_goals
        go_ret3
        exact ⟨HR.out.symm, rfl⟩
  · obtain ⟨i, rfl⟩ := Int.eq_ofNat_of_zero_le (show 0 ≤ a by omega)
    unfold tk
    rw [if_neg h]
    exact take_in s i w (by omega) hs
/-- What Number tells, of what Take tells. -/
def nmY (s : ByteArray) (a z : Int) : Bool := decide (tkC s a = 0 ∧ (tkN s a : Int) ≤ max z 0)
def nmN (s : ByteArray) (a z : Int) : Nat := if nmY s a z then tkN s a else 0
def nmE (s : ByteArray) (a z : Int) : Nat := if nmY s a z then tkE s a else 0
def nmC (s : ByteArray) (a z : Int) : Nat := if tkC s a = 0 then (if nmY s a z then 0 else 2) else tkC s a

theorem nm_fail (s : ByteArray) (a z : Int) (h : tkC s a ≠ 0) : Ending.returned (.tuple #[.int .i64 (nmN s a z : Nat), .int .i64 (nmE s a z : Nat), .int .i64 (nmC s a z : Nat)]) = .returned (.tuple #[.int .i64 0, .int .i64 0, .int .i64 (tkC s a : Nat)]) := by
  have : nmY s a z = false := decide_eq_false (fun h2 => h h2.1)
  unfold nmN nmE nmC
  rw [this, if_neg h]; rfl
theorem nm_great (s : ByteArray) (a z : Int) (h : tkC s a = 0) (h2 : max z 0 < (tkN s a : Int)) : Ending.returned (.tuple #[.int .i64 (nmN s a z : Nat), .int .i64 (nmE s a z : Nat), .int .i64 (nmC s a z : Nat)]) = .returned (.tuple #[.int .i64 0, .int .i64 0, .int .i64 2]) := by
  have : nmY s a z = false := decide_eq_false (fun h3 => by have := h3.2; omega)
  unfold nmN nmE nmC
  rw [this, if_pos h]; rfl
theorem nm_fits (s : ByteArray) (a z : Int) (h : tkC s a = 0) (h2 : (tkN s a : Int) ≤ max z 0) : Ending.returned (.tuple #[.int .i64 (nmN s a z : Nat), .int .i64 (nmE s a z : Nat), .int .i64 (nmC s a z : Nat)]) = .returned (.tuple #[.int .i64 (tkN s a : Nat), .int .i64 (tkE s a : Nat), .int .i64 0]) := by
  have : nmY s a z = true := decide_eq_true ⟨h, h2⟩
  unfold nmN nmE nmC
  rw [this, if_pos h]; rfl

theorem number_any (s : ByteArray) (a z : Int) (w : World) (hs : s.size ≤ 140737488355328) (hz : -9223372036854775808 ≤ z) (hz' : z ≤ 9223372036854775807) :
    Calls Tryd.prog 13 #[.string s, .int .i64 a, .int .i64 z] w fun e w' => e = .returned (.tuple #[.int .i64 (nmN s a z : Nat), .int .i64 (nmE s a z : Nat), .int .i64 (nmC s a z : Nat)]) ∧ w = w' := by
  have hN := tkN_lt s a
  have HT := Lib.hid (fun w => take_any s a w hs)
  have h1 := nm_fail s a z
  have h2 := nm_great s a z
  have h3 := nm_fits s a z
  generalize Ending.returned (.tuple #[.int .i64 (nmN s a z : Nat), .int .i64 (nmE s a z : Nat), .int .i64 (nmC s a z : Nat)]) = R at h1 h2 h3 ⊢
  generalize tkN s a = N at *
  generalize tkE s a = E at *
  generalize tkC s a = C at *
  obtain ⟨t, ht⟩ : ∃ t : Nat, max z 0 = (t : Int) := ⟨(max z 0).toNat, by omega⟩
  have ht2 : t ≤ 9223372036854775807 := by omega
  rw [ht] at h2 h3
  by_cases hC : C = 0
  · by_cases hg : (t : Int) < (N : Int)
    · have HR := Lib.hid (h2 hC hg)
      subst hC
      clear h1 h2 h3
      go_enter Tryd.func13, Tryd.ntmps13
      go_wp2_with (go_at_call 15; refine (HT.out _).mono ?_; rintro e w' ⟨rfl, rfl⟩)
      all_goals
        go_ret3
        exact ⟨HR.out.symm, rfl⟩
    · have HR := Lib.hid (h3 hC (by omega))
      subst hC
      clear h1 h2 h3
      go_enter Tryd.func13, Tryd.ntmps13
      go_wp2_with (go_at_call 15; refine (HT.out _).mono ?_; rintro e w' ⟨rfl, rfl⟩)
      all_goals
        go_ret3
        exact ⟨HR.out.symm, rfl⟩
  · have HR := Lib.hid (h1 hC)
    clear h1 h2 h3
    go_enter Tryd.func13, Tryd.ntmps13
    go_wp2_with (go_at_call 15; refine (HT.out _).mono ?_; rintro e w' ⟨rfl, rfl⟩)
    go_ret3
    exact ⟨HR.out.symm, rfl⟩
end Go.Proofs.YtpjopidmcahbdaaDoor.Var
