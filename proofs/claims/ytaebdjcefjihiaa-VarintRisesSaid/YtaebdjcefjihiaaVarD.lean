/- Contracts of Zig, Zag, and of the document's; the example. Conditions: as each theorem states. -/
import Derived.Test.YtaebdjcefjihiaaVarC
namespace Go.Proofs.Ytaebdjcefjihiaa.Var
open Go.RowKit Go.Lib Go.Proofs.Ytaebdjcefjihiaa.Byt

theorem ret_u {a b : Int} (h : a = b) : Ending.returned (.int .u64 a) = .returned (.int .u64 b) := by rw [h]
theorem ret_i {a b : Int} (h : a = b) : Ending.returned (.int .i64 a) = .returned (.int .i64 b) := by rw [h]

theorem zig_any (n : Int) (w : World) (h : -9223372036854775808 ≤ n) (h' : n ≤ 9223372036854775807) :
    Calls Try.prog 14 #[.int .i64 n] w fun e w' => e = .returned (.int .u64 (zg n : Nat)) ∧ w = w' := by
  have hz : (n < 0 ∧ (zg n : Int) = 2 * (-1 - n) + 1) ∨ (0 ≤ n ∧ (zg n : Int) = 2 * n) := by unfold zg; split <;> omega
  rcases hz with ⟨h0, hz⟩ | ⟨h0, hz⟩
  all_goals
    have HZ := Lib.hid hz
    clear hz
    go_enter Try.func14, Try.ntmps14
    go_wp2
    go_ret
    exact ⟨ret_u (by have := HZ.out; omega), rfl⟩
theorem rzig_any (n : Int) (w : World) (h : -9223372036854775808 ≤ n) (h' : n ≤ 9223372036854775807) :
    Calls Try.prog 15 #[.int .i64 n] w fun e w' => e = .returned (.int .u64 (zg n : Nat)) ∧ w = w' := by
  have hz : (n < 0 ∧ (zg n : Int) = 2 * (-1 - n) + 1) ∨ (0 ≤ n ∧ (zg n : Int) = 2 * n) := by unfold zg; split <;> omega
  rcases hz with ⟨h0, hz⟩ | ⟨h0, hz⟩
  all_goals
    have HZ := Lib.hid hz
    clear hz
    go_enter Try.func15, Try.ntmps15
    go_wp2
    go_ret
    exact ⟨ret_u (by have := HZ.out; omega), rfl⟩
theorem zag_any (n : Nat) (w : World) (h : n < 18446744073709551616) :
    Calls Try.prog 16 #[.int .u64 (n : Int)] w fun e w' => e = .returned (.int .i64 (za n)) ∧ w = w' := by
  have hz : (((n : Int) % 2 == 1) = true ∧ za n = -1 - (n : Int) / 2) ∨ (((n : Int) % 2 == 1) = false ∧ za n = (n : Int) / 2) := by
    unfold za
    split
    · exact .inl ⟨by rw [beq_iff_eq]; omega, by omega⟩
    · exact .inr ⟨by rw [beq_eq_false_iff_ne]; omega, by omega⟩
  rcases hz with ⟨h0, hz⟩ | ⟨h0, hz⟩
  all_goals
    have HZ := Lib.hid hz
    clear hz
    go_enter Try.func16, Try.ntmps16
    go_wp2
    go_ret
    exact ⟨ret_i (by rw [HZ.out]), rfl⟩
theorem rzag_any (n : Nat) (w : World) (h : n < 18446744073709551616) :
    Calls Try.prog 17 #[.int .u64 (n : Int)] w fun e w' => e = .returned (.int .i64 (za n)) ∧ w = w' := by
  have hz : (((n : Int) % 2 == 1) = true ∧ za n = -1 - (n : Int) / 2) ∨ (((n : Int) % 2 == 1) = false ∧ za n = (n : Int) / 2) := by
    unfold za
    split
    · exact .inl ⟨by rw [beq_iff_eq]; omega, by omega⟩
    · exact .inr ⟨by rw [beq_eq_false_iff_ne]; omega, by omega⟩
  rcases hz with ⟨h0, hz⟩ | ⟨h0, hz⟩
  all_goals
    have HZ := Lib.hid hz
    clear hz
    go_enter Try.func17, Try.ntmps17
    go_wp2
    go_ret
    exact ⟨ret_i (by rw [HZ.out]), rfl⟩

theorem aw_take1 (w : World) : Calls Try.prog 8 #[.string ⟨#[120, 172, 2]⟩, .int .i64 1] w fun e w' => e = .returned (.tuple #[.int .u64 300, .int .i64 3, .int .i64 0]) ∧ w = w' :=
  take_in ⟨#[120, 172, 2]⟩ 1 w (by decide) (by decide)
theorem aw_take2 (w : World) : Calls Try.prog 8 #[.string ⟨#[128, 0]⟩, .int .i64 0] w fun e w' => e = .returned (.tuple #[.int .u64 0, .int .i64 0, .int .i64 5]) ∧ w = w' :=
  take_in ⟨#[128, 0]⟩ 0 w (by decide) (by decide)
theorem aw_put (w : World) : Calls Try.prog 12 #[.int .u64 300] w fun e w' => e = .returned (.string ⟨#[172, 2]⟩) ∧ Below w.heap.size w w' := by
  have := put_any 300 w (by decide)
  rwa [putV_300] at this
theorem aw_zig (w : World) : Calls Try.prog 14 #[.int .i64 (-1)] w fun e w' => e = .returned (.int .u64 1) ∧ w = w' := zig_any (-1) w (by decide) (by decide)
theorem aw_zag (w : World) : Calls Try.prog 16 #[.int .u64 2] w fun e w' => e = .returned (.int .i64 1) ∧ w = w' := zag_any 2 w (by decide)

theorem below_next {w W W' : World} {B : Nat} (h : Below B w W) (hB : B ≤ W.heap.size) (hb : Below W.heap.size W W') : Below B w W' := h.trans (hb.mono hB)

theorem awake_any (w : World) : Calls Try.prog 7 #[] w fun e w' => e = .returned (.bool true) ∧ Below w.heap.size w w' := by
  go_enter Try.func7, Try.ntmps7
  go_wp2_with fail
  refine (aw_take1 _).mono ?_; rintro e w1 ⟨rfl, rfl⟩
  go_wp2_with fail
  refine (aw_take2 _).mono ?_; rintro e w2 ⟨rfl, rfl⟩
  go_wp2_with fail
  refine (aw_put _).mono ?_; rintro e w4 ⟨rfl, hb⟩
  go_wp2_with fail
  refine (aw_zig _).mono ?_; rintro e w5 ⟨rfl, rfl⟩
  go_wp2_with fail
  refine (aw_zag _).mono ?_; rintro e w6 ⟨rfl, rfl⟩
  go_wp2_with fail
  go_ret
  exact ⟨rfl, hb⟩
end Go.Proofs.Ytaebdjcefjihiaa.Var
