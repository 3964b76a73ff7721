/- Contracts of the calls of package real. Conditions: as each theorem states. -/
import Derived.Test.YtmbcghngeodaeaaRows
import Derived.Test.YtmbcghngeodaeaaRealQuo
import Derived.WalkKit
import Derived.WalkLawsBesides
import Derived.Lib.Hide
import Derived.Laws.Bits64b
import Derived.Laws.Externs
import Derived.Laws.BitsAllLaws
import Derived.BigQuiet
import Derived.Deep.QuietTactic
namespace Go.Proofs.Ytmbcghngeodaeaa.Real
open Go.RowKit Go.Lib

@[go_sem] theorem bits_run (b : Nat) (w : World) : (callFunc 27 #[.float .f64 b]).run Try.prog w = .ok (.value (.int .u64 (b : Int))) w := by
  rw [run_callFunc_extern (f := 27) (fn := Try.f27) Try.func27 (by kernel_rfl) (by kernel_rfl) (by kernel_rfl) (e := Extern.MathFloatBits.float64bits) (by kernel_rfl)]
  rfl
@[go_sem] theorem from_run (b : Int) (w : World) : (callFunc 24 #[.int .u64 b]).run Try.prog w = .ok (.value (.float .f64 b.toNat)) w := by
  rw [run_callFunc_extern (f := 24) (fn := Try.f24) Try.func24 (by kernel_rfl) (by kernel_rfl) (by kernel_rfl) (e := Extern.MathFloatBits.float64frombits) (by kernel_rfl)]
  rfl

@[go_sem] theorem unary_neg_float (k : FloatKind) (b : Nat) : Op.unary .neg (.float k b) = pure (.float k (Op.negFloat k b)) := rfl

theorem isNaN_any (b : Nat) (hb : b < 18446744073709551616) (w : World) :
    Calls Try.prog 21 #[.float .f64 b] w fun e w' => e = .returned (.bool (nan b)) ∧ w = w' := by
  cases h : nan b
  · have h1 := order_eq b b hb hb h h rfl
    go_enter Try.func21, Try.ntmps21
    go_wp2
    go_ret
    exact ⟨rfl, rfl⟩
  · have h1 := order_nan_l b b hb h
    go_enter Try.func21, Try.ntmps21
    go_wp2
    go_ret
    exact ⟨rfl, rfl⟩

theorem ret_bool {a b : Bool} (h : a = b) : Ending.returned (.bool a) = .returned (.bool b) := by rw [h]
theorem ret_int {k : IntKind} {a b : Int} (h : a = b) : Ending.returned (.int k a) = .returned (.int k b) := by rw [h]

theorem signbit_any (b : Nat) (hb : b < 18446744073709551616) (w : World) :
    Calls Try.prog 25 #[.float .f64 b] w fun e w' => e = .returned (.bool (neg b)) ∧ w = w' := by
  by_cases h : b < 9223372036854775808
  · go_enter Try.func25, Try.ntmps25
    go_wp2
    go_ret
    exact ⟨ret_bool (by unfold neg; rw [decide_eq_decide]; omega), rfl⟩
  · go_enter Try.func25, Try.ntmps25
    go_wp2
    go_ret
    exact ⟨ret_bool (by unfold neg wrap64; rw [decide_eq_decide]; omega), rfl⟩

theorem abs_bits (b : Nat) (hb : b < 18446744073709551616) : (bits .andNot .u64 (b : Int) 9223372036854775808).toNat = rung b := by
  have h := u64_andNot_nat b 9223372036854775808 hb (by omega)
  rw [show ((9223372036854775808 : Nat) : Int) = 9223372036854775808 from rfl] at h
  rw [h, show 18446744073709551615 - 9223372036854775808 = 2 ^ 63 - 1 by decide, Nat.and_two_pow_sub_one_eq_mod]
  rfl
theorem abs_any (b : Nat) (hb : b < 18446744073709551616) (w : World) :
    Calls Try.prog 28 #[.float .f64 b] w fun e w' => e = .returned (.float .f64 (rung b)) ∧ w = w' := by
  go_enter Try.func28, Try.ntmps28
  go_wp2
  go_ret
  exact ⟨congrArg (fun x => Ending.returned (Value.float .f64 x)) (abs_bits b hb), rfl⟩

def flip (b : Nat) : Nat := if b < 9223372036854775808 then b + 9223372036854775808 else b - 9223372036854775808
theorem neg_bits (b : Nat) (hb : b < 18446744073709551616) : Op.negFloat .f64 b = flip b := by
  show b ^^^ 2 ^ (11 + 52) = flip b
  have h1 : (b ^^^ 2 ^ (11 + 52)) / 2 ^ 63 = b / 2 ^ 63 ^^^ (2 ^ (11 + 52)) / 2 ^ 63 := Nat.xor_div_two_pow ..
  have h2 : (b ^^^ 2 ^ (11 + 52)) % 2 ^ 63 = b % 2 ^ 63 ^^^ (2 ^ (11 + 52)) % 2 ^ 63 := Nat.xor_mod_two_pow ..
  generalize b ^^^ 2 ^ (11 + 52) = x at *
  rw [show (2 ^ (11 + 52)) / 2 ^ 63 = 1 by decide] at h1
  rw [show (2 ^ (11 + 52)) % 2 ^ 63 = 0 by decide, Nat.xor_zero] at h2
  unfold flip
  by_cases h : b < 9223372036854775808
  · rw [show b / 2 ^ 63 = 0 by omega, Nat.zero_xor] at h1
    rw [if_pos h]; omega
  · rw [show b / 2 ^ 63 = 1 by omega, Nat.xor_self] at h1
    rw [if_neg h]; omega
theorem flip_lt (b : Nat) (hb : b < 18446744073709551616) : flip b < 18446744073709551616 := by unfold flip; split <;> omega
theorem flip_rung (b : Nat) (hb : b < 18446744073709551616) : rung (flip b) = rung b := by unfold flip rung; split <;> omega
theorem flip_nan (b : Nat) (hb : b < 18446744073709551616) : nan (flip b) = nan b := by unfold nan; rw [flip_rung b hb]
theorem flip_key (b : Nat) (hb : b < 18446744073709551616) : key (flip b) = -key b := by
  unfold key; rw [flip_rung b hb]; unfold flip
  by_cases h : b < 9223372036854775808
  · rw [if_pos h, if_pos (by omega), if_neg (by omega)]
  · rw [if_neg h, if_neg (by omega), if_pos (by omega)]; omega

theorem big_key : key 9218868437227405311 = 9218868437227405311 := by decide
theorem big_nan : nan 9218868437227405311 = false := by decide
/-- Greater than the greatest finite number. -/
theorem above (b : Nat) (hb : b < 18446744073709551616) : (FloatKind.f64.format.order b 9218868437227405311 == some .gt) = decide (b = 9218868437227405312) := by
  have l1 : 9218868437227405311 < 18446744073709551616 := by omega
  cases h : nan b
  · by_cases h1 : b = 9218868437227405312
    · rw [order_gt b _ hb l1 h big_nan (by rw [big_key, h1]; decide), decide_eq_true h1]; rfl
    · rw [decide_eq_false h1]
      rw [nan_f] at h
      have : key b ≤ 9218868437227405311 := by unfold key; unfold rung inf at *; split <;> omega
      rcases Int.lt_or_eq_of_le this with h2 | h2
      · rw [order_lt b _ hb l1 (nan_f.2 h) big_nan (by rw [big_key]; exact h2)]; rfl
      · rw [order_eq b _ hb l1 (nan_f.2 h) big_nan (by rw [big_key]; exact h2)]; rfl
  · rw [order_nan_l b _ hb h]
    rw [nan_t] at h
    have h1 : ¬ b = 9218868437227405312 := by intro e; subst e; exact absurd h (by decide)
    rw [decide_eq_false h1]; rfl

def ninf (b : Nat) : Bool := decide (b = 18442240474082181120)
def pinf (b : Nat) : Bool := decide (b = 9218868437227405312)
def oinf (b : Nat) : Bool := decide (rung b = 9218868437227405312)
theorem isInf_below (b : Nat) (hb : b < 18446744073709551616) (w : World) :
    Calls Try.prog 22 #[.float .f64 b, .int .i64 (-1)] w fun e w' => e = .returned (.bool (ninf b)) ∧ w = w' := by
  have h1 := above (flip b) (flip_lt b hb)
  have h2 := neg_bits b hb
  go_enter Try.func22, Try.ntmps22
  go_wp2
  go_ret
  exact ⟨ret_bool (by unfold ninf; rw [decide_eq_decide]; unfold flip; split <;> omega), rfl⟩
theorem isInf_above (b : Nat) (hb : b < 18446744073709551616) (w : World) :
    Calls Try.prog 22 #[.float .f64 b, .int .i64 1] w fun e w' => e = .returned (.bool (pinf b)) ∧ w = w' := by
  have h1 := above b hb
  go_enter Try.func22, Try.ntmps22
  go_wp2
  go_ret
  exact ⟨rfl, rfl⟩
theorem isInf_both (b : Nat) (hb : b < 18446744073709551616) (w : World) :
    Calls Try.prog 22 #[.float .f64 b, .int .i64 0] w fun e w' => e = .returned (.bool (oinf b)) ∧ w = w' := by
  have h0 : rung b < 18446744073709551616 := by unfold rung; omega
  have h1 := above (rung b) h0
  go_enter Try.func22, Try.ntmps22
  go_wp2_with (go_at_call 28; refine (abs_any _ hb _).mono ?_; rintro e w' ⟨rfl, rfl⟩)
  go_ret
  exact ⟨rfl, rfl⟩

end Go.Proofs.Ytmbcghngeodaeaa.Real
