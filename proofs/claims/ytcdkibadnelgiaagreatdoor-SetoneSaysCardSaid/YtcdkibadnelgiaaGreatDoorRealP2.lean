/- Contracts of the calls of package real. Conditions: as each theorem states. · Contracts of the calls of package real, second part. Conditions: as each theorem states. · Contracts of the calls of package real, third part. Conditions: as each theorem states. · Contracts of the document's own answers for the layer 'real'. Conditions: as each theorem states. · Contracts of the document's own answers for the layer 'real', second part. Conditions: as each theorem states. · Contracts of the document's own answers for the layer 'real', third part. Conditions: as each theorem states. -/
import Derived.Test.YtcdkibadnelgiaaGreatDoorRows
import Derived.Test.YtcdkibadnelgiaaGreatDoorRealP1
import Derived.WalkKit
import Derived.WalkLawsBesides
import Derived.Lib.Hide
import Derived.Laws.Bits64b
import Derived.Laws.Externs
import Derived.Laws.BitsAllLaws
import Derived.BigQuiet
import Derived.Deep.QuietTactic
namespace Go.Proofs.YtcdkibadnelgiaaGreatDoor.Real
open Go.RowKit Go.Lib

@[go_sem] theorem bits_run (b : Nat) (w : World) : (callFunc 43 #[.float .f64 b]).run Tryz.prog w = .ok (.value (.int .u64 (b : Int))) w := by
  rw [run_callFunc_extern (f := 43) (fn := Tryz.f43) Tryz.func43 (by kernel_rfl) (by kernel_rfl) (by kernel_rfl) (e := Extern.MathFloatBits.float64bits) (by kernel_rfl)]
  rfl
@[go_sem] theorem from_run (b : Int) (w : World) : (callFunc 85 #[.int .u64 b]).run Tryz.prog w = .ok (.value (.float .f64 b.toNat)) w := by
  rw [run_callFunc_extern (f := 85) (fn := Tryz.f85) Tryz.func85 (by kernel_rfl) (by kernel_rfl) (by kernel_rfl) (e := Extern.MathFloatBits.float64frombits) (by kernel_rfl)]
  rfl

@[go_sem] theorem unary_neg_float (k : FloatKind) (b : Nat) : Op.unary .neg (.float k b) = pure (.float k (Op.negFloat k b)) := rfl

theorem isNaN_any (b : Nat) (hb : b < 18446744073709551616) (w : World) :
    Calls Tryz.prog 42 #[.float .f64 b] w fun e w' => e = .returned (.bool (nan b)) ∧ w = w' := by
  cases h : nan b
  · have h1 := order_eq b b hb hb h h rfl
    go_enter Tryz.func42, Tryz.ntmps42
    go_wp2
    go_ret
    exact ⟨rfl, rfl⟩
  · have h1 := order_nan_l b b hb h
    go_enter Tryz.func42, Tryz.ntmps42
    go_wp2
    go_ret
    exact ⟨rfl, rfl⟩

theorem ret_bool {a b : Bool} (h : a = b) : Ending.returned (.bool a) = .returned (.bool b) := by rw [h]
theorem ret_int {k : IntKind} {a b : Int} (h : a = b) : Ending.returned (.int k a) = .returned (.int k b) := by rw [h]

theorem abs_bits (b : Nat) (hb : b < 18446744073709551616) : (bits .andNot .u64 (b : Int) 9223372036854775808).toNat = rung b := by
  have h := u64_andNot_nat b 9223372036854775808 hb (by omega)
  rw [show ((9223372036854775808 : Nat) : Int) = 9223372036854775808 from rfl] at h
  rw [h, show 18446744073709551615 - 9223372036854775808 = 2 ^ 63 - 1 by decide, Nat.and_two_pow_sub_one_eq_mod]
  rfl
theorem abs_any (b : Nat) (hb : b < 18446744073709551616) (w : World) :
    Calls Tryz.prog 69 #[.float .f64 b] w fun e w' => e = .returned (.float .f64 (rung b)) ∧ w = w' := by
  go_enter Tryz.func69, Tryz.ntmps69
  go_wp2
  go_ret
  exact ⟨congrArg (fun x => Ending.returned (Value.float .f64 x)) (abs_bits b hb), rfl⟩

def flip (b : Nat) : Nat := if b < 9223372036854775808 then b + 9223372036854775808 else b - 9223372036854775808
theorem neg_bits (b : Nat) (hb : b < 18446744073709551616) : Op.negFloat .f64 b = flip b := by
  show b ^^^ 2 ^ (11 + 52) = flip b
  have h1 : (b ^^^ 2 ^ (11 + 52)) / 2 ^ 63 = b / 2 ^ 63 ^^^ (2 ^ (11 + 52)) / 2 ^ 63 := Nat.xor_div_two_pow ..
  have h2 : (b ^^^ 2 ^ (11 + 52)) % 2 ^ 63 = b % 2 ^ 63 ^^^ (2 ^ (11 + 52)) % 2 ^ 63 := Nat.xor_mod_two_pow ..
  generalize b ^^^ 2 ^ (11 + 52) = x at *
  rw [show (2 ^ (11 + 52)) / 2 ^ 63 = 1 by decide] at h1
  rw [show (2 ^ (11 + 52)) % 2 ^ 63 = 0 by decide, Nat.xor_zero] at h2
  unfold flip
  by_cases h : b < 9223372036854775808
  · rw [show b / 2 ^ 63 = 0 by omega, Nat.zero_xor] at h1
    rw [if_pos h]; omega
  · rw [show b / 2 ^ 63 = 1 by omega, Nat.xor_self] at h1
    rw [if_neg h]; omega
theorem flip_lt (b : Nat) (hb : b < 18446744073709551616) : flip b < 18446744073709551616 := by unfold flip; split <;> omega
theorem flip_rung (b : Nat) (hb : b < 18446744073709551616) : rung (flip b) = rung b := by unfold flip rung; split <;> omega
theorem flip_nan (b : Nat) (hb : b < 18446744073709551616) : nan (flip b) = nan b := by unfold nan; rw [flip_rung b hb]
theorem flip_key (b : Nat) (hb : b < 18446744073709551616) : key (flip b) = -key b := by
  unfold key; rw [flip_rung b hb]; unfold flip
  by_cases h : b < 9223372036854775808
  · rw [if_pos h, if_pos (by omega), if_neg (by omega)]
  · rw [if_neg h, if_neg (by omega), if_pos (by omega)]; omega

theorem big_key : key 9218868437227405311 = 9218868437227405311 := by decide
theorem big_nan : nan 9218868437227405311 = false := by decide
/-- Greater than the greatest finite number. -/
theorem above (b : Nat) (hb : b < 18446744073709551616) : (FloatKind.f64.format.order b 9218868437227405311 == some .gt) = decide (b = 9218868437227405312) := by
  have l1 : 9218868437227405311 < 18446744073709551616 := by omega
  cases h : nan b
  · by_cases h1 : b = 9218868437227405312
    · rw [order_gt b _ hb l1 h big_nan (by rw [big_key, h1]; decide), decide_eq_true h1]; rfl
    · rw [decide_eq_false h1]
      rw [nan_f] at h
      have : key b ≤ 9218868437227405311 := by unfold key; unfold rung inf at *; split <;> omega
      rcases Int.lt_or_eq_of_le this with h2 | h2
      · rw [order_lt b _ hb l1 (nan_f.2 h) big_nan (by rw [big_key]; exact h2)]; rfl
      · rw [order_eq b _ hb l1 (nan_f.2 h) big_nan (by rw [big_key]; exact h2)]; rfl
  · rw [order_nan_l b _ hb h]
    rw [nan_t] at h
    have h1 : ¬ b = 9218868437227405312 := by intro e; subst e; exact absurd h (by decide)
    rw [decide_eq_false h1]; rfl

def ninf (b : Nat) : Bool := decide (b = 18442240474082181120)
def pinf (b : Nat) : Bool := decide (b = 9218868437227405312)
def oinf (b : Nat) : Bool := decide (rung b = 9218868437227405312)
theorem isInf_below (b : Nat) (hb : b < 18446744073709551616) (w : World) :
    Calls Tryz.prog 48 #[.float .f64 b, .int .i64 (-1)] w fun e w' => e = .returned (.bool (ninf b)) ∧ w = w' := by
  have h1 := above (flip b) (flip_lt b hb)
  have h2 := neg_bits b hb
  go_enter Tryz.func48, Tryz.ntmps48
  go_wp2
  go_ret
  exact ⟨ret_bool (by unfold ninf; rw [decide_eq_decide]; unfold flip; split <;> omega), rfl⟩
theorem isInf_above (b : Nat) (hb : b < 18446744073709551616) (w : World) :
    Calls Tryz.prog 48 #[.float .f64 b, .int .i64 1] w fun e w' => e = .returned (.bool (pinf b)) ∧ w = w' := by
  have h1 := above b hb
  go_enter Tryz.func48, Tryz.ntmps48
  go_wp2
  go_ret
  exact ⟨rfl, rfl⟩
theorem isInf_both (b : Nat) (hb : b < 18446744073709551616) (w : World) :
    Calls Tryz.prog 48 #[.float .f64 b, .int .i64 0] w fun e w' => e = .returned (.bool (oinf b)) ∧ w = w' := by
  have h0 : rung b < 18446744073709551616 := by unfold rung; omega
  have h1 := above (rung b) h0
  go_enter Tryz.func48, Tryz.ntmps48
  go_wp2_with (go_at_call 69; refine (abs_any _ hb _).mono ?_; rintro e w' ⟨rfl, rfl⟩)
  go_ret
  exact ⟨rfl, rfl⟩

end Go.Proofs.YtcdkibadnelgiaaGreatDoor.Real

namespace Go.Proofs.YtcdkibadnelgiaaGreatDoor.Real
open Go.RowKit Go.Lib

def quiet : Nat := 9221120237041090560
/-- The bits that stand for a number. -/
def bitsF (b : Nat) : Nat := if nan b then quiet else b

theorem Bits_any (b : Nat) (hb : b < 18446744073709551616) (w : World) :
    Calls Tryz.prog 27 #[.float .f64 b] w fun e w' => e = .returned (.int .u64 (bitsF b : Nat)) ∧ w = w' := by
  unfold bitsF
  cases h : nan b
  all_goals
    go_enter Tryz.func27, Tryz.ntmps27
    go_wp2_with (go_at_call 42; refine (isNaN_any _ hb _).mono ?_; rintro e w' ⟨rfl, rfl⟩)
    go_ret
    exact ⟨rfl, rfl⟩

def okF (u : Nat) : Bool := !nan u || u == quiet
theorem Same_any (a b : Nat) (ha : a < 18446744073709551616) (hb : b < 18446744073709551616) (w : World) :
    Calls Tryz.prog 14 #[.float .f64 a, .float .f64 b] w fun e w' => e = .returned (.bool (((bitsF a : Nat) : Int) == ((bitsF b : Nat) : Int))) ∧ w = w' := by
  go_enter Tryz.func14, Tryz.ntmps14
  go_wp2_with (go_at_call 27; (first | (with_reducible refine (Bits_any a ha _).mono ?_) | (with_reducible refine (Bits_any b hb _).mono ?_)); rintro e w' ⟨rfl, rfl⟩)
  go_ret
  exact ⟨rfl, rfl⟩

theorem code_e (b : Nat) (hb : b < 18446744073709551616) : bits .and .u64 ((b : Int) / 4503599627370496) 2047 = ((b / 4503599627370496 % 2048 : Nat) : Int) := by
  have h := bits_and_u64_nat (b / 4503599627370496) 2047 (by omega) (by omega)
  rw [show (2047 : Nat) = 2 ^ 11 - 1 by decide, Nat.and_two_pow_sub_one_eq_mod] at h
  exact h
theorem code_m (b : Nat) (hb : b < 18446744073709551616) : bits .or .u64 (bits .and .u64 (b : Int) 4503599627370495) 4503599627370496 = ((4503599627370496 + b % 4503599627370496 : Nat) : Int) := by
  have h := bits_and_u64_nat b 4503599627370495 hb (by omega)
  rw [show (4503599627370495 : Nat) = 2 ^ 52 - 1 by decide, Nat.and_two_pow_sub_one_eq_mod] at h
  have h2 := bits_or_u64_nat (b % 2 ^ 52) 4503599627370496 (by omega) (by omega)
  have h3 := Nat.two_pow_add_eq_or_of_lt (i := 52) (b := b % 2 ^ 52) (by omega) 1
  rw [Nat.or_comm, Nat.mul_one] at h3
  have c1 : ((2 ^ 52 - 1 : Nat) : Int) = 4503599627370495 := by decide
  have c2 : ((4503599627370496 : Nat) : Int) = 4503599627370496 := by decide
  have c3 : (2 : Nat) ^ 52 = 4503599627370496 := by decide
  rw [c1] at h
  rw [c2] at h2
  rw [c3] at h h2 h3
  rw [h, h2, h3]

theorem thousandfold_zero (b : Nat) (hb : b < 18446744073709551616) (h : rung b / 4503599627370496 < 1012) (w : World) :
    Calls Tryz.prog 49 #[.float .f64 b] w fun e w' => e = .returned (.int .i64 (mil (rung b) : Nat)) ∧ w = w' := by
  rw [mil_zero _ h]
  have he := code_e b hb
  have hm := code_m b hb
  have h1 : b / 4503599627370496 % 2048 < 1012 := by unfold rung at h; omega
  have h2 : 4503599627370496 + b % 4503599627370496 < 9007199254740992 := by omega
  generalize b / 4503599627370496 % 2048 = e at *
  generalize 4503599627370496 + b % 4503599627370496 = M at *
  go_enter Tryz.func49, Tryz.ntmps49
  go_wp2
  go_ret
  exact ⟨rfl, rfl⟩

theorem half_facts (M q : Nat) (hM : M < 9007199254740992) (q1 : 42 ≤ q) (q2 : q ≤ 62) :
    ∃ W H S R : Nat, (M : Int) * 1000 / 2 ^ (q + 1) = (W : Int) ∧ (W : Int) * 2 ^ (q + 1) = (S : Int) ∧ (2 : Int) ^ q = (H : Int) ∧ S + R = M * 1000 ∧ H < 9223372036854775808 ∧ W < 1048576 ∧
      near (M * 1000) (2 ^ (q + 1)) = W + (if H < R ∨ (H = R ∧ W % 2 = 1) then 1 else 0) := by
  have d1 := Nat.div_add_mod (M * 1000) (2 ^ (q + 1))
  have d3 : M * 1000 / 2 ^ (q + 1) ≤ M * 1000 / 2 ^ 43 := Nat.div_le_div_left (Nat.pow_le_pow_right (by omega) (by omega)) (Nat.two_pow_pos _)
  have d4 : M * 1000 / 2 ^ 43 < 1048576 := by rw [show (2 : Nat) ^ 43 = 8796093022208 by decide]; omega
  have d5 : 2 ^ (q + 1) ≤ 2 ^ 63 := Nat.pow_le_pow_right (by omega) (by omega)
  have d6 : (2 : Nat) ^ (q + 1) = 2 * 2 ^ q := by rw [Nat.pow_succ, Nat.mul_comm]
  rw [show (2 : Nat) ^ 63 = 9223372036854775808 by decide] at d5
  have d7 := Nat.two_pow_pos q
  refine ⟨M * 1000 / 2 ^ (q + 1), 2 ^ q, 2 ^ (q + 1) * (M * 1000 / 2 ^ (q + 1)), M * 1000 % 2 ^ (q + 1), by simp, by simp [Int.mul_comm], by simp, d1, by omega, by omega, ?_⟩
  unfold near
  congr 1
  generalize M * 1000 % 2 ^ (q + 1) = R
  generalize M * 1000 / 2 ^ (q + 1) = W
  rw [d6]
  generalize 2 ^ q = H
  by_cases c : H < R ∨ (H = R ∧ W % 2 = 1)
  · rw [if_pos c, if_pos (by omega)]
  · rw [if_neg c, if_neg (by omega)]

theorem thousandfold_some (b : Nat) (hb : b < 18446744073709551616) (h : 1012 ≤ rung b / 4503599627370496) (h' : rung b / 4503599627370496 ≤ 1032) (w : World) :
    Calls Tryz.prog 49 #[.float .f64 b] w fun e w' => e = .returned (.int .i64 (mil (rung b) : Nat)) ∧ w = w' := by
  rw [mil_code _ h (by omega)]
  have he := code_e b hb
  have hm := code_m b hb
  have e0 : rung b / 4503599627370496 = b / 4503599627370496 % 2048 := by unfold rung; omega
  have e1 : rung b % 4503599627370496 = b % 4503599627370496 := by unfold rung; omega
  rw [e0] at h h' ⊢
  rw [e1]
  have h2 : 4503599627370496 + b % 4503599627370496 < 9007199254740992 := by omega
  generalize b / 4503599627370496 % 2048 = e at *
  generalize 4503599627370496 + b % 4503599627370496 = M at *
  obtain ⟨q, hq⟩ : ∃ q : Nat, 1075 - e = q + 1 := ⟨1074 - e, by omega⟩
  rw [hq]
  have hp : (1075 : Int) - (e : Int) = (q : Int) + 1 := by omega
  have q1 : 42 ≤ q := by omega
  have q2 : q ≤ 62 := by omega
  clear hq e0 e1
  obtain ⟨W, H, S, R, hW, hS, hH, hR, hH', hW', hn⟩ := half_facts M q h2 q1 q2
  rw [hn]
  have hR' : (M : Int) * 1000 - (S : Int) = (R : Int) := by omega
  have hS' : S < 18446744073709551616 := by omega
  clear hn hR
  by_cases c1 : H < R
  · rw [if_pos (Or.inl c1)]
    go_enter Tryz.func49, Tryz.ntmps49
    go_wp2
    go_ret
    exact ⟨ret_int (by omega), rfl⟩
  · by_cases c2 : H = R
    · subst c2
      by_cases c3 : W % 2 = 1
      · rw [if_pos (Or.inr ⟨rfl, c3⟩)]
        go_enter Tryz.func49, Tryz.ntmps49
        go_wp2
        all_goals go_ret
        all_goals exact ⟨ret_int (by omega), rfl⟩
      · rw [if_neg (by omega)]
        go_enter Tryz.func49, Tryz.ntmps49
        go_wp2
        all_goals go_ret
        all_goals exact ⟨ret_int (by omega), rfl⟩
    · rw [if_neg (by omega)]
      go_enter Tryz.func49, Tryz.ntmps49
      go_wp2
      all_goals go_ret
      all_goals exact ⟨ret_int (by omega), rfl⟩

theorem thousandfold_any (b : Nat) (hb : b < 18446744073709551616) (h : rung b / 4503599627370496 ≤ 1032) (w : World) :
    Calls Tryz.prog 49 #[.float .f64 b] w fun e w' => e = .returned (.int .i64 (mil (rung b) : Nat)) ∧ w = w' := by
  by_cases h' : rung b / 4503599627370496 < 1012
  · exact thousandfold_zero b hb h' w
  · exact thousandfold_some b hb (by omega) h w
end Go.Proofs.YtcdkibadnelgiaaGreatDoor.Real

namespace Go.Proofs.YtcdkibadnelgiaaGreatDoor.Real
open Go.RowKit Go.Lib

theorem ret_int2 {k : IntKind} {a b c d : Int} (h : a = b) (h' : c = d) : Ending.returned (.tuple #[.int k a, .int k c]) = .returned (.tuple #[.int k b, .int k d]) := by rw [h, h']

theorem key_zero : key 0 = 0 := by decide
theorem nan_zero : nan 0 = false := by decide
theorem order0_lt (b : Nat) (hb : b < 18446744073709551616) (hn : nan b = false) (h : key b < 0) : FloatKind.f64.format.order b 0 = some .lt :=
  order_lt b 0 hb (by omega) hn nan_zero (by rw [key_zero]; exact h)
theorem order0_eq (b : Nat) (hb : b < 18446744073709551616) (hn : nan b = false) (h : key b = 0) : FloatKind.f64.format.order b 0 = some .eq :=
  order_eq b 0 hb (by omega) hn nan_zero (by rw [key_zero]; exact h)
theorem order0_gt (b : Nat) (hb : b < 18446744073709551616) (hn : nan b = false) (h : 0 < key b) : FloatKind.f64.format.order b 0 = some .gt :=
  order_gt b 0 hb (by omega) hn nan_zero (by rw [key_zero]; exact h)

def cls (b : Nat) : Nat := if nan b then 0 else if ninf b then 1 else if pinf b then 5 else if rung b = 0 then (if neg b then 2 else 3) else 4

/-- The place of a number in the order of all. -/
def tk (b : Nat) : Int := if nan b then 36893488147419103232 else if neg b then -(rung b : Int) - 1 else rung b
def lessB (a b : Nat) : Bool := decide (tk a < tk b)
theorem neg_t {b : Nat} : neg b = true ↔ 9223372036854775808 ≤ b := by unfold neg; simp
theorem neg_f {b : Nat} : neg b = false ↔ b < 9223372036854775808 := by unfold neg; simp
theorem tk_nan {b : Nat} (h : nan b = true) : tk b = 36893488147419103232 := by unfold tk; rw [if_pos h]
theorem tk_key {b : Nat} (h : nan b = false) : tk b = if neg b then key b - 1 else key b := by
  unfold tk key; rw [h]
  cases hn : neg b
  · have := neg_f.1 hn
    simp [show ¬ 9223372036854775808 ≤ b by omega]
  · have := neg_t.1 hn
    simp [this]
theorem key_lt (b : Nat) : -9223372036854775808 < key b ∧ key b < 9223372036854775808 := by unfold key rung; split <;> omega
theorem key_neg {b : Nat} (h : neg b = true) : key b ≤ 0 := by rw [neg_t] at h; unfold key; rw [if_pos h]; omega
theorem key_pos {b : Nat} (h : neg b = false) : 0 ≤ key b := by rw [neg_f] at h; unfold key; rw [if_neg (by omega)]; omega

def mbad (b : Nat) : Bool := nan b || oinf b || decide (key b < 0)
def mn (b : Nat) : Nat := if mbad b then 0 else if 1000000 < mil (rung b) then 0 else mil (rung b)
def me (b : Nat) : Nat := if mbad b then 18 else if 1000000 < mil (rung b) then 6 else 0
theorem mn_bad {b : Nat} (h : mbad b = true) : mn b = 0 := by unfold mn; rw [if_pos h]
theorem me_bad {b : Nat} (h : mbad b = true) : me b = 18 := by unfold me; rw [if_pos h]
theorem mn_over {b : Nat} (h : mbad b = false) (h' : 1000000 < mil (rung b)) : mn b = 0 := by unfold mn; rw [h, if_neg (by simp), if_pos h']
theorem me_over {b : Nat} (h : mbad b = false) (h' : 1000000 < mil (rung b)) : me b = 6 := by unfold me; rw [h, if_neg (by simp), if_pos h']
theorem mn_ok {b : Nat} (h : mbad b = false) (h' : mil (rung b) ≤ 1000000) : mn b = mil (rung b) := by unfold mn; rw [h, if_neg (by simp), if_neg (by omega)]
theorem me_ok {b : Nat} (h : mbad b = false) (h' : mil (rung b) ≤ 1000000) : me b = 0 := by unfold me; rw [h, if_neg (by simp), if_neg (by omega)]

theorem key_rung {b : Nat} (h : 0 ≤ key b) : key b = rung b := by unfold key at *; split at h <;> simp_all <;> omega
theorem key_1001 : key 4652016104934211584 = 4652016104934211584 := by decide
theorem nan_1001 : nan 4652016104934211584 = false := by decide
theorem key_million : key 4696837146684686336 = 4696837146684686336 := by decide
theorem nan_million : nan 4696837146684686336 = false := by decide

theorem thousandfold_at (b x : Nat) (hb : b < 18446744073709551616) (h : rung b / 4503599627370496 ≤ 1032) (hx : Hid (mil (rung b) = x)) (w : World) :
    Calls Tryz.prog 49 #[.float .f64 b] w fun e w' => e = .returned (.int .i64 (x : Nat)) ∧ w = w' := by
  rw [← hx.out]; exact thousandfold_any b hb h w

theorem Milli_any (b : Nat) (hb : b < 18446744073709551616) (w : World) :
    Calls Tryz.prog 30 #[.float .f64 b] w fun e w' => e = .returned (.tuple #[.int .i64 (mn b : Nat), .int .i64 (me b : Nat)]) ∧ w = w' := by
  cases h1 : nan b
  · cases h2 : oinf b
    · by_cases h3 : key b < 0
      · have ho := order0_lt b hb h1 h3
        have hm : mbad b = true := by unfold mbad; rw [h1, h2]; simpa using h3
        rw [mn_bad hm, me_bad hm]
        clear hm h3
        go_enter Tryz.func30, Tryz.ntmps30
        go_wp2_with (first
          | (go_at_call 42; refine (isNaN_any _ hb _).mono ?_; rintro e w' ⟨rfl, rfl⟩)
          | (go_at_call 48; refine (isInf_both _ hb _).mono ?_; rintro e w' ⟨rfl, rfl⟩))
        go_ret2
        exact ⟨rfl, rfl⟩
      · have hk := key_rung (b := b) (by omega)
        have hm : mbad b = false := by unfold mbad; rw [h1, h2]; simpa using h3
        have ho : FloatKind.f64.format.order b 0 = some .eq ∨ FloatKind.f64.format.order b 0 = some .gt := by
          rcases Int.lt_trichotomy (key b) 0 with h | h | h
          · omega
          · exact Or.inl (order0_eq b hb h1 h)
          · exact Or.inr (order0_gt b hb h1 h)
        have ho' : (FloatKind.f64.format.order b 0 == some .lt) = false := by rcases ho with h | h <;> rw [h] <;> rfl
        clear ho
        by_cases h4 : 4652016104934211584 < rung b
        · have h5 : 1000000 < mil (rung b) := by
            have := mil_mono (Nat.le_of_lt h4)
            rw [mil_1001] at this; omega
          rw [mn_over hm h5, me_over hm h5]
          have h6 := order_gt b 4652016104934211584 hb (by omega) h1 nan_1001 (by rw [hk, key_1001]; omega)
          clear hm hk h3
          go_enter Tryz.func30, Tryz.ntmps30
          go_wp2_with (first
            | (go_at_call 42; refine (isNaN_any _ hb _).mono ?_; rintro e w' ⟨rfl, rfl⟩)
            | (go_at_call 48; refine (isInf_both _ hb _).mono ?_; rintro e w' ⟨rfl, rfl⟩))
          go_ret2
          exact ⟨rfl, rfl⟩
        · have h6 : (FloatKind.f64.format.order b 4652016104934211584 == some .gt) = false := by
            rcases Int.lt_or_eq_of_le (show key b ≤ 4652016104934211584 by omega) with h | h
            · rw [order_lt b _ hb (by omega) h1 nan_1001 (by rw [key_1001]; exact h)]; rfl
            · rw [order_eq b _ hb (by omega) h1 nan_1001 (by rw [key_1001]; exact h)]; rfl
          have h7 : rung b / 4503599627370496 ≤ 1032 := by omega
          clear hk h3
          obtain ⟨x, hx⟩ : ∃ x, mil (rung b) = x := ⟨_, rfl⟩
          have HX := Lib.hid hx
          by_cases h5 : 1000000 < x
          · rw [mn_over hm (by omega), me_over hm (by omega)]
            clear hm hx
            go_enter Tryz.func30, Tryz.ntmps30
            go_wp2_with (first
              | (go_at_call 42; refine (isNaN_any _ hb _).mono ?_; rintro e w' ⟨rfl, rfl⟩)
              | (go_at_call 48; refine (isInf_both _ hb _).mono ?_; rintro e w' ⟨rfl, rfl⟩)
              | (go_at_call 49; refine (thousandfold_at _ x hb h7 HX _).mono ?_; rintro e w' ⟨rfl, rfl⟩))
            go_ret2
            exact ⟨rfl, rfl⟩
          · rw [mn_ok hm (by omega), me_ok hm (by omega), hx]
            clear hm hx
            go_enter Tryz.func30, Tryz.ntmps30
            go_wp2_with (first
              | (go_at_call 42; refine (isNaN_any _ hb _).mono ?_; rintro e w' ⟨rfl, rfl⟩)
              | (go_at_call 48; refine (isInf_both _ hb _).mono ?_; rintro e w' ⟨rfl, rfl⟩)
              | (go_at_call 49; refine (thousandfold_at _ x hb h7 HX _).mono ?_; rintro e w' ⟨rfl, rfl⟩))
            go_ret2
            exact ⟨rfl, rfl⟩
    · have hm : mbad b = true := by unfold mbad; rw [h1, h2]; rfl
      rw [mn_bad hm, me_bad hm]
      clear hm
      go_enter Tryz.func30, Tryz.ntmps30
      go_wp2_with (first
        | (go_at_call 42; refine (isNaN_any _ hb _).mono ?_; rintro e w' ⟨rfl, rfl⟩)
        | (go_at_call 48; refine (isInf_both _ hb _).mono ?_; rintro e w' ⟨rfl, rfl⟩))
      go_ret2
      exact ⟨rfl, rfl⟩
  · have hm : mbad b = true := by unfold mbad; rw [h1]; rfl
    rw [mn_bad hm, me_bad hm]
    clear hm
    go_enter Tryz.func30, Tryz.ntmps30
    go_wp2_with (go_at_call 42; refine (isNaN_any _ hb _).mono ?_; rintro e w' ⟨rfl, rfl⟩)
    go_ret2
    exact ⟨rfl, rfl⟩

/-- The bits of a thousandth. -/
theorem Thousandth_any (n : Int) (h0 : -9223372036854775808 ≤ n) (h1 : n ≤ 9223372036854775807) (w : World) :
    Calls Tryz.prog 36 #[.int .i64 n] w fun e w' => ∃ b : Nat, e = .returned (.float .f64 b) ∧ b < inf ∧ mil b = (max (min n 1000000) 0).toNat ∧ w = w' := by
  obtain ⟨m, hm⟩ : ∃ m : Nat, max (min n 1000000) 0 = (m : Int) := ⟨(max (min n 1000000) 0).toNat, by omega⟩
  obtain ⟨b, hb, hi, hv⟩ := thou m (by omega)
  have hq := fun t w => run_float_arith (P := Tryz.prog) w .quo t .f64 _ _ _ hb
  rw [hm]
  by_cases h2 : n ≤ 1000000
  all_goals by_cases h3 : n < 0
  all_goals try omega
  · obtain rfl : m = 0 := by omega
    rw [show ((0 : Nat) : Int) = 0 from rfl] at hq
    go_enter Tryz.func36, Tryz.ntmps36
    go_wp2
    go_ret
    exact ⟨b, rfl, hi, hv, rfl⟩
  · obtain rfl : n = (m : Int) := by omega
    go_enter Tryz.func36, Tryz.ntmps36
    go_wp2
    go_ret
    exact ⟨b, rfl, hi, hv, rfl⟩
  · obtain rfl : m = 1000000 := by omega
    rw [show ((1000000 : Nat) : Int) = 1000000 from rfl] at hq
    go_enter Tryz.func36, Tryz.ntmps36
    go_wp2
    go_ret
    exact ⟨b, rfl, hi, hv, rfl⟩
end Go.Proofs.YtcdkibadnelgiaaGreatDoor.Real

namespace Go.Proofs.YtcdkibadnelgiaaGreatDoor.Real
open Go.RowKit Go.Lib

/-- Some bits of no number, as the world gives them. -/
def someNan (b : Nat) (w : World) : Nat := (Question.nanBits .f64 b b).cut (w.tape w.drawn (.nanBits .f64 b b))
theorem someNan_lt (b : Nat) (w : World) : someNan b w < 18446744073709551616 := by
  unfold someNan Question.cut
  simp only
  generalize w.tape w.drawn (Question.nanBits FloatKind.f64 b b) = t
  omega
theorem someNan_nan (b : Nat) (w : World) : nan (someNan b w) = true := by
  rw [nan_t]
  unfold rung inf someNan Question.cut
  simp only
  generalize w.tape w.drawn (Question.nanBits FloatKind.f64 b b) = t
  have h : t / 2 % (2 ^ 52 - 1) < 4503599627370495 := Nat.mod_lt _ (by decide)
  generalize t / 2 % (2 ^ 52 - 1) = k at *
  rcases Nat.mod_two_eq_zero_or_one t with e | e <;> rw [e] <;> omega
theorem sub_run_inf (b : Nat) (hb : b < 18446744073709551616) (h : rung b = inf) (t : TypeId) (w : World) :
    (binOp .sub t (.float .f64 b) (.float .f64 b)).run Tryz.prog w = .ok (.float .f64 (someNan b w)) w.drew := by
  have hs : FloatKind.f64.format.sub b b = none := sub_inf b hb h
  simp [binOp, Op.floatArith, hs, someNan, Question.forced]
theorem sub_run_fin (b : Nat) (hb : b < 18446744073709551616) (h : rung b < inf) (t : TypeId) (w : World) :
    (binOp .sub t (.float .f64 b) (.float .f64 b)).run Tryz.prog w = .ok (.float .f64 0) w :=
  run_float_arith w .sub t .f64 b b 0 (sub_self b hb h)
theorem order00 : FloatKind.f64.format.order 0 0 = some .eq := order0_eq 0 (by omega) nan_zero key_zero

theorem rClass_any (b : Nat) (hb : b < 18446744073709551616) (w : World) :
    Calls Tryz.prog 40 #[.float .f64 b] w fun e w' => e = .returned (.int .i64 (cls b : Nat)) ∧ ∃ n, w' = w.drewN n := by
  unfold cls
  cases h1 : nan b
  · have hbb := order_eq b b hb hb h1 h1 rfl
    by_cases hi : rung b = inf
    · have hs := sub_run_inf b hb hi
      have hn := fun w => order_nan_l (someNan b w) 0 (someNan_lt b w) (someNan_nan b w)
      by_cases h2 : neg b = true
      · have h3 : ninf b = true := by unfold ninf; rw [neg_t] at h2; unfold rung inf at hi; simp; omega
        rw [h3]
        have ho := order0_lt b hb h1 (by unfold key; rw [if_pos (neg_t.1 h2), hi]; decide)
        clear h2 h3 hi
        go_enter Tryz.func40, Tryz.ntmps40
        go_wp2
        go_ret
        exact ⟨rfl, 1, rfl⟩
      · have h2' := neg_f.1 (by simpa using h2)
        have h3 : ninf b = false := by unfold ninf; simp; omega
        have h4 : pinf b = true := by unfold pinf; unfold rung inf at hi; simp; omega
        rw [h3, h4]
        have ho := order0_gt b hb h1 (by unfold key; rw [if_neg (by omega), hi]; decide)
        clear h2 h2' h3 h4 hi
        go_enter Tryz.func40, Tryz.ntmps40
        go_wp2
        go_ret
        exact ⟨rfl, 2, rfl⟩
    · have hf : rung b < inf := by rw [nan_f] at h1; omega
      have hs := sub_run_fin b hb hf
      have h00 := order00
      have h3 : ninf b = false := by unfold ninf; unfold rung inf at hf; simp; omega
      have h4 : pinf b = false := by unfold pinf; unfold rung inf at hf; simp; omega
      rw [h3, h4]
      clear h3 h4 hi
      by_cases h5 : rung b = 0
      · rw [if_pos h5]
        have ho := order0_eq b hb h1 (by unfold key; rw [h5]; simp)
        cases h6 : neg b
        · obtain rfl : b = 0 := by rw [neg_f] at h6; unfold rung at h5; omega
          have hq := fun t w => run_float_arith (P := Tryz.prog) w .quo t .f64 4607182418800017408 0 9218868437227405312 (by decide +kernel)
          have hg := order0_gt 9218868437227405312 (by omega) (by decide) (by decide)
          clear h5 h6 hf
          go_enter Tryz.func40, Tryz.ntmps40
          go_wp2
          go_ret
          exact ⟨rfl, 0, rfl⟩
        · obtain rfl : b = 9223372036854775808 := by rw [neg_t] at h6; unfold rung at h5; omega
          have hq := fun t w => run_float_arith (P := Tryz.prog) w .quo t .f64 4607182418800017408 9223372036854775808 18442240474082181120 (by decide +kernel)
          have hg := order0_lt 18442240474082181120 (by omega) (by decide) (by decide)
          clear h5 h6 hf
          go_enter Tryz.func40, Tryz.ntmps40
          go_wp2
          go_ret
          exact ⟨rfl, 0, rfl⟩
      · rw [if_neg h5]
        have hk : key b < 0 ∨ 0 < key b := by unfold key; split <;> omega
        rcases hk with hk | hk
        · have ho := order0_lt b hb h1 hk
          clear h5 hk hf
          go_enter Tryz.func40, Tryz.ntmps40
          go_wp2
          go_ret
          exact ⟨rfl, 0, rfl⟩
        · have ho := order0_gt b hb h1 hk
          clear h5 hk hf
          go_enter Tryz.func40, Tryz.ntmps40
          go_wp2
          go_ret
          exact ⟨rfl, 0, rfl⟩
  · have hbb := order_nan_l b b hb h1
    go_enter Tryz.func40, Tryz.ntmps40
    go_wp2
    go_ret
    exact ⟨rfl, 0, rfl⟩

theorem rBits_any (b : Nat) (hb : b < 18446744073709551616) (w : World) :
    Calls Tryz.prog 41 #[.float .f64 b] w fun e w' => e = .returned (.int .u64 (bitsF b : Nat)) ∧ w = w' := by
  unfold bitsF
  cases h : nan b
  · have hbb := order_eq b b hb hb h h rfl
    go_enter Tryz.func41, Tryz.ntmps41
    go_wp2
    go_ret
    exact ⟨rfl, rfl⟩
  · have hbb := order_nan_l b b hb h
    go_enter Tryz.func41, Tryz.ntmps41
    go_wp2
    go_ret
    exact ⟨rfl, rfl⟩

end Go.Proofs.YtcdkibadnelgiaaGreatDoor.Real

namespace Go.Proofs.YtcdkibadnelgiaaGreatDoor.Real
open Go.RowKit Go.Lib

/-- Where a number stands in the order of its class. -/
def pl (b : Nat) : Nat := if nan b then 6 else if ninf b then 0 else if pinf b then 5 else if rung b = 0 then (if neg b then 2 else 3) else if neg b then 1 else 4

theorem pl_spec (b : Nat) (hb : b < 18446744073709551616) :
    (pl b = 6 ∧ cls b = 0 ∧ nan b = true ∧ tk b = 36893488147419103232) ∨ (nan b = false ∧
      ((pl b = 0 ∧ cls b = 1 ∧ tk b = -9218868437227405313) ∨ (pl b = 5 ∧ cls b = 5 ∧ tk b = 9218868437227405312) ∨ (pl b = 2 ∧ cls b = 2 ∧ tk b = -1) ∨ (pl b = 3 ∧ cls b = 3 ∧ tk b = 0) ∨
       (pl b = 1 ∧ cls b = 4 ∧ tk b = key b - 1 ∧ -9218868437227405313 < tk b ∧ tk b < -1) ∨ (pl b = 4 ∧ cls b = 4 ∧ tk b = key b ∧ 0 < tk b ∧ tk b < 9218868437227405312))) := by
  unfold pl cls tk
  cases h1 : nan b
  · right
    refine ⟨rfl, ?_⟩
    have hr := nan_f.1 h1
    unfold key ninf pinf neg
    unfold rung inf at *
    by_cases h2 : b = 18442240474082181120
    · left; subst h2; decide
    by_cases h3 : b = 9218868437227405312
    · right; left; subst h3; decide
    simp only [h2, h3, decide_false, Bool.false_eq_true, if_false]
    right; right
    by_cases h4 : b % 9223372036854775808 = 0
    · by_cases h5 : 9223372036854775808 ≤ b
      · left; simp [h4, h5]
      · right; left; simp [h4, h5]
    · right; right
      by_cases h5 : 9223372036854775808 ≤ b
      · left; simp [h4, h5]; omega
      · right; simp [h4, h5]; omega
  · left; simp

theorem less_pl (a b : Nat) (ha : a < 18446744073709551616) (hb : b < 18446744073709551616) (h : pl a ≠ pl b) : lessB a b = decide ((pl a : Int) < (pl b : Int)) := by
  unfold lessB
  rw [decide_eq_decide]
  have h1 := pl_spec a ha
  have h2 := pl_spec b hb
  rcases h1 with h1 | ⟨_, h1 | h1 | h1 | h1 | h1 | h1⟩ <;> rcases h2 with h2 | ⟨_, h2 | h2 | h2 | h2 | h2 | h2⟩ <;> omega
theorem less_same (a b : Nat) (ha : a < 18446744073709551616) (hb : b < 18446744073709551616) (h : pl a = pl b) : (cls a ≠ 4 ∧ lessB a b = false ∧ tk a = tk b) ∨ (cls a = 4 ∧ lessB a b = decide (key a < key b) ∧ nan a = false ∧ nan b = false ∧ (tk a = tk b ↔ key a = key b)) := by
  unfold lessB
  rw [decide_eq_decide, decide_eq_false_iff_not]
  have h1 := pl_spec a ha
  have h2 := pl_spec b hb
  rcases h1 with h1 | ⟨n1, h1 | h1 | h1 | h1 | h1 | h1⟩ <;> rcases h2 with h2 | ⟨n2, h2 | h2 | h2 | h2 | h2 | h2⟩ <;> first | (left; omega) | (right; refine ⟨by omega, by omega, n1, n2, by omega⟩) | (exfalso; omega)

end Go.Proofs.YtcdkibadnelgiaaGreatDoor.Real

namespace Go.Proofs.YtcdkibadnelgiaaGreatDoor.Real
open Go.RowKit Go.Lib

theorem rClass_at (b p : Nat) (hb : b < 18446744073709551616) (h : Hid (cls b = p)) (w : World) :
    Calls Tryz.prog 40 #[.float .f64 b] w fun e w' => e = .returned (.int .i64 (p : Nat)) ∧ ∃ n, w' = w.drewN n := by
  rw [← h.out]; exact rClass_any b hb w

def sameB (a b : Nat) : Bool := decide (tk a = tk b)
theorem same_bits (a b : Nat) (ha : a < 18446744073709551616) (hb : b < 18446744073709551616) : (((bitsF a : Nat) : Int) == ((bitsF b : Nat) : Int)) = sameB a b := by
  unfold sameB
  rw [Bool.eq_iff_iff, beq_iff_eq, decide_eq_true_iff]
  unfold bitsF tk quiet
  cases h1 : nan a <;> cases h2 : nan b <;> simp only [Bool.false_eq_true, if_false, if_true]
  · unfold neg rung
    by_cases a1 : 9223372036854775808 ≤ a <;> by_cases b1 : 9223372036854775808 ≤ b <;> simp [a1, b1] <;> omega
  · have : ¬ a = 9221120237041090560 := by intro e; subst e; exact absurd h1 (by decide)
    have : rung a < 9223372036854775808 := by unfold rung; omega
    split <;> omega
  · have : ¬ b = 9221120237041090560 := by intro e; subst e; exact absurd h2 (by decide)
    have : rung b < 9223372036854775808 := by unfold rung; omega
    split <;> omega
theorem Same_is (a b : Nat) (ha : a < 18446744073709551616) (hb : b < 18446744073709551616) (w : World) :
    Calls Tryz.prog 14 #[.float .f64 a, .float .f64 b] w fun e w' => e = .returned (.bool (sameB a b)) ∧ w = w' := by
  rw [← same_bits a b ha hb]; exact Same_any a b ha hb w

theorem same_cls (a b : Nat) (ha : a < 18446744073709551616) (hb : b < 18446744073709551616) :
    (cls a ≠ cls b ∧ sameB a b = false) ∨ (cls a = cls b ∧ cls a ≠ 4 ∧ sameB a b = true) ∨ (cls a = 4 ∧ cls b = 4 ∧ nan a = false ∧ nan b = false ∧ sameB a b = decide (key a = key b)) := by
  unfold sameB
  rw [decide_eq_decide, decide_eq_false_iff_not, decide_eq_true_iff]
  have h1 := pl_spec a ha
  have h2 := pl_spec b hb
  rcases h1 with h1 | ⟨n1, h1 | h1 | h1 | h1 | h1 | h1⟩ <;> rcases h2 with h2 | ⟨n2, h2 | h2 | h2 | h2 | h2 | h2⟩ <;> first | (left; omega) | (right; left; omega) | (right; right; refine ⟨by omega, by omega, n1, n2, by omega⟩)

theorem rSame_any (a b : Nat) (ha : a < 18446744073709551616) (hb : b < 18446744073709551616) (w : World) :
    Calls Tryz.prog 24 #[.float .f64 a, .float .f64 b] w fun e w' => e = .returned (.bool (sameB a b)) ∧ ∃ n, w' = w.drewN n := by
  rcases same_cls a b ha hb with ⟨h1, h2⟩ | ⟨h1, h2, h3⟩ | ⟨h1, h2, h3, h4, h5⟩
  · rw [h2]
    obtain ⟨p, hp⟩ : ∃ p, cls a = p := ⟨_, rfl⟩
    obtain ⟨q, hq⟩ : ∃ q, cls b = q := ⟨_, rfl⟩
    have HP := Lib.hid hp
    have HQ := Lib.hid hq
    have hd : ((p : Int) == (q : Int)) = false := by simp; omega
    clear hp hq h1 h2
    go_enter Tryz.func24, Tryz.ntmps24
    go_wp2_with (go_at_call 40; (first | (with_reducible refine (rClass_at a p ha HP _).mono ?_) | (with_reducible refine (rClass_at b q hb HQ _).mono ?_)); rintro e w' ⟨rfl, n, rfl⟩)
    go_ret
    exact ⟨rfl, _, rfl⟩
  · rw [h3]
    obtain ⟨p, hp⟩ : ∃ p, cls a = p := ⟨_, rfl⟩
    rw [hp] at h1 h2
    have HP := Lib.hid hp
    have HQ := Lib.hid h1.symm
    have hd : ((p : Int) == 4) = false := by simp; omega
    have hd' : ((p : Int) != 4) = true := by simp; omega
    clear hp h1 h2 h3
    go_enter Tryz.func24, Tryz.ntmps24
    go_wp2_with (go_at_call 40; (first | (with_reducible refine (rClass_at a p ha HP _).mono ?_) | (with_reducible refine (rClass_at b p hb HQ _).mono ?_)); rintro e w' ⟨rfl, n, rfl⟩)
    go_ret
    exact ⟨rfl, _, rfl⟩
  · have HP := Lib.hid h1
    have HQ := Lib.hid h2
    rw [h5]
    clear h1 h2 h5
    by_cases hk : key a = key b
    · have ho := order_eq a b ha hb h3 h4 hk
      rw [decide_eq_true hk]
      clear hk
      go_enter Tryz.func24, Tryz.ntmps24
      go_wp2_with (go_at_call 40; (first | (with_reducible refine (rClass_at a 4 ha HP _).mono ?_) | (with_reducible refine (rClass_at b 4 hb HQ _).mono ?_)); rintro e w' ⟨rfl, n, rfl⟩)
      go_ret
      exact ⟨rfl, _, rfl⟩
    · have ho : (FloatKind.f64.format.order a b == some .eq) = false := by
        rcases Int.lt_or_gt_of_ne hk with h | h
        · rw [order_lt a b ha hb h3 h4 h]; rfl
        · rw [order_gt a b ha hb h3 h4 h]; rfl
      rw [decide_eq_false hk]
      clear hk
      go_enter Tryz.func24, Tryz.ntmps24
      go_wp2_with (go_at_call 40; (first | (with_reducible refine (rClass_at a 4 ha HP _).mono ?_) | (with_reducible refine (rClass_at b 4 hb HQ _).mono ?_)); rintro e w' ⟨rfl, n, rfl⟩)
      go_ret
      exact ⟨rfl, _, rfl⟩

theorem rBits_at (b : Nat) (hb : b < 18446744073709551616) (h : nan b = false) (w : World) :
    Calls Tryz.prog 41 #[.float .f64 b] w fun e w' => e = .returned (.int .u64 (b : Nat)) ∧ w = w' := by
  have := rBits_any b hb w
  unfold bitsF at this; rw [h] at this; exact this
theorem and_r63 (b : Nat) (hb : b < 18446744073709551616) : bits .and .u64 (b : Int) 9223372036854775807 = ((rung b : Nat) : Int) := by
  have h := bits_and_u64_nat b 9223372036854775807 hb (by omega)
  have c1 : ((9223372036854775807 : Nat) : Int) = 9223372036854775807 := by decide
  rw [c1] at h
  rw [h, show (9223372036854775807 : Nat) = 2 ^ 63 - 1 by decide, Nat.and_two_pow_sub_one_eq_mod]
  rfl
theorem and_r52 (r : Nat) (hr : r < 18446744073709551616) : bits .and .u64 (r : Int) 4503599627370495 = ((r % 4503599627370496 : Nat) : Int) := by
  have h := bits_and_u64_nat r 4503599627370495 hr (by omega)
  have c1 : ((4503599627370495 : Nat) : Int) = 4503599627370495 := by decide
  rw [c1] at h
  rw [h, show (4503599627370495 : Nat) = 2 ^ 52 - 1 by decide, Nat.and_two_pow_sub_one_eq_mod]

end Go.Proofs.YtcdkibadnelgiaaGreatDoor.Real
