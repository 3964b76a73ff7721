/- The document's answer for thousandths. Conditions: as each theorem states. · The document's answer for thousandths, at every number. Conditions: as each theorem states. · The statements of layer 2 as contracts over every input. Conditions: the arguments fit their kinds. · The other statements of layer 2 as contracts over every input. Conditions: the arguments fit their kinds. · The statement RealBack as a contract over every input. Conditions: the arguments fit their kinds. -/
import Derived.Test.YtcdkibadnelgiaaDoorRealP2
import Derived.OpenShut
import Derived.Below
import Derived.RegionTactic
namespace Go.Proofs.YtcdkibadnelgiaaDoor.Real
open Go.RowKit Go.Lib

def oddF (P k : Nat) : Bool := if k = 0 then false else P / 2 ^ (k - 1) % 2 == 1
def restF (P k : Nat) : Bool := if k = 0 then false else P % 2 ^ (k - 1) != 0
theorem oddF_succ (P k : Nat) : oddF P (k + 1) = (P / 2 ^ k % 2 == 1) := by unfold oddF; simp
theorem restF_succ (P k : Nat) : restF P (k + 1) = (restF P k || oddF P k) := by
  unfold oddF restF
  rcases Nat.eq_zero_or_pos k with h | h
  · subst h; simp [Nat.mod_one]
  · obtain ⟨j, rfl⟩ : ∃ j, k = j + 1 := ⟨k - 1, by omega⟩
    simp only [Nat.add_sub_cancel, Nat.add_one_ne_zero, if_false]
    have e1 : P % 2 ^ (j + 1) = P % 2 ^ j + 2 ^ j * (P / 2 ^ j % 2) := by rw [Nat.pow_succ, Nat.mod_mul]
    have hp := Nat.two_pow_pos j
    rw [e1]
    generalize P % 2 ^ j = m
    rcases Nat.mod_two_eq_zero_or_one (P / 2 ^ j) with h2 | h2 <;> rw [h2]
    · simp
    · generalize 2 ^ j = d at *
      have : (m + d * 1 != 0) = true := by simp; omega
      rw [this]; simp
theorem near_fold (P k : Nat) : near P (2 ^ (k + 1)) = P / 2 ^ (k + 1) + (if oddF P (k + 1) && (restF P (k + 1) || P / 2 ^ (k + 1) % 2 == 1) then 1 else 0) := by
  have e : restF P (k + 1) = (P % 2 ^ k != 0) := by unfold restF; simp
  rw [near_bits, oddF_succ, e]
  congr 1
  by_cases c : P / 2 ^ k % 2 = 1 ∧ (P % 2 ^ k ≠ 0 ∨ P / 2 ^ (k + 1) % 2 = 1)
  · rw [if_pos c, if_pos (by simpa using c)]
  · rw [if_neg c, if_neg (by simpa using c)]

theorem ret_int2' {k : IntKind} {a b c d : Int} {A : Prop} (h : a = b) (h' : c = d) (hA : A) : Ending.returned (.tuple #[.int k a, .int k c]) = .returned (.tuple #[.int k b, .int k d]) ∧ A := ⟨by rw [h, h'], hA⟩

end Go.Proofs.YtcdkibadnelgiaaDoor.Real

namespace Go.Proofs.YtcdkibadnelgiaaDoor.Real
open Go.RowKit Go.Lib

end Go.Proofs.YtcdkibadnelgiaaDoor.Real

namespace Go.Proofs.YtcdkibadnelgiaaDoor.Real
open Go.RowKit Go.Lib

theorem bdrew {B : Nat} {a w : World} (h : Below B a w) (n : Nat) : Below B a (w.drewN n) := ⟨h.os, h.tape, h.output, h.size, h.block⟩

theorem quo00_run (t : TypeId) (w : World) : (binOp .quo t (.float .f64 0) (.float .f64 0)).run Tryd.prog w = .ok (.float .f64 (someNan 0 w)) w.drew := by
  have hs : FloatKind.f64.format.div 0 0 = none := by decide +kernel
  simp [binOp, Op.floatArith, hs, someNan, Question.forced]
theorem quo10_run (t : TypeId) (w : World) : (binOp .quo t (.float .f64 4607182418800017408) (.float .f64 0)).run Tryd.prog w = .ok (.float .f64 9218868437227405312) w :=
  run_float_arith w .quo t .f64 4607182418800017408 0 9218868437227405312 (by decide +kernel)

theorem aw_half (w : World) : Calls Tryd.prog 10 #[.float .f64 4602678819172646912] w fun e w' => e = .returned (.tuple #[.int .i64 500, .int .i64 0]) ∧ w = w' := by
  have h := Milli_any 4602678819172646912 (by omega) w
  rw [show mn 4602678819172646912 = 500 by decide +kernel, show me 4602678819172646912 = 0 by decide +kernel] at h
  exact h
theorem aw_minus (w : World) : Calls Tryd.prog 10 #[.float .f64 9223372036854775808] w fun e w' => e = .returned (.tuple #[.int .i64 0, .int .i64 0]) ∧ w = w' := by
  have h := Milli_any 9223372036854775808 (by omega) w
  rw [show mn 9223372036854775808 = 0 by decide +kernel, show me 9223372036854775808 = 0 by decide +kernel] at h
  exact h
theorem aw_inf (w : World) : Calls Tryd.prog 10 #[.float .f64 9218868437227405312] w fun e w' => e = .returned (.tuple #[.int .i64 0, .int .i64 18]) ∧ w = w' := by
  have h := Milli_any 9218868437227405312 (by omega) w
  rw [show mn 9218868437227405312 = 0 by decide +kernel, show me 9218868437227405312 = 18 by decide +kernel] at h
  exact h
theorem aw_class (b : Nat) (w u : World) (hb : b = someNan 0 u) : Calls Tryd.prog 14 #[.float .f64 b] w fun e w' => e = .returned (.int .i64 0) ∧ w = w' := by
  subst hb
  have h := Class_any (someNan 0 u) (someNan_lt 0 u) w
  have hc : cls (someNan 0 u) = 0 := by unfold cls; rw [someNan_nan 0 u]; simp
  rw [hc] at h
  exact h
theorem aw_thou (w : World) : Calls Tryd.prog 12 #[.int .i64 1500] w fun e w' => e = .returned (.float .f64 4609434218613702656) ∧ w = w' := by
  have hq := fun t w => run_float_arith (P := Tryd.prog) w .quo t .f64 (floatOfInt .f64 1500) 4652007308841189376 4609434218613702656 (by decide +kernel)
  go_enter Tryd.func12, Tryd.ntmps12
  go_wp2
  go_ret
  exact ⟨rfl, rfl⟩

theorem lt_of_wf {b : Nat} (h : (Lit.float .f64 b).wf = true) : b < 18446744073709551616 := by
  have : b < 2 ^ 64 := by simpa [Lit.wf] using h
  simpa using this

end Go.Proofs.YtcdkibadnelgiaaDoor.Real

namespace Go.Proofs.YtcdkibadnelgiaaDoor.Real
open Go.RowKit Go.Lib

theorem bd {n : Int} (h : (Lit.int .i64 n).wf = true) : -9223372036854775808 ≤ n ∧ n ≤ 9223372036854775807 := bounds_i64 h

theorem Milli_at (b n e : Nat) (hb : b < 18446744073709551616) (h : Hid (mn b = n ∧ me b = e)) (w : World) :
    Calls Tryd.prog 10 #[.float .f64 b] w fun r w' => r = .returned (.tuple #[.int .i64 (n : Nat), .int .i64 (e : Nat)]) ∧ w = w' := by
  rw [← h.out.1, ← h.out.2]; exact Milli_any b hb w

end Go.Proofs.YtcdkibadnelgiaaDoor.Real

namespace Go.Proofs.YtcdkibadnelgiaaDoor.Real
open Go.RowKit Go.Lib

theorem Thousandth_at (n : Int) (m b : Nat) (hm : max (min n 1000000) 0 = (m : Int)) (hb : Hid (floatBits .quo .f64 (floatOfInt .f64 (m : Int)) 4652007308841189376 = some b)) (w : World) :
    Calls Tryd.prog 12 #[.int .i64 n] w fun e w' => e = .returned (.float .f64 b) ∧ w = w' := by
  have hq := fun t w => run_float_arith (P := Tryd.prog) w .quo t .f64 _ _ _ hb.out
  by_cases h2 : n ≤ 1000000
  all_goals by_cases h3 : n < 0
  all_goals try omega
  · obtain rfl : m = 0 := by omega
    rw [show ((0 : Nat) : Int) = 0 from rfl] at hq
    clear hm hb
    go_enter Tryd.func12, Tryd.ntmps12
    go_wp2
    go_ret
    exact ⟨rfl, rfl⟩
  · obtain rfl : n = (m : Int) := by omega
    clear hm hb
    go_enter Tryd.func12, Tryd.ntmps12
    go_wp2
    go_ret
    exact ⟨rfl, rfl⟩
  · obtain rfl : m = 1000000 := by omega
    rw [show ((1000000 : Nat) : Int) = 1000000 from rfl] at hq
    clear hm hb
    go_enter Tryd.func12, Tryd.ntmps12
    go_wp2
    go_ret
    exact ⟨rfl, rfl⟩

theorem milli_of (b m : Nat) (h : b < inf) (hm : mil b = m) (h1 : m ≤ 1000000) : mn b = m ∧ me b = 0 := by
  have hr : rung b = b := by unfold rung; unfold inf at h; omega
  have hb : mbad b = false := by
    unfold mbad
    have a : nan b = false := by rw [nan_f, hr]; omega
    have c : oinf b = false := by unfold oinf; rw [hr]; unfold inf at h; simp; omega
    have d : ¬ key b < 0 := by unfold key; unfold inf at h; rw [if_neg (by omega)]; omega
    rw [a, c]; simpa using d
  rw [mn_ok hb (by rw [hr]; omega), me_ok hb (by rw [hr]; omega), hr]
  exact ⟨hm, rfl⟩

theorem u64_nat {n : Int} (h : (Lit.int .u64 n).wf = true) : ∃ m : Nat, n = (m : Int) ∧ m < 18446744073709551616 := by
  simp only [Lit.wf, IntKind.min, IntKind.max, IntKind.signed, IntKind.bits, Bool.and_eq_true] at h
  exact ⟨n.toNat, by simp at h; omega, by simp at h; omega⟩
theorem u32_nat {n : Int} (h : (Lit.int .u32 n).wf = true) : ∃ m : Nat, n = (m : Int) ∧ m < 4294967296 := by
  simp only [Lit.wf, IntKind.min, IntKind.max, IntKind.signed, IntKind.bits, Bool.and_eq_true] at h
  exact ⟨n.toNat, by simp at h; omega, by simp at h; omega⟩

end Go.Proofs.YtcdkibadnelgiaaDoor.Real
