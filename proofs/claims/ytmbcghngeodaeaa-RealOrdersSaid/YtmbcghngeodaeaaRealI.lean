/- The statements of layer 2 as contracts over every input. Conditions: the arguments fit their kinds. -/
import Derived.Test.YtmbcghngeodaeaaRealH
import Derived.OpenShut
import Derived.Below
namespace Go.Proofs.Ytmbcghngeodaeaa.Real
open Go.RowKit Go.Lib

theorem bdrew {B : Nat} {a w : World} (h : Below B a w) (n : Nat) : Below B a (w.drewN n) := ⟨h.os, h.tape, h.output, h.size, h.block⟩

theorem quo00_run (t : TypeId) (w : World) : (binOp .quo t (.float .f64 0) (.float .f64 0)).run Try.prog w = .ok (.float .f64 (someNan 0 w)) w.drew := by
  have hs : FloatKind.f64.format.div 0 0 = none := by decide +kernel
  simp [binOp, Op.floatArith, hs, someNan, Question.forced]
theorem quo10_run (t : TypeId) (w : World) : (binOp .quo t (.float .f64 4607182418800017408) (.float .f64 0)).run Try.prog w = .ok (.float .f64 9218868437227405312) w :=
  run_float_arith w .quo t .f64 4607182418800017408 0 9218868437227405312 (by decide +kernel)

theorem aw_half (w : World) : Calls Try.prog 7 #[.float .f64 4602678819172646912] w fun e w' => e = .returned (.tuple #[.int .i64 500, .int .i64 0]) ∧ w = w' := by
  have h := Milli_any 4602678819172646912 (by omega) w
  rw [show mn 4602678819172646912 = 500 by decide +kernel, show me 4602678819172646912 = 0 by decide +kernel] at h
  exact h
theorem aw_minus (w : World) : Calls Try.prog 7 #[.float .f64 9223372036854775808] w fun e w' => e = .returned (.tuple #[.int .i64 0, .int .i64 0]) ∧ w = w' := by
  have h := Milli_any 9223372036854775808 (by omega) w
  rw [show mn 9223372036854775808 = 0 by decide +kernel, show me 9223372036854775808 = 0 by decide +kernel] at h
  exact h
theorem aw_inf (w : World) : Calls Try.prog 7 #[.float .f64 9218868437227405312] w fun e w' => e = .returned (.tuple #[.int .i64 0, .int .i64 18]) ∧ w = w' := by
  have h := Milli_any 9218868437227405312 (by omega) w
  rw [show mn 9218868437227405312 = 0 by decide +kernel, show me 9218868437227405312 = 18 by decide +kernel] at h
  exact h
theorem aw_class (b : Nat) (w u : World) (hb : b = someNan 0 u) : Calls Try.prog 12 #[.float .f64 b] w fun e w' => e = .returned (.int .i64 0) ∧ w = w' := by
  subst hb
  have h := Class_any (someNan 0 u) (someNan_lt 0 u) w
  have hc : cls (someNan 0 u) = 0 := by unfold cls; rw [someNan_nan 0 u]; simp
  rw [hc] at h
  exact h
theorem aw_less (w : World) : Calls Try.prog 15 #[.float .f64 9223372036854775808, .float .f64 4607182418800017408] w fun e w' => e = .returned (.bool true) ∧ w = w' := by
  have h := Less_any 9223372036854775808 4607182418800017408 (by omega) (by omega) w
  rw [show lessB 9223372036854775808 4607182418800017408 = true by decide +kernel] at h
  exact h
theorem aw_thou (w : World) : Calls Try.prog 20 #[.int .i64 1500] w fun e w' => e = .returned (.float .f64 4609434218613702656) ∧ w = w' := by
  have hq := fun t w => run_float_arith (P := Try.prog) w .quo t .f64 (floatOfInt .f64 1500) 4652007308841189376 4609434218613702656 (by decide +kernel)
  go_enter Try.func20, Try.ntmps20
  go_wp2
  go_ret
  exact ⟨rfl, rfl⟩

theorem awake_any (w : World) : Calls Try.prog 19 #[] w fun e w' => e = .returned (.bool true) ∧ ∃ n, w' = w.drewN n := by
  have h0 : Op.negFloat .f64 0 = 9223372036854775808 := by rw [neg_bits 0 (by omega)]; decide
  have h1 := quo00_run
  have h2 := quo10_run
  have h3 : FloatKind.f64.format.order 4609434218613702656 4609434218613702656 = some .eq := by decide +kernel
  go_enter Try.func19, Try.ntmps19
  go_wp2_with (first
    | (go_at_call 7; (first | (with_reducible refine (aw_half _).mono ?_) | (with_reducible refine (aw_minus _).mono ?_) | (with_reducible refine (aw_inf _).mono ?_)); rintro e w' ⟨rfl, rfl⟩)
    | (go_at_call 12; refine (aw_class _ _ _ rfl).mono ?_; rintro e w' ⟨rfl, rfl⟩)
    | (go_at_call 15; refine (aw_less _).mono ?_; rintro e w' ⟨rfl, rfl⟩)
    | (go_at_call 20; refine (aw_thou _).mono ?_; rintro e w' ⟨rfl, rfl⟩))
  go_ret
  exact ⟨rfl, 1, rfl⟩

theorem lt_of_wf {b : Nat} (h : (Lit.float .f64 b).wf = true) : b < 18446744073709551616 := by
  have : b < 2 ^ 64 := by simpa [Lit.wf] using h
  simpa using this

theorem orders_walk (a b c : Nat) (wa : (Lit.float .f64 a).wf = true) (wb : (Lit.float .f64 b).wf = true) (wc : (Lit.float .f64 c).wf = true) (w : World) :
    Calls Try.prog 4 #[.float .f64 a, .float .f64 b, .float .f64 c] w fun e w' => e = .returned (.bool true) ∧ Below w.heap.size w w' := by
  have ha := lt_of_wf wa
  have hb := lt_of_wf wb
  have hc := lt_of_wf wc
  have hsb := same_bits a b ha hb
  have hss : (lessB a b = true ∧ lessB b a = false ∧ sameB a b = false ∧ (lessB b c = true → lessB a c = true)) ∨ (lessB a b = false ∧ lessB b a = true ∧ sameB a b = false) ∨ (lessB a b = false ∧ lessB b a = false ∧ sameB a b = true) := by
    unfold lessB sameB
    simp only [decide_eq_true_iff, decide_eq_false_iff_not]
    omega
  clear wa wb wc
  rcases hss with ⟨h1, h2, h3, h4⟩ | ⟨h1, h2, h3⟩ | ⟨h1, h2, h3⟩
  · rw [h3] at hsb
    cases h5 : lessB b c
    · clear h4
      go_enter Try.func4, Try.ntmps4
      go_wp2_with (first
        | (go_at_call 15; (first | (with_reducible refine (Less_any a b ha hb _).mono ?_) | (with_reducible refine (Less_any b a hb ha _).mono ?_) | (with_reducible refine (Less_any b c hb hc _).mono ?_) | (with_reducible refine (Less_any a c ha hc _).mono ?_)); rintro e w' ⟨rfl, rfl⟩)
        | (go_at_call 14; refine (Same_is a b ha hb _).mono ?_; rintro e w' ⟨rfl, rfl⟩)
        | (go_at_call 17; (first | (with_reducible refine (Bits_any a ha _).mono ?_) | (with_reducible refine (Bits_any b hb _).mono ?_)); rintro e w' ⟨rfl, rfl⟩)
        | (go_at_call 19; refine (awake_any _).mono ?_; rintro e w' ⟨rfl, n, rfl⟩))
      go_ret
      exact ⟨rfl, bdrew (Below.refl _ _) _⟩
    · have h6 := h4 h5
      clear h4
      go_enter Try.func4, Try.ntmps4
      go_wp2_with (first
        | (go_at_call 15; (first | (with_reducible refine (Less_any a b ha hb _).mono ?_) | (with_reducible refine (Less_any b a hb ha _).mono ?_) | (with_reducible refine (Less_any b c hb hc _).mono ?_) | (with_reducible refine (Less_any a c ha hc _).mono ?_)); rintro e w' ⟨rfl, rfl⟩)
        | (go_at_call 14; refine (Same_is a b ha hb _).mono ?_; rintro e w' ⟨rfl, rfl⟩)
        | (go_at_call 17; (first | (with_reducible refine (Bits_any a ha _).mono ?_) | (with_reducible refine (Bits_any b hb _).mono ?_)); rintro e w' ⟨rfl, rfl⟩)
        | (go_at_call 19; refine (awake_any _).mono ?_; rintro e w' ⟨rfl, n, rfl⟩))
      go_ret
      exact ⟨rfl, bdrew (Below.refl _ _) _⟩
  all_goals
    rw [h3] at hsb
    go_enter Try.func4, Try.ntmps4
    go_wp2_with (first
      | (go_at_call 15; (first | (with_reducible refine (Less_any a b ha hb _).mono ?_) | (with_reducible refine (Less_any b a hb ha _).mono ?_)); rintro e w' ⟨rfl, rfl⟩)
      | (go_at_call 14; refine (Same_is a b ha hb _).mono ?_; rintro e w' ⟨rfl, rfl⟩)
      | (go_at_call 17; (first | (with_reducible refine (Bits_any a ha _).mono ?_) | (with_reducible refine (Bits_any b hb _).mono ?_)); rintro e w' ⟨rfl, rfl⟩)
      | (go_at_call 19; refine (awake_any _).mono ?_; rintro e w' ⟨rfl, n, rfl⟩))
    go_ret
    exact ⟨rfl, bdrew (Below.refl _ _) _⟩

end Go.Proofs.Ytmbcghngeodaeaa.Real
