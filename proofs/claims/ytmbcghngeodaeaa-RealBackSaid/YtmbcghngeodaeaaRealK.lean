/- The statement RealBack as a contract over every input. Conditions: the arguments fit their kinds. -/
import Derived.Test.YtmbcghngeodaeaaRealJ
namespace Go.Proofs.Ytmbcghngeodaeaa.Real
open Go.RowKit Go.Lib

theorem Thousandth_at (n : Int) (m b : Nat) (hm : max (min n 1000000) 0 = (m : Int)) (hb : Hid (floatBits .quo .f64 (floatOfInt .f64 (m : Int)) 4652007308841189376 = some b)) (w : World) :
    Calls Try.prog 20 #[.int .i64 n] w fun e w' => e = .returned (.float .f64 b) ∧ w = w' := by
  have hq := fun t w => run_float_arith (P := Try.prog) w .quo t .f64 _ _ _ hb.out
  by_cases h2 : n ≤ 1000000
  all_goals by_cases h3 : n < 0
  all_goals try omega
  · obtain rfl : m = 0 := by omega
    rw [show ((0 : Nat) : Int) = 0 from rfl] at hq
    clear hm hb
    go_enter Try.func20, Try.ntmps20
    go_wp2
    go_ret
    exact ⟨rfl, rfl⟩
  · obtain rfl : n = (m : Int) := by omega
    clear hm hb
    go_enter Try.func20, Try.ntmps20
    go_wp2
    go_ret
    exact ⟨rfl, rfl⟩
  · obtain rfl : m = 1000000 := by omega
    rw [show ((1000000 : Nat) : Int) = 1000000 from rfl] at hq
    clear hm hb
    go_enter Try.func20, Try.ntmps20
    go_wp2
    go_ret
    exact ⟨rfl, rfl⟩

theorem milli_of (b m : Nat) (h : b < inf) (hm : mil b = m) (h1 : m ≤ 1000000) : mn b = m ∧ me b = 0 := by
  have hr : rung b = b := by unfold rung; unfold inf at h; omega
  have hb : mbad b = false := by
    unfold mbad
    have a : nan b = false := by rw [nan_f, hr]; omega
    have c : oinf b = false := by unfold oinf; rw [hr]; unfold inf at h; simp; omega
    have d : ¬ key b < 0 := by unfold key; unfold inf at h; rw [if_neg (by omega)]; omega
    rw [a, c]; simpa using d
  rw [mn_ok hb (by rw [hr]; omega), me_ok hb (by rw [hr]; omega), hr]
  exact ⟨hm, rfl⟩

theorem back_walk (n : Int) (u k : Nat) (n0 : -9223372036854775808 ≤ n) (n1 : n ≤ 9223372036854775807) (hu : u < 18446744073709551616) (hk : k < 4294967296) (w : World) :
    Calls Try.prog 5 #[.int .i64 n, .int .u64 (u : Int), .int .u32 (k : Int)] w fun e w' => e = .returned (.bool true) ∧ Below w.heap.size w w' := by
  obtain ⟨m, hm⟩ : ∃ m : Nat, max (min n 1000000) 0 = (m : Int) := ⟨(max (min n 1000000) 0).toNat, by omega⟩
  obtain ⟨b, hb, hi, hv⟩ := thou m (by omega)
  have hb64 : b < 18446744073709551616 := by unfold inf at hi; omega
  have HB := Lib.hid (milli_of b m hi hv (by omega))
  have HT := Lib.hid hb
  obtain ⟨j, hj⟩ : ∃ j, k % 8000 = j := ⟨_, rfl⟩
  obtain ⟨c, hc, ci, cv⟩ := eighth j (by omega)
  have hc64 : c < 18446744073709551616 := by unfold inf at ci; omega
  have j8 : j < 8000 := by omega
  have HC := Lib.hid (milli_of c (125 * j) ci cv (by omega))
  have hj' : (k : Int) % 8000 = (j : Int) := by omega
  have hq := fun t w => run_float_arith (P := Try.prog) w .quo t .f64 _ _ _ hc
  have HM := Lib.hid hm
  have hm2 : m ≤ 1000000 := by omega
  have ThA : ∀ w, Calls Try.prog 20 #[.int .i64 n] w fun e w' => e = .returned (.float .f64 b) ∧ w = w' := Thousandth_at n m b hm HT
  have HTh := Lib.hid ThA
  clear hb hi hv hc ci cv hj ThA
  obtain ⟨v, hv⟩ : ∃ v, (if okF u then u else 0) = v := ⟨_, rfl⟩
  have hv' : v < 18446744073709551616 := by rw [← hv]; split <;> omega
  have HF := Lib.hid hv
  have cF : ∀ w, Calls Try.prog 9 #[.int .u64 (u : Int)] w fun e w' => e = .returned (.tuple #[.float .f64 v, .bool (okF u)]) ∧ w = w' := fun w => by rw [← HF.out]; exact From_any u hu w
  have HcF := Lib.hid cF
  have hbits : (okF u = true ∧ bitsF v = u) ∨ (okF u = false ∧ bitsF v = 0 ∧ u / 4503599627370496 % 2048 = 2047) := by
    rw [← hv]
    cases h : okF u
    · right
      unfold okF at h
      simp only [Bool.or_eq_false_iff, Bool.not_eq_false', beq_eq_false_iff_ne] at h
      refine ⟨rfl, by simp only [Bool.false_eq_true, if_false]; decide, ?_⟩
      have h1 := nan_t.1 h.1
      unfold rung inf at h1
      omega
    · left
      refine ⟨rfl, ?_⟩
      simp only [if_true]
      unfold okF at h
      unfold bitsF
      cases hn : nan u
      · simp
      · rw [hn] at h; simp at h; simp [h]
  have hce := code_e u hu
  have HBits : ∀ x : Nat, bitsF v = x → ∀ w, Calls Try.prog 17 #[.float .f64 v] w fun e w' => e = .returned (.int .u64 (x : Nat)) ∧ w = w' := fun x hx w => by rw [← hx]; exact Bits_any v hv' w
  clear cF hv
  have hcase : n < 0 ∧ m = 0 ∨ (0 ≤ n ∧ n ≤ 1000000 ∧ n = (m : Int)) ∨ (1000000 < n ∧ m = 1000000) := by omega
  clear hm
  rcases hbits with ⟨h1, h2⟩ | ⟨h1, h2, h3⟩
  · have HX := HBits _ h2
    have HX' := Lib.hid HX
    clear HX HBits h2 hce
    rcases hcase with ⟨h4, rfl⟩ | ⟨h4, h5, rfl⟩ | ⟨h4, rfl⟩
    all_goals
      go_enter Try.func5, Try.ntmps5
      go_wp2_with (first
        | (go_at_call 20; refine (HTh.out _).mono ?_; rintro e w' ⟨rfl, rfl⟩)
        | (go_at_call 7; (first | (with_reducible refine (Milli_at b _ _ hb64 HB _).mono ?_) | (with_reducible refine (Milli_at c _ _ hc64 HC _).mono ?_)); rintro e w' ⟨rfl, rfl⟩)
        | (go_at_call 9; refine (HcF.out _).mono ?_; rintro e w' ⟨rfl, rfl⟩)
        | (go_at_call 17; refine (HX'.out _).mono ?_; rintro e w' ⟨rfl, rfl⟩)
        | (go_at_call 19; refine (awake_any _).mono ?_; rintro e w' ⟨rfl, dr, rfl⟩))
      go_ret
      exact ⟨rfl, bdrew (Below.refl _ _) _⟩
  · have HX := HBits _ h2
    have HX' := Lib.hid HX
    rw [h3] at hce
    have hce' : bits .and .u64 ((u : Int) / 4503599627370496) 2047 = 2047 := hce
    clear HX HBits h2 h3 hce
    rcases hcase with ⟨h4, rfl⟩ | ⟨h4, h5, rfl⟩ | ⟨h4, rfl⟩
    all_goals
      go_enter Try.func5, Try.ntmps5
      go_wp2_with (first
        | (go_at_call 20; refine (HTh.out _).mono ?_; rintro e w' ⟨rfl, rfl⟩)
        | (go_at_call 7; (first | (with_reducible refine (Milli_at b _ _ hb64 HB _).mono ?_) | (with_reducible refine (Milli_at c _ _ hc64 HC _).mono ?_)); rintro e w' ⟨rfl, rfl⟩)
        | (go_at_call 9; refine (HcF.out _).mono ?_; rintro e w' ⟨rfl, rfl⟩)
        | (go_at_call 17; refine (HX'.out _).mono ?_; rintro e w' ⟨rfl, rfl⟩)
        | (go_at_call 19; refine (awake_any _).mono ?_; rintro e w' ⟨rfl, dr, rfl⟩))
      go_ret
      exact ⟨rfl, bdrew (Below.refl _ _) _⟩

theorem u64_nat {n : Int} (h : (Lit.int .u64 n).wf = true) : ∃ m : Nat, n = (m : Int) ∧ m < 18446744073709551616 := by
  simp only [Lit.wf, IntKind.min, IntKind.max, IntKind.signed, IntKind.bits, Bool.and_eq_true] at h
  exact ⟨n.toNat, by simp at h; omega, by simp at h; omega⟩
theorem u32_nat {n : Int} (h : (Lit.int .u32 n).wf = true) : ∃ m : Nat, n = (m : Int) ∧ m < 4294967296 := by
  simp only [Lit.wf, IntKind.min, IntKind.max, IntKind.signed, IntKind.bits, Bool.and_eq_true] at h
  exact ⟨n.toNat, by simp at h; omega, by simp at h; omega⟩

theorem says_law (a b : Nat) (u : Int) (wa : (Lit.float .f64 a).wf = true) (wb : (Lit.float .f64 b).wf = true) (wu : (Lit.int .u64 u).wf = true) (w : World) :
    Calls Try.prog 3 #[.float .f64 a, .float .f64 b, .int .u64 u] w fun e w' => e = .returned (.bool true) ∧ Below w.heap.size w w' := by
  obtain ⟨m, rfl, hm⟩ := u64_nat wu
  exact says_walk a b m (lt_of_wf wa) (lt_of_wf wb) hm w
theorem back_law (n u k : Int) (wn : (Lit.int .i64 n).wf = true) (wu : (Lit.int .u64 u).wf = true) (wk : (Lit.int .u32 k).wf = true) (w : World) :
    Calls Try.prog 5 #[.int .i64 n, .int .u64 u, .int .u32 k] w fun e w' => e = .returned (.bool true) ∧ Below w.heap.size w w' := by
  obtain ⟨m, rfl, hm⟩ := u64_nat wu
  obtain ⟨l, rfl, hl⟩ := u32_nat wk
  exact back_walk n m l (bd wn).1 (bd wn).2 hm hl w

end Go.Proofs.Ytmbcghngeodaeaa.Real
