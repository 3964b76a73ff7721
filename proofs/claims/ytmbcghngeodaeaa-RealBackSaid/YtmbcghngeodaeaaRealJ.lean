/- The other statements of layer 2 as contracts over every input. Conditions: the arguments fit their kinds. -/
import Derived.Test.YtmbcghngeodaeaaRealI
import Derived.RegionTactic
namespace Go.Proofs.Ytmbcghngeodaeaa.Real
open Go.RowKit Go.Lib

theorem bd {n : Int} (h : (Lit.int .i64 n).wf = true) : -9223372036854775808 ≤ n ∧ n ≤ 9223372036854775807 := bounds_i64 h

theorem Milli_at (b n e : Nat) (hb : b < 18446744073709551616) (h : Hid (mn b = n ∧ me b = e)) (w : World) :
    Calls Try.prog 7 #[.float .f64 b] w fun r w' => r = .returned (.tuple #[.int .i64 (n : Nat), .int .i64 (e : Nat)]) ∧ w = w' := by
  rw [← h.out.1, ← h.out.2]; exact Milli_any b hb w

theorem rises_walk (a b : Nat) (wa : (Lit.float .f64 a).wf = true) (wb : (Lit.float .f64 b).wf = true) (w : World) :
    Calls Try.prog 6 #[.float .f64 a, .float .f64 b] w fun e w' => e = .returned (.bool true) ∧ Below w.heap.size w w' := by
  have ha := lt_of_wf wa
  have hb := lt_of_wf wb
  clear wa wb
  have hcase : me a ≠ 0 ∨ (me a = 0 ∧ me b ≠ 0) ∨ (me a = 0 ∧ me b = 0 ∧ mn a ≤ 1000000 ∧ (lessB a b = true → mn a ≤ mn b)) := by
    by_cases e1 : me a = 0
    · by_cases e2 : me b = 0
      · right; right
        have fa : mbad a = false ∧ mil (rung a) ≤ 1000000 := by
          cases h : mbad a
          · refine ⟨rfl, ?_⟩
            rcases Nat.lt_or_ge 1000000 (mil (rung a)) with h' | h'
            · rw [me_over h h'] at e1; omega
            · exact h'
          · rw [me_bad h] at e1; omega
        have fb : mbad b = false ∧ mil (rung b) ≤ 1000000 := by
          cases h : mbad b
          · refine ⟨rfl, ?_⟩
            rcases Nat.lt_or_ge 1000000 (mil (rung b)) with h' | h'
            · rw [me_over h h'] at e2; omega
            · exact h'
          · rw [me_bad h] at e2; omega
        rw [mn_ok fa.1 fa.2, mn_ok fb.1 fb.2]
        refine ⟨e1, e2, fa.2, fun hl => mil_mono ?_⟩
        have ga := fa.1
        have gb := fb.1
        unfold mbad at ga gb
        simp only [Bool.or_eq_false_iff, decide_eq_false_iff_not] at ga gb
        have ka := key_rung (b := a) (by omega)
        have kb := key_rung (b := b) (by omega)
        unfold lessB at hl
        rw [decide_eq_true_iff, tk_key ga.1.1, tk_key gb.1.1] at hl
        have na := @key_neg a
        have nb := @key_neg b
        cases sa : neg a <;> cases sb : neg b <;> simp [sa, sb] at hl <;> first | omega | (have := na sa; omega)
      · exact Or.inr (Or.inl ⟨e1, e2⟩)
    · exact Or.inl e1
  obtain ⟨n1, hn1⟩ : ∃ n, mn a = n := ⟨_, rfl⟩
  obtain ⟨n2, hn2⟩ : ∃ n, mn b = n := ⟨_, rfl⟩
  obtain ⟨e1, he1⟩ : ∃ n, me a = n := ⟨_, rfl⟩
  obtain ⟨e2, he2⟩ : ∃ n, me b = n := ⟨_, rfl⟩
  have HA := Lib.hid (And.intro hn1 he1)
  have HB := Lib.hid (And.intro hn2 he2)
  rw [hn1, hn2, he1, he2] at hcase
  clear hn1 hn2 he1 he2
  rcases hcase with h | ⟨h, h'⟩ | ⟨h, h', h3, h4⟩
  · have hd : ((e1 : Int) == 0) = false := by simp; omega
    have hd' : ((e1 : Int) != 0) = true := by simp; omega
    go_enter Try.func6, Try.ntmps6
    go_wp2_with (first
      | (go_at_call 7; (first | (with_reducible refine (Milli_at a n1 e1 ha HA _).mono ?_) | (with_reducible refine (Milli_at b n2 e2 hb HB _).mono ?_)); rintro e w' ⟨rfl, rfl⟩)
      | (go_at_call 19; refine (awake_any _).mono ?_; rintro e w' ⟨rfl, n, rfl⟩))
    go_ret
    exact ⟨rfl, bdrew (Below.refl _ _) _⟩
  · subst h
    have hd : ((e2 : Int) == 0) = false := by simp; omega
    have hd' : ((e2 : Int) != 0) = true := by simp; omega
    go_enter Try.func6, Try.ntmps6
    go_wp2_with (first
      | (go_at_call 7; (first | (with_reducible refine (Milli_at a n1 0 ha HA _).mono ?_) | (with_reducible refine (Milli_at b n2 e2 hb HB _).mono ?_)); rintro e w' ⟨rfl, rfl⟩)
      | (go_at_call 19; refine (awake_any _).mono ?_; rintro e w' ⟨rfl, n, rfl⟩))
    go_ret
    exact ⟨rfl, bdrew (Below.refl _ _) _⟩
  · subst h; subst h'
    cases hl : lessB a b
    · clear h4
      go_enter Try.func6, Try.ntmps6
      go_wp2_with (first
        | (go_at_call 7; (first | (with_reducible refine (Milli_at a n1 0 ha HA _).mono ?_) | (with_reducible refine (Milli_at b n2 0 hb HB _).mono ?_)); rintro e w' ⟨rfl, rfl⟩)
        | (go_at_call 15; refine (Less_any a b ha hb _).mono ?_; rintro e w' ⟨rfl, rfl⟩)
        | (go_at_call 19; refine (awake_any _).mono ?_; rintro e w' ⟨rfl, n, rfl⟩))
      go_ret
      exact ⟨rfl, bdrew (Below.refl _ _) _⟩
    · have h5 := h4 hl
      clear h4
      go_enter Try.func6, Try.ntmps6
      go_wp2_with (first
        | (go_at_call 7; (first | (with_reducible refine (Milli_at a n1 0 ha HA _).mono ?_) | (with_reducible refine (Milli_at b n2 0 hb HB _).mono ?_)); rintro e w' ⟨rfl, rfl⟩)
        | (go_at_call 15; refine (Less_any a b ha hb _).mono ?_; rintro e w' ⟨rfl, rfl⟩)
        | (go_at_call 19; refine (awake_any _).mono ?_; rintro e w' ⟨rfl, n, rfl⟩))
      go_ret
      exact ⟨rfl, bdrew (Below.refl _ _) _⟩

theorem says_walk (a b u : Nat) (ha : a < 18446744073709551616) (hb : b < 18446744073709551616) (hu : u < 18446744073709551616) (w : World) :
    Calls Try.prog 3 #[.float .f64 a, .float .f64 b, .int .u64 (u : Int)] w fun e w' => e = .returned (.bool true) ∧ Below w.heap.size w w' := by
  obtain ⟨v, hv⟩ : ∃ v, (if okF u then u else 0) = v := ⟨_, rfl⟩
  have hv' : v < 18446744073709551616 := by rw [← hv]; split <;> omega
  have HF := Lib.hid hv
  have hsv : sameB v v = true := by unfold sameB; simp
  have cF : ∀ w, Calls Try.prog 9 #[.int .u64 (u : Int)] w fun e w' => e = .returned (.tuple #[.float .f64 v, .bool (okF u)]) ∧ w = w' := fun w => by rw [← HF.out]; exact From_any u hu w
  have cR : ∀ w, Calls Try.prog 10 #[.int .u64 (u : Int)] w fun e w' => e = .returned (.tuple #[.float .f64 v, .bool (okF u)]) ∧ w = w' := fun w => by rw [← HF.out]; exact rFrom_any u hu w
  have HcF := Lib.hid cF
  have HcR := Lib.hid cR
  clear cF cR hv
  go_enter Try.func3, Try.ntmps3
  go_wp2_with (first
    | (go_at_call 7; refine (Milli_any a ha _).mono ?_; rintro e w' ⟨rfl, rfl⟩)
    | (go_at_call 8; refine (rMilli_any a ha _).mono ?_; rintro e w' ⟨rfl, n, rfl⟩)
    | (go_at_call 9; refine (HcF.out _).mono ?_; rintro e w' ⟨rfl, rfl⟩)
    | (go_at_call 10; refine (HcR.out _).mono ?_; rintro e w' ⟨rfl, rfl⟩)
    | (go_at_call 11; (first | (with_reducible refine (rSame_any v v hv' hv' _).mono ?_) | (with_reducible refine (rSame_any a b ha hb _).mono ?_)); rintro e w' ⟨rfl, n, rfl⟩)
    | (go_at_call 14; refine (Same_is a b ha hb _).mono ?_; rintro e w' ⟨rfl, rfl⟩)
    | (go_at_call 12; refine (Class_any a ha _).mono ?_; rintro e w' ⟨rfl, rfl⟩)
    | (go_at_call 13; refine (rClass_any a ha _).mono ?_; rintro e w' ⟨rfl, n, rfl⟩)
    | (go_at_call 15; refine (Less_any a b ha hb _).mono ?_; rintro e w' ⟨rfl, rfl⟩)
    | (go_at_call 16; refine (rLess_any a b ha hb _).mono ?_; rintro e w' ⟨rfl, n, rfl⟩)
    | (go_at_call 17; refine (Bits_any a ha _).mono ?_; rintro e w' ⟨rfl, rfl⟩)
    | (go_at_call 18; refine (rBits_any a ha _).mono ?_; rintro e w' ⟨rfl, rfl⟩)
    | (go_at_call 19; refine (awake_any _).mono ?_; rintro e w' ⟨rfl, n, rfl⟩))
  go_ret
  exact ⟨rfl, bdrew (Below.refl _ _) _⟩

end Go.Proofs.Ytmbcghngeodaeaa.Real
