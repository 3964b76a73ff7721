/- The statement VarintSays as a contract over every input. Conditions: the arguments fit their kinds. -/
import Derived.Test.YtaebdjcefjihiaaVarF
import Derived.Test.YtaebdjcefjihiaaOpn
namespace Go.Proofs.Ytaebdjcefjihiaa.Var
open Go.RowKit Go.Lib Go.Proofs.Ytaebdjcefjihiaa.Byt

theorem two_keep0 {w W W' : World} {a b : Value} (hb : Below W.heap.size W W') (h0 : W.cell? ⟨w.heap.size, 0, none⟩ = some a) (h1 : W.cell? ⟨w.heap.size, 1, none⟩ = some b) (hg : w.heap.size < W.heap.size) (hl : Below w.heap.size w W) :
    w.heap.size < W'.heap.size ∧ Below w.heap.size w W' := (two_keep hb h0 h1 hg hl).2.2

set_option maxHeartbeats 2000000 in
set_option maxRecDepth 100000 in
theorem says_walk (n : Nat) (s : ByteArray) (p0 p1 : Int) (hn : n < 18446744073709551616) (i0 : -9223372036854775808 ≤ p1) (i1 : p1 ≤ 9223372036854775807) (w : World) :
    Calls Try.prog 3 #[.int .u64 (n : Int), .string s, .agg #[.int .i64 p0, .int .i64 p1]] w fun e w' => e = .returned (.bool true) ∧ Below w.heap.size w w' := by
  by_cases hs : 300 < s.size
  · go_enter Try.func3, Try.ntmps3
    go_wp2_with fail
    refine (awake_any _).mono ?_; rintro e w1 ⟨rfl, hb1⟩
    go_wp2_with fail
    go_ret
    exact ⟨rfl, below_next ((Below.refl _ _).alloc (Nat.le_refl _) _) (by simp) hb1⟩
  have hs' : s.size ≤ 300 := by omega
  clear hs
  have HT := Lib.hid (fun w => take_any s p0 w (by omega))
  have HRT := Lib.hid (fun w => rtake_any s p0 w (by omega))
  have HN := Lib.hid (fun w => number_any s p0 p1 w (by omega) i0 i1)
  have HRN := Lib.hid (fun w => rnumber_any s p0 p1 w (by omega) i0 i1)
  have HP := Lib.hid (fun w => puts_any n w hn)
  have HRP := Lib.hid (fun w => show Calls Try.prog 13 #[.int .u64 (n : Int)] w fun e w' => e = .returned (.string (putS n)) ∧ Below w.heap.size w w' from rput_any n w hn)
  obtain ⟨z, hz⟩ : ∃ z, z = IntKind.i64.wrap (n : Int) := ⟨_, rfl⟩
  have hz1 : -9223372036854775808 ≤ z ∧ z ≤ 9223372036854775807 := by rw [hz, IntKind.wrap_i64]; omega
  have hw := hz.symm
  have HZ := Lib.hid (fun w => zig_any z w hz1.1 hz1.2)
  have HRZ := Lib.hid (fun w => rzig_any z w hz1.1 hz1.2)
  have HA := Lib.hid (fun w => zag_any n w hn)
  have HRA := Lib.hid (fun w => rzag_any n w hn)
  clear hz
  generalize putS n = t at *
  generalize tkN s p0 = N at *
  generalize tkE s p0 = E at *
  generalize tkC s p0 = C at *
  generalize nmN s p0 p1 = N2 at *
  generalize nmE s p0 p1 = E2 at *
  generalize nmC s p0 p1 = C2 at *
  generalize zg z = zz at *
  generalize za n = zn at *
  obtain ⟨c0, d0, g0, l0⟩ := two_new w (.int .i64 p0) (.int .i64 p1) 23
  go_enter Try.func3, Try.ntmps3
  go_wp2_with fail
  refine (HT.out _).mono ?_; rintro e w1 ⟨rfl, rfl⟩
  go_wp2_with fail
  refine (HRT.out _).mono ?_; rintro e w1 ⟨rfl, rfl⟩
  go_wp2_with fail
  refine (HN.out _).mono ?_; rintro e w1 ⟨rfl, rfl⟩
  go_wp2_with fail
  refine (HRN.out _).mono ?_; rintro e w1 ⟨rfl, rfl⟩
  go_wp2_with fail
  refine (HP.out _).mono ?_; rintro e w1 ⟨rfl, hb1⟩
  have l1 := two_keep0 hb1 c0 d0 g0 l0; clear hb1 c0 d0 g0 l0
  go_wp2_with fail
  refine (HRP.out _).mono ?_; rintro e w2 ⟨rfl, hb2⟩
  have l2 := keep_below hb2 l1; clear hb2
  go_wp2_with fail
  refine (HZ.out _).mono ?_; rintro e w3 ⟨rfl, rfl⟩
  go_wp2_with fail
  refine (HRZ.out _).mono ?_; rintro e w3 ⟨rfl, rfl⟩
  go_wp2_with fail
  refine (HA.out _).mono ?_; rintro e w3 ⟨rfl, rfl⟩
  go_wp2_with fail
  refine (HRA.out _).mono ?_; rintro e w3 ⟨rfl, rfl⟩
  go_wp2_with fail
  refine (awake_any _).mono ?_; rintro e w4 ⟨rfl, hb4⟩
  go_wp2_with fail
  go_ret
  exact ⟨rfl, (keep_below hb4 l2).2⟩

theorem says_law (n : Int) (s : ByteArray) (p0 p1 : Int) (wn : (Lit.int .u64 n).wf = true) (_ws : s.size ≤ maxLen) (_w0 : (Lit.int .i64 p0).wf = true) (w1 : (Lit.int .i64 p1).wf = true) (w : World) :
    Calls Try.prog 3 #[.int .u64 n, .string s, .agg #[.int .i64 p0, .int .i64 p1]] w fun e w' => e = .returned (.bool true) ∧ Below w.heap.size w w' := by
  obtain ⟨m, rfl, hm⟩ := Opn.u64_nat wn
  exact says_walk m s p0 p1 hm (Opn.i64_bd w1).1 (Opn.i64_bd w1).2 w
theorem back_law (n : Int) (a b s : ByteArray) (wn : (Lit.int .u64 n).wf = true) (_wa : a.size ≤ maxLen) (_wb : b.size ≤ maxLen) (_ws : s.size ≤ maxLen) (w : World) :
    Calls Try.prog 4 #[.int .u64 n, .agg #[.string a, .string b], .string s] w fun e w' => e = .returned (.bool true) ∧ Below w.heap.size w w' := by
  obtain ⟨m, rfl, hm⟩ := Opn.u64_nat wn
  exact back_walk m a b s hm w
theorem zigs_law (n u : Int) (wn : (Lit.int .i64 n).wf = true) (wu : (Lit.int .u64 u).wf = true) (w : World) :
    Calls Try.prog 5 #[.int .i64 n, .int .u64 u] w fun e w' => e = .returned (.bool true) ∧ Below w.heap.size w w' := by
  obtain ⟨m, rfl, hm⟩ := Opn.u64_nat wu
  exact zigs_walk n m (Opn.i64_bd wn).1 (Opn.i64_bd wn).2 hm w
theorem rises_law (a b : Int) (wa : (Lit.int .u64 a).wf = true) (wb : (Lit.int .u64 b).wf = true) (w : World) :
    Calls Try.prog 6 #[.int .u64 a, .int .u64 b] w fun e w' => e = .returned (.bool true) ∧ Below w.heap.size w w' := by
  obtain ⟨m, rfl, hm⟩ := Opn.u64_nat wa
  obtain ⟨l, rfl, hl⟩ := Opn.u64_nat wb
  exact rises_walk m l hm hl w
end Go.Proofs.Ytaebdjcefjihiaa.Var
