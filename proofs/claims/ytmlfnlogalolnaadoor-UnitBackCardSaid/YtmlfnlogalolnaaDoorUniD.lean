/- unit's laws: UnitSays and UnitBack. Conditions: the table of units reads as the program lays it. -/
import Derived.Test.YtmlfnlogalolnaaDoorUniC
namespace Go.Proofs.YtmlfnlogalolnaaDoor.Uni
open Go.RowKit Go.Lib

theorem norm_at (t a b : Int) (ha : nN t = a) (hb : nU t = b) (w : World) (hT : Tab w) :
    Calls Tryd.prog 7 #[.int .i64 t] w fun e w' => e = .returned (.tuple #[.int .i64 a, .int .i64 b]) ∧ w = w' := by
  subst ha; subst hb; exact norm_any t w hT
theorem ticks_at (n u a b : Int) (ha : tV n u = a) (hb : tE n u 15 2 = b) (n0 : -9223372036854775808 ≤ n) (n1 : n ≤ 9223372036854775807) (w : World) (hT : Tab w) :
    Calls Tryd.prog 5 #[.int .i64 n, .int .i64 u] w fun e w' => e = .returned (.tuple #[.int .i64 a, .int .i64 b]) ∧ w = w' := by
  subst ha; subst hb; exact ticks_any n u w n0 n1 hT
theorem name_at (u : Int) (s : ByteArray) (hs : nmB u = s) (w : World) (hT : Tab w) :
    Calls Tryd.prog 9 #[.int .i64 u] w fun e w' => e = .returned (.string s) ∧ w = w' := by
  subst hs; exact name_any u w hT
theorem parse_at (s : ByteArray) (u : Int) (hu : pa s = u) (w : World) (hT : Tab w) :
    Calls Tryd.prog 11 #[.string s] w fun e w' => e = .returned (.int .i64 u) ∧ Below w.heap.size w w' := by
  subst hu; exact parse_any s w hT

theorem awake_any (w : World) (hT : Tab w) : Calls Tryd.prog 13 #[] w fun e w' => e = .returned (.bool true) ∧ Below w.heap.size w w' := by
  have N1 := Lib.hid (norm_at 120000 2 3 (by decide) (by decide))
  have N2 := Lib.hid (norm_at 1500 1500 1 (by decide) (by decide))
  have T1 := Lib.hid (ticks_at 3 2 3000 0 (by decide) (by decide) (by decide) (by decide))
  have A1 := Lib.hid (name_at 2 ⟨#[115, 101, 99, 111, 110, 100]⟩ rfl)
  have P1 := Lib.hid (parse_at ⟨#[109, 105, 110, 117, 116, 101]⟩ 3 (by decide))
  have q1 : (([115, 101, 99, 111, 110, 100] : List UInt8) == [115, 101, 99, 111, 110, 100]) = true := rfl
  have HT := Lib.hid hT
  clear hT
  go_enter Tryd.func13, Tryd.ntmps13
  go_wp2_with (first
    | (go_at_call 7; first
      | ((with_reducible refine (N1.out _ HT.out).mono ?_); rintro e wx ⟨rfl, rfl⟩)
      | ((with_reducible refine (N2.out _ HT.out).mono ?_); rintro e wx ⟨rfl, rfl⟩))
    | (go_at_call 5; (with_reducible refine (T1.out _ HT.out).mono ?_); rintro e wx ⟨rfl, rfl⟩)
    | (go_at_call 9; (with_reducible refine (A1.out _ HT.out).mono ?_); rintro e wx ⟨rfl, rfl⟩)
    | (go_at_call 11; (with_reducible refine (P1.out _ HT.out).mono ?_); rintro e wx ⟨rfl, hbx⟩))
  go_ret
  exact ⟨rfl, hbx⟩

theorem says_any (n u : Int) (s : ByteArray) (w : World) (n0 : -9223372036854775808 ≤ n) (n1 : n ≤ 9223372036854775807) (hT : Tab w) :
    Calls Tryd.prog 3 #[.int .i64 n, .int .i64 u, .string s] w fun e w' => e = .returned (.bool true) ∧ Below w.heap.size w w' := by
  have T1 := Lib.hid fun W hW => ticks_any n u W n0 n1 hW
  have T2 := Lib.hid fun W => rticks_any n u W n0 n1
  have N1 := Lib.hid fun W hW => norm_any n W hW
  have N2 := Lib.hid fun W => rnorm_any n W
  have A1 := Lib.hid fun W hW => name_any u W hW
  have A2 := Lib.hid fun W => rname_any u W
  have P1 := Lib.hid fun W hW => parse_any s W hW
  have P2 := Lib.hid fun W => rparse_any s W
  have HAW := Lib.hid awake_any
  have HT := Lib.hid hT
  clear hT
  generalize tV n u = a at *
  generalize tE n u 15 2 = b at *
  generalize nN n = c at *
  generalize nU n = d at *
  generalize nmB u = m at *
  generalize pa s = p at *
  have q1 : (m.toList == m.toList) = true := beq_self_eq_true _
  go_enter Tryd.func3, Tryd.ntmps3
  go_wp2_with (first
    | (go_at_call 7; (with_reducible refine (N1.out _ HT.out).mono ?_); rintro e wx ⟨rfl, rfl⟩)
    | (go_at_call 8; (with_reducible refine (N2.out _).mono ?_); rintro e wx ⟨rfl, rfl⟩)
    | (go_at_call 5; (with_reducible refine (T1.out _ HT.out).mono ?_); rintro e wx ⟨rfl, rfl⟩)
    | (go_at_call 6; (with_reducible refine (T2.out _).mono ?_); rintro e wx ⟨rfl, rfl⟩)
    | (go_at_call 9; (with_reducible refine (A1.out _ HT.out).mono ?_); rintro e wx ⟨rfl, rfl⟩)
    | (go_at_call 10; (with_reducible refine (A2.out _).mono ?_); rintro e wx ⟨rfl, rfl⟩)
    | (go_at_call 11; (with_reducible refine (P1.out _ HT.out).mono ?_); rintro e wx ⟨rfl, hbx⟩; have HT2 := Lib.hid (HT.out.next hbx))
    | (go_at_call 12; (with_reducible refine (P2.out _).mono ?_); rintro e wy ⟨rfl, rfl⟩)
    | (go_at_call 13; (with_reducible refine (HAW.out _ HT2.out).mono ?_); rintro e wy ⟨rfl, hby⟩))
  go_ret
  exact ⟨rfl, hbx.trans (hby.mono hbx.size)⟩

theorem back_any (t n u : Int) (w : World) (n0 : -9223372036854775808 ≤ n) (n1 : n ≤ 9223372036854775807) (hT : Tab w) :
    Calls Tryd.prog 4 #[.int .i64 t, .int .i64 n, .int .i64 u] w fun e w' => e = .returned (.bool true) ∧ Below w.heap.size w w' := by
  have N1 := Lib.hid fun W hW => norm_any t W hW
  have hb := n_cases t
  have hc := cl_range t
  have T1 := Lib.hid (ticks_at (nN t) (nU t) (cl t) 0 (n_back t) (tE_ok (n_ok t)) (by omega) (by omega))
  clear hb hc
  have HAW := Lib.hid awake_any
  have HT := Lib.hid hT
  clear hT
  have hm := cl_is t
  generalize nN t = a at *
  generalize nU t = b at *
  generalize cl t = c at *
  subst hm
  cases hk : okT n u
  · have T2 := Lib.hid (ticks_at n u 0 _ (tV_no hk) rfl n0 n1)
    have he : tE n u 15 2 ≠ 0 := tE_no hk (by decide) (by decide)
    clear hk
    generalize tE n u 15 2 = f at *
    go_enter Tryd.func4, Tryd.ntmps4
    go_wp2_with (first
      | (go_at_call 7; (with_reducible refine (N1.out _ HT.out).mono ?_); rintro e wx ⟨rfl, rfl⟩)
      | (go_at_call 5; first
        | ((with_reducible refine (T1.out _ HT.out).mono ?_); rintro e wx ⟨rfl, rfl⟩)
        | ((with_reducible refine (T2.out _ HT.out).mono ?_); rintro e wx ⟨rfl, rfl⟩))
      | (go_at_call 13; (with_reducible refine (HAW.out _ HT.out).mono ?_); rintro e wy ⟨rfl, hby⟩))
    all_goals
      go_ret
      exact ⟨rfl, hby⟩
  · obtain ⟨s1, s2, s3, s4, s5⟩ := n_span hk
    have hr := tV_range hk
    have hb := n_cases (tV n u)
    have hc := cl_range (tV n u)
    have T2 := Lib.hid (ticks_at n u _ 0 rfl (tE_ok hk) n0 n1)
    have N2 := Lib.hid fun W hW => norm_any (tV n u) W hW
    have T3 := Lib.hid (ticks_at (nN (tV n u)) (nU (tV n u)) (tV n u) 0 s1 (tE_ok (n_ok _)) (by omega) (by omega))
    have A1 := Lib.hid fun W hW => name_any (nU (tV n u)) W hW
    have P1 := Lib.hid (parse_at _ _ (pa_nm s4 s5))
    clear hb hc s1 hk
    generalize nN (tV n u) = k at *
    generalize nU (tV n u) = v at *
    generalize tV n u = x at *
    generalize nmB v = m at *
    go_enter Tryd.func4, Tryd.ntmps4
    go_wp2_with (first
      | (go_at_call 7; first
        | ((with_reducible refine (N1.out _ HT.out).mono ?_); rintro e wx ⟨rfl, rfl⟩)
        | ((with_reducible refine (N2.out _ HT.out).mono ?_); rintro e wx ⟨rfl, rfl⟩))
      | (go_at_call 5; first
        | ((with_reducible refine (T1.out _ HT.out).mono ?_); rintro e wx ⟨rfl, rfl⟩)
        | ((with_reducible refine (T2.out _ HT.out).mono ?_); rintro e wx ⟨rfl, rfl⟩)
        | ((with_reducible refine (T3.out _ HT.out).mono ?_); rintro e wx ⟨rfl, rfl⟩))
      | (go_at_call 9; (with_reducible refine (A1.out _ HT.out).mono ?_); rintro e wx ⟨rfl, rfl⟩)
      | (go_at_call 11; (with_reducible refine (P1.out _ HT.out).mono ?_); rintro e wx ⟨rfl, hbx⟩; have HT2 := Lib.hid (HT.out.next hbx))
      | (go_at_call 13; (with_reducible refine (HAW.out _ HT2.out).mono ?_); rintro e wy ⟨rfl, hby⟩))
    all_goals
      go_ret
      exact ⟨rfl, hbx.trans (hby.mono hbx.size)⟩
end Go.Proofs.YtmlfnlogalolnaaDoor.Uni
