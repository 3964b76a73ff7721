/- The statements' example of match; the laws MatchSays, MatchCovers, MatchMeets. Conditions: as each theorem states. -/
import Derived.Test.YtnhiloikficigaaMatD
namespace Go.Proofs.Ytnhiloikficigaa.Mat
open Go.RowKit Go.Lib Go.Proofs.Ytnhiloikficigaa.Byt Go.Proofs.Ytnhiloikficigaa.Rou

/-! ### calls told by their answers -/
theorem mat_at (p s : ByteArray) (b : Bool) (h : matB p s = b) (hp : p.size ≤ 140737488355328) (hs : s.size ≤ 140737488355328) (w : World) :
    Calls Try.prog 9 #[.string p, .string s] w fun e w' => e = .returned (.bool b) ∧ Below w.heap.size w w' := by
  rw [← h]; exact mat_any p s w hp hs
theorem cov_at (p q : ByteArray) (b : Bool) (h : covB p q = b) (hp : p.size ≤ 140737488355328) (hq : q.size ≤ 140737488355328) (w : World) :
    Calls Try.prog 11 #[.string p, .string q] w fun e w' => e = .returned (.bool b) ∧ Below w.heap.size w w' := by
  rw [← h]; exact cov_any p q w hp hq
theorem mts_at (p q : ByteArray) (b : Bool) (h : mtsB p q = b) (hp : p.size ≤ 140737488355328) (hq : q.size ≤ 140737488355328) (w : World) :
    Calls Try.prog 13 #[.string p, .string q] w fun e w' => e = .returned (.bool b) ∧ Below w.heap.size w w' := by
  rw [← h]; exact mts_any p q w hp hq
theorem both_at (p q t : ByteArray) (b : Bool) (h1 : botB p q = t) (h2 : bokB p q = b) (hp : p.size ≤ 140737488355328) (hq : q.size ≤ 140737488355328) (w : World) :
    Calls Try.prog 7 #[.string p, .string q] w fun e w' => e = .returned (.tuple #[.string t, .bool b]) ∧ Below w.heap.size w w' := by
  rw [← h1, ← h2]; exact both_any p q w hp hq

/-! ### the example -/
set_option maxHeartbeats 4000000 in
set_option maxRecDepth 100000 in
theorem awake_any (w : World) : Calls Try.prog 6 #[] w fun e w' => e = .returned (.bool true) ∧ Below w.heap.size w w' := by
  have B1 := Lib.hid (both_at ⟨#[47, 42, 47, 98]⟩ ⟨#[47, 97, 47, 42]⟩ ⟨#[47, 97, 47, 98]⟩ true (by decide) (by decide) (by decide) (by decide))
  have I1 := Lib.hid (mat_at ⟨#[47, 97, 47, 42]⟩ ⟨#[47, 97, 47, 98]⟩ true (by decide) (by decide) (by decide))
  have I2 := Lib.hid (mat_at ⟨#[47, 97, 47, 42]⟩ ⟨#[47, 97]⟩ false (by decide) (by decide) (by decide))
  have I3 := Lib.hid (mat_at ⟨#[47, 97, 47, 42, 42]⟩ ⟨#[47, 97]⟩ true (by decide) (by decide) (by decide))
  have I4 := Lib.hid (mat_at ⟨#[47, 97, 47, 42, 42]⟩ ⟨#[47, 97, 47, 98, 47, 99]⟩ true (by decide) (by decide) (by decide))
  have C1 := Lib.hid (cov_at ⟨#[47, 42, 42]⟩ ⟨#[47, 97, 47, 42]⟩ true (by decide) (by decide) (by decide))
  have C2 := Lib.hid (cov_at ⟨#[47, 97]⟩ ⟨#[47, 42]⟩ false (by decide) (by decide) (by decide))
  have M1 := Lib.hid (mts_at ⟨#[47, 42, 47, 98]⟩ ⟨#[47, 97, 47, 42]⟩ true (by decide) (by decide) (by decide))
  have M2 := Lib.hid (mts_at ⟨#[47, 97]⟩ ⟨#[47, 98]⟩ false (by decide) (by decide) (by decide))
  have q1 : ([47, 97, 47, 98] == [47, 97, 47, 98] : Bool) = true := rfl
  go_enter Try.func6, Try.ntmps6
  go_wp2_with (first
    | (go_at_call 7; (with_reducible refine (B1.out _).mono ?_); rintro e w1 ⟨rfl, hb1⟩; have HB := Lib.hid hb1; clear hb1)
    | (go_at_call 9; first
      | ((with_reducible refine (I1.out _).mono ?_); rintro e wx ⟨rfl, hbx⟩; have HB := Lib.hid (HB.out.trans (hbx.mono HB.out.size)); clear hbx)
      | ((with_reducible refine (I2.out _).mono ?_); rintro e wx ⟨rfl, hbx⟩; have HB := Lib.hid (HB.out.trans (hbx.mono HB.out.size)); clear hbx)
      | ((with_reducible refine (I3.out _).mono ?_); rintro e wx ⟨rfl, hbx⟩; have HB := Lib.hid (HB.out.trans (hbx.mono HB.out.size)); clear hbx)
      | ((with_reducible refine (I4.out _).mono ?_); rintro e wx ⟨rfl, hbx⟩; have HB := Lib.hid (HB.out.trans (hbx.mono HB.out.size)); clear hbx))
    | (go_at_call 11; first
      | ((with_reducible refine (C1.out _).mono ?_); rintro e wx ⟨rfl, hbx⟩; have HB := Lib.hid (HB.out.trans (hbx.mono HB.out.size)); clear hbx)
      | ((with_reducible refine (C2.out _).mono ?_); rintro e wx ⟨rfl, hbx⟩; have HB := Lib.hid (HB.out.trans (hbx.mono HB.out.size)); clear hbx))
    | (go_at_call 13; first
      | ((with_reducible refine (M1.out _).mono ?_); rintro e wx ⟨rfl, hbx⟩; have HB := Lib.hid (HB.out.trans (hbx.mono HB.out.size)); clear hbx)
      | ((with_reducible refine (M2.out _).mono ?_); rintro e wx ⟨rfl, hbx⟩; have HB := Lib.hid (HB.out.trans (hbx.mono HB.out.size)); clear hbx)))
  go_ret
  exact ⟨rfl, HB.out⟩

/-! ### MatchSays -/
set_option maxHeartbeats 4000000 in
set_option maxRecDepth 100000 in
theorem says_any (p q : ByteArray) (w : World) (hp0 : p.size ≤ 9223372036854775807) (hq0 : q.size ≤ 9223372036854775807) :
    Calls Try.prog 3 #[.string p, .string q] w fun e w' => e = .returned (.bool true) ∧ Below w.heap.size w w' := by
  have HAW := Lib.hid awake_any
  by_cases hlp : 400 < p.size
  · have g : decide ((400 : Int) < (p.size : Int)) = true := decide_eq_true (by omega)
    have gn : decide (400 < p.size) = true := decide_eq_true hlp
    go_enter Try.func3, Try.ntmps3
    go_wp2_with (go_at_call 6; (with_reducible refine (HAW.out _).mono ?_); rintro e w1 ⟨rfl, hb1⟩)
    go_ret
    exact ⟨rfl, hb1⟩
  · have g : decide ((400 : Int) < (p.size : Int)) = false := decide_eq_false (by omega)
    have gn : decide (400 < p.size) = false := decide_eq_false hlp
    have hp : p.size ≤ 140737488355328 := by omega
    clear hp0
    by_cases hlq : 400 < q.size
    · have g1 : decide ((400 : Int) < (q.size : Int)) = true := decide_eq_true (by omega)
      have gn1 : decide (400 < q.size) = true := decide_eq_true hlq
      go_enter Try.func3, Try.ntmps3
      go_wp2_with (go_at_call 6; (with_reducible refine (HAW.out _).mono ?_); rintro e w1 ⟨rfl, hb1⟩)
      go_ret
      exact ⟨rfl, hb1⟩
    · have g1 : decide ((400 : Int) < (q.size : Int)) = false := decide_eq_false (by omega)
      have gn1 : decide (400 < q.size) = false := decide_eq_false hlq
      have hq : q.size ≤ 140737488355328 := by omega
      clear hq0
      have HB := Lib.hid fun W => both_any p q W hp hq
      have HRB := Lib.hid fun W => rboth_any p q W hp hq
      have HI := Lib.hid fun W => mat_any p q W hp hq
      have HRI := Lib.hid fun W => rmat_any p q W hp hq
      have HC := Lib.hid fun W => cov_any p q W hp hq
      have HRC := Lib.hid fun W => rcov_any p q W hp hq
      have HM := Lib.hid fun W => mts_any p q W hp hq
      have HRM := Lib.hid fun W => rmts_any p q W hp hq
      generalize botB p q = t at *
      generalize bokB p q = b0 at *
      generalize matB p q = b1 at *
      generalize covB p q = b2 at *
      generalize mtsB p q = b3 at *
      have q0 : (t.toList == t.toList) = true := beq_self_eq_true _
      have q1 : (b0 == b0) = true := beq_self_eq_true _
      have q2 : (b1 == b1) = true := beq_self_eq_true _
      have q3 : (b2 == b2) = true := beq_self_eq_true _
      have q4 : (b3 == b3) = true := beq_self_eq_true _
      go_enter Try.func3, Try.ntmps3
      go_wp2_with (first
        | (go_at_call 7; (with_reducible refine (HB.out _).mono ?_); rintro e w1 ⟨rfl, hb1⟩; have HBL := Lib.hid hb1; clear hb1)
        | (go_at_call 8; (with_reducible refine (HRB.out _).mono ?_); rintro e wx ⟨rfl, hbx⟩; have HBL := Lib.hid (HBL.out.trans (hbx.mono HBL.out.size)); clear hbx)
        | (go_at_call 9; (with_reducible refine (HI.out _).mono ?_); rintro e wx ⟨rfl, hbx⟩; have HBL := Lib.hid (HBL.out.trans (hbx.mono HBL.out.size)); clear hbx)
        | (go_at_call 10; (with_reducible refine (HRI.out _).mono ?_); rintro e wx ⟨rfl, hbx⟩; have HBL := Lib.hid (HBL.out.trans (hbx.mono HBL.out.size)); clear hbx)
        | (go_at_call 11; (with_reducible refine (HC.out _).mono ?_); rintro e wx ⟨rfl, hbx⟩; have HBL := Lib.hid (HBL.out.trans (hbx.mono HBL.out.size)); clear hbx)
        | (go_at_call 12; (with_reducible refine (HRC.out _).mono ?_); rintro e wx ⟨rfl, hbx⟩; have HBL := Lib.hid (HBL.out.trans (hbx.mono HBL.out.size)); clear hbx)
        | (go_at_call 13; (with_reducible refine (HM.out _).mono ?_); rintro e wx ⟨rfl, hbx⟩; have HBL := Lib.hid (HBL.out.trans (hbx.mono HBL.out.size)); clear hbx)
        | (go_at_call 14; (with_reducible refine (HRM.out _).mono ?_); rintro e wx ⟨rfl, hbx⟩; have HBL := Lib.hid (HBL.out.trans (hbx.mono HBL.out.size)); clear hbx)
        | (go_at_call 6; (with_reducible refine (HAW.out _).mono ?_); rintro e wx ⟨rfl, hbx⟩; have HBL := Lib.hid (HBL.out.trans (hbx.mono HBL.out.size)); clear hbx))
      go_ret
      exact ⟨rfl, HBL.out⟩

/-! ### MatchCovers -/
set_option maxHeartbeats 8000000 in
set_option maxRecDepth 100000 in
theorem covers_law0 (p q s : ByteArray) (w : World) (hp0 : p.size ≤ 9223372036854775807) (hq0 : q.size ≤ 9223372036854775807) (hs0 : s.size ≤ 9223372036854775807) :
    Calls Try.prog 4 #[.string p, .string q, .string s] w fun e w' => e = .returned (.bool true) ∧ Below w.heap.size w w' := by
  have HAW := Lib.hid awake_any
  by_cases hlp : 400 < p.size
  · have g0 : decide ((400 : Int) < (p.size : Int)) = true := decide_eq_true (by omega)
    have gn0 : decide (400 < p.size) = true := decide_eq_true hlp
    go_enter Try.func4, Try.ntmps4
    go_wp2_with (go_at_call 6; (with_reducible refine (HAW.out _).mono ?_); rintro e w1 ⟨rfl, hb1⟩)
    go_ret
    exact ⟨rfl, hb1⟩
  have g0 : decide ((400 : Int) < (p.size : Int)) = false := decide_eq_false (by omega)
  have gn0 : decide (400 < p.size) = false := decide_eq_false hlp
  have hp : p.size ≤ 140737488355328 := by omega
  clear hp0
  by_cases hlq : 400 < q.size
  · have g1 : decide ((400 : Int) < (q.size : Int)) = true := decide_eq_true (by omega)
    have gn1 : decide (400 < q.size) = true := decide_eq_true hlq
    go_enter Try.func4, Try.ntmps4
    go_wp2_with (go_at_call 6; (with_reducible refine (HAW.out _).mono ?_); rintro e w1 ⟨rfl, hb1⟩)
    go_ret
    exact ⟨rfl, hb1⟩
  have g1 : decide ((400 : Int) < (q.size : Int)) = false := decide_eq_false (by omega)
  have gn1 : decide (400 < q.size) = false := decide_eq_false hlq
  have hq : q.size ≤ 140737488355328 := by omega
  clear hq0
  by_cases hls : 400 < s.size
  · have g2 : decide ((400 : Int) < (s.size : Int)) = true := decide_eq_true (by omega)
    have gn2 : decide (400 < s.size) = true := decide_eq_true hls
    go_enter Try.func4, Try.ntmps4
    go_wp2_with (go_at_call 6; (with_reducible refine (HAW.out _).mono ?_); rintro e w1 ⟨rfl, hb1⟩)
    go_ret
    exact ⟨rfl, hb1⟩
  have g2 : decide ((400 : Int) < (s.size : Int)) = false := decide_eq_false (by omega)
  have gn2 : decide (400 < s.size) = false := decide_eq_false hls
  have hs : s.size ≤ 140737488355328 := by omega
  clear hs0
  have h1 := cov_mat (p := p) (q := q) (s := s)
  have h2 := cov_cov (p := p) (q := q) (s := s)
  have C1 := Lib.hid fun W => cov_any p q W hp hq
  have C2 := Lib.hid fun W => cov_any q s W hq hs
  have C3 := Lib.hid fun W => cov_any p s W hp hs
  have C4 := Lib.hid (cov_at p p (patB p) (cov_self p) hp hp)
  have C5 := Lib.hid (cov_at ⟨#[47, 42, 42]⟩ p (patB p) (cov_all p) (by decide) hp)
  have I1 := Lib.hid fun W => mat_any q s W hq hs
  have I2 := Lib.hid fun W => mat_any p s W hp hs
  have I3 := Lib.hid (mat_at s s (isB s) (mat_self s) hs hs)
  have P1 := Lib.hid (pat_at p (patB p) rfl hp)
  have R1 := Lib.hid (is_at s (isB s) rfl hs)
  generalize covB p q = b1 at *
  generalize matB q s = b2 at *
  generalize matB p s = b3 at *
  generalize covB q s = b4 at *
  generalize covB p s = b5 at *
  generalize patB p = b6 at *
  generalize isB s = b7 at *
  have q6 : (b6 == b6) = true := beq_self_eq_true _
  have q7 : (b7 == b7) = true := beq_self_eq_true _
  clear hlp hlq hls
  have HB := Lib.hid (Below.refl w.heap.size w)
  cases b1 <;> cases b2 <;> cases b4
  all_goals
    (try obtain rfl := h1 rfl rfl)
    (try obtain rfl := h2 rfl rfl)
    clear h1 h2
    go_enter Try.func4, Try.ntmps4
    go_wp2_with (first
      | (go_at_call 11; first
        | ((with_reducible refine (C1.out _).mono ?_); rintro e wx ⟨rfl, hbx⟩; have HB := Lib.hid (HB.out.trans (hbx.mono HB.out.size)); clear hbx)
        | ((with_reducible refine (C2.out _).mono ?_); rintro e wx ⟨rfl, hbx⟩; have HB := Lib.hid (HB.out.trans (hbx.mono HB.out.size)); clear hbx)
        | ((with_reducible refine (C3.out _).mono ?_); rintro e wx ⟨rfl, hbx⟩; have HB := Lib.hid (HB.out.trans (hbx.mono HB.out.size)); clear hbx)
        | ((with_reducible refine (C4.out _).mono ?_); rintro e wx ⟨rfl, hbx⟩; have HB := Lib.hid (HB.out.trans (hbx.mono HB.out.size)); clear hbx)
        | ((with_reducible refine (C5.out _).mono ?_); rintro e wx ⟨rfl, hbx⟩; have HB := Lib.hid (HB.out.trans (hbx.mono HB.out.size)); clear hbx))
      | (go_at_call 9; first
        | ((with_reducible refine (I1.out _).mono ?_); rintro e wx ⟨rfl, hbx⟩; have HB := Lib.hid (HB.out.trans (hbx.mono HB.out.size)); clear hbx)
        | ((with_reducible refine (I2.out _).mono ?_); rintro e wx ⟨rfl, hbx⟩; have HB := Lib.hid (HB.out.trans (hbx.mono HB.out.size)); clear hbx)
        | ((with_reducible refine (I3.out _).mono ?_); rintro e wx ⟨rfl, hbx⟩; have HB := Lib.hid (HB.out.trans (hbx.mono HB.out.size)); clear hbx))
      | (go_at_call 15; first
        | ((with_reducible refine (P1.out _).mono ?_); rintro e wx ⟨rfl, hbx⟩; have HB := Lib.hid (HB.out.trans (hbx.mono HB.out.size)); clear hbx))
      | (go_at_call 16; first
        | ((with_reducible refine (R1.out _).mono ?_); rintro e wx ⟨rfl, hbx⟩; have HB := Lib.hid (HB.out.trans (hbx.mono HB.out.size)); clear hbx))
      | (go_at_call 6; first
        | ((with_reducible refine (HAW.out _).mono ?_); rintro e wx ⟨rfl, hbx⟩; have HB := Lib.hid (HB.out.trans (hbx.mono HB.out.size)); clear hbx)))
    go_ret
    exact ⟨rfl, HB.out⟩

/-! ### MatchMeets -/
theorem not_bok {p q : ByteArray} (h : bokB p q = false) (hm : mtsB p q = true) : 100 < p.size ∨ 100 < q.size := by
  rcases Nat.lt_or_ge 100 p.size with k | k
  · exact .inl k
  · rcases Nat.lt_or_ge 100 q.size with k2 | k2
    · exact .inr k2
    · rw [bok_short hm k k2] at h; cases h
theorem bok_size {p q : ByteArray} (h : bokB p q = true) : (rtB p q).size ≤ 255 := by
  unfold bokB at h
  rw [Bool.and_eq_true] at h
  exact rowB_size (is_row h.2)
set_option maxHeartbeats 8000000 in
set_option maxRecDepth 100000 in
theorem meets_law0 (p q s : ByteArray) (w : World) (hp0 : p.size ≤ 9223372036854775807) (hq0 : q.size ≤ 9223372036854775807) (hs0 : s.size ≤ 9223372036854775807) :
    Calls Try.prog 5 #[.string p, .string q, .string s] w fun e w' => e = .returned (.bool true) ∧ Below w.heap.size w w' := by
  have HAW := Lib.hid awake_any
  by_cases hlp : 400 < p.size
  · have g0 : decide ((400 : Int) < (p.size : Int)) = true := decide_eq_true (by omega)
    have gn0 : decide (400 < p.size) = true := decide_eq_true hlp
    go_enter Try.func5, Try.ntmps5
    go_wp2_with (go_at_call 6; (with_reducible refine (HAW.out _).mono ?_); rintro e w1 ⟨rfl, hb1⟩)
    go_ret
    exact ⟨rfl, hb1⟩
  have g0 : decide ((400 : Int) < (p.size : Int)) = false := decide_eq_false (by omega)
  have gn0 : decide (400 < p.size) = false := decide_eq_false hlp
  have hp : p.size ≤ 140737488355328 := by omega
  clear hp0
  by_cases hlq : 400 < q.size
  · have g1 : decide ((400 : Int) < (q.size : Int)) = true := decide_eq_true (by omega)
    have gn1 : decide (400 < q.size) = true := decide_eq_true hlq
    go_enter Try.func5, Try.ntmps5
    go_wp2_with (go_at_call 6; (with_reducible refine (HAW.out _).mono ?_); rintro e w1 ⟨rfl, hb1⟩)
    go_ret
    exact ⟨rfl, hb1⟩
  have g1 : decide ((400 : Int) < (q.size : Int)) = false := decide_eq_false (by omega)
  have gn1 : decide (400 < q.size) = false := decide_eq_false hlq
  have hq : q.size ≤ 140737488355328 := by omega
  clear hq0
  by_cases hls : 400 < s.size
  · have g2 : decide ((400 : Int) < (s.size : Int)) = true := decide_eq_true (by omega)
    have gn2 : decide (400 < s.size) = true := decide_eq_true hls
    go_enter Try.func5, Try.ntmps5
    go_wp2_with (go_at_call 6; (with_reducible refine (HAW.out _).mono ?_); rintro e w1 ⟨rfl, hb1⟩)
    go_ret
    exact ⟨rfl, hb1⟩
  have g2 : decide ((400 : Int) < (s.size : Int)) = false := decide_eq_false (by omega)
  have gn2 : decide (400 < s.size) = false := decide_eq_false hls
  have hs : s.size ≤ 140737488355328 := by omega
  clear hs0
  have h1 := mat_mts (p := p) (q := q) (s := s)
  have h2 := cov_mts (p := p) (q := q)
  have M1 := Lib.hid fun W => mts_any p q W hp hq
  have M2 := Lib.hid (mts_at q p (mtsB p q) (mts_comm q p) hq hp)
  have I1 := Lib.hid fun W => mat_any p s W hp hs
  have I2 := Lib.hid fun W => mat_any q s W hq hs
  have C1 := Lib.hid fun W => cov_any p q W hp hq
  have HB := Lib.hid (Below.refl w.heap.size w)
  cases ho : bokB p q with
  | true =>
    obtain ⟨k1, k2, k3⟩ := bok_mat ho
    have hz := bok_size ho
    have B1 := Lib.hid (both_at p q (rtB p q) true (by unfold botB; rw [ho]; rfl) ho hp hq)
    have I3 := Lib.hid (mat_at p (rtB p q) true k2 hp (by omega))
    have I4 := Lib.hid (mat_at q (rtB p q) true k3 hq (by omega))
    rw [k1] at M1 M2
    generalize matB p s = b1 at *
    generalize matB q s = b2 at *
    generalize covB p q = b3 at *
    generalize rtB p q = t at *
    clear h1 h2 k1 k2 k3 hz ho hlp hlq hls
    cases b1 <;> cases b2 <;> cases b3
    all_goals
      go_enter Try.func5, Try.ntmps5
      go_wp2_with (first
        | (go_at_call 13; first
          | ((with_reducible refine (M1.out _).mono ?_); rintro e wx ⟨rfl, hbx⟩; have HB := Lib.hid (HB.out.trans (hbx.mono HB.out.size)); clear hbx)
          | ((with_reducible refine (M2.out _).mono ?_); rintro e wx ⟨rfl, hbx⟩; have HB := Lib.hid (HB.out.trans (hbx.mono HB.out.size)); clear hbx))
        | (go_at_call 9; first
          | ((with_reducible refine (I1.out _).mono ?_); rintro e wx ⟨rfl, hbx⟩; have HB := Lib.hid (HB.out.trans (hbx.mono HB.out.size)); clear hbx)
          | ((with_reducible refine (I2.out _).mono ?_); rintro e wx ⟨rfl, hbx⟩; have HB := Lib.hid (HB.out.trans (hbx.mono HB.out.size)); clear hbx)
          | ((with_reducible refine (I3.out _).mono ?_); rintro e wx ⟨rfl, hbx⟩; have HB := Lib.hid (HB.out.trans (hbx.mono HB.out.size)); clear hbx)
          | ((with_reducible refine (I4.out _).mono ?_); rintro e wx ⟨rfl, hbx⟩; have HB := Lib.hid (HB.out.trans (hbx.mono HB.out.size)); clear hbx))
        | (go_at_call 11; first
          | ((with_reducible refine (C1.out _).mono ?_); rintro e wx ⟨rfl, hbx⟩; have HB := Lib.hid (HB.out.trans (hbx.mono HB.out.size)); clear hbx))
        | (go_at_call 7; first
          | ((with_reducible refine (B1.out _).mono ?_); rintro e wx ⟨rfl, hbx⟩; have HB := Lib.hid (HB.out.trans (hbx.mono HB.out.size)); clear hbx))
        | (go_at_call 6; first
          | ((with_reducible refine (HAW.out _).mono ?_); rintro e wx ⟨rfl, hbx⟩; have HB := Lib.hid (HB.out.trans (hbx.mono HB.out.size)); clear hbx)))
      go_ret
      exact ⟨rfl, HB.out⟩
  | false =>
    have B1 := Lib.hid (both_at p q ⟨#[]⟩ false (by unfold botB; rw [ho]; rfl) ho hp hq)
    cases hm : mtsB p q with
    | false =>
      rw [hm] at M1 M2 h1 h2
      generalize matB p s = b1 at *
      generalize matB q s = b2 at *
      generalize covB p q = b3 at *
      clear ho hm hlp hlq hls
      cases b1 <;> cases b2 <;> cases b3
      all_goals first
        | (exact absurd (h1 rfl rfl) (by decide))
        | (exact absurd (h2 rfl) (by decide))
        | (clear h1 h2
           go_enter Try.func5, Try.ntmps5
           go_wp2_with (first
             | (go_at_call 13; first
               | ((with_reducible refine (M1.out _).mono ?_); rintro e wx ⟨rfl, hbx⟩; have HB := Lib.hid (HB.out.trans (hbx.mono HB.out.size)); clear hbx)
               | ((with_reducible refine (M2.out _).mono ?_); rintro e wx ⟨rfl, hbx⟩; have HB := Lib.hid (HB.out.trans (hbx.mono HB.out.size)); clear hbx))
             | (go_at_call 9; first
               | ((with_reducible refine (I1.out _).mono ?_); rintro e wx ⟨rfl, hbx⟩; have HB := Lib.hid (HB.out.trans (hbx.mono HB.out.size)); clear hbx)
               | ((with_reducible refine (I2.out _).mono ?_); rintro e wx ⟨rfl, hbx⟩; have HB := Lib.hid (HB.out.trans (hbx.mono HB.out.size)); clear hbx))
             | (go_at_call 11; first
               | ((with_reducible refine (C1.out _).mono ?_); rintro e wx ⟨rfl, hbx⟩; have HB := Lib.hid (HB.out.trans (hbx.mono HB.out.size)); clear hbx))
             | (go_at_call 7; first
               | ((with_reducible refine (B1.out _).mono ?_); rintro e wx ⟨rfl, hbx⟩; have HB := Lib.hid (HB.out.trans (hbx.mono HB.out.size)); clear hbx))
             | (go_at_call 6; first
               | ((with_reducible refine (HAW.out _).mono ?_); rintro e wx ⟨rfl, hbx⟩; have HB := Lib.hid (HB.out.trans (hbx.mono HB.out.size)); clear hbx)))
           go_ret
           exact ⟨rfl, HB.out⟩)
    | true =>
      have hbig := not_bok ho hm
      rw [hm] at M1 M2
      have e1 : decide ((100 : Int) < (p.size : Int)) = decide (100 < p.size) := lt_dec 100 p.size
      have e2 : decide ((100 : Int) < (q.size : Int)) = decide (100 < q.size) := lt_dec 100 q.size
      have hd : (decide (100 < p.size) || decide (100 < q.size)) = true := by rw [Bool.or_eq_true, decide_eq_true_eq, decide_eq_true_eq]; exact hbig
      generalize hd1 : decide (100 < p.size) = d1 at *
      generalize hd2 : decide (100 < q.size) = d2 at *
      generalize matB p s = b1 at *
      generalize matB q s = b2 at *
      generalize covB p q = b3 at *
      clear ho hm hlp hlq hls h1 h2 hbig
      cases d1 <;> cases d2 <;> cases b1 <;> cases b2 <;> cases b3
      all_goals first
        | (exact absurd hd (by decide))
        | (clear hd
           go_enter Try.func5, Try.ntmps5
           go_wp2_with (first
             | (go_at_call 13; first
               | ((with_reducible refine (M1.out _).mono ?_); rintro e wx ⟨rfl, hbx⟩; have HB := Lib.hid (HB.out.trans (hbx.mono HB.out.size)); clear hbx)
               | ((with_reducible refine (M2.out _).mono ?_); rintro e wx ⟨rfl, hbx⟩; have HB := Lib.hid (HB.out.trans (hbx.mono HB.out.size)); clear hbx))
             | (go_at_call 9; first
               | ((with_reducible refine (I1.out _).mono ?_); rintro e wx ⟨rfl, hbx⟩; have HB := Lib.hid (HB.out.trans (hbx.mono HB.out.size)); clear hbx)
               | ((with_reducible refine (I2.out _).mono ?_); rintro e wx ⟨rfl, hbx⟩; have HB := Lib.hid (HB.out.trans (hbx.mono HB.out.size)); clear hbx))
             | (go_at_call 11; first
               | ((with_reducible refine (C1.out _).mono ?_); rintro e wx ⟨rfl, hbx⟩; have HB := Lib.hid (HB.out.trans (hbx.mono HB.out.size)); clear hbx))
             | (go_at_call 7; first
               | ((with_reducible refine (B1.out _).mono ?_); rintro e wx ⟨rfl, hbx⟩; have HB := Lib.hid (HB.out.trans (hbx.mono HB.out.size)); clear hbx))
             | (go_at_call 6; first
               | ((with_reducible refine (HAW.out _).mono ?_); rintro e wx ⟨rfl, hbx⟩; have HB := Lib.hid (HB.out.trans (hbx.mono HB.out.size)); clear hbx)))
           go_ret
           exact ⟨rfl, HB.out⟩)

theorem says_law (p q : ByteArray) (wp : p.size ≤ maxLen) (wq : q.size ≤ maxLen) (W : World) :
    Calls Try.prog 3 #[.string p, .string q] W fun e W' => e = .returned (.bool true) ∧ Below W.heap.size W W' :=
  says_any p q W (by unfold maxLen at wp; omega) (by unfold maxLen at wq; omega)
theorem covers_law (p q s : ByteArray) (wp : p.size ≤ maxLen) (wq : q.size ≤ maxLen) (ws : s.size ≤ maxLen) (W : World) :
    Calls Try.prog 4 #[.string p, .string q, .string s] W fun e W' => e = .returned (.bool true) ∧ Below W.heap.size W W' :=
  covers_law0 p q s W (by unfold maxLen at wp; omega) (by unfold maxLen at wq; omega) (by unfold maxLen at ws; omega)
theorem meets_law (p q s : ByteArray) (wp : p.size ≤ maxLen) (wq : q.size ≤ maxLen) (ws : s.size ≤ maxLen) (W : World) :
    Calls Try.prog 5 #[.string p, .string q, .string s] W fun e W' => e = .returned (.bool true) ∧ Below W.heap.size W W' :=
  meets_law0 p q s W (by unfold maxLen at wp; omega) (by unfold maxLen at wq; omega) (by unfold maxLen at ws; omega)
end Go.Proofs.Ytnhiloikficigaa.Mat
