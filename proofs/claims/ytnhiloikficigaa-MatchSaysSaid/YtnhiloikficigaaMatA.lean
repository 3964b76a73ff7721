/- Contracts of match's at, coversPart, covers, meetsPart, meets. Conditions: as each theorem states. -/
import Derived.Test.YtnhiloikficigaaMatP
namespace Go.Proofs.Ytnhiloikficigaa.Mat
open Go.RowKit Go.Lib Go.Proofs.Ytnhiloikficigaa.Byt Go.Proofs.Ytnhiloikficigaa.Rou

theorem max_run (x y : Nat) (w : World) : (Builtin.max_ #[3, 3] 3 #[.int .i64 (x : Int), .int .i64 (y : Int)]).run Try.prog w = .ok (.int .i64 ((max x y : Nat) : Int)) w := by
  rw [run_max_int2]
  congr 2
  split <;> omega
theorem em_eq (x : ByteArray) : x.toList.isEmpty = decide (x = ⟨#[]⟩) := by
  rw [Byt.toList_data, Bool.eq_iff_iff, List.isEmpty_iff, decide_eq_true_eq]
  exact dt_inj (y := ⟨#[]⟩)
theorem s1_eq (x : ByteArray) : (x.toList == [42]) = decide (x = ⟨#[42]⟩) := by
  have := sb_eq (x := x) (y := ⟨#[42]⟩)
  rwa [Byt.toList_data ⟨#[42]⟩] at this
theorem s2_eq (x : ByteArray) : (x.toList == [42, 42]) = decide (x = ⟨#[42, 42]⟩) := by
  have := sb_eq (x := x) (y := ⟨#[42, 42]⟩)
  rwa [Byt.toList_data ⟨#[42, 42]⟩] at this
theorem lt_dec (a b : Nat) : decide ((a : Int) < (b : Int)) = decide (a < b) := by rw [Bool.eq_iff_iff, decide_eq_true_eq, decide_eq_true_eq]; omega
theorem le_dec (a b : Nat) : decide ((a : Int) ≤ (b : Int)) = decide (a ≤ b) := by rw [Bool.eq_iff_iff, decide_eq_true_eq, decide_eq_true_eq]; omega

/-! ### at -/
theorem at_any (L : Bs) (v : Value) (w : World) (hr : Strs.Row w v L) (k : Nat) :
    Calls Try.prog 35 #[v, .int .i64 (k : Int)] w fun e w' => e = .returned (.string (L.getD k ⟨#[]⟩)) ∧ w = w' := by
  obtain ⟨a, cap, rfl, hc⟩ := hr.open_
  have g0 : decide ((k : Int) < 0) = false := decide_eq_false (by omega)
  by_cases h : k < L.length
  · obtain ⟨b, off, rfl, hcl⟩ := hc k h
    have g1 : decide ((L.length : Int) ≤ (k : Int)) = false := decide_eq_false (by omega)
    have g2 : decide (L.length ≤ k) = false := decide_eq_false (by omega)
    clear hc hr
    generalize L.getD k ⟨#[]⟩ = x at *
    generalize L.length = n at *
    go_enter Try.func35, Try.ntmps35
    go_wp2_with fail
    go_ret
    exact ⟨rfl, rfl⟩
  · rw [get_no (Nat.le_of_not_lt h)]
    have g1 : decide ((L.length : Int) ≤ (k : Int)) = true := decide_eq_true (by omega)
    have g2 : decide (L.length ≤ k) = true := decide_eq_true (by omega)
    clear hc hr
    generalize L.length = n at *
    go_enter Try.func35, Try.ntmps35
    go_wp2_with fail
    go_ret
    exact ⟨rfl, rfl⟩
theorem at_neg (n cap : Nat) (a : Option Addr) (w : World) :
    Calls Try.prog 35 #[.slice a n cap, .int .i64 (-1)] w fun e w' => e = .returned (.string ⟨#[]⟩) ∧ w = w' := by
  go_enter Try.func35, Try.ntmps35
  go_wp2_with fail
  go_ret
  exact ⟨rfl, rfl⟩

/-! ### covers -/
theorem cp_any (x y : ByteArray) (w : World) :
    Calls Try.prog 42 #[.string x, .string y] w fun e w' => e = .returned (.bool (cpB x y)) ∧ w = w' := by
  have f1 := em_eq y
  have f2 := s2_eq y
  have f3 := s1_eq x
  have f4 := sb_eq (x := x) (y := y)
  unfold cpB
  generalize decide (y = ⟨#[]⟩) = b1 at *
  generalize decide (y = ⟨#[42, 42]⟩) = b2 at *
  generalize decide (x = ⟨#[42]⟩) = b3 at *
  generalize decide (x = y) = b4 at *
  cases b1 <;> cases b2 <;> cases b3 <;> cases b4
  all_goals
    go_enter Try.func42, Try.ntmps42
    go_wp2_with fail
    go_ret
    exact ⟨rfl, rfl⟩
set_option maxHeartbeats 2000000 in
set_option maxRecDepth 100000 in
theorem covers_any (L M : Bs) (u v : Value) (w : World) (hu : Strs.Row w u L) (hv : Strs.Row w v M) (hM : Ne M) (hl : L.length ≤ 140737488355328) (_hm : M.length ≤ 140737488355328) :
    Calls Try.prog 27 #[u, v] w fun e w' => e = .returned (.bool (cvB L M)) ∧ w = w' := by
  have HA := Lib.hid fun k => at_any M v w hv k
  have HR := Lib.hid hu
  obtain ⟨a, cap, rfl, hc⟩ := hu.open_
  obtain ⟨a2, cap2, rfl, _⟩ := hv.open_
  have HC := Lib.hid hc
  have HS := Lib.hid fun k (h : k < L.length) => cvK_ss (L := L) (M := M) h
  have HT := Lib.hid fun k (h : k < L.length) => cvK_step (L := L) (M := M) hM h
  have HI := Lib.hid fun k => cp_in (L := L) (M := M) (k := k)
  have HE := Lib.hid (cvK_end (L := L) (M := M))
  have HP := Lib.hid cp_any
  rw [← cvK_zero]
  obtain ⟨R, hR⟩ : ∃ R, cvK L M 0 = R := ⟨_, rfl⟩
  rw [hR]
  have H0 := Lib.hid hR
  clear hc hu hv hM hR
  go_enter Try.func27, Try.ntmps27
  go_wp2_with fail
  go_loop [9] (fun i => ∃ k : Nat, i = .int .i64 (k : Int) ∧ k ≤ L.length ∧ k ≤ M.length ∧ Hid (cvK L M k = R)) (fun i => L.length - (RowKit.intOf i).toNat)
  case atStart => exact ⟨0, rfl, Nat.zero_le _, Nat.zero_le _, H0⟩
  case round =>
    obtain ⟨k, rfl, hk, hk2, HK⟩ := hrel
    by_cases hlt : k < L.length
    · obtain ⟨b, off, rfl, hcl⟩ := HC.out k hlt
      have hs := s2_eq (L.getD k ⟨#[]⟩)
      by_cases hx : L.getD k ⟨#[]⟩ = ⟨#[42, 42]⟩
      · obtain rfl : R = true := HK.out.symm.trans (HS.out k hlt hx)
        rw [decide_eq_true hx] at hs
        clear HK HS HT HI HE H0 hx
        generalize L.getD k ⟨#[]⟩ = x at *
        go_wp2_with fail
        go_ret
        exact ⟨rfl, rfl⟩
      · have hst := HK.out.symm.trans (HT.out k hlt hx)
        rw [decide_eq_false hx] at hs
        have hin := HI.out k
        have HA1 := Lib.hid (HA.out k)
        have HP1 := Lib.hid (HP.out (L.getD k ⟨#[]⟩) (M.getD k ⟨#[]⟩))
        cases hcp : cpB (L.getD k ⟨#[]⟩) (M.getD k ⟨#[]⟩) with
        | false =>
          rw [hcp] at HP1 hst
          obtain rfl : R = false := hst
          clear HK HS HT HI HE H0 HA HP hx hin hcp
          generalize L.getD k ⟨#[]⟩ = x at *
          generalize M.getD k ⟨#[]⟩ = y at *
          go_wp2_with (first
            | (go_at_call 35; (with_reducible refine HA1.out.mono ?_); rintro e w1 ⟨rfl, rfl⟩)
            | (go_at_call 42; (with_reducible refine (HP1.out _).mono ?_); rintro e w1 ⟨rfl, rfl⟩))
          go_ret
          exact ⟨rfl, rfl⟩
        | true =>
          have hlm := hin hcp
          rw [hcp, Bool.true_and] at hst
          rw [hcp] at HP1
          have HK2 := Lib.hid hst.symm
          clear HK HS HT HI HE H0 HA HP hx hin hcp hst
          generalize L.getD k ⟨#[]⟩ = x at *
          generalize M.getD k ⟨#[]⟩ = y at *
          go_wp2_with (first
            | (go_at_call 35; (with_reducible refine HA1.out.mono ?_); rintro e w1 ⟨rfl, rfl⟩)
            | (go_at_call 42; (with_reducible refine (HP1.out _).mono ?_); rintro e w1 ⟨rfl, rfl⟩))
          go_round
          case rel => exact ⟨k + 1, by go_num, by omega, by omega, HK2⟩
          case measure => simp [RowKit.intOf]; omega
    · obtain rfl : k = L.length := by omega
      have he := HK.out.symm.trans (HE.out hk2)
      have hq : ((L.length : Int) == (M.length : Int)) = decide (L.length = M.length) := by rw [Bool.eq_iff_iff, beq_iff_eq, decide_eq_true_eq]; omega
      rw [← he] at hq
      clear HK HS HT HI HE H0 HA HP he
      generalize L.length = n at *
      generalize M.length = m at *
      go_wp2_with fail
      go_ret
      exact ⟨rfl, rfl⟩

/-! ### meets -/
theorem mp_any (x y : ByteArray) (w : World) :
    Calls Try.prog 36 #[.string x, .string y] w fun e w' => e = .returned (.bool (mpB x y)) ∧ w = w' := by
  have f1 := em_eq x
  have f2 := em_eq y
  have f3 := sb_eq (x := x) (y := y)
  have f4 := s1_eq x
  have f5 := s1_eq y
  unfold mpB
  generalize decide (x = ⟨#[]⟩) = b1 at *
  generalize decide (y = ⟨#[]⟩) = b2 at *
  generalize decide (x = y) = b3 at *
  generalize decide (x = ⟨#[42]⟩) = b4 at *
  generalize decide (y = ⟨#[42]⟩) = b5 at *
  cases b1 <;> cases b2 <;> cases b3 <;> cases b4 <;> cases b5
  all_goals
    go_enter Try.func36, Try.ntmps36
    go_wp2_with fail
    go_ret
    exact ⟨rfl, rfl⟩
set_option maxHeartbeats 4000000 in
set_option maxRecDepth 100000 in
theorem meets_any (L M : Bs) (u v : Value) (w : World) (hu : Strs.Row w u L) (hv : Strs.Row w v M) (hL : Ne L) (hM : Ne M) (hl : L.length ≤ 140737488355328) (hm : M.length ≤ 140737488355328) :
    Calls Try.prog 18 #[u, v] w fun e w' => e = .returned (.bool (meB L M)) ∧ w = w' := by
  have HA := Lib.hid fun k => at_any L u w hu k
  have HB := Lib.hid fun k => at_any M v w hv k
  obtain ⟨a, cap, rfl, _⟩ := hu.open_
  obtain ⟨a2, cap2, rfl, _⟩ := hv.open_
  have HS := Lib.hid fun k => meK_ssl (L := L) (M := M) (k := k)
  have HS2 := Lib.hid fun k => meK_ssr (L := L) (M := M) (k := k)
  have HT := Lib.hid fun k => meK_step (L := L) (M := M) (k := k) hL hM
  have HE := Lib.hid fun k => meK_end (L := L) (M := M) (k := k)
  have HP := Lib.hid mp_any
  have HX := Lib.hid fun W => max_run L.length M.length W
  rw [← meK_zero]
  obtain ⟨R, hR⟩ : ∃ R, meK L M 0 = R := ⟨_, rfl⟩
  rw [hR]
  have H0 := Lib.hid hR
  obtain ⟨N, hN⟩ : ∃ N, max L.length M.length = N := ⟨_, rfl⟩
  rw [hN] at HX HT
  have hNs : N ≤ 140737488355328 := by omega
  have HN := Lib.hid (show L.length ≤ N ∧ M.length ≤ N by omega)
  have hx := HX.out
  clear hu hv hL hM hR hN HX
  go_enter Try.func18, Try.ntmps18
  go_wp2_with fail
  clear hx
  go_loop [13] (fun i => ∃ k : Nat, i = .int .i64 (k : Int) ∧ k ≤ N ∧ Hid (meK L M k = R)) (fun i => N - (RowKit.intOf i).toNat)
  case atStart => exact ⟨0, rfl, Nat.zero_le _, H0⟩
  case round =>
    obtain ⟨k, rfl, hk, HK⟩ := hrel
    by_cases hlt : k < N
    · have h1 := s2_eq (L.getD k ⟨#[]⟩)
      have h2 := s2_eq (M.getD k ⟨#[]⟩)
      have HA1 := Lib.hid (HA.out k)
      have HB1 := Lib.hid (HB.out k)
      have HP1 := Lib.hid (HP.out (L.getD k ⟨#[]⟩) (M.getD k ⟨#[]⟩))
      by_cases hx : L.getD k ⟨#[]⟩ = ⟨#[42, 42]⟩
      · obtain rfl : R = true := HK.out.symm.trans (HS.out k hx)
        rw [decide_eq_true hx] at h1
        clear HK HS HS2 HT HE H0 hx HA HB HP HP1 h2 HN
        generalize L.getD k ⟨#[]⟩ = x at *
        generalize M.getD k ⟨#[]⟩ = y at *
        go_wp2_with (go_at_call 35; first
          | ((with_reducible refine HA1.out.mono ?_); rintro e w1 ⟨rfl, rfl⟩; clear HA1)
          | ((with_reducible refine HB1.out.mono ?_); rintro e w1 ⟨rfl, rfl⟩; clear HB1))
        go_ret
        exact ⟨rfl, rfl⟩
      · by_cases hy : M.getD k ⟨#[]⟩ = ⟨#[42, 42]⟩
        · obtain rfl : R = true := HK.out.symm.trans (HS2.out k hy)
          rw [decide_eq_false hx] at h1
          rw [decide_eq_true hy] at h2
          clear HK HS HS2 HT HE H0 hx hy HA HB HP HP1 HN
          generalize L.getD k ⟨#[]⟩ = x at *
          generalize M.getD k ⟨#[]⟩ = y at *
          go_wp2_with (go_at_call 35; first
            | ((with_reducible refine HA1.out.mono ?_); rintro e w1 ⟨rfl, rfl⟩; clear HA1)
            | ((with_reducible refine HB1.out.mono ?_); rintro e w1 ⟨rfl, rfl⟩; clear HB1))
          go_ret
          exact ⟨rfl, rfl⟩
        · have hst := HK.out.symm.trans (HT.out k hlt hx hy)
          rw [decide_eq_false hx] at h1
          rw [decide_eq_false hy] at h2
          cases hcp : mpB (L.getD k ⟨#[]⟩) (M.getD k ⟨#[]⟩) with
          | false =>
            rw [hcp] at HP1 hst
            obtain rfl : R = false := hst
            clear HK HS HS2 HT HE H0 hx hy HA HB HP hcp HN
            generalize L.getD k ⟨#[]⟩ = x at *
            generalize M.getD k ⟨#[]⟩ = y at *
            go_wp2_with (first
              | (go_at_call 35; first
                | ((with_reducible refine HA1.out.mono ?_); rintro e w1 ⟨rfl, rfl⟩; clear HA1)
                | ((with_reducible refine HB1.out.mono ?_); rintro e w1 ⟨rfl, rfl⟩; clear HB1))
              | (go_at_call 36; (with_reducible refine (HP1.out _).mono ?_); rintro e w1 ⟨rfl, rfl⟩))
            go_ret
            exact ⟨rfl, rfl⟩
          | true =>
            rw [hcp, Bool.true_and] at hst
            rw [hcp] at HP1
            have HK2 := Lib.hid hst.symm
            clear HK HS HS2 HT HE H0 hx hy HA HB HP hcp HN hst
            generalize L.getD k ⟨#[]⟩ = x at *
            generalize M.getD k ⟨#[]⟩ = y at *
            go_wp2_with (first
              | (go_at_call 35; first
                | ((with_reducible refine HA1.out.mono ?_); rintro e w1 ⟨rfl, rfl⟩; clear HA1)
                | ((with_reducible refine HB1.out.mono ?_); rintro e w1 ⟨rfl, rfl⟩; clear HB1))
              | (go_at_call 36; (with_reducible refine (HP1.out _).mono ?_); rintro e w1 ⟨rfl, rfl⟩))
            go_round
            case rel => exact ⟨k + 1, by go_num, by omega, HK2⟩
            case measure => simp [RowKit.intOf]; omega
    · obtain rfl : k = N := by omega
      obtain ⟨n1, n2⟩ := HN.out
      obtain rfl : R = true := HK.out.symm.trans (HE.out k n1 n2)
      clear HK HS HS2 HT HE H0 HA HB HP HN n1 n2
      go_wp2_with fail
      go_ret
      exact ⟨rfl, rfl⟩
end Go.Proofs.Ytnhiloikficigaa.Mat
