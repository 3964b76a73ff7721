/- Contracts of the document's size, Ticks, Norm, Name, Parse. Conditions: as each theorem states. -/
import Derived.Test.YthkopnobekohcaaGreatDoorUniB
import Derived.Test.YthkopnobekohcaaGreatDoorSatC
namespace Go.Proofs.YthkopnobekohcaaGreatDoor.Uni
open Go.RowKit Go.Lib

theorem size_any (u : Int) (w : World) : Calls Tryz.prog 74 #[.int .i64 u] w fun e w' => e = .returned (.int .i64 (sz u)) ∧ w = w' := by
  rcases sz_cases u with ⟨h, e⟩ | ⟨h, e⟩ | ⟨h, e⟩ | ⟨h1, h2, h3, e⟩
  all_goals
    rw [e]
    go_enter Tryz.func74, Tryz.ntmps74
    go_wp2
    go_ret
    exact ⟨rfl, rfl⟩

theorem rname_any (u : Int) (w : World) : Calls Tryz.prog 58 #[.int .i64 u] w fun e w' => e = .returned (.string (nmB u)) ∧ w = w' := by
  by_cases h1 : u = 1
  · subst h1
    go_enter Tryz.func58, Tryz.ntmps58
    go_wp2
    go_ret
    exact ⟨rfl, rfl⟩
  by_cases h2 : u = 2
  · subst h2
    go_enter Tryz.func58, Tryz.ntmps58
    go_wp2
    go_ret
    exact ⟨rfl, rfl⟩
  by_cases h3 : u = 3
  · subst h3
    go_enter Tryz.func58, Tryz.ntmps58
    go_wp2
    go_ret
    exact ⟨rfl, rfl⟩
  have e : nmB u = ⟨#[]⟩ := by unfold nmB; rw [if_neg h1, if_neg h2, if_neg h3]
  rw [e]
  go_enter Tryz.func58, Tryz.ntmps58
  go_wp2
  go_ret
  exact ⟨rfl, rfl⟩

theorem pa_none {s : ByteArray} (h : ∀ k : Nat, 1 ≤ k → k < 4 → nmB k ≠ s) : pa s = 0 := by
  have a1 := h 1 (by omega) (by omega); have a2 := h 2 (by omega) (by omega); have a3 := h 3 (by omega) (by omega)
  unfold pa
  rw [if_neg (fun e : s = nm1 => a1 e.symm), if_neg (fun e : s = nm2 => a2 e.symm), if_neg (fun e : s = nm3 => a3 e.symm)]
/-- What the ticks are within the range, and out of it. -/
theorem tick_doc {n u : Int} (hz : sz u ≠ 0) : (1 ≤ n → n ≤ 86400000 / sz u → tV n u = n * sz u ∧ tE n u 15 2 = 0 ∧ n * sz u ≤ 86400000) ∧ (n < 1 → tV n u = 0 ∧ tE n u 15 2 = 2) ∧ (86400000 / sz u < n → tV n u = 0 ∧ tE n u 15 2 = 2) := by
  have ho : okT n u = true ↔ (1 ≤ n ∧ n ≤ 86400000 / sz u) := by
    unfold okT
    rw [Bool.and_eq_true, Bool.and_eq_true, decide_eq_true_eq, decide_eq_true_eq, decide_eq_true_eq]
    exact ⟨fun h => h.2, fun h => ⟨hz, h⟩⟩
  have no : ¬ (1 ≤ n ∧ n ≤ 86400000 / sz u) → tV n u = 0 ∧ tE n u 15 2 = 2 := fun h => by
    have h2 : okT n u = false := by rw [Bool.eq_false_iff]; exact fun e => h (ho.1 e)
    exact ⟨tV_no h2, by unfold tE; rw [if_neg hz, h2]; rfl⟩
  refine ⟨fun a b => ?_, fun a => no (by omega), fun a => no (by omega)⟩
  have h := ho.2 ⟨a, b⟩
  have hv : tV n u = n * sz u := by unfold tV; rw [if_pos h]
  exact ⟨hv, tE_ok h, by have := tV_range h; omega⟩

theorem rticks_any (n u : Int) (w : World) (n0 : -9223372036854775808 ≤ n) (n1 : n ≤ 9223372036854775807) :
    Calls Tryz.prog 44 #[.int .i64 n, .int .i64 u] w fun e w' => e = .returned (.tuple #[.int .i64 (tV n u), .int .i64 (tE n u 15 2)]) ∧ w = w' := by
  have HI := Lib.hid fun W => size_any u W
  by_cases hz : sz u = 0
  · have hv : tV n u = 0 := tV_no (by unfold okT; rw [hz]; rfl)
    have he : tE n u 15 2 = 15 := by unfold tE; rw [if_pos hz]
    rw [hv, he]
    rw [hz] at HI
    clear hv he hz
    go_enter Tryz.func44, Tryz.ntmps44
    go_wp2_with (go_at_call 74; (with_reducible refine (HI.out _).mono ?_); rintro e w1 ⟨rfl, rfl⟩)
    go_ret2
    exact ⟨rfl, rfl⟩
  have hb : sz u = 1 ∨ sz u = 1000 ∨ sz u = 60000 := by have := sz_cases u; omega
  have hs := tick_doc (n := n) hz
  generalize sz u = z at *
  generalize tV n u = V at *
  generalize tE n u 15 2 = E at *
  obtain ⟨hs1, hs2, hs3⟩ := hs
  have H1 := Lib.hid hs1; have H2 := Lib.hid hs2; have H3 := Lib.hid hs3
  clear hs1 hs2 hs3
  by_cases k1 : n < 1
  · obtain ⟨rfl, rfl⟩ := H2.out k1
    obtain rfl | rfl | rfl := hb
    all_goals
      go_enter Tryz.func44, Tryz.ntmps44
      go_wp2_with (go_at_call 74; (with_reducible refine (HI.out _).mono ?_); rintro e w1 ⟨rfl, rfl⟩)
      go_ret2
      exact ⟨rfl, rfl⟩
  by_cases k2 : 86400000 / z < n
  · obtain ⟨rfl, rfl⟩ := H3.out k2
    obtain rfl | rfl | rfl := hb
    all_goals
      go_enter Tryz.func44, Tryz.ntmps44
      go_wp2_with (go_at_call 74; (with_reducible refine (HI.out _).mono ?_); rintro e w1 ⟨rfl, rfl⟩)
      go_ret2
      exact ⟨rfl, rfl⟩
  · obtain ⟨rfl, rfl, hle⟩ := H1.out (Int.not_lt.1 k1) (Int.not_lt.1 k2)
    obtain rfl | rfl | rfl := hb
    all_goals
      go_enter Tryz.func44, Tryz.ntmps44
      go_wp2_with (go_at_call 74; (with_reducible refine (HI.out _).mono ?_); rintro e w1 ⟨rfl, rfl⟩)
      go_ret2
      exact ⟨Sat.ret_int2 (by omega) rfl, rfl⟩

theorem rnorm_any (t : Int) (w : World) :
    Calls Tryz.prog 45 #[.int .i64 t] w fun e w' => e = .returned (.tuple #[.int .i64 (nN t), .int .i64 (nU t)]) ∧ w = w' := by
  have hcl : max (min t 86400000) 1 = cl t := by rw [cl_is]; omega
  have HC := Lib.hid fun W => hcl ▸ Sat.rclamp_any t 1 86400000 W
  have HE := Lib.hid fun k => norm_end (t := t) (k := k)
  have hr := cl_range t
  clear hcl
  generalize cl t = c at *
  have HS := Lib.hid fun u W => size_any u W
  go_enter Tryz.func45, Tryz.ntmps45
  go_wp2_with (go_at_call 75; (with_reducible refine (HC.out _).mono ?_); rintro e w1 ⟨rfl, rfl⟩)
  go_loop [5] (fun u => ∃ k : Nat, u = .int .i64 k ∧ 1 ≤ k ∧ k < 4 ∧ (k < 3 → c % 60000 ≠ 0) ∧ (k < 2 → c % 1000 ≠ 0)) (fun u => (RowKit.intOf u).toNat)
  case atStart => exact ⟨3, rfl, by omega, by omega, fun h => absurd h (by omega), fun h => absurd h (by omega)⟩
  case round =>
    obtain ⟨k, rfl, h1, h2, ha, hb⟩ := hrel
    have HS1 := Lib.hid fun W => HS.out k W
    have hz := sz_nat h1 h2
    have he := HE.out k h1 h2 ha hb
    generalize sz (k : Int) = z at *
    have z1 : 1 ≤ z := by omega
    have z2 : z ≤ 60000 := by omega
    by_cases hm : c % z = 0
    · have E := Lib.hid (he hm)
      have Hz := Lib.hid hz
      clear he hz
      by_cases k1 : 1 < k
      · go_wp2_with (go_at_call 74; (with_reducible refine (HS1.out _).mono ?_); rintro e w1 ⟨rfl, rfl⟩)
        go_ret2
        rw [E.out.1, E.out.2]
        exact ⟨rfl, rfl⟩
      · go_wp2_with fail
        go_ret2
        rw [E.out.1, E.out.2]
        have := Hz.out
        obtain ⟨rfl, rfl⟩ : k = 1 ∧ z = 1 := by omega
        exact ⟨Sat.ret_int2 (by omega) rfl, rfl⟩
    · have hk : 2 ≤ k ∧ c % 60000 ≠ 0 ∧ (k = 2 → c % 1000 ≠ 0) := by
        obtain ⟨rfl, rfl⟩ | ⟨rfl, rfl⟩ | ⟨rfl, rfl⟩ := hz
        · exact ⟨by omega, hm, fun h => absurd h (by omega)⟩
        · exact ⟨by omega, ha (by omega), fun _ => hm⟩
        · omega
      obtain ⟨k2, k3, k4⟩ := hk
      have K4 := Lib.hid k4
      clear k4 ha hb he
      go_wp2_with (go_at_call 74; (with_reducible refine (HS1.out _).mono ?_); rintro e w1 ⟨rfl, rfl⟩)
      go_round
      case rel => exact ⟨k - 1, by go_num, by omega, by omega, fun _ => k3, fun _ => K4.out (by omega)⟩
      case measure => simp [RowKit.intOf]; omega

end Go.Proofs.YthkopnobekohcaaGreatDoor.Uni
