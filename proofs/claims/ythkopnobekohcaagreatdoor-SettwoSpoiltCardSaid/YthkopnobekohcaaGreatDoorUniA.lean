/- Contracts of unit's is, Ticks, Norm, Name, Parse. Conditions: the table of units reads as the program lays it. -/
import Derived.Test.YthkopnobekohcaaGreatDoorUniMath
import Derived.Test.YthkopnobekohcaaGreatDoorSatB
import Derived.Lib.Hide
import Derived.Laws.Cover1
namespace Go.Proofs.YthkopnobekohcaaGreatDoor.Uni
open Go.RowKit Go.Lib

/-- The table of units reads as the program lays it. -/
def Tab (w : World) : Prop := ∀ u : Nat, u < 4 → w.cell? ⟨1, u * 2, none⟩ = some (.string (nmB u)) ∧ w.cell? ⟨1, u * 2 + 1, none⟩ = some (.int .i64 (sz u))
theorem Tab.next {w W : World} (h : Tab w) (hb : Below w.heap.size w W) : Tab W := fun u hu => by
  have hc := h u hu
  have hlt : 1 < w.heap.size := by
    rcases Nat.lt_or_ge 1 w.heap.size with h' | h'
    · exact h'
    · have := hc.1
      simp [World.cell?, Array.getElem?_eq_none h'] at this
  exact ⟨(hb.cell (p := ⟨_, u * 2, none⟩) hlt).trans hc.1, (hb.cell (p := ⟨_, u * 2 + 1, none⟩) hlt).trans hc.2⟩

/-- Is there such a unit? -/
def isU (u : Int) : Bool := decide (1 ≤ u) && decide (u ≤ 3)

theorem is_any (u : Int) (w : World) : Calls Tryz.prog 60 #[.int .i64 u] w fun e w' => e = .returned (.bool (isU u)) ∧ w = w' := by
  unfold isU
  by_cases h1 : 1 ≤ u
  all_goals by_cases h2 : u ≤ 3
  all_goals
    go_enter Tryz.func60, Tryz.ntmps60
    go_wp2
    go_ret
    exact ⟨by simp [h1, h2], rfl⟩

/-- A unit that there is, as a place of the table. -/
theorem isU_nat {u : Int} (h : isU u = true) : ∃ k : Nat, u = (k : Int) ∧ 1 ≤ k ∧ k < 4 := by
  unfold isU at h
  rw [Bool.and_eq_true, decide_eq_true_eq, decide_eq_true_eq] at h
  exact ⟨u.toNat, by omega, by omega, by omega⟩
theorem isU_sz {u : Int} (h : isU u = false) : sz u = 0 := by
  unfold isU at h
  rw [Bool.and_eq_false_iff, decide_eq_false_iff_not, decide_eq_false_iff_not] at h
  have := sz_cases u
  omega

/-- The held product and the range: what the ticks are. -/
theorem tick_sat {n u : Int} (hu : isU u = true) : 
    (Sat.hold (n * sz u) < 1 → tV n u = 0 ∧ tE n u 15 2 = 2) ∧ (86400000 < Sat.hold (n * sz u) → tV n u = 0 ∧ tE n u 15 2 = 2)
    ∧ (¬ Sat.hold (n * sz u) < 1 → ¬ 86400000 < Sat.hold (n * sz u) → tV n u = Sat.hold (n * sz u) ∧ tE n u 15 2 = 0) := by
  obtain ⟨k, rfl, h1, h2⟩ := isU_nat hu
  have h0 : sz (k : Int) ≠ 0 := by have := sz_cases k; omega
  have hok := okT_iff n k
  have hin := tV_in (n := n) (u := k)
  have hno := tV_no (n := n) (u := k)
  have hd : n * sz k = (if k = 1 then n else if k = 2 then n * 1000 else n * 60000) := by
    obtain rfl | rfl | rfl : k = 1 ∨ k = 2 ∨ k = 3 := by omega
    · exact Int.mul_one n
    · rfl
    · rfl
  rw [hd]
  cases ho : okT n k
  · have hE : tE n k 15 2 = 2 := by unfold tE; rw [if_neg h0, ho]; rfl
    unfold Sat.hold
    rw [ho] at hok
    have := hno ho
    rw [hE, this]
    refine ⟨fun _ => ⟨rfl, rfl⟩, fun _ => ⟨rfl, rfl⟩, fun a b => ?_⟩
    exfalso
    simp only [Bool.false_eq_true, false_iff, not_or] at hok
    revert a b
    (repeat' split) <;> omega
  · have hE : tE n k 15 2 = 0 := tE_ok ho
    unfold Sat.hold
    rw [ho] at hok
    have hh := hok.1 rfl
    have hi := hin ho
    rw [hE]
    refine ⟨fun a => ?_, fun a => ?_, fun a b => ⟨?_, rfl⟩⟩
    · exfalso; revert a; (repeat' split) <;> omega
    · exfalso; revert a; (repeat' split) <;> omega
    · (repeat' split) <;> omega

theorem ticks_any (n u : Int) (w : World) (n0 : -9223372036854775808 ≤ n) (n1 : n ≤ 9223372036854775807) (hT : Tab w) :
    Calls Tryz.prog 39 #[.int .i64 n, .int .i64 u] w fun e w' => e = .returned (.tuple #[.int .i64 (tV n u), .int .i64 (tE n u 15 2)]) ∧ w = w' := by
  have HI := Lib.hid fun W => is_any u W
  cases hu : isU u
  · have hz := isU_sz hu
    have hv : tV n u = 0 := tV_no (by unfold okT; rw [hz]; rfl)
    have he : tE n u 15 2 = 15 := by unfold tE; rw [if_pos hz]
    rw [hv, he]
    rw [hu] at HI
    clear hv he hz hu
    go_enter Tryz.func39, Tryz.ntmps39
    go_wp2_with (go_at_call 60; (with_reducible refine (HI.out _).mono ?_); rintro e w1 ⟨rfl, rfl⟩)
    go_ret2
    exact ⟨rfl, rfl⟩
  · have hs := tick_sat (n := n) hu
    rw [hu] at HI
    obtain ⟨k, rfl, h1, h2⟩ := isU_nat hu
    have hc := (hT k h2).2
    have hb : -9223372036854775808 ≤ sz (k : Int) ∧ sz (k : Int) ≤ 9223372036854775807 := by have := sz_cases k; omega
    have HM := Lib.hid fun W => Sat.mul_any n (sz k) W n0 n1 hb.1 hb.2
    obtain ⟨a1, a2, a3⟩ := hs
    have A1 := Lib.hid a1; have A2 := Lib.hid a2; have A3 := Lib.hid a3
    clear a1 a2 a3 hb hu n0 n1 hT
    generalize Sat.hold (n * sz k) = m at *
    generalize sz (k : Int) = z at *
    by_cases g1 : m < 1
    all_goals by_cases g2 : 86400000 < m
    all_goals try omega
    all_goals
      go_enter Tryz.func39, Tryz.ntmps39
      go_wp2_with (first
        | (go_at_call 60; (with_reducible refine (HI.out _).mono ?_); rintro e w1 ⟨rfl, rfl⟩)
        | (go_at_call 61; (with_reducible refine (HM.out _).mono ?_); rintro e w1 ⟨rfl, rfl⟩))

      go_ret2
      first
        | (have h := A1.out g1; rw [h.1, h.2]; exact ⟨rfl, rfl⟩)
        | (have h := A2.out g2; rw [h.1, h.2]; exact ⟨rfl, rfl⟩)
        | (have h := A3.out g1 g2; rw [h.1, h.2]; exact ⟨rfl, rfl⟩)

theorem sz_nat {k : Nat} (h1 : 1 ≤ k) (h2 : k < 4) : (k = 3 ∧ sz k = 60000) ∨ (k = 2 ∧ sz k = 1000) ∨ (k = 1 ∧ sz k = 1) := by
  have := sz_cases k
  omega
/-- Where the search for the unit ends. -/
theorem norm_end {t : Int} {k : Nat} (h1 : 1 ≤ k) (h2 : k < 4) (a : k < 3 → cl t % 60000 ≠ 0) (b : k < 2 → cl t % 1000 ≠ 0) (h : cl t % sz k = 0) : nN t = cl t / sz k ∧ nU t = (k : Int) := by
  unfold nN nU
  obtain ⟨rfl, e⟩ | ⟨rfl, e⟩ | ⟨rfl, e⟩ := sz_nat h1 h2
  · rw [e] at h ⊢
    rw [if_pos h, if_pos h]
    exact ⟨rfl, rfl⟩
  · rw [e] at h ⊢
    rw [if_neg (a (by omega)), if_neg (a (by omega)), if_pos h, if_pos h]
    exact ⟨rfl, rfl⟩
  · rw [e] at h ⊢
    rw [if_neg (a (by omega)), if_neg (a (by omega)), if_neg (b (by omega)), if_neg (b (by omega))]
    exact ⟨(Int.ediv_one _).symm, rfl⟩

theorem norm_any (t : Int) (w : World) (hT : Tab w) :
    Calls Tryz.prog 40 #[.int .i64 t] w fun e w' => e = .returned (.tuple #[.int .i64 (nN t), .int .i64 (nU t)]) ∧ w = w' := by
  have hcl : max (min t 86400000) 1 = cl t := by rw [cl_is]; omega
  have HC := Lib.hid fun W => hcl ▸ Sat.clamp_any t 1 86400000 W
  have HE := Lib.hid fun k => norm_end (t := t) (k := k)
  have hr := cl_range t
  clear hcl
  generalize cl t = c at *
  go_enter Tryz.func40, Tryz.ntmps40
  go_wp2_with (go_at_call 62; (with_reducible refine (HC.out _).mono ?_); rintro e w1 ⟨rfl, rfl⟩)
  go_loop [4] (fun u => ∃ k : Nat, u = .int .i64 k ∧ 1 ≤ k ∧ k < 4 ∧ (k < 3 → c % 60000 ≠ 0) ∧ (k < 2 → c % 1000 ≠ 0)) (fun u => (RowKit.intOf u).toNat)
  case atStart => exact ⟨3, rfl, by omega, by omega, fun h => absurd h (by omega), fun h => absurd h (by omega)⟩
  case round =>
    obtain ⟨k, rfl, h1, h2, ha, hb⟩ := hrel
    have hc := (hT k h2).2
    have hz := sz_nat h1 h2
    have he := HE.out k h1 h2 ha hb
    generalize sz (k : Int) = z at *
    have z1 : 1 ≤ z := by omega
    have z2 : z ≤ 60000 := by omega
    by_cases hm : c % z = 0
    · have e := he hm
      have E := Lib.hid e
      clear e he
      go_wp2_with fail
      go_ret2
      rw [E.out.1, E.out.2]
      exact ⟨rfl, rfl⟩
    · have hk : 2 ≤ k ∧ c % 60000 ≠ 0 ∧ (k = 2 → c % 1000 ≠ 0) := by
        obtain ⟨rfl, rfl⟩ | ⟨rfl, rfl⟩ | ⟨rfl, rfl⟩ := hz
        · exact ⟨by omega, hm, fun h => absurd h (by omega)⟩
        · exact ⟨by omega, ha (by omega), fun _ => hm⟩
        · omega
      obtain ⟨k2, k3, k4⟩ := hk
      have K4 := Lib.hid k4
      clear k4 ha hb he
      go_wp2_with fail
      go_round
      case rel => exact ⟨k - 1, by go_num, by omega, by omega, fun _ => k3, fun _ => K4.out (by omega)⟩
      case measure => simp [RowKit.intOf]; omega
end Go.Proofs.YthkopnobekohcaaGreatDoor.Uni
