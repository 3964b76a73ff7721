/- Contracts of the calls of package sat: the product, the division bit by bit, the quotient of a product, the greatest common divisor. Conditions: as each theorem states. -/
import Derived.Test.YtoodiledcphclaaGreatDoorSatA
namespace Go.Proofs.YtoodiledcphclaaGreatDoor.Sat
open Go.RowKit Go.Lib

theorem split_prod (x y : Nat) (hx : x ≤ 9223372036854775808) (hy : y ≤ 9223372036854775808) :
    ∃ hi lo : Nat, Hid (x * y = hi * 18446744073709551616 + lo) ∧ lo < 18446744073709551616 ∧ hi < 18446744073709551616 := by
  refine ⟨x * y / 18446744073709551616, x * y % 18446744073709551616, Lib.hid (by omega), by omega, ?_⟩
  have := Nat.mul_le_mul hx hy
  omega

theorem abs_mul_same (a b : Int) (h : (a < 0) = (b < 0)) : a * b = ((a.natAbs * b.natAbs : Nat) : Int) := by
  rw [← Int.natAbs_mul]
  by_cases ha : a < 0
  · have hb : b < 0 := by rw [← h]; exact ha
    have := Int.mul_pos_of_neg_of_neg ha hb
    omega
  · have hb : ¬ b < 0 := by rw [← h]; exact ha
    have := Int.mul_nonneg (Int.not_lt.mp ha) (Int.not_lt.mp hb)
    omega
theorem abs_mul_other (a b : Int) (h : (a < 0) = ¬ (b < 0)) : a * b = -((a.natAbs * b.natAbs : Nat) : Int) := by
  rw [← Int.natAbs_mul]
  by_cases ha : a < 0
  · have hb : ¬ b < 0 := by rw [← h]; exact ha
    have := Int.mul_nonneg (a := -a) (b := b) (by omega) (by omega)
    rw [Int.neg_mul] at this
    omega
  · have hb : b < 0 := by simpa [ha] using h
    have := Int.mul_nonneg (a := a) (b := -b) (by omega) (by omega)
    rw [Int.mul_neg] at this
    omega

theorem md_of (a b c : Int) (hi lo : Nat) (h : a.toNat * b.toNat = hi * 18446744073709551616 + lo) :
    md a b c = min 9223372036854775807 (((hi * 18446744073709551616 + lo) / (max c 1).toNat : Nat) : Int) := by
  unfold md
  have ea : max a 0 = (a.toNat : Int) := by omega
  have eb : max b 0 = (b.toNat : Int) := by omega
  have ec : max c 1 = ((max c 1).toNat : Int) := by omega
  rw [ea, eb, ← Int.natCast_mul, h]
  conv => lhs; rw [ec]
  rw [← Int.natCast_ediv]

theorem quot_lt (h l c : Nat) (hc : h < c) (hl : l < 18446744073709551616) : (h * 18446744073709551616 + l) / c < 18446744073709551616 := by
  have := dpart_lt h l c 64 hc hl (by omega)
  rwa [dpart_end] at this

theorem gcd_step (x y : Nat) (_h : y ≠ 0) : Nat.gcd y (x % y) = Nat.gcd x y := by
  rw [Nat.gcd_comm x y, Nat.gcd_rec y x, Nat.gcd_comm]

theorem gcd_any (a b : Int) (w : World) (_a0 : -9223372036854775808 ≤ a) (a1 : a ≤ 9223372036854775807) (_b0 : -9223372036854775808 ≤ b) (b1 : b ≤ 9223372036854775807) :
    Calls Tryz.prog 33 #[.int .i64 a, .int .i64 b] w fun e w' => e = .returned (.int .i64 (gd a b)) ∧ ∃ n, w' = w.drewN n := by
  obtain ⟨V, hV⟩ : ∃ V : Int, gd a b = V := ⟨_, rfl⟩
  rw [hV]
  have HV := Lib.hid hV; clear hV
  go_enter Tryz.func33, Tryz.ntmps33
  go_wp2
  all_goals
    go_loopw [0, 1] (fun p q wr => ∃ x y : Nat, x ≤ 9223372036854775807 ∧ y ≤ 9223372036854775807 ∧ p = .int .i64 (x : Int) ∧ q = .int .i64 (y : Int) ∧ Hid (V = ((Nat.gcd x y : Nat) : Int)) ∧ ∃ n, wr = w.drewN n) (fun _ q _ => (intOf q).toNat)
    case atStart => 
      refine ⟨a.toNat, b.toNat, by omega, by omega, ?_, ?_, Lib.hid ?_, ⟨0, rfl⟩⟩
      · congr 1; omega
      · congr 1; omega
      · exact HV.out.symm
    case round =>
      obtain ⟨x, y, hx, hy, rfl, rfl, hg, n, rfl⟩ := hrel
      by_cases h0 : y = 0
      · subst h0
        go_wp2
        go_ret
        exact ⟨ret_int (by rw [hg.out, Nat.gcd_zero_right]), n, rfl⟩
      · have hs := gcd_step x y h0
        have hm : (x : Int) % (y : Int) = ((x % y : Nat) : Int) := (Int.natCast_emod x y).symm
        have hm2 : x % y < y := Nat.mod_lt _ (by omega)
        have HS := Lib.hid hs
        have HM := Lib.hid hm
        clear hs hm
        have hy0 : 0 < y := by omega
        clear h0
        go_wp2
        go_quiet (fail)
        go_wp2
        go_roundw
        case rel => exact ⟨y, x % y, hy, by omega, rfl, by rw [HM.out], Lib.hid (by rw [HS.out]; exact hg.out), n + nq, by rw [World.drewN_drewN]⟩
        case measure => have := HM.out; simp only [intOf]; omega

end Go.Proofs.YtoodiledcphclaaGreatDoor.Sat
