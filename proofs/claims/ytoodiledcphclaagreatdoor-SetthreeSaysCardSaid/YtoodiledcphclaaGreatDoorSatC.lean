/- Contracts of the document's own answers for the layer 'sat'. Conditions: as each theorem states. -/
import Derived.Test.YtoodiledcphclaaGreatDoorSatB
namespace Go.Proofs.YtoodiledcphclaaGreatDoor.Sat
open Go.RowKit Go.Lib

theorem rgcd_any (a b : Int) (w : World) (_a0 : -9223372036854775808 ≤ a) (a1 : a ≤ 9223372036854775807) (_b0 : -9223372036854775808 ≤ b) (b1 : b ≤ 9223372036854775807) :
    Calls Tryz.prog 38 #[.int .i64 a, .int .i64 b] w fun e w' => e = .returned (.int .i64 (gd a b)) ∧ ∃ n, w' = w.drewN n := by
  obtain ⟨V, hV⟩ : ∃ V : Int, gd a b = V := ⟨_, rfl⟩
  rw [hV]
  have HV := Lib.hid hV; clear hV
  go_enter Tryz.func38, Tryz.ntmps38
  go_wp2
  all_goals
    go_loopw [5, 6] (fun p q wr => ∃ x y : Nat, x ≤ 9223372036854775807 ∧ y ≤ 9223372036854775807 ∧ p = .int .i64 (x : Int) ∧ q = .int .i64 (y : Int) ∧ Hid (V = ((Nat.gcd x y : Nat) : Int)) ∧ ∃ n, wr = w.drewN n) (fun _ q _ => (intOf q).toNat)
    case atStart =>
      refine ⟨a.toNat, b.toNat, by omega, by omega, ?_, ?_, Lib.hid ?_, ⟨0, rfl⟩⟩
      · congr 1; omega
      · congr 1; omega
      · exact HV.out.symm
    case round =>
      obtain ⟨x, y, hx, hy, rfl, rfl, hg, n, rfl⟩ := hrel
      by_cases h0 : y = 0
      · subst h0
        go_wp2
        go_ret
        exact ⟨ret_int (by rw [hg.out, Nat.gcd_zero_right]), n, rfl⟩
      · have hs := gcd_step x y h0
        have hm : (x : Int) % (y : Int) = ((x % y : Nat) : Int) := (Int.natCast_emod x y).symm
        have hm2 : x % y < y := Nat.mod_lt _ (by omega)
        have HS := Lib.hid hs
        have HM := Lib.hid hm
        clear hs hm
        have hy0 : 0 < y := by omega
        clear h0
        go_wp2
        go_quiet (fail)
        go_wp2
        go_roundw
        case rel => exact ⟨y, x % y, hy, by omega, rfl, by rw [HM.out], Lib.hid (by rw [HS.out]; exact hg.out), n + nq, by rw [World.drewN_drewN]⟩
        case measure => have := HM.out; simp only [intOf]; omega

end Go.Proofs.YtoodiledcphclaaGreatDoor.Sat
