/- The document's answers on hexadecimal digits. Conditions: as each theorem states. -/
import Derived.Test.YthnfbajdjkpbpaaDoorOctE
namespace Go.Proofs.YthnfbajdjkpbpaaDoor.Oct
open Go.RowKit Go.Lib Go.Proofs.YthnfbajdjkpbpaaDoor.Byt

theorem ret_u8 {a b : Int} (h : a = b) : Ending.returned (.int .u8 a) = .returned (.int .u8 b) := by rw [h]
theorem ret_u8b {a b : Int} {c : Bool} (h : a = b) : Ending.returned (.tuple #[.int .u8 a, .bool c]) = .returned (.tuple #[.int .u8 b, .bool c]) := by rw [h]

theorem rdigit_any (n : Nat) (x : Int) (hx : x = (n : Int)) (h : n < 16) (w : World) :
    Calls Tryd.prog 37 #[.int .u8 x] w fun e w' => e = .returned (.int .u8 ((hexd n).toNat : Int)) ∧ w = w' := by
  subst hx
  have hh : (hexd n).toNat = if n < 10 then 48 + n else 87 + n := by unfold hexd; rw [ofNat_toNat _ (by split <;> omega)]
  by_cases h1 : n < 10
  · rw [if_pos h1] at hh
    have H := Lib.hid hh
    clear hh
    go_enter Tryd.func37, Tryd.ntmps37
    go_wp2
    go_ret
    exact ⟨ret_u8 (by rw [H.out]; omega), rfl⟩
  · rw [if_neg h1] at hh
    have H := Lib.hid hh
    clear hh
    go_enter Tryd.func37, Tryd.ntmps37
    go_wp2
    go_ret
    exact ⟨ret_u8 (by rw [H.out]; omega), rfl⟩

set_option maxHeartbeats 1000000 in
theorem rhex_any (s : ByteArray) (w : World) (hs : s.size ≤ 35184372088832) :
    Calls Tryd.prog 23 #[.string s] w fun e w' => e = .returned (.string ⟨(hexL s.data.toList).toArray⟩) ∧ Below w.heap.size w w' := by
  go_enter Tryd.func23, Tryd.ntmps23
  go_wp2_with fail
  go_loopw [7, 3, 4] (fun i v j wr => ∃ m : Nat, m ≤ s.size ∧ i = .int .i64 m ∧ Own wr w.heap.size v (hexL (s.data.toList.take m)) ∧ Below w.heap.size w wr)
    (fun i _ _ _ => s.size - (RowKit.intOf i).toNat)
  case atStart => exact ⟨0, Nat.zero_le _, rfl, Own.nil _ _, Below.refl _ _⟩
  case round =>
    obtain ⟨m, hm, rfl, hown, hb⟩ := hrel
    by_cases hlt : m < s.size
    · have hb8 : s[m].toNat < 256 := s[m].toNat_lt
      have hlen : (hexL (s.data.toList.take m)).length = 2 * m := by rw [hexL_length]; simp; omega
      have hw1 : IntKind.u8.wrap ((s[m].toNat : Int) / 16) = (s[m].toNat : Int) / 16 := by rw [IntKind.wrap_u8]; omega
      have hw2 : IntKind.u8.wrap ((s[m].toNat : Int) % 16) = (s[m].toNat : Int) % 16 := by rw [IntKind.wrap_u8]; omega
      have hw3 : (s[m].toNat : Int).tmod 16 = (s[m].toNat : Int) % 16 := Int.tmod_eq_emod_of_nonneg (by omega)
      have HA := Lib.hid (fun w => rdigit_any (s[m].toNat / 16) ((s[m].toNat : Int) / 16) (by omega) (by omega) w)
      have HB := Lib.hid (fun w => rdigit_any (s[m].toNat % 16) ((s[m].toNat : Int) % 16) (by omega) (by omega) w)
      go_wp2_with fail
      go_region_law (first
        | (refine step_push _ (by rfl) (.tmp 10) (.tmp 21) (by rfl) w.heap.size w _ _ (by rfl) (by exact hown.alloc _) (by exact (hb.alloc hb.size _).drew) (Nat.le_refl _) _ _ _ (by rfl) _ _ (by exact heap_alloc_new _ _) [hexd (s[m].toNat / 16), hexd (s[m].toNat % 16)] rfl (by rfl) (by rw [hlen]; show 2 * m + 2 ≤ _; omega) ?_; intro v2 w2 hown2 hb2)
        | (go_simp; go_at_call 37; first | ((with_reducible refine (HA.out _).mono ?_); rintro e w' ⟨rfl, rfl⟩) | ((with_reducible refine (HB.out _).mono ?_); rintro e w' ⟨rfl, rfl⟩)))
      all_goals
        go_wp2
        go_roundw
        case rel => exact ⟨m + 1, by omega, by go_num, by rw [hexL_step s m hlt]; exact hown2, hb2⟩
        case measure => simp [RowKit.intOf]; omega
    · obtain rfl : m = s.size := by omega
      go_wp2_with (with_reducible refine wpList_string _ rfl _ rfl _ _ _ rfl hown ?_)
      go_ret
      exact ⟨ret_str (by rw [List.take_of_length_le (by simp)]), hb⟩
end Go.Proofs.YthnfbajdjkpbpaaDoor.Oct
