/- Contracts of Hex. Conditions: as each theorem states. -/
import Derived.Test.YthnfbajdjkpbpaaDoorOctC
import Derived.Laws.BitsAllLaws
namespace Go.Proofs.YthnfbajdjkpbpaaDoor.Oct
open Go.RowKit Go.Lib Go.Proofs.YthnfbajdjkpbpaaDoor.Byt

theorem hexL_step (t : ByteArray) (m : Nat) (h : m < t.size) : hexL (t.data.toList.take (m + 1)) = hexL (t.data.toList.take m) ++ [hexd (t[m].toNat / 16), hexd (t[m].toNat % 16)] := by
  have h2 : m < t.data.toList.length := by simpa using h
  rw [List.take_succ_eq_append_getElem h2, hexL_append]
  rfl

theorem digit_at (n : Nat) (i : Int) (hi : i = (n : Int)) (h : n < 16) (w : World) :
    (Instr.index 9 (.string ⟨#[48, 49, 50, 51, 52, 53, 54, 55, 56, 57, 97, 98, 99, 100, 101, 102]⟩) (.int .u8 i)).run Tryd.prog w = .ok (.int .u8 ((hexd n).toNat : Int)) w := by
  subst hi
  have hz : (⟨#[48, 49, 50, 51, 52, 53, 54, 55, 56, 57, 97, 98, 99, 100, 101, 102]⟩ : ByteArray).size = 16 := rfl
  rw [run_index_string w 9 _ .u8 (n : Int) Tryd.underlying9, dif_pos ⟨by omega, by rw [hz]; omega⟩]
  have e : ∀ k : Fin 16, ((⟨#[48, 49, 50, 51, 52, 53, 54, 55, 56, 57, 97, 98, 99, 100, 101, 102]⟩ : ByteArray)[k.val]'k.isLt).toNat = (hexd k.val).toNat := by decide
  have e2 := e ⟨n, h⟩
  simp only [Int.toNat_natCast]
  rw [e2]

theorem and_15 (n : Nat) (h : n < 256) : bits .and .u8 (n : Int) 15 = (n : Int) % 16 := by
  have h1 := u8_and_nat n 15 h (by omega)
  have e : n &&& 15 = n % 16 := Nat.and_two_pow_sub_one_eq_mod n 4
  rw [e] at h1
  have h2 : bits .and .u8 (n : Int) 15 = ((n % 16 : Nat) : Int) := h1
  rw [h2]; omega
theorem ret_str {a b : ByteArray} (h : a = b) : Ending.returned (.string a) = .returned (.string b) := by rw [h]

set_option maxHeartbeats 400000 in
theorem hex_any (s : ByteArray) (w : World) (hs : s.size ≤ 35184372088832) :
    Calls Tryd.prog 16 #[.string s] w fun e w' => e = .returned (.string ⟨(hexL s.data.toList).toArray⟩) ∧ Below w.heap.size w w' := by
  go_enter Tryd.func16, Tryd.ntmps16
  go_wp2_with (with_reducible refine wpList_emptied _ rfl _ _ rfl w.heap.size w (Below.refl _ _) (Nat.le_refl _) _ _ (2 * s.size) rfl rfl rfl (by omega) (by omega) ?_; intro v1 w1 hown1 hb1)
  go_loopw [11, 3, 4] (fun i v j wr => ∃ m : Nat, m ≤ s.size ∧ i = .int .i64 m ∧ Own wr w.heap.size v (hexL (s.data.toList.take m)) ∧ Below w.heap.size w wr)
    (fun i _ _ _ => s.size - (RowKit.intOf i).toNat)
  case atStart => exact ⟨0, Nat.zero_le _, rfl, hown1, hb1⟩
  case round =>
    obtain ⟨m, hm, rfl, hown, hb⟩ := hrel
    by_cases hlt : m < s.size
    · have hb8 : s[m].toNat < 256 := s[m].toNat_lt
      have hb9 : (s[m].toNat : Int) / 16 < 16 := by omega
      have hbl := Own.alloc hown
      have hlen : (hexL (s.data.toList.take m)).length = 2 * m := by rw [hexL_length]; simp; omega
      have hx1 := fun w => digit_at (s[m].toNat / 16) ((s[m].toNat : Int) / 16) (by omega) (by omega) w
      have hx2 := fun w => digit_at (s[m].toNat % 16) ((s[m].toNat : Int) % 16) (by omega) (by omega) w
      have hx3 := and_15 s[m].toNat hb8
      go_wp2_with fail
      go_region_law ((refine step_push _ (by rfl) (.tmp 14) (.tmp 25) (by rfl) w.heap.size w _ _ (by rfl) (by exact hown.alloc _) (by exact (hb.alloc hb.size _).drew) (Nat.le_refl _) _ _ _ (by rfl) _ _ (by exact heap_alloc_new _ _) [hexd (s[m].toNat / 16), hexd (s[m].toNat % 16)] rfl (by rfl) (by rw [hlen]; show 2 * m + 2 ≤ _; omega) ?_; intro v2 w2 hown2 hb2))
      all_goals
        go_wp2
        go_roundw
        case rel => exact ⟨m + 1, by omega, by go_num, by rw [hexL_step s m hlt]; exact hown2, hb2⟩
        case measure => simp [RowKit.intOf]; omega
    · obtain rfl : m = s.size := by omega
      go_wp2_with (with_reducible refine wpList_string _ rfl _ rfl _ _ _ rfl hown ?_)
      go_ret
      exact ⟨ret_str (by rw [List.take_of_length_le (by simp)]), hb⟩
end Go.Proofs.YthnfbajdjkpbpaaDoor.Oct
