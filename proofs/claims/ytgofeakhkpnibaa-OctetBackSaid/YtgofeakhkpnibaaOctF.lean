/- The document's answers on hexadecimal digits. Conditions: as each theorem states. -/
import Derived.Test.YtgofeakhkpnibaaOctE
namespace Go.Proofs.Ytgofeakhkpnibaa.Oct
open Go.RowKit Go.Lib Go.Proofs.Ytgofeakhkpnibaa.Byt

theorem ret_u8 {a b : Int} (h : a = b) : Ending.returned (.int .u8 a) = .returned (.int .u8 b) := by rw [h]
theorem ret_u8b {a b : Int} {c : Bool} (h : a = b) : Ending.returned (.tuple #[.int .u8 a, .bool c]) = .returned (.tuple #[.int .u8 b, .bool c]) := by rw [h]

theorem rdigit_any (n : Nat) (x : Int) (hx : x = (n : Int)) (h : n < 16) (w : World) :
    Calls Try.prog 20 #[.int .u8 x] w fun e w' => e = .returned (.int .u8 ((hexd n).toNat : Int)) ∧ w = w' := by
  subst hx
  have hh : (hexd n).toNat = if n < 10 then 48 + n else 87 + n := by unfold hexd; rw [ofNat_toNat _ (by split <;> omega)]
  by_cases h1 : n < 10
  · rw [if_pos h1] at hh
    have H := Lib.hid hh
    clear hh
    go_enter Try.func20, Try.ntmps20
    go_wp2
    go_ret
    exact ⟨ret_u8 (by rw [H.out]; omega), rfl⟩
  · rw [if_neg h1] at hh
    have H := Lib.hid hh
    clear hh
    go_enter Try.func20, Try.ntmps20
    go_wp2
    go_ret
    exact ⟨ret_u8 (by rw [H.out]; omega), rfl⟩

theorem rvalue_yes (c : UInt8) (h : dig c < 16) (w : World) :
    Calls Try.prog 19 #[.int .u8 (c.toNat : Int)] w fun e w' => e = .returned (.tuple #[.int .u8 (dig c : Nat), .bool true]) ∧ w = w' := by
  have hc := c.toNat_lt
  have hd : (48 ≤ c.toNat ∧ c.toNat ≤ 57 ∧ dig c = c.toNat - 48) ∨ (97 ≤ c.toNat ∧ c.toNat ≤ 102 ∧ dig c = c.toNat - 87) := by
    unfold dig at h ⊢
    (repeat' split) <;> (repeat' split at h) <;> omega
  generalize dig c = d at hd
  generalize c.toNat = n at hd hc
  clear h
  rcases hd with ⟨h1, h2, h3⟩ | ⟨h1, h2, h3⟩
  all_goals
    have H := Lib.hid h3
    clear h3
    go_enter Try.func19, Try.ntmps19
    go_wp2
    go_ret2
    exact ⟨ret_u8b (by rw [H.out]; omega), rfl⟩
theorem rvalue_no (c : UInt8) (h : ¬ dig c < 16) (w : World) :
    Calls Try.prog 19 #[.int .u8 (c.toNat : Int)] w fun e w' => e = .returned (.tuple #[.int .u8 0, .bool false]) ∧ w = w' := by
  have hc := c.toNat_lt
  have hd : (c.toNat < 48) ∨ (57 < c.toNat ∧ c.toNat < 97) ∨ (102 < c.toNat) := by
    unfold dig at h
    (repeat' split at h) <;> omega
  generalize c.toNat = n at hd hc
  clear h
  rcases hd with h1 | ⟨h1, h2⟩ | h1
  all_goals
    go_enter Try.func19, Try.ntmps19
    go_wp2
    go_ret2
    exact ⟨rfl, rfl⟩

set_option maxHeartbeats 1000000 in
theorem runhex_any (s : ByteArray) (w : World) (hs : s.size ≤ 140737488355328) :
    Calls Try.prog 12 #[.string s] w fun e w' => e = .returned (.tuple #[.string (unS s), .bool (unB s)]) ∧ Below w.heap.size w w' := by
  by_cases hodd : s.size % 2 = 1
  · have hn : unL s.data.toList = none := unL_odd _ (by simpa using hodd)
    have hb : (s.size : Int) % 2 = 1 := by omega
    rw [(unS_none hn).1, (unS_none hn).2]
    clear hn hodd
    go_enter Try.func12, Try.ntmps12
    go_wp2_with fail
    go_ret2
    exact ⟨rfl, Below.refl _ _⟩
  · have hev : ((s.size : Int) % 2 == 1) = false := by rw [beq_eq_false_iff_ne]; omega
    have hod : s.size % 2 ≠ 1 := hodd
    have HO := Lib.hid hod
    clear hodd hod
    go_enter Try.func12, Try.ntmps12
    go_wp2_with fail
    go_loopw [5, 4] (fun i v wr => ∃ j : Nat, ∃ u : List UInt8, j ≤ s.size ∧ j % 2 = 0 ∧ i = .int .i64 (j : Int) ∧ Own wr w.heap.size v u ∧ Hid (unL (s.data.toList.take j) = some u) ∧ Below w.heap.size w wr)
      (fun i _ _ => s.size - (RowKit.intOf i).toNat)
    case atStart => exact ⟨0, [], Nat.zero_le _, rfl, rfl, Own.nil _ _, (Lib.hid rfl), Below.refl _ _⟩
    case round =>
      obtain ⟨j, u, hm, h2, rfl, hown, hu, hb⟩ := hrel
      by_cases hlt : j < s.size
      · have hlt1 : j + 1 < s.size := by have := HO.out; omega
        have hA := Lib.hid (get_opt s j hlt)
        have hB := Lib.hid (get_opt s (j + 1) hlt1)
        have ul := un_len s j u hm hu
        by_cases da : dig s[j] < 16
        · by_cases db : dig s[j + 1] < 16
          · have HA := Lib.hid (fun w => rvalue_yes s[j] da w)
            have HB := Lib.hid (fun w => rvalue_yes s[j + 1] db w)
            have HU := Lib.hid (unL_step2 _ j u _ _ h2 hu.out hA.out hB.out ⟨da, db⟩)
            go_wp2_with (first
              | (go_at_call 19; first | ((with_reducible refine (HA.out _).mono ?_); rintro e w' ⟨rfl, rfl⟩) | ((with_reducible refine (HB.out _).mono ?_); rintro e w' ⟨rfl, rfl⟩))
              | (with_reducible refine wpList_push _ rfl _ _ rfl w.heap.size w _ _ rfl (hown.alloc _) (hb.alloc hb.size _) (Nat.le_refl _) _ _ _ rfl _ _ (heap_alloc_new _ _) [UInt8.ofNat (16 * dig s[j] + dig s[j + 1])] rfl (byte_one _ _ (by rw [ofNat_toNat _ (by omega)]; omega)) (by show u.length + 1 ≤ _; omega) ?_; intro v2 w2 hown2 hb2))
            go_roundw
            case rel => exact ⟨j + 2, _, by omega, by omega, by go_num, hown2, HU, hb2⟩
            case measure => simp [RowKit.intOf]; omega
          · have HA := Lib.hid (fun w => rvalue_yes s[j] da w)
            have HB := Lib.hid (fun w => rvalue_no s[j + 1] db w)
            have HU := Lib.hid (unS_none (unL_stop2 _ j u _ _ h2 hu.out hA.out hB.out (fun h => db h.2)))
            go_wp2_with (go_at_call 19; first | ((with_reducible refine (HA.out _).mono ?_); rintro e w' ⟨rfl, rfl⟩) | ((with_reducible refine (HB.out _).mono ?_); rintro e w' ⟨rfl, rfl⟩))
            go_ret2
            exact ⟨ret_sb HU.out.1.symm HU.out.2.symm, hb⟩
        · have HA := Lib.hid (fun w => rvalue_no s[j] da w)
          have HU := Lib.hid (unS_none (unL_stop2 _ j u _ _ h2 hu.out hA.out hB.out (fun h => da h.1)))
          by_cases db : dig s[j + 1] < 16
          · have HB := Lib.hid (fun w => rvalue_yes s[j + 1] db w)
            go_wp2_with (go_at_call 19; first | ((with_reducible refine (HA.out _).mono ?_); rintro e w' ⟨rfl, rfl⟩) | ((with_reducible refine (HB.out _).mono ?_); rintro e w' ⟨rfl, rfl⟩))
            go_ret2
            exact ⟨ret_sb HU.out.1.symm HU.out.2.symm, hb⟩
          · have HB := Lib.hid (fun w => rvalue_no s[j + 1] db w)
            go_wp2_with (go_at_call 19; first | ((with_reducible refine (HA.out _).mono ?_); rintro e w' ⟨rfl, rfl⟩) | ((with_reducible refine (HB.out _).mono ?_); rintro e w' ⟨rfl, rfl⟩))
            go_ret2
            exact ⟨ret_sb HU.out.1.symm HU.out.2.symm, hb⟩
      · obtain rfl : j = s.size := by omega
        have hu2 : unL s.data.toList = some u := by have := hu.out; rwa [List.take_of_length_le (by simp)] at this
        have HU := Lib.hid (unS_some hu2)
        clear hu2
        go_wp2_with (with_reducible refine wpList_string _ rfl _ rfl _ _ _ rfl hown ?_)
        go_ret2
        exact ⟨ret_sb HU.out.1.symm HU.out.2.symm, hb⟩

set_option maxHeartbeats 1000000 in
theorem rhex_any (s : ByteArray) (w : World) (hs : s.size ≤ 35184372088832) :
    Calls Try.prog 16 #[.string s] w fun e w' => e = .returned (.string ⟨(hexL s.data.toList).toArray⟩) ∧ Below w.heap.size w w' := by
  go_enter Try.func16, Try.ntmps16
  go_wp2_with fail
  go_loopw [7, 3, 4] (fun i v j wr => ∃ m : Nat, m ≤ s.size ∧ i = .int .i64 m ∧ Own wr w.heap.size v (hexL (s.data.toList.take m)) ∧ Below w.heap.size w wr)
    (fun i _ _ _ => s.size - (RowKit.intOf i).toNat)
  case atStart => exact ⟨0, Nat.zero_le _, rfl, Own.nil _ _, Below.refl _ _⟩
  case round =>
    obtain ⟨m, hm, rfl, hown, hb⟩ := hrel
    by_cases hlt : m < s.size
    · have hb8 : s[m].toNat < 256 := s[m].toNat_lt
      have hlen : (hexL (s.data.toList.take m)).length = 2 * m := by rw [hexL_length]; simp; omega
      have hw1 : IntKind.u8.wrap ((s[m].toNat : Int) / 16) = (s[m].toNat : Int) / 16 := by rw [IntKind.wrap_u8]; omega
      have hw2 : IntKind.u8.wrap ((s[m].toNat : Int) % 16) = (s[m].toNat : Int) % 16 := by rw [IntKind.wrap_u8]; omega
      have hw3 : (s[m].toNat : Int).tmod 16 = (s[m].toNat : Int) % 16 := Int.tmod_eq_emod_of_nonneg (by omega)
      have HA := Lib.hid (fun w => rdigit_any (s[m].toNat / 16) ((s[m].toNat : Int) / 16) (by omega) (by omega) w)
      have HB := Lib.hid (fun w => rdigit_any (s[m].toNat % 16) ((s[m].toNat : Int) % 16) (by omega) (by omega) w)
      go_wp2_with fail
      go_region_law (first
        | (refine step_push _ (by rfl) (.tmp 10) (.tmp 21) (by rfl) w.heap.size w _ _ (by rfl) (by exact hown.alloc _) (by exact (hb.alloc hb.size _).drew) (Nat.le_refl _) _ _ _ (by rfl) _ _ (by exact heap_alloc_new _ _) [hexd (s[m].toNat / 16), hexd (s[m].toNat % 16)] rfl (by rfl) (by rw [hlen]; show 2 * m + 2 ≤ _; omega) ?_; intro v2 w2 hown2 hb2)
        | (go_simp; go_at_call 20; first | ((with_reducible refine (HA.out _).mono ?_); rintro e w' ⟨rfl, rfl⟩) | ((with_reducible refine (HB.out _).mono ?_); rintro e w' ⟨rfl, rfl⟩)))
      all_goals
        go_wp2
        go_roundw
        case rel => exact ⟨m + 1, by omega, by go_num, by rw [hexL_step s m hlt]; exact hown2, hb2⟩
        case measure => simp [RowKit.intOf]; omega
    · obtain rfl : m = s.size := by omega
      go_wp2_with (with_reducible refine wpList_string _ rfl _ rfl _ _ _ rfl hown ?_)
      go_ret
      exact ⟨ret_str (by rw [List.take_of_length_le (by simp)]), hb⟩
end Go.Proofs.Ytgofeakhkpnibaa.Oct
