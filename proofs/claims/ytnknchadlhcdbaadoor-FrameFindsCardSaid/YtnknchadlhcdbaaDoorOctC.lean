/- Contracts of Take. Conditions: as each theorem states. -/
import Derived.Test.YtnknchadlhcdbaaDoorOctB
import Derived.Laws.Bits64b
namespace Go.Proofs.YtnknchadlhcdbaaDoor.Oct
open Go.RowKit Go.Lib Go.Proofs.YtnknchadlhcdbaaDoor.Byt

theorem ret_ub {a b : Int} {c : Bool} (h : a = b) : Ending.returned (.tuple #[.int .u64 a, .bool c]) = .returned (.tuple #[.int .u64 b, .bool c]) := by rw [h]
theorem take_lt (t : ByteArray) (m : Nat) (h : m ≤ 7) : takeL 0 (t.data.toList.take m) < 72057594037927936 := by
  have h1 := takeL_lt (t.data.toList.take m) 0 0 (by decide)
  have h2 : (t.data.toList.take m).length ≤ 7 := by simp; omega
  have h3 : 256 ^ (0 + (t.data.toList.take m).length) ≤ 256 ^ 7 := Nat.pow_le_pow_right (by decide) (by omega)
  exact Nat.lt_of_lt_of_le h1 h3
theorem take_step (t : ByteArray) (m : Nat) (h : m < t.size) : takeL 0 (t.data.toList.take (m + 1)) = takeL 0 (t.data.toList.take m) * 256 + t[m].toNat := by
  have h2 : m < t.data.toList.length := by simpa using h
  rw [List.take_succ_eq_append_getElem h2, takeL_append]
  rfl
theorem or_byte (x b : Nat) (hx : x < 72057594037927936) (hb : b < 256) : bits .or .u64 ((x : Int) * 256) (b : Int) = (x : Int) * 256 + (b : Int) := by
  have h := bits_or_u64_nat (x * 256) b (by omega) (by omega)
  have e : x * 256 ||| b = x * 256 + b := by
    have := Nat.shiftLeft_add_eq_or_of_lt (i := 8) (b := b) (by omega) x
    rw [Nat.shiftLeft_eq] at this
    exact this.symm
  rw [e] at h
  rw [show ((x : Int) * 256) = ((x * 256 : Nat) : Int) by omega, h]
  omega

set_option maxHeartbeats 400000 in
theorem take_yes (s : ByteArray) (i k : Nat) (w : World) (h : i + k ≤ s.size) (hs : s.size ≤ 140737488355328) (k1 : 1 ≤ k) (k8 : k ≤ 8) :
    Calls Tryd.prog 25 #[.string s, .int .i64 (i : Int), .int .i64 (k : Int)] w fun e w' => e = .returned (.tuple #[.int .u64 (takeL 0 (cutB s i k).data.toList : Nat), .bool true]) ∧ Below w.heap.size w w' := by
  have hz := Lib.hid (cutB_size s i k h)
  obtain ⟨t, ht⟩ : ∃ t, t = cutB s i k := ⟨_, rfl⟩
  have hz2 : t.size = k := by rw [ht]; exact hz.out
  have hC := fun w => cut_yes s i k w h hs
  rw [← ht] at hC ⊢
  have HC := Lib.hid hC
  have HZ := Lib.hid hz2
  clear ht hC hz2
  go_enter Tryd.func25, Tryd.ntmps25
  go_wp2_with (go_at_call 19; refine (HC.out _).mono ?_; rintro e w' ⟨rfl, hb⟩)
  go_loop [10, 29, 11] (fun x i j => ∃ m : Nat, m ≤ t.size ∧ i = .int .i64 m ∧ x = .int .u64 ((takeL 0 (t.data.toList.take m) : Nat) : Int))
    (fun _ i _ => t.size - (RowKit.intOf i).toNat)
  case atStart => exact ⟨0, Nat.zero_le _, rfl, rfl⟩
  case round =>
    obtain ⟨m, hm, rfl, rfl⟩ := hrel
    by_cases hlt : m < t.size
    · have hz8 : t.size ≤ 8 := by have := HZ.out; omega
      obtain ⟨x, hx⟩ : ∃ x, x = takeL 0 (t.data.toList.take m) := ⟨_, rfl⟩
      have hx56 : x < 72057594037927936 := by rw [hx]; exact take_lt t m (by omega)
      have hstep : takeL 0 (t.data.toList.take (m + 1)) = x * 256 + t[m].toNat := by rw [hx]; exact take_step t m hlt
      have HS := Lib.hid hstep
      have hb8 : t[m].toNat < 256 := t[m].toNat_lt
      have hor := or_byte x t[m].toNat hx56 hb8
      rw [← hx]
      clear hx hstep
      go_wp2_with fail
      go_round
      case rel => exact ⟨m + 1, by omega, by go_num, by rw [HS.out]; go_num⟩
      case measure => simp [RowKit.intOf]; omega
    · obtain rfl : m = t.size := by omega
      go_wp2_with fail
      go_ret2
      exact ⟨ret_ub (by rw [List.take_of_length_le (by simp)]), hb⟩

theorem take_no (s : ByteArray) (i k : Int) (w : World) (h : has s i k = false ∨ k < 1 ∨ 8 < k) (hs : s.size ≤ 140737488355328) (hi : -9223372036854775808 ≤ i) (hi' : i ≤ 9223372036854775807) :
    Calls Tryd.prog 25 #[.string s, .int .i64 i, .int .i64 k] w fun e w' => e = .returned (.tuple #[.int .u64 0, .bool false]) ∧ w = w' := by
  have h' : k < 1 ∨ 8 < k ∨ (1 ≤ k ∧ k ≤ 8 ∧ has s i k = false) := by
    rcases h with h | h | h
    · by_cases h1 : k < 1
      · exact .inl h1
      · by_cases h2 : 8 < k
        · exact .inr (.inl h2)
        · exact .inr (.inr ⟨by omega, by omega, h⟩)
    · exact .inl h
    · exact .inr (.inl h)
  clear h
  rcases h' with h | h | ⟨h0, h1, h2⟩
  · go_enter Tryd.func25, Tryd.ntmps25
    go_wp2_with fail
    go_ret2
    exact ⟨rfl, rfl⟩
  · go_enter Tryd.func25, Tryd.ntmps25
    go_wp2_with fail
    go_ret2
    exact ⟨rfl, rfl⟩
  · have H := Lib.hid (fun w => cut_no s i k w h2 hs hi hi')
    clear h2
    go_enter Tryd.func25, Tryd.ntmps25
    go_wp2_with (go_at_call 19; refine (H.out _).mono ?_; rintro e w' ⟨rfl, rfl⟩)
    go_ret2
    exact ⟨rfl, rfl⟩

set_option maxHeartbeats 400000 in
theorem rtake_yes (s : ByteArray) (i k : Nat) (w : World) (h : i + k ≤ s.size) (hs : s.size ≤ 140737488355328) (k1 : 1 ≤ k) (k8 : k ≤ 8) :
    Calls Tryd.prog 20 #[.string s, .int .i64 (i : Int), .int .i64 (k : Int)] w fun e w' => e = .returned (.tuple #[.int .u64 (takeL 0 (cutB s i k).data.toList : Nat), .bool true]) ∧ w = w' := by
  have hz := Lib.hid (cutB_size s i k h)
  obtain ⟨t, ht⟩ : ∃ t, t = cutB s i k := ⟨_, rfl⟩
  have hz2 : t.size = k := by rw [ht]; exact hz.out
  have hC := fun w => rcut_yes s i k w h hs
  rw [← ht] at hC ⊢
  have HC := Lib.hid hC
  have HZ := Lib.hid hz2
  clear ht hC hz2
  go_enter Tryd.func20, Tryd.ntmps20
  go_wp2_with (go_at_call 27; refine (HC.out _).mono ?_; rintro e w' ⟨rfl, rfl⟩)
  go_loop [10, 31, 11] (fun x i j => ∃ m : Nat, m ≤ t.size ∧ i = .int .i64 m ∧ x = .int .u64 ((takeL 0 (t.data.toList.take m) : Nat) : Int))
    (fun _ i _ => t.size - (RowKit.intOf i).toNat)
  case atStart => exact ⟨0, Nat.zero_le _, rfl, rfl⟩
  case round =>
    obtain ⟨m, hm, rfl, rfl⟩ := hrel
    by_cases hlt : m < t.size
    · have hz8 : t.size ≤ 8 := by have := HZ.out; omega
      obtain ⟨x, hx⟩ : ∃ x, x = takeL 0 (t.data.toList.take m) := ⟨_, rfl⟩
      have hx56 : x < 72057594037927936 := by rw [hx]; exact take_lt t m (by omega)
      have hstep : takeL 0 (t.data.toList.take (m + 1)) = x * 256 + t[m].toNat := by rw [hx]; exact take_step t m hlt
      have HS := Lib.hid hstep
      have hb8 : t[m].toNat < 256 := t[m].toNat_lt
      have hor := or_byte x t[m].toNat hx56 hb8
      rw [← hx]
      clear hx hstep
      go_wp2_with fail
      go_round
      case rel => exact ⟨m + 1, by omega, by go_num, by rw [HS.out]; go_num⟩
      case measure => simp [RowKit.intOf]; omega
    · obtain rfl : m = t.size := by omega
      go_wp2_with fail
      go_ret2
      exact ⟨ret_ub (by rw [List.take_of_length_le (by simp)]), rfl⟩

theorem rtake_no (s : ByteArray) (i k : Int) (w : World) (h : has s i k = false ∨ k < 1 ∨ 8 < k) (hs : s.size ≤ 140737488355328) (hi : -9223372036854775808 ≤ i) (hi' : i ≤ 9223372036854775807) :
    Calls Tryd.prog 20 #[.string s, .int .i64 i, .int .i64 k] w fun e w' => e = .returned (.tuple #[.int .u64 0, .bool false]) ∧ w = w' := by
  cases hh : has s i k
  · have H := Lib.hid (fun w => rcut_no s i k w hh hs hi hi')
    clear hh h
    go_enter Tryd.func20, Tryd.ntmps20
    go_wp2_with (go_at_call 27; refine (H.out _).mono ?_; rintro e w' ⟨rfl, rfl⟩)
    go_ret2
    exact ⟨rfl, rfl⟩
  · have h' : k < 1 ∨ (1 ≤ k ∧ 8 < k) := by
      rcases h with h | h | h
      · rw [hh] at h; cases h
      · exact .inl h
      · exact .inr ⟨by omega, h⟩
    have hh' : 0 ≤ i ∧ 0 ≤ k ∧ k ≤ (s.size : Int) - i := by unfold has at hh; simpa using hh
    obtain ⟨a, rfl⟩ := Int.eq_ofNat_of_zero_le hh'.1
    obtain ⟨b, rfl⟩ := Int.eq_ofNat_of_zero_le hh'.2.1
    have H := Lib.hid (fun w => rcut_yes s a b w (by omega) hs)
    clear hh h hh'
    rcases h' with h | ⟨h0, h⟩
    all_goals
      go_enter Tryd.func20, Tryd.ntmps20
      go_wp2_with (go_at_call 27; refine (H.out _).mono ?_; rintro e w' ⟨rfl, rfl⟩)
      go_ret2
      exact ⟨rfl, rfl⟩

end Go.Proofs.YtnknchadlhcdbaaDoor.Oct
