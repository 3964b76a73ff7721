/- Contracts of the document's in, tail, three, four, Width, number and Bad. Conditions: as each theorem states. -/
import Derived.Test.YtggahjhjapnfeaaDoorUtfR
namespace Go.Proofs.YtggahjhjapnfeaaDoor.Utf
open Go.RowKit Go.Lib Go.Proofs.YtggahjhjapnfeaaDoor.Byt

theorem index_at (s : ByteArray) (m : Nat) (x : Int) (hx : x = (m : Int)) (h : m < s.size) (w : World) :
    (Instr.index 9 (.string s) (.int .i64 x)).run Tryd.prog w = .ok (.int .u8 (bt s m : Int)) w := by
  subst hx
  rw [run_index_string w 9 _ .i64 (m : Int) Tryd.underlying9, dif_pos ⟨by omega, by omega⟩, ← bt_at s m h]
  rfl
theorem ret_b {a b : Bool} (h : a = b) : Ending.returned (.bool a) = .returned (.bool b) := by rw [h]

theorem in_any (s : ByteArray) (m lo hi : Nat) (w : World) :
    Calls Tryd.prog 48 #[.string s, .int .i64 (m : Int), .int .u8 (lo : Int), .int .u8 (hi : Int)] w fun e w' => e = .returned (.bool (inB s m lo hi)) ∧ w = w' := by
  by_cases h0 : m < s.size
  · have hx := fun w => index_at s m _ rfl h0 w
    have hb := bt_lt s m
    unfold inB
    obtain ⟨c, hc⟩ : ∃ c, c = bt s m := ⟨_, rfl⟩
    rw [← hc] at hx hb ⊢
    clear hc
    by_cases h1 : lo ≤ c
    · by_cases h2 : c ≤ hi
      · rw [decide_eq_true (by omega)]
        go_enter Tryd.func48, Tryd.ntmps48
        go_wp2_with fail
        go_ret
        exact ⟨rfl, rfl⟩
      · rw [decide_eq_false (by omega)]
        go_enter Tryd.func48, Tryd.ntmps48
        go_wp2_with fail
        go_ret
        exact ⟨rfl, rfl⟩
    · rw [decide_eq_false (by omega)]
      go_enter Tryd.func48, Tryd.ntmps48
      go_wp2_with fail
      go_ret
      exact ⟨rfl, rfl⟩
  · unfold inB
    rw [decide_eq_false (by omega)]
    go_enter Tryd.func48, Tryd.ntmps48
    go_wp2_with fail
    go_ret
    exact ⟨rfl, rfl⟩

theorem tail_any (s : ByteArray) (m n : Nat) (x : Int) (hx : x = (m : Int)) (w : World) (hs : s.size ≤ 140737488355328) (hm : m ≤ s.size + 4) (hn : n ≤ 4) :
    Calls Tryd.prog 46 #[.string s, .int .i64 x, .int .i64 (n : Int)] w fun e w' => e = .returned (.bool (tlB s m n)) ∧ w = w' := by
  subst hx
  go_enter Tryd.func46, Tryd.ntmps46
  go_wp2_with fail
  go_loop [9] (fun i => ∃ k : Nat, i = .int .i64 (k : Int) ∧ k ≤ n ∧ Hid (tlB s m k = true)) (fun i => n - (RowKit.intOf i).toNat)
  case atStart => exact ⟨0, rfl, Nat.zero_le _, Lib.hid rfl⟩
  case round =>
    obtain ⟨k, rfl, hk, ht⟩ := hrel
    by_cases hlt : k < n
    · have HI := Lib.hid (fun w => show Calls Tryd.prog 48 #[.string s, .int .i64 ((m : Int) + (k : Int)), .int .u8 128, .int .u8 191] w fun e w' => e = .returned (.bool (inB s (m + k) 128 191)) ∧ w = w' from by
        have := in_any s (m + k) 128 191 w
        rwa [Int.natCast_add] at this)
      have HT := Lib.hid (tlB_succ s m k)
      have HS := Lib.hid (tlB_stop (s := s) (m := m) hlt)
      cases hv : inB s (m + k) 128 191 with
      | false =>
        have HF := Lib.hid (HS.out hv)
        rw [hv] at HI
        clear hv
        go_wp2_with (go_at_call 48; refine (HI.out _).mono ?_; rintro e w' ⟨rfl, rfl⟩)
        go_ret
        exact ⟨ret_b HF.out.symm, rfl⟩
      | true =>
        have HT2 := HT.out
        rw [ht.out, hv] at HT2
        have HT3 := Lib.hid HT2
        rw [hv] at HI
        clear hv HT2
        go_wp2_with (go_at_call 48; refine (HI.out _).mono ?_; rintro e w' ⟨rfl, rfl⟩)
        go_round
        case rel => exact ⟨k + 1, by go_num, by omega, HT3⟩
        case measure => simp [RowKit.intOf]; omega
    · obtain rfl : k = n := by omega
      go_wp2_with fail
      go_ret
      exact ⟨ret_b ht.out.symm, rfl⟩

theorem ret_uu {a b c d : Int} (h : a = b) (h' : c = d) : Ending.returned (.tuple #[.int .u8 a, .int .u8 c]) = .returned (.tuple #[.int .u8 b, .int .u8 d]) := by rw [h, h']
theorem three_any (c : Nat) (w : World) : Calls Tryd.prog 47 #[.int .u8 (c : Int)] w fun e w' => e = .returned (.tuple #[.int .u8 (thLo c : Int), .int .u8 (thHi c : Int)]) ∧ w = w' := by
  have hc : ((c : Int) == 224) = true ∧ thLo c = 160 ∧ thHi c = 191 ∨ ((c : Int) == 224) = false ∧ ((c : Int) == 237) = true ∧ thLo c = 128 ∧ thHi c = 159 ∨ ((c : Int) == 224) = false ∧ ((c : Int) == 237) = false ∧ thLo c = 128 ∧ thHi c = 191 := by
    unfold thLo thHi
    by_cases h1 : c = 224
    · subst h1; exact .inl ⟨rfl, rfl, rfl⟩
    · have e1 : ((c : Int) == 224) = false := by rw [beq_eq_false_iff_ne]; omega
      by_cases h2 : c = 237
      · subst h2; exact .inr (.inl ⟨rfl, rfl, rfl, rfl⟩)
      · have e2 : ((c : Int) == 237) = false := by rw [beq_eq_false_iff_ne]; omega
        rw [if_neg h1, if_neg h2]
        exact .inr (.inr ⟨e1, e2, rfl, rfl⟩)
  rcases hc with ⟨h1, h2, h3⟩ | ⟨h1, h2, h3, h4⟩ | ⟨h1, h2, h3, h4⟩
  · rw [h2, h3]
    go_enter Tryd.func47, Tryd.ntmps47
    go_wp2_with fail
    go_ret2
    exact ⟨rfl, rfl⟩
  all_goals
    rw [h3, h4]
    go_enter Tryd.func47, Tryd.ntmps47
    go_wp2_with fail
    go_ret2
    exact ⟨rfl, rfl⟩
theorem four_any (c : Nat) (w : World) : Calls Tryd.prog 49 #[.int .u8 (c : Int)] w fun e w' => e = .returned (.tuple #[.int .u8 (frLo c : Int), .int .u8 (frHi c : Int)]) ∧ w = w' := by
  have hc : ((c : Int) == 240) = true ∧ frLo c = 144 ∧ frHi c = 191 ∨ ((c : Int) == 240) = false ∧ ((c : Int) == 244) = true ∧ frLo c = 128 ∧ frHi c = 143 ∨ ((c : Int) == 240) = false ∧ ((c : Int) == 244) = false ∧ frLo c = 128 ∧ frHi c = 191 := by
    unfold frLo frHi
    by_cases h1 : c = 240
    · subst h1; exact .inl ⟨rfl, rfl, rfl⟩
    · have e1 : ((c : Int) == 240) = false := by rw [beq_eq_false_iff_ne]; omega
      by_cases h2 : c = 244
      · subst h2; exact .inr (.inl ⟨rfl, rfl, rfl, rfl⟩)
      · have e2 : ((c : Int) == 244) = false := by rw [beq_eq_false_iff_ne]; omega
        rw [if_neg h1, if_neg h2]
        exact .inr (.inr ⟨e1, e2, rfl, rfl⟩)
  rcases hc with ⟨h1, h2, h3⟩ | ⟨h1, h2, h3, h4⟩ | ⟨h1, h2, h3, h4⟩
  · rw [h2, h3]
    go_enter Tryd.func49, Tryd.ntmps49
    go_wp2_with fail
    go_ret2
    exact ⟨rfl, rfl⟩
  all_goals
    rw [h3, h4]
    go_enter Tryd.func49, Tryd.ntmps49
    go_wp2_with fail
    go_ret2
    exact ⟨rfl, rfl⟩

set_option maxRecDepth 100000 in
set_option maxHeartbeats 1000000 in
theorem rwidth_in (s : ByteArray) (i : Nat) (w : World) (h : i < s.size) (hs : s.size ≤ 140737488355328) :
    Calls Tryd.prog 38 #[.string s, .int .i64 (i : Int)] w fun e w' => e = .returned (.int .i64 (wS s i : Nat)) ∧ w = w' := by
  have hx := fun w => index_at s i _ rfl h w
  have hb := bt_lt s i
  have f1 := fun h1 => wS_ascii (s := s) (i := i) h h1
  have f2 := fun h1 => wS_none (s := s) (i := i) h h1
  have f3 := fun h1 => wS_two (s := s) (i := i) h h1
  have f4 := fun h1 => wS_three (s := s) (i := i) h h1
  have f5 := fun h1 => wS_four (s := s) (i := i) h h1
  obtain ⟨W, hW⟩ : ∃ W, W = wS s i := ⟨_, rfl⟩
  rw [← hW] at f1 f2 f3 f4 f5 ⊢
  obtain ⟨c, hc⟩ : ∃ c, c = bt s i := ⟨_, rfl⟩
  rw [← hc] at hx hb f1 f2 f3 f4 f5
  clear hc hW
  have T1 := Lib.hid (fun w => tail_any s (i + 1) 1 ((i : Int) + 1) (by omega) w hs (by omega) (by omega))
  have T2 := Lib.hid (fun w => tail_any s (i + 2) 1 ((i : Int) + 2) (by omega) w hs (by omega) (by omega))
  have T3 := Lib.hid (fun w => tail_any s (i + 2) 2 ((i : Int) + 2) (by omega) w hs (by omega) (by omega))
  have I3 := Lib.hid (fun w => show Calls Tryd.prog 48 #[.string s, .int .i64 ((i : Int) + 1), .int .u8 (thLo c : Int), .int .u8 (thHi c : Int)] w fun e w' => e = .returned (.bool (inB s (i + 1) (thLo c) (thHi c))) ∧ w = w' from in_any s (i + 1) (thLo c) (thHi c) w)
  have I4 := Lib.hid (fun w => show Calls Tryd.prog 48 #[.string s, .int .i64 ((i : Int) + 1), .int .u8 (frLo c : Int), .int .u8 (frHi c : Int)] w fun e w' => e = .returned (.bool (inB s (i + 1) (frLo c) (frHi c))) ∧ w = w' from in_any s (i + 1) (frLo c) (frHi c) w)
  have C3 := Lib.hid (fun w => three_any c w)
  have C4 := Lib.hid (fun w => four_any c w)
  generalize tlB s (i + 1) 1 = t1 at *
  generalize tlB s (i + 2) 1 = t2 at *
  generalize tlB s (i + 2) 2 = t3 at *
  generalize inB s (i + 1) (thLo c) (thHi c) = n3 at *
  generalize inB s (i + 1) (frLo c) (frHi c) = n4 at *
  generalize thLo c = lo3 at *
  generalize thHi c = hi3 at *
  generalize frLo c = lo4 at *
  generalize frHi c = hi4 at *
  have cs : c < 128 ∨ (128 ≤ c ∧ c < 194) ∨ (194 ≤ c ∧ c ≤ 223) ∨ (224 ≤ c ∧ c ≤ 239) ∨ (240 ≤ c ∧ c ≤ 244) ∨ 244 < c := by omega
  rcases cs with k | k | k | k | k | k
  · have e := Lib.hid (f1 k)
    clear f1 f2 f3 f4 f5
    go_enter Tryd.func38, Tryd.ntmps38
    go_wp2_with fail
    go_ret
    exact ⟨by rw [e.out]; rfl, rfl⟩
  · have e := Lib.hid (f2 (.inl k))
    clear f1 f2 f3 f4 f5
    obtain ⟨k1, k2⟩ := k
    go_enter Tryd.func38, Tryd.ntmps38
    go_wp2_with fail
    go_ret
    exact ⟨by rw [e.out]; rfl, rfl⟩
  · have e := Lib.hid (f3 k)
    clear f1 f2 f3 f4 f5
    obtain ⟨k1, k2⟩ := k
    cases t1
    all_goals
      go_enter Tryd.func38, Tryd.ntmps38
      go_wp2_with (go_at_call 46; refine (T1.out _).mono ?_; rintro e w' ⟨rfl, rfl⟩)
      go_ret
      exact ⟨by rw [e.out]; rfl, rfl⟩
  · have e := Lib.hid (f4 k)
    clear f1 f2 f3 f4 f5
    obtain ⟨k1, k2⟩ := k
    cases n3 <;> cases t2
    all_goals
      go_enter Tryd.func38, Tryd.ntmps38
      go_wp2_with (first
        | (go_at_call 47; refine (C3.out _).mono ?_; rintro e w' ⟨rfl, rfl⟩)
        | (go_at_call 48; refine (I3.out _).mono ?_; rintro e w' ⟨rfl, rfl⟩)
        | (go_at_call 46; refine (T2.out _).mono ?_; rintro e w' ⟨rfl, rfl⟩))
      go_ret
      exact ⟨by rw [e.out]; rfl, rfl⟩
  · have e := Lib.hid (f5 k)
    clear f1 f2 f3 f4 f5
    obtain ⟨k1, k2⟩ := k
    cases n4 <;> cases t3
    all_goals
      go_enter Tryd.func38, Tryd.ntmps38
      go_wp2_with (first
        | (go_at_call 49; refine (C4.out _).mono ?_; rintro e w' ⟨rfl, rfl⟩)
        | (go_at_call 48; refine (I4.out _).mono ?_; rintro e w' ⟨rfl, rfl⟩)
        | (go_at_call 46; refine (T3.out _).mono ?_; rintro e w' ⟨rfl, rfl⟩))
      go_ret
      exact ⟨by rw [e.out]; rfl, rfl⟩
  · have e := Lib.hid (f2 (.inr k))
    clear f1 f2 f3 f4 f5
    go_enter Tryd.func38, Tryd.ntmps38
    go_wp2_with fail
    go_ret
    exact ⟨by rw [e.out]; rfl, rfl⟩
theorem rwidth_out (s : ByteArray) (i : Int) (w : World) (h : i < 0 ∨ (s.size : Int) ≤ i) :
    Calls Tryd.prog 38 #[.string s, .int .i64 i] w fun e w' => e = .returned (.int .i64 0) ∧ w = w' := by
  have h' : i < 0 ∨ (0 ≤ i ∧ (s.size : Int) ≤ i) := by omega
  clear h
  rcases h' with h | ⟨h0, h⟩
  all_goals
    go_enter Tryd.func38, Tryd.ntmps38
    go_wp2_with fail
    go_ret
    exact ⟨rfl, rfl⟩
theorem rwidth_any (s : ByteArray) (i : Int) (w : World) (hs : s.size ≤ 140737488355328) :
    Calls Tryd.prog 38 #[.string s, .int .i64 i] w fun e w' => e = .returned (.int .i64 (wI s i : Nat)) ∧ w = w' := by
  unfold wI
  by_cases h : 0 ≤ i ∧ i < (s.size : Int)
  · rw [if_pos h]
    obtain ⟨n, rfl⟩ := Int.eq_ofNat_of_zero_le h.1
    exact rwidth_in s n w (by omega) hs
  · rw [if_neg h]
    exact rwidth_out s i w (by omega)

end Go.Proofs.YtggahjhjapnfeaaDoor.Utf
