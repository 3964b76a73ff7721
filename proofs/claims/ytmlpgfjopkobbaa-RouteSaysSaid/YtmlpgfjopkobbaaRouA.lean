/- Contracts of route's inWord and word, and of the document's plain and word. Conditions: as each theorem states. -/
import Derived.Test.YtmlpgfjopkobbaaRouMath
import Derived.Test.YtmlpgfjopkobbaaRowsA
import Derived.Laws.Cover1
import Derived.Handy
namespace Go.Proofs.Ytmlpgfjopkobbaa.Rou
open Go.RowKit Go.Lib Go.Proofs.Ytmlpgfjopkobbaa.Byt

/-- The byte at m; 0 behind the end. -/
def bc (s : ByteArray) (m : Nat) : Nat := (s.data.toList.getD m 0).toNat
theorem index_of (s : ByteArray) (m : Nat) (x : Int) (hx : x = (m : Int)) (h : m < s.size) (w : World) :
    (Instr.index 9 (.string s) (.int .i64 x)).run Try.prog w = .ok (.int .u8 (bc s m : Int)) w := by
  subst hx
  have h2 : m < s.data.toList.length := by simpa using h
  have e : s[m].toNat = bc s m := by
    have : s.data.toList.getD m 0 = s[m] := by rw [List.getD, List.getElem?_eq_getElem h2]; rfl
    unfold bc; rw [this]
  rw [run_index_string w 9 _ .i64 (m : Int) Try.underlying9, dif_pos ⟨by omega, by omega⟩, ← e]
  rfl
/-- Is the text a word? -/
def wdB (s : ByteArray) : Bool := wd s.data.toList
theorem wdB_iff (s : ByteArray) : wdB s = true ↔ 1 ≤ s.size ∧ ∀ j, j < s.size → inW (bc s j) = true := by
  have e : s.data.toList.length = s.size := by simp
  unfold wdB wd
  rw [Bool.and_eq_true, decide_eq_true_eq, List.all_eq_true]
  constructor
  · rintro ⟨h1, h2⟩
    refine ⟨?_, fun j hj => ?_⟩
    · have := List.length_pos_iff.2 h1; omega
    · have hj2 : j < s.data.toList.length := by omega
      unfold bc
      rw [List.getD_eq_getElem?_getD, List.getElem?_eq_getElem hj2]
      exact h2 _ (List.getElem_mem hj2)
  · rintro ⟨h1, h2⟩
    refine ⟨List.length_pos_iff.1 (by omega), fun c hc => ?_⟩
    obtain ⟨j, hj, rfl⟩ := List.getElem_of_mem hc
    have := h2 j (by omega)
    unfold bc at this
    rwa [List.getD_eq_getElem?_getD, List.getElem?_eq_getElem hj] at this
theorem wdB_no {s : ByteArray} (h : ¬ (1 ≤ s.size ∧ ∀ j, j < s.size → inW (bc s j) = true)) : wdB s = false := by
  cases q : wdB s with
  | false => rfl
  | true => exact absurd ((wdB_iff s).1 q) h
theorem inW_range (n : Nat) (h : n ≠ 45 ∧ n ≠ 95 ∧ n ≠ 46 ∧ n ≠ 126 ∧ n ≠ 37) : inW n = ((decide (97 ≤ n) && decide (n ≤ 122)) || (decide (65 ≤ n) && decide (n ≤ 90)) || (decide (48 ≤ n) && decide (n ≤ 57))) := by
  unfold inW
  rw [decide_eq_false h.1, decide_eq_false h.2.1, decide_eq_false h.2.2.1, decide_eq_false h.2.2.2.1, decide_eq_false h.2.2.2.2]
  simp only [Bool.false_or]
theorem inW_sign (n : Nat) (h : ¬ (n ≠ 45 ∧ n ≠ 95 ∧ n ≠ 46 ∧ n ≠ 126 ∧ n ≠ 37)) : (n = 45 ∨ n = 95 ∨ n = 46 ∨ n = 126 ∨ n = 37) := by omega
theorem ranges (n : Nat) : n < 48 ∨ (48 ≤ n ∧ n ≤ 57) ∨ (57 < n ∧ n < 65) ∨ (65 ≤ n ∧ n ≤ 90) ∨ (90 < n ∧ n < 97) ∨ (97 ≤ n ∧ n ≤ 122) ∨ 122 < n := by omega

section
variable (n : Nat) (w : World)
set_option maxHeartbeats 2000000 in
theorem inword_any : Calls Try.prog 32 #[.int .u8 (n : Int)] w fun e w' => e = .returned (.bool (inW n)) ∧ w = w' := by
  by_cases h : n ≠ 45 ∧ n ≠ 95 ∧ n ≠ 46 ∧ n ≠ 126 ∧ n ≠ 37
  · rw [inW_range n h]
    have f1 : ((n : Int) == 45) = false := by rw [beq_eq_false_iff_ne]; omega
    have f2 : ((n : Int) == 95) = false := by rw [beq_eq_false_iff_ne]; omega
    have f3 : ((n : Int) == 46) = false := by rw [beq_eq_false_iff_ne]; omega
    have f4 : ((n : Int) == 126) = false := by rw [beq_eq_false_iff_ne]; omega
    have f5 : ((n : Int) == 37) = false := by rw [beq_eq_false_iff_ne]; omega
    obtain ⟨b1, g1⟩ : ∃ b, decide (97 ≤ n) = b := ⟨_, rfl⟩
    obtain ⟨b2, g2⟩ : ∃ b, decide (n ≤ 122) = b := ⟨_, rfl⟩
    obtain ⟨b3, g3⟩ : ∃ b, decide (65 ≤ n) = b := ⟨_, rfl⟩
    obtain ⟨b4, g4⟩ : ∃ b, decide (n ≤ 90) = b := ⟨_, rfl⟩
    obtain ⟨b5, g5⟩ : ∃ b, decide (48 ≤ n) = b := ⟨_, rfl⟩
    obtain ⟨b6, g6⟩ : ∃ b, decide (n ≤ 57) = b := ⟨_, rfl⟩
    have k1 : decide ((97 : Int) ≤ (n : Int)) = b1 := by rw [← g1, Bool.eq_iff_iff, decide_eq_true_eq, decide_eq_true_eq]; omega
    have k2 : decide ((n : Int) ≤ 122) = b2 := by rw [← g2, Bool.eq_iff_iff, decide_eq_true_eq, decide_eq_true_eq]; omega
    have k3 : decide ((65 : Int) ≤ (n : Int)) = b3 := by rw [← g3, Bool.eq_iff_iff, decide_eq_true_eq, decide_eq_true_eq]; omega
    have k4 : decide ((n : Int) ≤ 90) = b4 := by rw [← g4, Bool.eq_iff_iff, decide_eq_true_eq, decide_eq_true_eq]; omega
    have k5 : decide ((48 : Int) ≤ (n : Int)) = b5 := by rw [← g5, Bool.eq_iff_iff, decide_eq_true_eq, decide_eq_true_eq]; omega
    have k6 : decide ((n : Int) ≤ 57) = b6 := by rw [← g6, Bool.eq_iff_iff, decide_eq_true_eq, decide_eq_true_eq]; omega
    rw [g1, g2, g3, g4, g5, g6]
    have HB : (b1, b2, b3, b4, b5, b6) ∈ [(false, true, false, true, false, true), (false, true, false, true, true, true), (false, true, false, true, true, false), (false, true, true, true, true, false), (false, true, true, false, true, false), (true, true, true, false, true, false), (true, false, true, false, true, false)] := by
      subst g1 g2 g3 g4 g5 g6
      clear k1 k2 k3 k4 k5 k6 f1 f2 f3 f4 f5
      rcases ranges n with q | q | q | q | q | q | q
      all_goals
        simp only [List.mem_cons, Prod.mk.injEq, List.not_mem_nil, or_false, decide_eq_true_eq, decide_eq_false_iff_not]
        omega
    clear g1 g2 g3 g4 g5 g6 h
    simp only [List.mem_cons, Prod.mk.injEq, List.not_mem_nil, or_false] at HB
    rcases HB with ⟨rfl, rfl, rfl, rfl, rfl, rfl⟩ | ⟨rfl, rfl, rfl, rfl, rfl, rfl⟩ | ⟨rfl, rfl, rfl, rfl, rfl, rfl⟩ | ⟨rfl, rfl, rfl, rfl, rfl, rfl⟩ | ⟨rfl, rfl, rfl, rfl, rfl, rfl⟩ | ⟨rfl, rfl, rfl, rfl, rfl, rfl⟩ | ⟨rfl, rfl, rfl, rfl, rfl, rfl⟩
    all_goals
      go_enter Try.func32, Try.ntmps32
      go_wp2_with fail
      go_ret
      exact ⟨rfl, rfl⟩
  · rcases inW_sign n h with rfl | rfl | rfl | rfl | rfl
    all_goals
      clear h
      go_enter Try.func32, Try.ntmps32
      go_wp2_with fail
      go_ret
      exact ⟨rfl, rfl⟩
set_option maxHeartbeats 2000000 in
theorem plain_any : Calls Try.prog 33 #[.int .u8 (n : Int)] w fun e w' => e = .returned (.bool (inW n)) ∧ w = w' := by
  by_cases h : n ≠ 45 ∧ n ≠ 95 ∧ n ≠ 46 ∧ n ≠ 126 ∧ n ≠ 37
  · rw [inW_range n h]
    have f1 : ((n : Int) == 45) = false := by rw [beq_eq_false_iff_ne]; omega
    have f2 : ((n : Int) == 95) = false := by rw [beq_eq_false_iff_ne]; omega
    have f3 : ((n : Int) == 46) = false := by rw [beq_eq_false_iff_ne]; omega
    have f4 : ((n : Int) == 126) = false := by rw [beq_eq_false_iff_ne]; omega
    have f5 : ((n : Int) == 37) = false := by rw [beq_eq_false_iff_ne]; omega
    obtain ⟨b1, g1⟩ : ∃ b, decide (97 ≤ n) = b := ⟨_, rfl⟩
    obtain ⟨b2, g2⟩ : ∃ b, decide (n ≤ 122) = b := ⟨_, rfl⟩
    obtain ⟨b3, g3⟩ : ∃ b, decide (65 ≤ n) = b := ⟨_, rfl⟩
    obtain ⟨b4, g4⟩ : ∃ b, decide (n ≤ 90) = b := ⟨_, rfl⟩
    obtain ⟨b5, g5⟩ : ∃ b, decide (48 ≤ n) = b := ⟨_, rfl⟩
    obtain ⟨b6, g6⟩ : ∃ b, decide (n ≤ 57) = b := ⟨_, rfl⟩
    have k1 : decide ((97 : Int) ≤ (n : Int)) = b1 := by rw [← g1, Bool.eq_iff_iff, decide_eq_true_eq, decide_eq_true_eq]; omega
    have k2 : decide ((n : Int) ≤ 122) = b2 := by rw [← g2, Bool.eq_iff_iff, decide_eq_true_eq, decide_eq_true_eq]; omega
    have k3 : decide ((65 : Int) ≤ (n : Int)) = b3 := by rw [← g3, Bool.eq_iff_iff, decide_eq_true_eq, decide_eq_true_eq]; omega
    have k4 : decide ((n : Int) ≤ 90) = b4 := by rw [← g4, Bool.eq_iff_iff, decide_eq_true_eq, decide_eq_true_eq]; omega
    have k5 : decide ((48 : Int) ≤ (n : Int)) = b5 := by rw [← g5, Bool.eq_iff_iff, decide_eq_true_eq, decide_eq_true_eq]; omega
    have k6 : decide ((n : Int) ≤ 57) = b6 := by rw [← g6, Bool.eq_iff_iff, decide_eq_true_eq, decide_eq_true_eq]; omega
    rw [g1, g2, g3, g4, g5, g6]
    have HB : (b1, b2, b3, b4, b5, b6) ∈ [(false, true, false, true, false, true), (false, true, false, true, true, true), (false, true, false, true, true, false), (false, true, true, true, true, false), (false, true, true, false, true, false), (true, true, true, false, true, false), (true, false, true, false, true, false)] := by
      subst g1 g2 g3 g4 g5 g6
      clear k1 k2 k3 k4 k5 k6 f1 f2 f3 f4 f5
      rcases ranges n with q | q | q | q | q | q | q
      all_goals
        simp only [List.mem_cons, Prod.mk.injEq, List.not_mem_nil, or_false, decide_eq_true_eq, decide_eq_false_iff_not]
        omega
    clear g1 g2 g3 g4 g5 g6 h
    simp only [List.mem_cons, Prod.mk.injEq, List.not_mem_nil, or_false] at HB
    rcases HB with ⟨rfl, rfl, rfl, rfl, rfl, rfl⟩ | ⟨rfl, rfl, rfl, rfl, rfl, rfl⟩ | ⟨rfl, rfl, rfl, rfl, rfl, rfl⟩ | ⟨rfl, rfl, rfl, rfl, rfl, rfl⟩ | ⟨rfl, rfl, rfl, rfl, rfl, rfl⟩ | ⟨rfl, rfl, rfl, rfl, rfl, rfl⟩ | ⟨rfl, rfl, rfl, rfl, rfl, rfl⟩
    all_goals
      go_enter Try.func33, Try.ntmps33
      go_wp2_with fail
      go_ret
      exact ⟨rfl, rfl⟩
  · rcases inW_sign n h with rfl | rfl | rfl | rfl | rfl
    all_goals
      clear h
      go_enter Try.func33, Try.ntmps33
      go_wp2_with fail
      go_ret
      exact ⟨rfl, rfl⟩
end

/-! ### words -/
set_option maxRecDepth 100000 in
theorem word_any (s : ByteArray) (w : World) (hs : s.size ≤ 140737488355328) : Calls Try.prog 22 #[.string s] w fun e w' => e = .returned (.bool (wdB s)) ∧ w = w' := by
  obtain ⟨R, hR⟩ : ∃ R, wdB s = R := ⟨_, rfl⟩
  have HN := Lib.hid (wdB_no (s := s))
  have HY := Lib.hid (wdB_iff s).2
  rw [hR] at HN HY ⊢
  clear hR
  go_enter Try.func22, Try.ntmps22
  go_wp2_with fail
  go_loop [6] (fun i => ∃ k : Nat, i = .int .i64 (k : Int) ∧ k ≤ s.size ∧ Hid (∀ j, j < k → inW (bc s j) = true)) (fun i => s.size - (RowKit.intOf i).toNat)
  case atStart => exact ⟨0, rfl, Nat.zero_le _, Lib.hid fun j h => by omega⟩
  case round =>
    obtain ⟨k, rfl, hk, HA⟩ := hrel
    by_cases hlt : k < s.size
    · have hix := fun w => index_of s k (k : Int) rfl hlt w
      have HF := Lib.hid fun w => inword_any (bc s k) w
      cases hf : inW (bc s k) with
      | false =>
        obtain rfl : R = false := HN.out fun q => by have := q.2 k hlt; rw [hf] at this; cases this
        rw [hf] at HF
        generalize bc s k = d at *
        clear HA HN HY hf
        go_wp2_with (go_at_call 32; refine (HF.out _).mono ?_; rintro e w1 ⟨rfl, rfl⟩)
        go_ret
        exact ⟨rfl, rfl⟩
      | true =>
        have HA2 := Lib.hid (show ∀ j, j < k + 1 → inW (bc s j) = true from fun j hj2 => by
          by_cases q : j < k
          · exact HA.out j q
          · obtain rfl : j = k := by omega
            exact hf)
        rw [hf] at HF
        generalize bc s k = d at *
        clear HA hf
        go_wp2_with (go_at_call 32; refine (HF.out _).mono ?_; rintro e w1 ⟨rfl, rfl⟩)
        go_round
        case rel => exact ⟨k + 1, by go_num, by omega, HA2⟩
        case measure => simp [RowKit.intOf]; omega
    · obtain rfl : k = s.size := by omega
      by_cases h0 : s.size = 0
      · obtain rfl : R = false := HN.out fun q => by omega
        obtain rfl := Byt.str_none h0
        clear HN HY HA h0 hlt hk hs
        go_wp2_with fail
        go_ret
        exact ⟨rfl, rfl⟩
      · obtain rfl : R = true := HY.out ⟨by omega, HA.out⟩
        have e0 := Byt.str_some (s := s) (by omega)
        clear HN HY HA
        go_wp2_with fail
        go_ret
        exact ⟨rfl, rfl⟩
set_option maxRecDepth 100000 in
theorem rword_any (s : ByteArray) (w : World) (hs : s.size ≤ 140737488355328) : Calls Try.prog 23 #[.string s] w fun e w' => e = .returned (.bool (wdB s)) ∧ w = w' := by
  obtain ⟨R, hR⟩ : ∃ R, wdB s = R := ⟨_, rfl⟩
  have HN := Lib.hid (wdB_no (s := s))
  have HY := Lib.hid (wdB_iff s).2
  rw [hR] at HN HY ⊢
  clear hR
  go_enter Try.func23, Try.ntmps23
  go_wp2_with fail
  go_loop [6] (fun i => ∃ k : Nat, i = .int .i64 (k : Int) ∧ k ≤ s.size ∧ Hid (∀ j, j < k → inW (bc s j) = true)) (fun i => s.size - (RowKit.intOf i).toNat)
  case atStart => exact ⟨0, rfl, Nat.zero_le _, Lib.hid fun j h => by omega⟩
  case round =>
    obtain ⟨k, rfl, hk, HA⟩ := hrel
    by_cases hlt : k < s.size
    · have hix := fun w => index_of s k (k : Int) rfl hlt w
      have HF := Lib.hid fun w => plain_any (bc s k) w
      cases hf : inW (bc s k) with
      | false =>
        obtain rfl : R = false := HN.out fun q => by have := q.2 k hlt; rw [hf] at this; cases this
        rw [hf] at HF
        generalize bc s k = d at *
        clear HA HN HY hf
        go_wp2_with (go_at_call 33; refine (HF.out _).mono ?_; rintro e w1 ⟨rfl, rfl⟩)
        go_ret
        exact ⟨rfl, rfl⟩
      | true =>
        have HA2 := Lib.hid (show ∀ j, j < k + 1 → inW (bc s j) = true from fun j hj2 => by
          by_cases q : j < k
          · exact HA.out j q
          · obtain rfl : j = k := by omega
            exact hf)
        rw [hf] at HF
        generalize bc s k = d at *
        clear HA hf
        go_wp2_with (go_at_call 33; refine (HF.out _).mono ?_; rintro e w1 ⟨rfl, rfl⟩)
        go_round
        case rel => exact ⟨k + 1, by go_num, by omega, HA2⟩
        case measure => simp [RowKit.intOf]; omega
    · obtain rfl : k = s.size := by omega
      by_cases h0 : s.size = 0
      · obtain rfl : R = false := HN.out fun q => by omega
        obtain rfl := Byt.str_none h0
        clear HN HY HA h0 hlt hk hs
        go_wp2_with fail
        go_ret
        exact ⟨rfl, rfl⟩
      · obtain rfl : R = true := HY.out ⟨by omega, HA.out⟩
        have e0 := Byt.str_some (s := s) (by omega)
        clear HN HY HA
        go_wp2_with fail
        go_ret
        exact ⟨rfl, rfl⟩
end Go.Proofs.Ytmlpgfjopkobbaa.Rou
