/- Texts of my own, packed: RouG1. Conditions: as each theorem states. -/
import Derived.Laws.Cover1
import Derived.Handy
import Derived.Test.YtehkiojohldlgaaGreatDoorK02
import Derived.Test.YtehkiojohldlgaaGreatDoorK03
namespace Go.Proofs.YtehkiojohldlgaaGreatDoor.Rou
open Go.RowKit Go.Lib Go.Proofs.YtehkiojohldlgaaGreatDoor.Byt

/-- The byte at m; 0 behind the end. -/
def bc (s : ByteArray) (m : Nat) : Nat := (s.data.toList.getD m 0).toNat
theorem index_of (s : ByteArray) (m : Nat) (x : Int) (hx : x = (m : Int)) (h : m < s.size) (w : World) :
    (Instr.index 9 (.string s) (.int .i64 x)).run Tryz.prog w = .ok (.int .u8 (bc s m : Int)) w := by
  subst hx
  have h2 : m < s.data.toList.length := by simpa using h
  have e : s[m].toNat = bc s m := by
    have : s.data.toList.getD m 0 = s[m] := by rw [List.getD, List.getElem?_eq_getElem h2]; rfl
    unfold bc; rw [this]
  rw [run_index_string w 9 _ .i64 (m : Int) Tryz.underlying9, dif_pos ⟨by omega, by omega⟩, ← e]
  rfl
/-- Is the text a word? -/
def wdB (s : ByteArray) : Bool := wd s.data.toList
theorem wdB_iff (s : ByteArray) : wdB s = true ↔ 1 ≤ s.size ∧ ∀ j, j < s.size → inW (bc s j) = true := by
  have e : s.data.toList.length = s.size := by simp
  unfold wdB wd
  rw [Bool.and_eq_true, decide_eq_true_eq, List.all_eq_true]
  constructor
  · rintro ⟨h1, h2⟩
    refine ⟨?_, fun j hj => ?_⟩
    · have := List.length_pos_iff.2 h1; omega
    · have hj2 : j < s.data.toList.length := by omega
      unfold bc
      rw [List.getD_eq_getElem?_getD, List.getElem?_eq_getElem hj2]
      exact h2 _ (List.getElem_mem hj2)
  · rintro ⟨h1, h2⟩
    refine ⟨List.length_pos_iff.1 (by omega), fun c hc => ?_⟩
    obtain ⟨j, hj, rfl⟩ := List.getElem_of_mem hc
    have := h2 j (by omega)
    unfold bc at this
    rwa [List.getD_eq_getElem?_getD, List.getElem?_eq_getElem hj] at this
theorem wdB_no {s : ByteArray} (h : ¬ (1 ≤ s.size ∧ ∀ j, j < s.size → inW (bc s j) = true)) : wdB s = false := by
  cases q : wdB s with
  | false => rfl
  | true => exact absurd ((wdB_iff s).1 q) h
theorem inW_range (n : Nat) (h : n ≠ 45 ∧ n ≠ 95 ∧ n ≠ 46 ∧ n ≠ 126 ∧ n ≠ 37) : inW n = ((decide (97 ≤ n) && decide (n ≤ 122)) || (decide (65 ≤ n) && decide (n ≤ 90)) || (decide (48 ≤ n) && decide (n ≤ 57))) := by
  unfold inW
  rw [decide_eq_false h.1, decide_eq_false h.2.1, decide_eq_false h.2.2.1, decide_eq_false h.2.2.2.1, decide_eq_false h.2.2.2.2]
  simp only [Bool.false_or]
theorem inW_sign (n : Nat) (h : ¬ (n ≠ 45 ∧ n ≠ 95 ∧ n ≠ 46 ∧ n ≠ 126 ∧ n ≠ 37)) : (n = 45 ∨ n = 95 ∨ n = 46 ∨ n = 126 ∨ n = 37) := by omega
theorem ranges (n : Nat) : n < 48 ∨ (48 ≤ n ∧ n ≤ 57) ∨ (57 < n ∧ n < 65) ∨ (65 ≤ n ∧ n ≤ 90) ∨ (90 < n ∧ n < 97) ∨ (97 ≤ n ∧ n ≤ 122) ∨ 122 < n := by omega

section
variable (n : Nat) (w : World)
set_option maxHeartbeats 2000000 in
theorem inword_any : Calls Tryz.prog 196 #[.int .u8 (n : Int)] w fun e w' => e = .returned (.bool (inW n)) ∧ w = w' := by
  by_cases h : n ≠ 45 ∧ n ≠ 95 ∧ n ≠ 46 ∧ n ≠ 126 ∧ n ≠ 37
  · rw [inW_range n h]
    have f1 : ((n : Int) == 45) = false := by rw [beq_eq_false_iff_ne]; omega
    have f2 : ((n : Int) == 95) = false := by rw [beq_eq_false_iff_ne]; omega
    have f3 : ((n : Int) == 46) = false := by rw [beq_eq_false_iff_ne]; omega
    have f4 : ((n : Int) == 126) = false := by rw [beq_eq_false_iff_ne]; omega
    have f5 : ((n : Int) == 37) = false := by rw [beq_eq_false_iff_ne]; omega
    obtain ⟨b1, g1⟩ : ∃ b, decide (97 ≤ n) = b := ⟨_, rfl⟩
    obtain ⟨b2, g2⟩ : ∃ b, decide (n ≤ 122) = b := ⟨_, rfl⟩
    obtain ⟨b3, g3⟩ : ∃ b, decide (65 ≤ n) = b := ⟨_, rfl⟩
    obtain ⟨b4, g4⟩ : ∃ b, decide (n ≤ 90) = b := ⟨_, rfl⟩
    obtain ⟨b5, g5⟩ : ∃ b, decide (48 ≤ n) = b := ⟨_, rfl⟩
    obtain ⟨b6, g6⟩ : ∃ b, decide (n ≤ 57) = b := ⟨_, rfl⟩
    have k1 : decide ((97 : Int) ≤ (n : Int)) = b1 := by rw [← g1, Bool.eq_iff_iff, decide_eq_true_eq, decide_eq_true_eq]; omega
    have k2 : decide ((n : Int) ≤ 122) = b2 := by rw [← g2, Bool.eq_iff_iff, decide_eq_true_eq, decide_eq_true_eq]; omega
    have k3 : decide ((65 : Int) ≤ (n : Int)) = b3 := by rw [← g3, Bool.eq_iff_iff, decide_eq_true_eq, decide_eq_true_eq]; omega
    have k4 : decide ((n : Int) ≤ 90) = b4 := by rw [← g4, Bool.eq_iff_iff, decide_eq_true_eq, decide_eq_true_eq]; omega
    have k5 : decide ((48 : Int) ≤ (n : Int)) = b5 := by rw [← g5, Bool.eq_iff_iff, decide_eq_true_eq, decide_eq_true_eq]; omega
    have k6 : decide ((n : Int) ≤ 57) = b6 := by rw [← g6, Bool.eq_iff_iff, decide_eq_true_eq, decide_eq_true_eq]; omega
    rw [g1, g2, g3, g4, g5, g6]
    have HB : (b1, b2, b3, b4, b5, b6) ∈ [(false, true, false, true, false, true), (false, true, false, true, true, true), (false, true, false, true, true, false), (false, true, true, true, true, false), (false, true, true, false, true, false), (true, true, true, false, true, false), (true, false, true, false, true, false)] := by
      subst g1 g2 g3 g4 g5 g6
      clear k1 k2 k3 k4 k5 k6 f1 f2 f3 f4 f5
      rcases ranges n with q | q | q | q | q | q | q
      all_goals
        simp only [List.mem_cons, Prod.mk.injEq, List.not_mem_nil, or_false, decide_eq_true_eq, decide_eq_false_iff_not]
        omega
    clear g1 g2 g3 g4 g5 g6 h
    simp only [List.mem_cons, Prod.mk.injEq, List.not_mem_nil, or_false] at HB
    rcases HB with ⟨rfl, rfl, rfl, rfl, rfl, rfl⟩ | ⟨rfl, rfl, rfl, rfl, rfl, rfl⟩ | ⟨rfl, rfl, rfl, rfl, rfl, rfl⟩ | ⟨rfl, rfl, rfl, rfl, rfl, rfl⟩ | ⟨rfl, rfl, rfl, rfl, rfl, rfl⟩ | ⟨rfl, rfl, rfl, rfl, rfl, rfl⟩ | ⟨rfl, rfl, rfl, rfl, rfl, rfl⟩
    all_goals
      go_enter Tryz.func196, Tryz.ntmps196
      go_wp2_with fail
      go_ret
      exact ⟨rfl, rfl⟩
  · rcases inW_sign n h with rfl | rfl | rfl | rfl | rfl
    all_goals
      clear h
      go_enter Tryz.func196, Tryz.ntmps196
      go_wp2_with fail
      go_ret
      exact ⟨rfl, rfl⟩
set_option maxHeartbeats 2000000 in
theorem plain_any : Calls Tryz.prog 188 #[.int .u8 (n : Int)] w fun e w' => e = .returned (.bool (inW n)) ∧ w = w' := by
  by_cases h : n ≠ 45 ∧ n ≠ 95 ∧ n ≠ 46 ∧ n ≠ 126 ∧ n ≠ 37
  · rw [inW_range n h]
    have f1 : ((n : Int) == 45) = false := by rw [beq_eq_false_iff_ne]; omega
    have f2 : ((n : Int) == 95) = false := by rw [beq_eq_false_iff_ne]; omega
    have f3 : ((n : Int) == 46) = false := by rw [beq_eq_false_iff_ne]; omega
    have f4 : ((n : Int) == 126) = false := by rw [beq_eq_false_iff_ne]; omega
    have f5 : ((n : Int) == 37) = false := by rw [beq_eq_false_iff_ne]; omega
    obtain ⟨b1, g1⟩ : ∃ b, decide (97 ≤ n) = b := ⟨_, rfl⟩
    obtain ⟨b2, g2⟩ : ∃ b, decide (n ≤ 122) = b := ⟨_, rfl⟩
    obtain ⟨b3, g3⟩ : ∃ b, decide (65 ≤ n) = b := ⟨_, rfl⟩
    obtain ⟨b4, g4⟩ : ∃ b, decide (n ≤ 90) = b := ⟨_, rfl⟩
    obtain ⟨b5, g5⟩ : ∃ b, decide (48 ≤ n) = b := ⟨_, rfl⟩
    obtain ⟨b6, g6⟩ : ∃ b, decide (n ≤ 57) = b := ⟨_, rfl⟩
    have k1 : decide ((97 : Int) ≤ (n : Int)) = b1 := by rw [← g1, Bool.eq_iff_iff, decide_eq_true_eq, decide_eq_true_eq]; omega
    have k2 : decide ((n : Int) ≤ 122) = b2 := by rw [← g2, Bool.eq_iff_iff, decide_eq_true_eq, decide_eq_true_eq]; omega
    have k3 : decide ((65 : Int) ≤ (n : Int)) = b3 := by rw [← g3, Bool.eq_iff_iff, decide_eq_true_eq, decide_eq_true_eq]; omega
    have k4 : decide ((n : Int) ≤ 90) = b4 := by rw [← g4, Bool.eq_iff_iff, decide_eq_true_eq, decide_eq_true_eq]; omega
    have k5 : decide ((48 : Int) ≤ (n : Int)) = b5 := by rw [← g5, Bool.eq_iff_iff, decide_eq_true_eq, decide_eq_true_eq]; omega
    have k6 : decide ((n : Int) ≤ 57) = b6 := by rw [← g6, Bool.eq_iff_iff, decide_eq_true_eq, decide_eq_true_eq]; omega
    rw [g1, g2, g3, g4, g5, g6]
    have HB : (b1, b2, b3, b4, b5, b6) ∈ [(false, true, false, true, false, true), (false, true, false, true, true, true), (false, true, false, true, true, false), (false, true, true, true, true, false), (false, true, true, false, true, false), (true, true, true, false, true, false), (true, false, true, false, true, false)] := by
      subst g1 g2 g3 g4 g5 g6
      clear k1 k2 k3 k4 k5 k6 f1 f2 f3 f4 f5
      rcases ranges n with q | q | q | q | q | q | q
      all_goals
        simp only [List.mem_cons, Prod.mk.injEq, List.not_mem_nil, or_false, decide_eq_true_eq, decide_eq_false_iff_not]
        omega
    clear g1 g2 g3 g4 g5 g6 h
    simp only [List.mem_cons, Prod.mk.injEq, List.not_mem_nil, or_false] at HB
    rcases HB with ⟨rfl, rfl, rfl, rfl, rfl, rfl⟩ | ⟨rfl, rfl, rfl, rfl, rfl, rfl⟩ | ⟨rfl, rfl, rfl, rfl, rfl, rfl⟩ | ⟨rfl, rfl, rfl, rfl, rfl, rfl⟩ | ⟨rfl, rfl, rfl, rfl, rfl, rfl⟩ | ⟨rfl, rfl, rfl, rfl, rfl, rfl⟩ | ⟨rfl, rfl, rfl, rfl, rfl, rfl⟩
    all_goals
      go_enter Tryz.func188, Tryz.ntmps188
      go_wp2_with fail
      go_ret
      exact ⟨rfl, rfl⟩
  · rcases inW_sign n h with rfl | rfl | rfl | rfl | rfl
    all_goals
      clear h
      go_enter Tryz.func188, Tryz.ntmps188
      go_wp2_with fail
      go_ret
      exact ⟨rfl, rfl⟩
end

/-! ### words -/
set_option maxRecDepth 100000 in
theorem word_any (s : ByteArray) (w : World) (hs : s.size ≤ 140737488355328) : Calls Tryz.prog 182 #[.string s] w fun e w' => e = .returned (.bool (wdB s)) ∧ w = w' := by
  obtain ⟨R, hR⟩ : ∃ R, wdB s = R := ⟨_, rfl⟩
  have HN := Lib.hid (wdB_no (s := s))
  have HY := Lib.hid (wdB_iff s).2
  rw [hR] at HN HY ⊢
  clear hR
  go_enter Tryz.func182, Tryz.ntmps182
  go_wp2_with fail
  go_loop [6] (fun i => ∃ k : Nat, i = .int .i64 (k : Int) ∧ k ≤ s.size ∧ Hid (∀ j, j < k → inW (bc s j) = true)) (fun i => s.size - (RowKit.intOf i).toNat)
  case atStart => exact ⟨0, rfl, Nat.zero_le _, Lib.hid fun j h => by omega⟩
  case round =>
    obtain ⟨k, rfl, hk, HA⟩ := hrel
    by_cases hlt : k < s.size
    · have hix := fun w => index_of s k (k : Int) rfl hlt w
      have HF := Lib.hid fun w => inword_any (bc s k) w
      cases hf : inW (bc s k) with
      | false =>
        obtain rfl : R = false := HN.out fun q => by have := q.2 k hlt; rw [hf] at this; cases this
        rw [hf] at HF
        generalize bc s k = d at *
        clear HA HN HY hf
        go_wp2_with (go_at_call 196; refine (HF.out _).mono ?_; rintro e w1 ⟨rfl, rfl⟩)
        go_ret
        exact ⟨rfl, rfl⟩
      | true =>
        have HA2 := Lib.hid (show ∀ j, j < k + 1 → inW (bc s j) = true from fun j hj2 => by
          by_cases q : j < k
          · exact HA.out j q
          · obtain rfl : j = k := by omega
            exact hf)
        rw [hf] at HF
        generalize bc s k = d at *
        clear HA hf
        go_wp2_with (go_at_call 196; refine (HF.out _).mono ?_; rintro e w1 ⟨rfl, rfl⟩)
        go_round
        case rel => exact ⟨k + 1, by go_num, by omega, HA2⟩
        case measure => simp [RowKit.intOf]; omega
    · obtain rfl : k = s.size := by omega
      by_cases h0 : s.size = 0
      · obtain rfl : R = false := HN.out fun q => by omega
        obtain rfl := Byt.str_none h0
        clear HN HY HA h0 hlt hk hs
        go_wp2_with fail
        go_ret
        exact ⟨rfl, rfl⟩
      · obtain rfl : R = true := HY.out ⟨by omega, HA.out⟩
        have e0 := Byt.str_some (s := s) (by omega)
        clear HN HY HA
        go_wp2_with fail
        go_ret
        exact ⟨rfl, rfl⟩
set_option maxRecDepth 100000 in
theorem rword_any (s : ByteArray) (w : World) (hs : s.size ≤ 140737488355328) : Calls Tryz.prog 173 #[.string s] w fun e w' => e = .returned (.bool (wdB s)) ∧ w = w' := by
  obtain ⟨R, hR⟩ : ∃ R, wdB s = R := ⟨_, rfl⟩
  have HN := Lib.hid (wdB_no (s := s))
  have HY := Lib.hid (wdB_iff s).2
  rw [hR] at HN HY ⊢
  clear hR
  go_enter Tryz.func173, Tryz.ntmps173
  go_wp2_with fail
  go_loop [6] (fun i => ∃ k : Nat, i = .int .i64 (k : Int) ∧ k ≤ s.size ∧ Hid (∀ j, j < k → inW (bc s j) = true)) (fun i => s.size - (RowKit.intOf i).toNat)
  case atStart => exact ⟨0, rfl, Nat.zero_le _, Lib.hid fun j h => by omega⟩
  case round =>
    obtain ⟨k, rfl, hk, HA⟩ := hrel
    by_cases hlt : k < s.size
    · have hix := fun w => index_of s k (k : Int) rfl hlt w
      have HF := Lib.hid fun w => plain_any (bc s k) w
      cases hf : inW (bc s k) with
      | false =>
        obtain rfl : R = false := HN.out fun q => by have := q.2 k hlt; rw [hf] at this; cases this
        rw [hf] at HF
        generalize bc s k = d at *
        clear HA HN HY hf
        go_wp2_with (go_at_call 188; refine (HF.out _).mono ?_; rintro e w1 ⟨rfl, rfl⟩)
        go_ret
        exact ⟨rfl, rfl⟩
      | true =>
        have HA2 := Lib.hid (show ∀ j, j < k + 1 → inW (bc s j) = true from fun j hj2 => by
          by_cases q : j < k
          · exact HA.out j q
          · obtain rfl : j = k := by omega
            exact hf)
        rw [hf] at HF
        generalize bc s k = d at *
        clear HA hf
        go_wp2_with (go_at_call 188; refine (HF.out _).mono ?_; rintro e w1 ⟨rfl, rfl⟩)
        go_round
        case rel => exact ⟨k + 1, by go_num, by omega, HA2⟩
        case measure => simp [RowKit.intOf]; omega
    · obtain rfl : k = s.size := by omega
      by_cases h0 : s.size = 0
      · obtain rfl : R = false := HN.out fun q => by omega
        obtain rfl := Byt.str_none h0
        clear HN HY HA h0 hlt hk hs
        go_wp2_with fail
        go_ret
        exact ⟨rfl, rfl⟩
      · obtain rfl : R = true := HY.out ⟨by omega, HA.out⟩
        have e0 := Byt.str_some (s := s) (by omega)
        clear HN HY HA
        go_wp2_with fail
        go_ret
        exact ⟨rfl, rfl⟩
end Go.Proofs.YtehkiojohldlgaaGreatDoor.Rou

namespace Go.Proofs.YtehkiojohldlgaaGreatDoor.Rou
open Go.RowKit Go.Lib Go.Proofs.YtehkiojohldlgaaGreatDoor.Byt

theorem all_no {l : List ByteArray} {f : ByteArray → Bool} {k : Nat} (hk : k < l.length) (h : f (l.getD k ⟨#[]⟩) = false) : l.all f = false := by
  cases q : l.all f with
  | false => rfl
  | true =>
    rw [List.all_eq_true] at q
    have := q (l.getD k ⟨#[]⟩) (by rw [List.getD_eq_getElem?_getD, List.getElem?_eq_getElem hk]; exact List.getElem_mem hk)
    rw [h] at this
    cases this
theorem all_yes {l : List ByteArray} {f : ByteArray → Bool} (h : ∀ j, j < l.length → f (l.getD j ⟨#[]⟩) = true) : l.all f = true := by
  rw [List.all_eq_true]
  intro x hx
  obtain ⟨j, hj, rfl⟩ := List.getElem_of_mem hx
  have := h j hj
  rwa [List.getD_eq_getElem?_getD, List.getElem?_eq_getElem hj] at this
theorem mem_at {l : List ByteArray} {k : Nat} (hk : k < l.length) : l.getD k ⟨#[]⟩ ∈ l := by
  rw [List.getD_eq_getElem?_getD, List.getElem?_eq_getElem hk]; exact List.getElem_mem hk
theorem sb_eq {x y : ByteArray} : (x.toList == y.toList) = decide (x = y) := by
  by_cases h : x = y
  · subst h; rw [beq_self_eq_true, decide_eq_true rfl]
  · rw [Byt.str_neq h, decide_eq_false h]

/-! ### single -/
/-- A word or a star. -/
def sgB (s : ByteArray) : Bool := decide (s = ⟨#[42]⟩) || wdB s
theorem single_any (s : ByteArray) (w : World) (hs : s.size ≤ 140737488355328) : Calls Tryz.prog 165 #[.string s] w fun e w' => e = .returned (.bool (sgB s)) ∧ w = w' := by
  by_cases h : s = ⟨#[42]⟩
  · subst h
    have hq : sgB ⟨#[42]⟩ = true := by unfold sgB; rw [decide_eq_true rfl, Bool.true_or]
    rw [hq]
    clear hq hs
    go_enter Tryz.func165, Tryz.ntmps165
    go_wp2_with fail
    go_ret
    exact ⟨rfl, rfl⟩
  · have hq : sgB s = wdB s := by unfold sgB; rw [decide_eq_false h, Bool.false_or]
    rw [hq]
    have HW := Lib.hid fun W => word_any s W hs
    have hn := Byt.str_neq h
    rw [Byt.toList_data ⟨#[42]⟩] at hn
    change (s.toList == [42]) = false at hn
    generalize wdB s = R at *
    clear hq h
    go_enter Tryz.func165, Tryz.ntmps165
    go_wp2_with (go_at_call 182; (with_reducible refine (HW.out _).mono ?_); rintro e w1 ⟨rfl, rfl⟩)
    go_ret
    exact ⟨rfl, rfl⟩

/-! ### all -/
theorem all_single (l : List ByteArray) (v : Value) (w : World) (hr : Strs.Row w v l) (hl : l.length ≤ 140737488355328) (hm : ∀ x ∈ l, x.size ≤ 140737488355328) :
    Calls Tryz.prog 162 #[v, .func (.func 165) #[] #[]] w fun e w' => e = .returned (.bool (l.all sgB)) ∧ w = w' := by
  obtain ⟨a, cap, rfl, hc⟩ := hr.open_
  have HC := Lib.hid hc
  have HM := Lib.hid fun k (h : k < l.length) => hm _ (mem_at h)
  obtain ⟨R, hR⟩ : ∃ R, l.all sgB = R := ⟨_, rfl⟩
  have HN := Lib.hid fun k => all_no (l := l) (f := sgB) (k := k)
  have HY := Lib.hid (all_yes (l := l) (f := sgB))
  rw [hR] at HN HY ⊢
  clear hc hr hR hm
  go_enter Tryz.func162, Tryz.ntmps162
  go_wp2_with fail
  go_loop [9] (fun i => ∃ k : Nat, i = .int .i64 (k : Int) ∧ k ≤ l.length ∧ Hid (∀ j, j < k → sgB (l.getD j ⟨#[]⟩) = true)) (fun i => l.length - (RowKit.intOf i).toNat)
  case atStart => exact ⟨0, rfl, Nat.zero_le _, Lib.hid fun j hj => absurd hj (Nat.not_lt_zero _)⟩
  case round =>
    obtain ⟨k, rfl, hk, HA⟩ := hrel
    by_cases hlt : k < l.length
    · obtain ⟨b, off, rfl, hcl⟩ := HC.out k hlt
      have hsz := HM.out k hlt
      have HW := Lib.hid fun W => single_any (l.getD k ⟨#[]⟩) W hsz
      cases hf : sgB (l.getD k ⟨#[]⟩) with
      | false =>
        obtain rfl : R = false := HN.out k hlt hf
        rw [hf] at HW
        clear hf HN HY HA HM hsz
        generalize l.getD k ⟨#[]⟩ = x at *
        go_wp2_with (go_at_call 165; (with_reducible refine (HW.out _).mono ?_); rintro e w1 ⟨rfl, rfl⟩)
        go_ret
        exact ⟨rfl, rfl⟩
      | true =>
        have HA2 := Lib.hid (show ∀ j, j < k + 1 → sgB (l.getD j ⟨#[]⟩) = true from fun j hj => by
          by_cases q : j < k
          · exact HA.out j q
          · obtain rfl : j = k := by omega
            exact hf)
        rw [hf] at HW
        clear hf HA hsz
        generalize l.getD k ⟨#[]⟩ = x at *
        go_wp2_with (go_at_call 165; (with_reducible refine (HW.out _).mono ?_); rintro e w1 ⟨rfl, rfl⟩)
        go_round
        case rel => exact ⟨k + 1, by go_num, by omega, HA2⟩
        case measure => simp [RowKit.intOf]; omega
    · obtain rfl : k = l.length := by omega
      obtain rfl : R = true := HY.out HA.out
      clear HN HY HA HM
      go_wp2_with fail
      go_ret
      exact ⟨rfl, rfl⟩

/-! ### inner -/
/-- All parts but two stars at the end. -/
def innB (l : List ByteArray) : List ByteArray := if l.getLast? = some ⟨#[42, 42]⟩ then l.dropLast else l
/-- A row that begins as v does, of k strings. -/
theorem Row_take {w : World} {a : Option Addr} {n cap : Nat} {l : List ByteArray} (h : Strs.Row w (.slice a n cap) l) (k : Nat) (hk : k ≤ n) : Strs.Row w (.slice a k cap) (l.take k) := by
  rcases h with ⟨rfl, a', cap', e⟩ | ⟨b, off, cap', e, hc⟩
  · injection e with e1 e2 e3
    subst e1 e2 e3
    obtain rfl : k = 0 := by omega
    exact .inl ⟨List.take_nil, _, _, rfl⟩
  · injection e with e1 e2 e3
    subst e1 e2 e3
    have hl : (l.take k).length = k := by rw [List.length_take]; omega
    refine .inr ⟨b, off, cap, by rw [hl], fun j hj => ?_⟩
    have hj2 : j < k := by omega
    rw [hc j (by omega)]
    have : (l.take k).getD j ⟨#[]⟩ = l.getD j ⟨#[]⟩ := by
      rw [List.getD_eq_getElem?_getD, List.getD_eq_getElem?_getD, List.getElem?_take_of_lt hj2]
    rw [this]
/-- v's room is as great as its length, or greater. -/
def Cp (v : Value) : Prop := ∃ a n c, v = .slice a n c ∧ n ≤ c
theorem last_at {l : List ByteArray} (h : 0 < l.length) : l.getLast? = some (l.getD (l.length - 1) ⟨#[]⟩) := by
  rw [List.getLast?_eq_getElem?, List.getD_eq_getElem?_getD, List.getElem?_eq_getElem (by omega)]
  rfl
theorem inner_any (l : List ByteArray) (v : Value) (w : World) (hr : Strs.Row w v l) (hcp : Cp v) (hl : l.length ≤ 140737488355328) :
    Calls Tryz.prog 163 #[v] w fun e w' => ∃ u, e = .returned u ∧ Strs.Row w u (innB l) ∧ Cp u ∧ w = w' := by
  have HR := Lib.hid hr
  obtain ⟨a, cap, rfl, hc⟩ := hr.open_
  have hcap : l.length ≤ cap := by
    obtain ⟨a', n, c, e, h⟩ := hcp
    injection e with e1 e2 e3
    omega
  have HC := Lib.hid hc
  clear hc hr
  by_cases h0 : l.length = 0
  · have hq : innB l = l := by
      obtain rfl : l = [] := List.eq_nil_of_length_eq_zero h0
      rfl
    rw [hq]
    generalize l.length = n at *
    subst h0
    have e1 : decide ((0 : Int) ≤ -1) = false := by decide
    go_enter Tryz.func163, Tryz.ntmps163
    go_wp2_with fail
    go_ret
    exact ⟨_, rfl, HR.out, ⟨_, _, _, rfl, hcap⟩, rfl⟩
  · have hla := last_at (l := l) (by omega)
    obtain ⟨b, off, rfl, hcl⟩ := HC.out (l.length - 1) (by omega)
    have HT := Lib.hid (Row_take HR.out (l.length - 1) (by omega))
    obtain ⟨m, hm⟩ : ∃ m, l.length - 1 = m := ⟨_, rfl⟩
    rw [hm] at hla hcl HT
    have hm1 : (l.length : Int) - 1 = (m : Int) := by omega
    have hm2 : m < l.length := by omega
    have hdl : l.dropLast = l.take m := by rw [List.dropLast_eq_take, hm]
    by_cases hs : l.getD m ⟨#[]⟩ = ⟨#[42, 42]⟩
    · have hq : innB l = l.take m := by
        unfold innB
        rw [hla, hs, if_pos rfl, hdl]
      rw [hq]
      rw [hs] at hcl
      have HL := Lib.hid hm
      clear hs hq hdl hla hm
      generalize l.length = n at *
      go_enter Tryz.func163, Tryz.ntmps163
      go_wp2_with fail
      go_ret
      exact ⟨_, rfl, HT.out, ⟨_, _, _, rfl, by omega⟩, rfl⟩
    · have hq : innB l = l := by
        unfold innB
        rw [hla, if_neg]
        intro q
        exact hs (Option.some.inj q)
      rw [hq]
      have hn := Byt.str_neq hs
      rw [Byt.toList_data ⟨#[42, 42]⟩] at hn
      change (_ == [42, 42]) = false at hn
      clear hs hq hdl hla hm
      generalize l.getD m ⟨#[]⟩ = x at *
      generalize l.length = n at *
      go_enter Tryz.func163, Tryz.ntmps163
      go_wp2_with fail
      go_ret
      exact ⟨_, rfl, HR.out, ⟨_, _, _, rfl, hcap⟩, rfl⟩

/-! ### two rows alike -/
theorem eq_len {x y : List ByteArray} (h : x.length ≠ y.length) : decide (x = y) = false := decide_eq_false fun e => h (by rw [e])
theorem eq_no {x y : List ByteArray} {k : Nat} (h : x.getD k ⟨#[]⟩ ≠ y.getD k ⟨#[]⟩) : decide (x = y) = false := decide_eq_false fun e => h (by rw [e])
theorem eq_yes {x y : List ByteArray} (hl : x.length = y.length) (h : ∀ j, j < x.length → x.getD j ⟨#[]⟩ = y.getD j ⟨#[]⟩) : decide (x = y) = true := by
  refine decide_eq_true (List.ext_getElem hl fun j h1 h2 => ?_)
  have := h j h1
  rwa [List.getD_eq_getElem?_getD, List.getD_eq_getElem?_getD, List.getElem?_eq_getElem h1, List.getElem?_eq_getElem h2] at this
set_option maxHeartbeats 2000000 in
theorem equal_any (x y : List ByteArray) (u v : Value) (w : World) (hx : Strs.Row w u x) (hy : Strs.Row w v y) (hl : x.length ≤ 140737488355328) :
    Calls Tryz.prog 46 #[u, v] w fun e w' => e = .returned (.bool (decide (x = y))) ∧ ∃ n, w' = w.drewN n := by
  obtain ⟨a, cap, rfl, hc⟩ := hx.open_
  obtain ⟨a2, cap2, rfl, hc2⟩ := hy.open_
  have HC := Lib.hid hc
  have HC2 := Lib.hid hc2
  obtain ⟨R, hR⟩ : ∃ R, decide (x = y) = R := ⟨_, rfl⟩
  have HN := Lib.hid fun k => eq_no (x := x) (y := y) (k := k)
  have HL := Lib.hid (eq_len (x := x) (y := y))
  have HY := Lib.hid (eq_yes (x := x) (y := y))
  rw [hR] at HN HL HY
  rw [hR]
  clear hc hc2 hx hy hR
  by_cases hne : x.length = y.length
  · have e1 : ((x.length : Int) != (y.length : Int)) = false := by rw [bne_eq_false_iff_eq]; omega
    have HE := Lib.hid hne
    clear hne
    go_enter Tryz.func46, Tryz.ntmps46
    go_wp2_with fail
    go_loopw [13] (fun i wr => ∃ k n : Nat, i = .int .i64 (k : Int) ∧ wr = w.drewN n ∧ k ≤ x.length ∧ Hid (∀ j, j < k → x.getD j ⟨#[]⟩ = y.getD j ⟨#[]⟩)) (fun i _ => x.length - (RowKit.intOf i).toNat)
    case atStart => exact ⟨0, 0, rfl, rfl, Nat.zero_le _, Lib.hid fun j hj => absurd hj (Nat.not_lt_zero _)⟩
    case round =>
      obtain ⟨k, nd, rfl, rfl, hk, HA⟩ := hrel
      by_cases hlt : k < x.length
      · have hlt2 : k < y.length := by have := HE.out; omega
        obtain ⟨b, off, rfl, h1⟩ := HC.out k hlt
        obtain ⟨b2, off2, rfl, h2⟩ := HC2.out k hlt2
        have c1 : ∀ n, (w.drewN n).cell? ⟨b, off + k, none⟩ = some (.string (x.getD k ⟨#[]⟩)) := fun n => h1
        have c2 : ∀ n, (w.drewN n).cell? ⟨b2, off2 + k, none⟩ = some (.string (y.getD k ⟨#[]⟩)) := fun n => h2
        clear h1 h2
        by_cases hq : x.getD k ⟨#[]⟩ = y.getD k ⟨#[]⟩
        · have HA2 := Lib.hid (show ∀ j, j < k + 1 → x.getD j ⟨#[]⟩ = y.getD j ⟨#[]⟩ from fun j hj => by
            by_cases q : j < k
            · exact HA.out j q
            · obtain rfl : j = k := by omega
              exact hq)
          rw [← hq] at c2
          have hb : ((x.getD k ⟨#[]⟩).toList == (x.getD k ⟨#[]⟩).toList) = true := beq_self_eq_true _
          clear hq HA
          generalize x.getD k ⟨#[]⟩ = p at *
          generalize x.length = n at *
          generalize y.length = n2 at *
          go_wp2_with fail
          go_region
          go_wp2_with fail
          go_roundw
          case rel => exact ⟨k + 1, _, by go_num, rfl, by omega, HA2⟩
          case measure => simp [RowKit.intOf]; omega
        · obtain rfl : R = false := HN.out k hq
          have hb : ((x.getD k ⟨#[]⟩).toList == (y.getD k ⟨#[]⟩).toList) = false := Byt.str_neq hq
          clear hq HA HN HL HY
          generalize x.getD k ⟨#[]⟩ = p at *
          generalize y.getD k ⟨#[]⟩ = q at *
          generalize x.length = n at *
          generalize y.length = n2 at *
          go_wp2_with fail
          go_region
          go_wp2_with fail
          go_ret
          exact ⟨rfl, _, rfl⟩
      · obtain rfl : k = x.length := by omega
        obtain rfl : R = true := HY.out HE.out HA.out
        clear HN HL HY HA
        go_wp2_with fail
        go_ret
        exact ⟨rfl, _, rfl⟩
  · obtain rfl : R = false := HL.out hne
    have e1 : ((x.length : Int) != (y.length : Int)) = true := by rw [bne_iff_ne]; omega
    clear HN HL HY hne
    generalize x.length = n at *
    generalize y.length = n2 at *
    go_enter Tryz.func46, Tryz.ntmps46
    go_wp2_with fail
    go_ret
    exact ⟨rfl, 0, rfl⟩
end Go.Proofs.YtehkiojohldlgaaGreatDoor.Rou

namespace Go.Proofs.YtehkiojohldlgaaGreatDoor.Rou
open Go.RowKit Go.Lib Go.Proofs.YtehkiojohldlgaaGreatDoor.Byt

theorem below_drewN {B n : Nat} {w W : World} (h : Below B w W) : Below B w (W.drewN n) := ⟨h.os, h.tape, h.output, h.size, h.block⟩
def mk (l : List UInt8) : ByteArray := ⟨l.toArray⟩
theorem mk_data (x : ByteArray) : mk x.data.toList = x := by cases x; simp [mk]
theorem dt_mk (l : List UInt8) : (mk l).data.toList = l := by simp [mk]
theorem sz_mk (l : List UInt8) : (mk l).size = l.length := by show (List.toArray _).size = _; simp
theorem len_dt (s : ByteArray) : s.data.toList.length = s.size := by simp
theorem cut_lo {s : ByteArray} {a b : List UInt8} (h : s.data.toList = a ++ 47 :: b) : cutB s 0 a.length = mk a := by
  unfold cutB mk
  rw [h]; simp
theorem cut_hi {s : ByteArray} {a b : List UInt8} (h : s.data.toList = a ++ 47 :: b) : cutB s (a.length + 1) b.length = mk b := by
  unfold cutB mk
  rw [h]; simp

/-! ### Cut, Clone -/
theorem lcut_no (s : ByteArray) (h : (47 : UInt8) ∉ s.data.toList) (w : World) :
    Calls Tryz.prog 195 #[.string s, .string ⟨#[47]⟩] w fun e w' => e = .returned (.tuple #[.string s, .string ⟨#[]⟩, .bool false]) ∧ ∃ n, w' = w.drewN n := by
  have HI := Lib.hid fun W => Tryz.stringslite_Index_one s 47 W
  rw [ix_none _ h] at HI
  clear h
  go_enter Tryz.func195, Tryz.ntmps195
  go_wp2_with (go_at_call 192; (with_reducible refine (HI.out _).mono ?_); rintro e w1 ⟨rfl, rfl⟩)
  go_ret3
  exact ⟨rfl, 0, rfl⟩
theorem lcut_yes (s : ByteArray) (hs : s.size ≤ 281474976710656) (a b : List UInt8) (h : s.data.toList = a ++ 47 :: b) (ha : (47 : UInt8) ∉ a) (w : World) :
    Calls Tryz.prog 195 #[.string s, .string ⟨#[47]⟩] w fun e w' => e = .returned (.tuple #[.string (mk a), .string (mk b), .bool true]) ∧ ∃ n, w' = w.drewN n := by
  have HI := Lib.hid fun W => Tryz.stringslite_Index_one s 47 W
  have hsz : a.length + 1 + b.length = s.size := by rw [← len_dt, h]; simp; omega
  have c1 := fun W => sl_to s a.length (by omega) W
  have c2 := fun W => sl_from s (a.length + 1) b.length hsz W
  rw [cut_lo h] at c1
  rw [cut_hi h] at c2
  rw [h, ix_some a b ha] at HI
  have e1 : ((a.length + 1 : Nat) : Int) = (a.length : Int) + 1 := by omega
  rw [e1] at c2
  clear h ha e1
  generalize mk a = x at *
  generalize mk b = y at *
  generalize a.length = n at *
  generalize b.length = m at *
  have ew : IntKind.i64.wrap ((n : Int) + 1) = (n : Int) + 1 := by rw [IntKind.wrap_i64]; omega
  go_enter Tryz.func195, Tryz.ntmps195
  go_wp2_with (go_at_call 192; (with_reducible refine (HI.out _).mono ?_); rintro e w1 ⟨rfl, rfl⟩)
  go_region
  all_goals
    go_wp2_with fail
    go_ret3
    exact ⟨rfl, 1, rfl⟩
theorem scut_no (s : ByteArray) (h : (47 : UInt8) ∉ s.data.toList) (w : World) :
    Calls Tryz.prog 181 #[.string s, .string ⟨#[47]⟩] w fun e w' => e = .returned (.tuple #[.string s, .string ⟨#[]⟩, .bool false]) ∧ ∃ n, w' = w.drewN n := by
  have HI := Lib.hid fun W => lcut_no s h W
  go_enter Tryz.func181, Tryz.ntmps181
  go_wp2_with (go_at_call 195; (with_reducible refine (HI.out _).mono ?_); rintro e w1 ⟨rfl, n, rfl⟩)
  go_ret3
  exact ⟨rfl, n, rfl⟩
theorem scut_yes (s : ByteArray) (hs : s.size ≤ 281474976710656) (a b : List UInt8) (h : s.data.toList = a ++ 47 :: b) (ha : (47 : UInt8) ∉ a) (w : World) :
    Calls Tryz.prog 181 #[.string s, .string ⟨#[47]⟩] w fun e w' => e = .returned (.tuple #[.string (mk a), .string (mk b), .bool true]) ∧ ∃ n, w' = w.drewN n := by
  have HI := Lib.hid fun W => lcut_yes s hs a b h ha W
  clear h ha
  generalize mk a = x at *
  generalize mk b = y at *
  go_enter Tryz.func181, Tryz.ntmps181
  go_wp2_with (go_at_call 195; (with_reducible refine (HI.out _).mono ?_); rintro e w1 ⟨rfl, n, rfl⟩)
  go_ret3
  exact ⟨rfl, n, rfl⟩
theorem clone_str (s : ByteArray) (w : World) (hs : s.size ≤ 281474976710656) :
    Calls Tryz.prog 39 #[.string s] w fun e w' => e = .returned (.string s) ∧ Below w.heap.size w w' := by
  go_enter Tryz.func39, Tryz.ntmps39
  go_wp2_with (go_at_call 78; refine (Tryz.stringslite_Clone _ _ hs).mono ?_; rintro e w' ⟨rfl, hb⟩)
  go_ret
  exact ⟨rfl, hb⟩

/-! ### row -/
def rowB (s : ByteArray) : Bool := row s.data.toList
theorem rowB_is (s : ByteArray) : rowB s = (decide (s.size ≤ 255) && (Lib.hasPrefix s.data.toList [47] && decide (Lib.countByte s.data.toList 47 ≤ 32))) := by
  unfold rowB
  rw [← len_dt]
  cases s.data.toList with
  | nil => rfl
  | cons c l =>
    have hp : Lib.hasPrefix (c :: l) [47] = decide (c = 47) := by
      show ([47] : List UInt8).isPrefixOf (c :: l) = _
      show ((47 : UInt8) == c && List.isPrefixOf [] l) = _
      rw [Bool.eq_iff_iff, Bool.and_eq_true, beq_iff_eq, decide_eq_true_eq]
      constructor
      · rintro ⟨h, _⟩; exact h.symm
      · intro h; exact ⟨h.symm, by cases l <;> rfl⟩
    rw [hp]
    by_cases hc : c = 47
    · subst hc
      rw [Bool.eq_iff_iff]
      simp only [row, Lib.countByte, Bool.and_eq_true, decide_eq_true_eq, List.length_cons, List.count_cons_self, true_and]
      omega
    · show (decide (c = 47) && decide (l.length ≤ 254) && decide (List.count 47 l ≤ 31)) = _
      rw [decide_eq_false hc]; simp only [Bool.false_and, Bool.and_false]
theorem row_any (s : ByteArray) (w : World) (hs : s.size ≤ 140737488355328) : Calls Tryz.prog 161 #[.string s] w fun e w' => e = .returned (.bool (rowB s)) ∧ w = w' := by
  rw [rowB_is]
  have HP := Lib.hid fun W => Tryz.strings_HasPrefix s ⟨#[47]⟩ W
  have HC := Lib.hid fun W => Tryz.strings_Count_one s 47 W
  change Hid (∀ W, Calls Tryz.prog 180 #[.string s, .string ⟨#[47]⟩] W fun e w' => e = .returned (.bool (Lib.hasPrefix s.data.toList [47])) ∧ w' = W) at HP
  have e1 : decide ((s.size : Int) ≤ 255) = decide (s.size ≤ 255) := by rw [Bool.eq_iff_iff, decide_eq_true_eq, decide_eq_true_eq]; omega
  have e2 : decide (((Lib.countByte s.data.toList 47 : Nat) : Int) ≤ 32) = decide (Lib.countByte s.data.toList 47 ≤ 32) := by rw [Bool.eq_iff_iff, decide_eq_true_eq, decide_eq_true_eq]; omega
  have e3 : decide (s.size ≤ 255) = decide (s.size ≤ 255) := rfl
  generalize Lib.countByte s.data.toList 47 = m at *
  generalize Lib.hasPrefix s.data.toList [47] = bp at *
  generalize hb1 : decide (s.size ≤ 255) = b1 at *
  generalize hb2 : decide (m ≤ 32) = b2 at *
  clear e3
  cases b1 <;> cases bp <;> cases b2
  all_goals
    go_enter Tryz.func161, Tryz.ntmps161
    go_wp2_with (first
      | (go_at_call 180; (with_reducible refine (HP.out _).mono ?_); rintro e w1 ⟨rfl, rfl⟩)
      | (go_at_call 174; (with_reducible refine (HC.out _).mono ?_); rintro e w1 ⟨rfl, rfl⟩))
    go_ret
    exact ⟨rfl, rfl⟩
end Go.Proofs.YtehkiojohldlgaaGreatDoor.Rou

namespace Go.Proofs.YtehkiojohldlgaaGreatDoor.Rou
open Go.RowKit Go.Lib Go.Proofs.YtehkiojohldlgaaGreatDoor.Byt

/-- Block g holds the 32 strings l. -/
def Sa (w : World) (g : Nat) (l : List ByteArray) : Prop := w.heap[g]? = some (.cells (l.map Value.string).toArray 187 (0, 0))
section
variable {w w' : World} {g : Nat} {l : List ByteArray}
theorem Sa.lt (h : Sa w g l) : g < w.heap.size := by
  rcases Nat.lt_or_ge g w.heap.size with h' | h'
  · exact h'
  · unfold Sa at h; simp [Array.getElem?_eq_none h'] at h
theorem Sa.next (h : Sa w g l) (hb : Below w.heap.size w w') : Sa w' g l := (hb.block g h.lt).trans h
theorem Sa.drewN (h : Sa w g l) (n : Nat) : Sa (w.drewN n) g l := h
theorem Sa.cell (h : Sa w g l) {j : Nat} (hj : j < l.length) : w.cell? ⟨g, j, none⟩ = some (.string (l.getD j ⟨#[]⟩)) := by
  rw [Lib.cell_of_heap h]
  simp [hj]
theorem Sa.free (h : Sa w g l) (j : Nat) : w.frozen? ⟨g, j, none⟩ = false := Lib.frozen_of_heap h j
theorem Sa.set (h : Sa w g l) (j : Nat) (x : ByteArray) : Sa (w.setCell ⟨g, j, none⟩ (.string x)) g (l.set j x) := by
  have := heap_setCell_same w g j _ _ (.string x) h
  unfold Sa
  rw [this, List.setIfInBounds_toArray, List.map_set]
theorem Sa.row (h : Sa w g l) (k cap : Nat) (hk : k ≤ l.length) : Strs.Row w (.slice (some ⟨g, 0, none⟩) k cap) (l.take k) := by
  have hl : (l.take k).length = k := by rw [List.length_take]; omega
  refine .inr ⟨g, 0, cap, by rw [hl], fun j hj => ?_⟩
  rw [Nat.zero_add, h.cell (by omega)]
  have : (l.take k).getD j ⟨#[]⟩ = l.getD j ⟨#[]⟩ := by
    rw [List.getD_eq_getElem?_getD, List.getD_eq_getElem?_getD, List.getElem?_take_of_lt (by omega)]
  rw [this]
end
/-- The parts, as texts. -/
def psB (l : List UInt8) : List ByteArray := (ps l).map mk
def prB (s : ByteArray) : List ByteArray := (prt s.data.toList).map mk
theorem psB_len (l : List UInt8) : (psB l).length = l.count 47 + 1 := by unfold psB; rw [List.length_map, ps_len]
theorem psB_one {l : List UInt8} (h : (47 : UInt8) ∉ l) : psB l = [mk l] := by unfold psB; rw [ps_one l h]; rfl
theorem psB_cut {a b : List UInt8} (h : (47 : UInt8) ∉ a) : psB (a ++ 47 :: b) = mk a :: psB b := by unfold psB; rw [ps_cut a b h]; rfl
/-- The first k of the parts, and room for the rest. -/
def hf (L : List ByteArray) (k : Nat) : List ByteArray := L.take k ++ List.replicate (32 - k) ⟨#[]⟩
theorem hf_len {L : List ByteArray} {k : Nat} (h : k ≤ L.length) (h2 : k ≤ 32) : (hf L k).length = 32 := by
  unfold hf; rw [List.length_append, List.length_take, List.length_replicate]; omega
theorem hf_set {L : List ByteArray} {k : Nat} {x : ByteArray} {r : List ByteArray} (h : L.drop k = x :: r) (h2 : k < 32) : (hf L k).set k x = hf L (k + 1) := by
  have hk : k < L.length := by
    rcases Nat.lt_or_ge k L.length with q | q
    · exact q
    · rw [List.drop_eq_nil_of_le q] at h; cases h
  have hx : L[k]? = some x := by
    have := congrArg (fun l => l[0]?) h
    simpa using this
  have hl : (L.take k).length = k := by rw [List.length_take]; omega
  unfold hf
  rw [show 32 - k = (32 - (k + 1)) + 1 by omega, List.replicate_succ, List.set_append_right _ _ (by omega), hl, Nat.sub_self, List.set_cons_zero, List.take_add_one, hx]
  simp
theorem hf_take {L : List ByteArray} {k : Nat} (h : k ≤ L.length) : (hf L k).take k = L.take k := by
  unfold hf
  rw [List.take_append_of_le_length (by rw [List.length_take]; omega), List.take_take, Nat.min_self]
theorem sa_new (w : World) (W : World) (h : W = w.alloc (.cells (List.replicate 32 (Value.string ⟨#[]⟩)).toArray 187)) : Sa W w.heap.size (List.replicate 32 ⟨#[]⟩) := by
  subst h
  unfold Sa
  rw [heap_alloc_new, List.map_replicate]
/-- 'room[:n:n]'. -/
theorem slice_room (g n : Nat) (h : n ≤ 32) (W : World) : (Instr.sliceAt 187 (.pointer (some ⟨g, 0, none⟩)) none (some (.int .i64 (n : Int))) (some (.int .i64 (n : Int)))).run Tryz.prog W = .ok (.slice (some ⟨g, 0, none⟩) n n) W := by
  have hal : Tryz.prog.arrayLen 187 = 32 := by kernel_rfl
  have hel : Tryz.prog.elem 187 = 9 := by kernel_rfl
  obtain ⟨i0, hi, _, hz1, _⟩ := info_parts Strs.info16
  rw [run_sliceAt_array_hm W 187 ⟨g, 0, none⟩ (by kernel_rfl) .i64 .i64 (n : Int) (n : Int) (by omega) (by omega) (by rw [hal]; omega), hel]
  have hs : (sizeOf 9).run Tryz.prog W = .ok 1 W := by simp [sizeOf, typeInfo, hi, hz1]
  rw [hs]
  simp only [Result.andThen, slicedAt, Nat.zero_mul, Int.toNat_natCast, Nat.sub_zero]
  rw [add_at g 0]
  split <;> rfl
set_option maxRecDepth 100000 in
set_option maxHeartbeats 2000000 in
theorem cut_any (s : ByteArray) (w : World) (hrow : rowB s = true) :
    Calls Tryz.prog 164 #[.string s] w fun e w' => ∃ v, e = .returned v ∧ Strs.Row w' v (prB s) ∧ Cp v ∧ Below w.heap.size w w' := by
  obtain ⟨l, hl, hl2, hl3⟩ := row_iff.1 hrow
  have hsz : s.size = l.length + 1 := by rw [← len_dt, hl]; rfl
  have c1 : ∀ w, (Instr.slice 9 (.string s) (some (.int .i64 1)) none none).run Tryz.prog w = .ok (.string (cutB s 1 l.length)) w := sl_from s 1 l.length (by omega)
  have e1 : cutB s 1 l.length = mk l := by unfold cutB mk; rw [hl]; simp
  rw [e1] at c1
  have hb0 : Below w.heap.size w (w.alloc (.cells (List.replicate 32 (Value.string ⟨#[]⟩)).toArray 187)) := (Below.refl _ _).alloc (Nat.le_refl _) _
  have HB0 := Lib.hid hb0
  clear hb0
  obtain ⟨L, hL⟩ : ∃ L, prB s = L := ⟨_, rfl⟩
  have hL32 : L.length ≤ 32 := by rw [← hL]; unfold prB; rw [List.length_map]; exact prt_len hrow
  by_cases h0 : l = []
  · subst h0
    obtain rfl : s = ⟨#[47]⟩ := by rw [← mk_data s, hl]; rfl
    obtain rfl : L = [] := by rw [← hL]; rfl
    rw [hL]
    have hsl : ∀ W, (Instr.sliceAt 187 (.pointer (some ⟨w.heap.size, 0, none⟩)) none (some (.int .i64 0)) (some (.int .i64 0))).run Tryz.prog W = .ok (.slice (some ⟨w.heap.size, 0, none⟩) 0 0) W := fun W => slice_room w.heap.size 0 (by decide) W
    clear hrow hl hl2 hl3 hsz e1 hL hL32
    go_enter Tryz.func164, Tryz.ntmps164
    go_wp2_with fail
    go_loopw [4, 5, 6] (fun a b c wr => a = .int .i64 0 ∧ (∃ r, b = .string r) ∧ c = .bool false ∧ Hid (Below w.heap.size w wr)) (fun _ _ _ _ => 0)
    case atStart => exact ⟨rfl, ⟨_, rfl⟩, rfl, HB0⟩
    case round =>
      obtain ⟨rfl, ⟨r, rfl⟩, rfl, HB⟩ := hrel
      go_wp2_with fail
      go_ret
      exact ⟨_, rfl, .inl ⟨rfl, _, _, rfl⟩, ⟨_, _, _, rfl, Nat.le_refl _⟩, HB.out⟩
  · have hLp : L = psB l := by rw [← hL]; unfold prB psB; rw [hl, prt_cons _ h0]
    have hne : s ≠ ⟨#[47]⟩ := by
      rintro rfl
      have : ([47] : List UInt8) = 47 :: l := hl
      exact h0 ((List.cons_inj_right _).1 this).symm
    have hn := Byt.str_neq hne
    rw [Byt.toList_data ⟨#[47]⟩] at hn
    change (s.toList == [47]) = false at hn
    have hx : l.length < 255 := by omega
    rw [hL]
    have HS := Lib.hid (show psB l = L.drop 0 by rw [hLp]; rfl)
    clear hrow hl hl2 hl3 hsz e1 hL hLp hne
    go_enter Tryz.func164, Tryz.ntmps164
    go_wp2_with fail
    go_loopw [4, 5, 6] (fun a b c wr => ∃ (k : Nat) (r : List UInt8) (m : Bool), a = .int .i64 (k : Int) ∧ b = .string (mk r) ∧ c = .bool m ∧ k ≤ L.length ∧ r.length < 256 ∧ Hid (if m = true then psB r = L.drop k else k = L.length) ∧ Hid (Sa wr w.heap.size (hf L k)) ∧ Hid (Below w.heap.size w wr)) (fun a _ _ _ => L.length - (RowKit.intOf a).toNat)
    case atStart => exact ⟨0, l, true, rfl, rfl, rfl, Nat.zero_le _, by omega, HS, Lib.hid (sa_new w _ rfl), HB0⟩
    case round =>
      obtain ⟨k, r, m, rfl, rfl, rfl, hk, hr, HM, HA, HB⟩ := hrel
      cases m with
      | false =>
        have hke : k = L.length := HM.out
        subst hke
        have HR := Lib.hid (HA.out.row L.length L.length (by rw [hf_len (Nat.le_refl _) hL32]; omega))
        rw [hf_take (Nat.le_refl _), List.take_length] at HR
        clear HM HA hn HS c1
        have hsl := fun W => slice_room w.heap.size L.length hL32 W
        go_wp2_with fail
        go_ret
        exact ⟨_, rfl, HR.out, ⟨_, _, _, rfl, Nat.le_refl _⟩, HB.out⟩
      | true =>
        have hm : psB r = L.drop k := HM.out
        have hlt : k < L.length := by
          have := congrArg List.length hm
          rw [psB_len, List.length_drop] at this
          omega
        have cl := HA.out.cell (j := k) (by rw [hf_len hk (by omega)]; omega)
        have fr := HA.out.free k
        have d1 : ∀ n, (wr.drewN n).cell? ⟨w.heap.size, k, none⟩ = some (.string ((hf L k).getD k ⟨#[]⟩)) := fun n => cl
        have d2 : ∀ n, (wr.drewN n).frozen? ⟨w.heap.size, k, none⟩ = false := fun n => fr
        clear cl fr
        generalize (hf L k).getD k ⟨#[]⟩ = old at *
        by_cases h47 : (47 : UInt8) ∈ r
        · obtain ⟨a, b, rfl, ha⟩ := parted r h47
          have hsz2 : (mk (a ++ 47 :: b)).size ≤ 281474976710656 := by rw [sz_mk]; omega
          have HC := Lib.hid fun W => scut_yes (mk (a ++ 47 :: b)) hsz2 a b (dt_mk _) ha W
          rw [psB_cut ha] at hm
          have HT := Lib.hid (hf_set hm.symm (by omega))
          have HD := Lib.hid (show psB b = L.drop (k + 1) by
            have := congrArg (List.drop 1) hm
            rw [List.drop_drop] at this
            simpa [Nat.add_comm] using this)
          have hbl : b.length < 256 := by rw [List.length_append, List.length_cons] at hr; omega
          clear hm hr h47 hsz2 HM HS c1 hn
          generalize mk (a ++ 47 :: b) = t at *
          go_wp2_with (go_at_call 181; (with_reducible refine (HC.out _).mono ?_); rintro e w2 ⟨rfl, n2, rfl⟩)
          go_roundw
          case rel => exact ⟨k + 1, b, true, by go_num, rfl, rfl, by omega, hbl, Lib.hid (by rw [if_pos rfl]; exact HD.out), Lib.hid (by rw [← HT.out]; exact (HA.out.drewN n2).set k (mk a)), Lib.hid (below_set (below_drewN HB.out) (Nat.le_refl _) k _)⟩
          case measure => simp [RowKit.intOf]; omega
        · have HC := Lib.hid fun W => scut_no (mk r) (by rw [dt_mk]; exact h47) W
          rw [psB_one h47] at hm
          have HT := Lib.hid (hf_set hm.symm (by omega))
          have hke : k + 1 = L.length := by
            have := congrArg List.length hm
            rw [List.length_drop] at this
            simp only [List.length_cons, List.length_nil] at this
            omega
          have HKE := Lib.hid hke
          clear hm hr h47 hke HM HS c1 hn
          generalize mk r = t at *
          go_wp2_with (go_at_call 181; (with_reducible refine (HC.out _).mono ?_); rintro e w2 ⟨rfl, n2, rfl⟩)
          go_roundw
          case rel => exact ⟨k + 1, [], false, by go_num, rfl, rfl, by omega, by simp, Lib.hid (by rw [if_neg (by decide)]; exact HKE.out), Lib.hid (by rw [← HT.out]; exact (HA.out.drewN n2).set k t), Lib.hid (below_set (below_drewN HB.out) (Nat.le_refl _) k _)⟩
          case measure => simp [RowKit.intOf]; omega

/-! ### Split, Is, Pattern, Prefix -/
theorem rowB_size {s : ByteArray} (h : rowB s = true) : s.size ≤ 255 := by
  obtain ⟨l, hl, hl2, _⟩ := row_iff.1 h
  rw [← len_dt, hl, List.length_cons]; omega
theorem prB_len {s : ByteArray} (h : rowB s = true) : (prB s).length ≤ 32 := by unfold prB; rw [List.length_map]; exact prt_len h
theorem prB_size {s : ByteArray} (h : rowB s = true) : ∀ x ∈ prB s, x.size ≤ 255 := by
  obtain ⟨l, hl, hl2, _⟩ := row_iff.1 h
  intro x hx
  unfold prB at hx
  obtain ⟨p, hp, rfl⟩ := List.mem_map.1 hx
  rw [sz_mk]
  rw [hl] at hp
  by_cases h0 : l = []
  · subst h0; cases hp
  · rw [prt_cons _ h0] at hp
    have := ps_size l p hp
    omega
/-- The parts of a row; none of another text. -/
def spB (s : ByteArray) : List ByteArray := if rowB s = true then prB s else []
theorem all_mk (f : List UInt8 → Bool) (g : ByteArray → Bool) (h : ∀ p, g (mk p) = f p) (l : List (List UInt8)) : (l.map mk).all g = l.all f := by
  rw [List.all_map]
  exact congrArg (List.all l) (funext h)
theorem wdB_mk (p : List UInt8) : wdB (mk p) = wd p := by unfold wdB; rw [dt_mk]
theorem mk_eq {p q : List UInt8} : mk p = mk q ↔ p = q := ⟨fun h => by have := congrArg (fun x : ByteArray => x.data.toList) h; simpa [dt_mk] using this, fun h => by rw [h]⟩
theorem sgB_mk (p : List UInt8) : sgB (mk p) = sg p := by
  unfold sgB sg
  rw [wdB_mk]
  have : decide (mk p = ⟨#[42]⟩) = decide (p = [42]) := by
    rw [Bool.eq_iff_iff, decide_eq_true_eq, decide_eq_true_eq]
    exact mk_eq (q := [42])
  rw [this]
theorem innB_mk (l : List (List UInt8)) : innB (l.map mk) = (inn l).map mk := by
  unfold innB inn
  rw [List.getLast?_map]
  by_cases h : l.getLast? = some [42, 42]
  · rw [if_pos h, h, if_pos (show Option.map mk (some [42, 42]) = some ⟨#[42, 42]⟩ from rfl), List.map_dropLast]
  · rw [if_neg h, if_neg]
    intro q
    obtain ⟨p, hp, hp2⟩ := Option.map_eq_some_iff.1 q
    exact h (by rw [hp]; exact congrArg some (mk_eq (q := [42, 42]).1 hp2))
def patB (s : ByteArray) : Bool := patR s.data.toList
theorem patB_is (s : ByteArray) : patB s = (rowB s && (innB (prB s)).all sgB) := by
  unfold prB
  rw [innB_mk, all_mk sg sgB sgB_mk]; rfl
theorem innB_len (l : List ByteArray) : (innB l).length ≤ l.length := by
  unfold innB
  split
  · rw [List.length_dropLast]; omega
  · exact Nat.le_refl _
theorem innB_mem (l : List ByteArray) : ∀ x ∈ innB l, x ∈ l := by
  unfold innB
  intro x hx
  split at hx
  · exact List.dropLast_subset _ hx
  · exact hx
theorem pat_any (s : ByteArray) (w : World) (hs : s.size ≤ 140737488355328) :
    Calls Tryz.prog 133 #[.string s] w fun e w' => e = .returned (.bool (patB s)) ∧ Below w.heap.size w w' := by
  rw [patB_is]
  have HW := Lib.hid fun W => row_any s W hs
  cases hr : rowB s with
  | false =>
    rw [hr] at HW
    rw [Bool.false_and]
    clear hr
    go_enter Tryz.func133, Tryz.ntmps133
    go_wp2_with (go_at_call 161; (with_reducible refine (HW.out _).mono ?_); rintro e w1 ⟨rfl, rfl⟩)
    go_ret
    exact ⟨rfl, Below.refl _ _⟩
  | true =>
    have HC := Lib.hid fun W => cut_any s W hr
    have hn := prB_len hr
    have HI := Lib.hid fun (W : World) (v : Value) (h : Strs.Row W v (prB s)) (hc : Cp v) => inner_any (prB s) v W h hc (by omega)
    have HA := Lib.hid fun (W : World) (v : Value) (h : Strs.Row W v (innB (prB s))) => all_single (innB (prB s)) v W h (by have := innB_len (prB s); omega) (fun x hx => by have := prB_size hr x (innB_mem _ x hx); omega)
    rw [hr] at HW
    rw [Bool.true_and]
    generalize (innB (prB s)).all sgB = R at *
    generalize innB (prB s) = L2 at *
    generalize prB s = L at *
    clear hr hn
    go_enter Tryz.func133, Tryz.ntmps133
    go_wp2_with (first
      | (go_at_call 161; (with_reducible refine (HW.out _).mono ?_); rintro e w1 ⟨rfl, rfl⟩)
      | (go_at_call 164; (with_reducible refine (HC.out _).mono ?_); rintro e w3 ⟨v, rfl, hrw, hcp, hb3⟩)
      | (go_at_call 163; (with_reducible refine (HI.out _ _ hrw hcp).mono ?_); rintro e w4 ⟨u, rfl, hru, hcu, rfl⟩)
      | (go_at_call 162; (with_reducible refine (HA.out _ _ hru).mono ?_); rintro e w1 ⟨rfl, rfl⟩))
    go_ret
    exact ⟨rfl, hb3⟩
end Go.Proofs.YtehkiojohldlgaaGreatDoor.Rou

namespace Go.Proofs.YtehkiojohldlgaaGreatDoor.Rou
open Go.RowKit Go.Lib Go.Proofs.YtehkiojohldlgaaGreatDoor.Byt

/-! ### Prefix -/
end Go.Proofs.YtehkiojohldlgaaGreatDoor.Rou
