/- Texts of my own, packed: IdeA. Conditions: as each theorem states. -/
import Derived.Laws.Cover1
import Derived.Handy
import Derived.Test.YtehkiojohldlgaaGreatDoorK02
import Derived.Test.YtehkiojohldlgaaGreatDoorK03
namespace Go.Proofs.YtehkiojohldlgaaGreatDoor.Ide
open Go.RowKit Go.Lib Go.Proofs.YtehkiojohldlgaaGreatDoor.Byt

/-- The byte at m; 0 behind the end. -/
def bc (s : ByteArray) (m : Nat) : Nat := (s.data.toList.getD m 0).toNat
theorem index_of (s : ByteArray) (m : Nat) (x : Int) (hx : x = (m : Int)) (h : m < s.size) (w : World) :
    (Instr.index 9 (.string s) (.int .i64 x)).run Tryz.prog w = .ok (.int .u8 (bc s m : Int)) w := by
  subst hx
  have h2 : m < s.data.toList.length := by simpa using h
  have e : s[m].toNat = bc s m := by
    have : s.data.toList.getD m 0 = s[m] := by rw [List.getD, List.getElem?_eq_getElem h2]; rfl
    unfold bc; rw [this]
  rw [run_index_string w 9 _ .i64 (m : Int) Tryz.underlying9, dif_pos ⟨by omega, by omega⟩, ← e]
  rfl
/-- Is the text an id? -/
def isI (s : ByteArray) : Bool := idL s.data.toList
theorem isI_iff (s : ByteArray) : isI s = true ↔ 1 ≤ s.size ∧ s.size ≤ 64 ∧ sm (bc s 0) = true ∧ ∀ j, 1 ≤ j → j < s.size → fo (bc s j) = true := by
  have h := idL_iff s.data.toList
  have e : s.data.toList.length = s.size := by simp
  rw [e] at h
  exact h
theorem isI_no {s : ByteArray} (h : ¬ (1 ≤ s.size ∧ s.size ≤ 64 ∧ sm (bc s 0) = true ∧ ∀ j, 1 ≤ j → j < s.size → fo (bc s j) = true)) : isI s = false := by
  cases q : isI s with
  | false => rfl
  | true => exact absurd ((isI_iff s).1 q) h
theorem ret_b {a b : Bool} (h : a = b) : Ending.returned (.bool a) = .returned (.bool b) := by rw [h]

section
variable (n : Nat) (w : World)
theorem small_any : Calls Tryz.prog 158 #[.int .u8 (n : Int)] w fun e w' => e = .returned (.bool (sm n)) ∧ w = w' := by
  unfold sm
  by_cases h1 : 97 ≤ n
  · have g1 : decide ((97 : Int) ≤ (n : Int)) = true := decide_eq_true (by omega)
    rw [decide_eq_true h1, Bool.true_and]
    have HR := Lib.hid (ret_b (a := decide ((n : Int) ≤ 122)) (b := decide (n ≤ 122)) (by rw [Bool.eq_iff_iff, decide_eq_true_eq, decide_eq_true_eq]; omega))
    go_enter Tryz.func158, Tryz.ntmps158
    go_wp2_with fail
    go_ret
    exact ⟨HR.out, rfl⟩
  · have g1 : decide ((97 : Int) ≤ (n : Int)) = false := decide_eq_false (by omega)
    rw [decide_eq_false h1, Bool.false_and]
    go_enter Tryz.func158, Tryz.ntmps158
    go_wp2_with fail
    go_ret
    exact ⟨rfl, rfl⟩
theorem rsmall_any : Calls Tryz.prog 170 #[.int .u8 (n : Int)] w fun e w' => e = .returned (.bool (sm n)) ∧ w = w' := by
  unfold sm
  by_cases h1 : 97 ≤ n
  · have g1 : decide ((97 : Int) ≤ (n : Int)) = true := decide_eq_true (by omega)
    rw [decide_eq_true h1, Bool.true_and]
    have HR := Lib.hid (ret_b (a := decide ((n : Int) ≤ 122)) (b := decide (n ≤ 122)) (by rw [Bool.eq_iff_iff, decide_eq_true_eq, decide_eq_true_eq]; omega))
    go_enter Tryz.func170, Tryz.ntmps170
    go_wp2_with fail
    go_ret
    exact ⟨HR.out, rfl⟩
  · have g1 : decide ((97 : Int) ≤ (n : Int)) = false := decide_eq_false (by omega)
    rw [decide_eq_false h1, Bool.false_and]
    go_enter Tryz.func170, Tryz.ntmps170
    go_wp2_with fail
    go_ret
    exact ⟨rfl, rfl⟩
theorem follows_any : Calls Tryz.prog 159 #[.int .u8 (n : Int)] w fun e w' => e = .returned (.bool (fo n)) ∧ w = w' := by
  have HS := Lib.hid (small_any n w)
  have f1 : decide ((48 : Int) ≤ (n : Int)) = decide (48 ≤ n) := by rw [Bool.eq_iff_iff, decide_eq_true_eq, decide_eq_true_eq]; omega
  have f2 : decide ((n : Int) ≤ 57) = decide (n ≤ 57) := by rw [Bool.eq_iff_iff, decide_eq_true_eq, decide_eq_true_eq]; omega
  have f3 : ((n : Int) == 45) = decide (n = 45) := by rw [Bool.eq_iff_iff, beq_iff_eq, decide_eq_true_eq]; omega
  have f4 : ((n : Int) == 95) = decide (n = 95) := by rw [Bool.eq_iff_iff, beq_iff_eq, decide_eq_true_eq]; omega
  have f5 : ((n : Int) == 46) = decide (n = 46) := by rw [Bool.eq_iff_iff, beq_iff_eq, decide_eq_true_eq]; omega
  unfold fo
  generalize sm n = b0 at *
  generalize decide (48 ≤ n) = b1 at *
  generalize decide (n ≤ 57) = b2 at *
  generalize decide (n = 45) = b3 at *
  generalize decide (n = 95) = b4 at *
  generalize decide (n = 46) = b5 at *
  cases b0 <;> cases b1 <;> cases b2 <;> cases b3 <;> cases b4 <;> cases b5
  all_goals
    go_enter Tryz.func159, Tryz.ntmps159
    go_wp2_with (go_at_call 158; refine HS.out.mono ?_; rintro e w1 ⟨rfl, rfl⟩)
    go_ret
    exact ⟨rfl, rfl⟩
end

/-! ### Is -/
set_option maxRecDepth 100000 in
theorem is_any (s : ByteArray) (w : World) (hs : s.size ≤ 140737488355328) : Calls Tryz.prog 131 #[.string s] w fun e w' => e = .returned (.bool (isI s)) ∧ w = w' := by
  obtain ⟨R, hR⟩ : ∃ R, isI s = R := ⟨_, rfl⟩
  have HN := Lib.hid (isI_no (s := s))
  have HY := Lib.hid (isI_iff s).2
  rw [hR] at HN HY ⊢
  clear hR
  by_cases h0 : s.size = 0
  · obtain rfl : R = false := HN.out fun q => by omega
    obtain rfl := Byt.str_none h0
    clear HN HY h0 hs
    go_enter Tryz.func131, Tryz.ntmps131
    go_wp2_with fail
    go_ret
    exact ⟨rfl, rfl⟩
  · have hp : 0 < s.size := by omega
    have e0 := Byt.str_some hp
    by_cases h64 : 64 < s.size
    · obtain rfl : R = false := HN.out fun q => by omega
      have g : decide ((64 : Int) < (s.size : Int)) = true := decide_eq_true (by omega)
      have gn : decide (64 < s.size) = true := decide_eq_true h64
      clear HN HY
      go_enter Tryz.func131, Tryz.ntmps131
      go_wp2_with fail
      go_ret
      exact ⟨rfl, rfl⟩
    · have g : decide ((64 : Int) < (s.size : Int)) = false := decide_eq_false (by omega)
      have gn : decide (64 < s.size) = false := decide_eq_false h64
      have hi0 := fun w => index_of s 0 0 rfl hp w
      have HS := Lib.hid fun w => small_any (bc s 0) w
      cases h1 : sm (bc s 0) with
      | false =>
        obtain rfl : R = false := HN.out fun q => by rw [h1] at q; exact absurd q.2.2.1 (by simp)
        rw [h1] at HS
        generalize bc s 0 = c at *
        clear HN HY
        go_enter Tryz.func131, Tryz.ntmps131
        go_wp2_with (go_at_call 158; refine (HS.out _).mono ?_; rintro e w1 ⟨rfl, rfl⟩)
        go_ret
        exact ⟨rfl, rfl⟩
      | true =>
        have H1 := Lib.hid h1
        rw [h1] at HS
        generalize hc : bc s 0 = c at *
        have HC := Lib.hid hc
        clear hc h1
        go_enter Tryz.func131, Tryz.ntmps131
        go_wp2_with (go_at_call 158; refine (HS.out _).mono ?_; rintro e w1 ⟨rfl, rfl⟩)
        clear hi0 HS g gn e0
        go_loop [3] (fun i => ∃ k : Nat, i = .int .i64 (k : Int) ∧ 1 ≤ k ∧ k ≤ s.size ∧ Hid (∀ j, 1 ≤ j → j < k → fo (bc s j) = true)) (fun i => s.size - (RowKit.intOf i).toNat)
        case atStart => exact ⟨1, rfl, Nat.le_refl _, hp, Lib.hid fun j h1 h2 => by omega⟩
        case round =>
          obtain ⟨k, rfl, hk1, hk, HA⟩ := hrel
          by_cases hlt : k < s.size
          · have hix := fun w => index_of s k (k : Int) rfl hlt w
            have HF := Lib.hid fun w => follows_any (bc s k) w
            cases hf : fo (bc s k) with
            | false =>
              obtain rfl : R = false := HN.out fun q => by have := q.2.2.2 k hk1 hlt; rw [hf] at this; cases this
              rw [hf] at HF
              generalize bc s k = d at *
              clear HA HN HY hf
              go_wp2_with (go_at_call 159; refine (HF.out _).mono ?_; rintro e w1 ⟨rfl, rfl⟩)
              go_ret
              exact ⟨rfl, rfl⟩
            | true =>
              have HA2 := Lib.hid (show ∀ j, 1 ≤ j → j < k + 1 → fo (bc s j) = true from fun j hj1 hj2 => by
                by_cases q : j < k
                · exact HA.out j hj1 q
                · obtain rfl : j = k := by omega
                  exact hf)
              rw [hf] at HF
              generalize bc s k = d at *
              clear HA hf
              go_wp2_with (go_at_call 159; refine (HF.out _).mono ?_; rintro e w1 ⟨rfl, rfl⟩)
              go_round
              case rel => exact ⟨k + 1, by go_num, by omega, by omega, HA2⟩
              case measure => simp [RowKit.intOf]; omega
          · obtain rfl : k = s.size := by omega
            obtain rfl : R = true := HY.out ⟨hp, by omega, H1.out, HA.out⟩
            go_wp2_with fail
            go_ret
            exact ⟨rfl, rfl⟩
set_option maxHeartbeats 8000000 in
set_option maxRecDepth 100000 in
theorem ris_any (s : ByteArray) (w : World) (hs : s.size ≤ 140737488355328) : Calls Tryz.prog 149 #[.string s] w fun e w' => e = .returned (.bool (isI s)) ∧ w = w' := by
  obtain ⟨R, hR⟩ : ∃ R, isI s = R := ⟨_, rfl⟩
  have HN := Lib.hid (isI_no (s := s))
  have HY := Lib.hid (isI_iff s).2
  rw [hR] at HN HY ⊢
  clear hR
  by_cases h0 : s.size = 0
  · obtain rfl : R = false := HN.out fun q => by omega
    obtain rfl := Byt.str_none h0
    clear HN HY h0 hs
    go_enter Tryz.func149, Tryz.ntmps149
    go_wp2_with fail
    go_ret
    exact ⟨rfl, rfl⟩
  · have hp : 0 < s.size := by omega
    have e0 := Byt.str_some hp
    by_cases h64 : 64 < s.size
    · obtain rfl : R = false := HN.out fun q => by omega
      have g : decide ((64 : Int) < (s.size : Int)) = true := decide_eq_true (by omega)
      have gn : decide (64 < s.size) = true := decide_eq_true h64
      clear HN HY
      go_enter Tryz.func149, Tryz.ntmps149
      go_wp2_with fail
      go_ret
      exact ⟨rfl, rfl⟩
    · have g : decide ((64 : Int) < (s.size : Int)) = false := decide_eq_false (by omega)
      have gn : decide (64 < s.size) = false := decide_eq_false h64
      have hi0 := fun w => index_of s 0 0 rfl hp w
      have HS := Lib.hid fun w => rsmall_any (bc s 0) w
      cases h1 : sm (bc s 0) with
      | false =>
        obtain rfl : R = false := HN.out fun q => by rw [h1] at q; exact absurd q.2.2.1 (by simp)
        rw [h1] at HS
        generalize bc s 0 = c at *
        clear HN HY
        go_enter Tryz.func149, Tryz.ntmps149
        go_wp2_with (go_at_call 170; refine (HS.out _).mono ?_; rintro e w1 ⟨rfl, rfl⟩)
        go_ret
        exact ⟨rfl, rfl⟩
      | true =>
        have H1 := Lib.hid h1
        rw [h1] at HS
        generalize hc : bc s 0 = c at *
        have HC := Lib.hid hc
        clear hc h1
        go_enter Tryz.func149, Tryz.ntmps149
        go_wp2_with (go_at_call 170; refine (HS.out _).mono ?_; rintro e w1 ⟨rfl, rfl⟩)
        clear hi0 HS g gn e0
        go_loop [20] (fun i => ∃ k : Nat, i = .int .i64 (k : Int) ∧ k ≤ s.size ∧ Hid (∀ j, j < k → fo (bc s j) = true)) (fun i => s.size - (RowKit.intOf i).toNat)
        case atStart => exact ⟨0, rfl, Nat.zero_le _, Lib.hid fun j h1 => by omega⟩
        case round =>
          obtain ⟨k, rfl, hk, HA⟩ := hrel
          by_cases hlt : k < s.size
          · have hix := fun w => index_of s k (k : Int) rfl hlt w
            have HF := Lib.hid fun w => rsmall_any (bc s k) w
            have HA2 := Lib.hid (show fo (bc s k) = true → ∀ j, j < k + 1 → fo (bc s j) = true from fun hf j hj2 => by
              by_cases q : j < k
              · exact HA.out j q
              · obtain rfl : j = k := by omega
                exact hf)
            have HB := Lib.hid (show fo (bc s k) = false → R = false from fun hf => HN.out fun q => by
              rcases Nat.eq_zero_or_pos k with h | h
              · subst h
                have := sm_fo q.2.2.1
                rw [HC.out] at hf
                rw [hf] at this; cases this
              · have := q.2.2.2 k h hlt
                rw [hf] at this; cases this)
            clear HA HN HY H1 HC
            generalize bc s k = n at *
            have f1 : decide ((48 : Int) ≤ (n : Int)) = decide (48 ≤ n) := by rw [Bool.eq_iff_iff, decide_eq_true_eq, decide_eq_true_eq]; omega
            have f2 : decide ((n : Int) ≤ 57) = decide (n ≤ 57) := by rw [Bool.eq_iff_iff, decide_eq_true_eq, decide_eq_true_eq]; omega
            have f3 : ((n : Int) != 45) = !decide (n = 45) := by rw [Bool.eq_iff_iff, bne_iff_ne, Bool.not_eq_true', decide_eq_false_iff_not]; omega
            have f4 : ((n : Int) != 95) = !decide (n = 95) := by rw [Bool.eq_iff_iff, bne_iff_ne, Bool.not_eq_true', decide_eq_false_iff_not]; omega
            have f5 : ((n : Int) != 46) = !decide (n = 46) := by rw [Bool.eq_iff_iff, bne_iff_ne, Bool.not_eq_true', decide_eq_false_iff_not]; omega
            unfold fo at HA2 HB
            generalize sm n = b0 at *
            generalize decide (48 ≤ n) = b1 at *
            generalize decide (n ≤ 57) = b2 at *
            generalize decide (n = 45) = b3 at *
            generalize decide (n = 95) = b4 at *
            generalize decide (n = 46) = b5 at *
            cases b0 <;> cases b1 <;> cases b2 <;> cases b3 <;> cases b4 <;> cases b5
            all_goals first
              | (obtain rfl : R = false := HB.out rfl
                 clear HA2 HB
                 go_wp2_with (go_at_call 170; refine (HF.out _).mono ?_; rintro e w1 ⟨rfl, rfl⟩)
                 go_ret
                 exact ⟨rfl, rfl⟩)
              | (have HA3 := Lib.hid (HA2.out rfl)
                 clear HA2 HB
                 go_wp2_with (go_at_call 170; refine (HF.out _).mono ?_; rintro e w1 ⟨rfl, rfl⟩)
                 go_round
                 case rel => exact ⟨k + 1, by go_num, by omega, HA3⟩
                 case measure => simp [RowKit.intOf]; omega)
          · obtain rfl : k = s.size := by omega
            obtain rfl : R = true := HY.out ⟨hp, by omega, H1.out, fun j _ h => HA.out j h⟩
            go_wp2_with fail
            go_ret
            exact ⟨rfl, rfl⟩
end Go.Proofs.YtehkiojohldlgaaGreatDoor.Ide
