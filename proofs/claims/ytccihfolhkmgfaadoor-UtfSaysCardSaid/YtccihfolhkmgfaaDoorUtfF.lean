/- The statements UtfBack and UtfSays as contracts over every input. Conditions: the two tables of unicode/utf8 are as its text lays them; the arguments fit their kinds. -/
import Derived.Test.YtccihfolhkmgfaaDoorUtfE
namespace Go.Proofs.YtccihfolhkmgfaaDoor.Utf
open Go.RowKit Go.Lib Go.Proofs.YtccihfolhkmgfaaDoor.Byt

theorem empty_rb : rB (⟨#[]⟩ : ByteArray).data.toList = true := by
  show rB [] = true
  unfold rB; rw [badL_nil]; rfl

/-- What Put and Runes of the numbers do, in the words that the walk wants. -/
theorem put_yes (v : Value) (xs : List Int) (hl : xs.length ≤ 300) (hp : pB xs = true) (w : World) (hr : Num.Row w v xs) :
    Calls Tryd.prog 9 #[v] w fun e w' => e = .returned (.tuple #[.string (pS xs), .bool true]) ∧ Below w.heap.size w w' := by
  have h := put_any v xs w hr (by omega)
  rwa [hp] at h
theorem put_no (v : Value) (xs : List Int) (hl : xs.length ≤ 300) (hp : pB xs = false) (w : World) (hr : Num.Row w v xs) :
    Calls Tryd.prog 9 #[v] w fun e w' => e = .returned (.tuple #[.string ⟨#[]⟩, .bool false]) ∧ Below w.heap.size w w' := by
  have h := put_any v xs w hr (by omega)
  rwa [hp, pS_no hp] at h
theorem runes_yes (xs : List Int) (hl : xs.length ≤ 300) (hp : pB xs = true) (w : World) (hT : Tabs w) :
    Calls Tryd.prog 7 #[.string (pS xs)] w fun e w' => ∃ v, e = .returned (.tuple #[v, .bool true]) ∧ Num.Row w' v xs ∧ Below w.heap.size w w' := by
  obtain ⟨h1, h2, _, h4⟩ := nums_back xs hp
  have h := runes_any (pS xs) w hT (by omega)
  rwa [h1, h2] at h
theorem count_yes (xs : List Int) (hl : xs.length ≤ 300) (hp : pB xs = true) (w : World) (hT : Tabs w) :
    Calls Tryd.prog 16 #[.string (pS xs)] w fun e w' => e = .returned (.int .i64 (xs.length : Nat)) ∧ Below w.heap.size w w' := by
  obtain ⟨_, _, h3, h4⟩ := nums_back xs hp
  have h := count_any (pS xs) w hT (by omega)
  rwa [h3] at h
theorem runes_empty (w : World) (hT : Tabs w) :
    Calls Tryd.prog 7 #[.string ⟨#[]⟩] w fun e w' => ∃ v, e = .returned (.tuple #[v, .bool true]) ∧ Below w.heap.size w w' := by
  have h := runes_any ⟨#[]⟩ w hT (by decide)
  rw [empty_rb] at h
  exact h.mono fun e w' ⟨v, h1, _, h3⟩ => ⟨v, h1, h3⟩
theorem back_yes (s : ByteArray) (hs : s.size ≤ 300) (hb : badL s.data.toList = none) : ∃ zs : List Int, zs.length ≤ 300 ∧
    (∀ w, Tabs w → Calls Tryd.prog 7 #[.string s] w fun e w' => ∃ v, e = .returned (.tuple #[v, .bool true]) ∧ Num.Row w' v zs ∧ Below w.heap.size w w') ∧
    (∀ v w, Num.Row w v zs → Calls Tryd.prog 9 #[v] w fun e w' => e = .returned (.tuple #[.string s, .bool true]) ∧ Below w.heap.size w w') := by
  obtain ⟨h1, h2, h3, h4⟩ := text_back s hb
  refine ⟨rZ s.data.toList, by omega, fun w hT => ?_, fun v w hr => ?_⟩
  · have h := runes_any s w hT (by omega)
    rwa [h1] at h
  · have h := put_any v _ w hr (by omega)
    rwa [h2, h3] at h
theorem back_no (s : ByteArray) (k : Nat) (hs : s.size ≤ 300) (hb : badL s.data.toList = some k) :
    (∀ w, Tabs w → Calls Tryd.prog 7 #[.string s] w fun e w' => ∃ a cap, e = .returned (.tuple #[.slice a 0 cap, .bool false]) ∧ Below w.heap.size w w') ∧
    (∀ a cap w, Calls Tryd.prog 9 #[.slice a 0 cap] w fun e w' => e = .returned (.tuple #[.string ⟨#[]⟩, .bool true]) ∧ Below w.heap.size w w') ∧
    (∀ w, Tabs w → Calls Tryd.prog 13 #[.string s] w fun e w' => e = .returned (.int .i64 (k : Int)) ∧ Below w.heap.size w w') := by
  obtain ⟨h1, h2⟩ := bad_back s k hb
  refine ⟨fun w hT => ?_, fun a cap w => ?_, fun w hT => ?_⟩
  · have h := runes_any s w hT (by omega)
    rw [h1, h2] at h
    refine h.mono ?_
    rintro e w' ⟨v, rfl, hr, hb⟩
    obtain ⟨a, cap, rfl⟩ := row_shape hr
    exact ⟨a, cap, rfl, hb⟩
  · exact put_any (.slice a 0 cap) [] w (.inl ⟨rfl, _, _, rfl⟩) (by decide)
  · have h := bad_any s w hT (by omega)
    rwa [hb] at h

set_option maxRecDepth 100000 in
set_option maxHeartbeats 2000000 in
theorem back_walk (s : ByteArray) (v : Value) (xs : List Int) (w : World) (hT : Tabs w) (hr : Num.Row w v xs) (hz : xs.length ≤ 9223372036854775807) :
    Calls Tryd.prog 4 #[.string s, v] w fun e w' => e = .returned (.bool true) ∧ Below w.heap.size w w' := by
  have HT := Lib.hid hT
  clear hT
  obtain ⟨a, cap, rfl⟩ := row_shape hr
  have HR := Lib.hid hr
  clear hr
  by_cases hg : 300 < s.size ∨ 300 < xs.length
  · have hg' : 300 < s.size ∨ (¬ 300 < s.size ∧ 300 < xs.length) := by omega
    clear hg
    rcases hg' with h | ⟨h0, h⟩
    all_goals
      go_enter Tryd.func4, Tryd.ntmps4
      go_wp2_with fail
      refine (awake_any _ HT.out).mono ?_; rintro e w1 ⟨rfl, hb1⟩
      go_wp2_with fail
      go_ret
      exact ⟨rfl, hb1⟩
  have hs : s.size ≤ 300 := by omega
  have hl : xs.length ≤ 300 := by omega
  clear hg
  cases hbs : badL s.data.toList with
  | none =>
    obtain ⟨zs, hzl, a1, a2⟩ := back_yes s hs hbs
    have A1 := Lib.hid a1
    have A2 := Lib.hid a2
    clear a1 a2
    cases hp : pB xs with
    | true =>
      have PY := Lib.hid (fun w hr => put_yes (.slice a xs.length cap) xs hl hp w hr)
      have RY := Lib.hid (fun w hT => runes_yes xs hl hp w hT)
      have CY := Lib.hid (fun w hT => count_yes xs hl hp w hT)
      have NS := Lib.hid (fun v u w hv hu => numbers_same v u xs w hv hu (by omega))
      generalize pS xs = u at *
      clear hp hbs
      go_enter Tryd.func4, Tryd.ntmps4
      go_wp2_with fail
      refine (A1.out _ HT.out).mono ?_; rintro e w1 ⟨v1, rfl, hr1, hb1⟩
      have H1 := Lib.hid (HT.out.next hb1)
      have R1 := Lib.hid (HR.out.next hb1)
      have S1 := Lib.hid hr1
      clear hr1
      go_wp2_with fail
      refine (A2.out _ _ S1.out).mono ?_; rintro e w2 ⟨rfl, hb2⟩
      have B2 := next hb1 hb2
      have H2 := Lib.hid (H1.out.next hb2)
      have R2 := Lib.hid (R1.out.next hb2)
      clear hb1 hb2
      go_wp2_with fail
      refine (PY.out _ R2.out).mono ?_; rintro e w3 ⟨rfl, hb3⟩
      have B3 := next B2 hb3
      have H3 := Lib.hid (H2.out.next hb3)
      have R3 := Lib.hid (R2.out.next hb3)
      go_wp2_with fail
      refine (RY.out _ H3.out).mono ?_; rintro e w4 ⟨v4, rfl, hr4, hb4⟩
      have B4 := next B3 hb4
      have H4 := Lib.hid (H3.out.next hb4)
      have R4 := Lib.hid (R3.out.next hb4)
      have S4 := Lib.hid hr4
      clear hr4
      go_wp2_with fail
      refine (NS.out _ _ _ S4.out R4.out).mono ?_; rintro e w5 ⟨rfl, hb5⟩
      have B5 := next B4 hb5
      have H5 := Lib.hid (H4.out.next hb5)
      go_wp2_with fail
      refine (CY.out _ H5.out).mono ?_; rintro e w6 ⟨rfl, hb6⟩
      have B6 := next B5 hb6
      have H6 := Lib.hid (H5.out.next hb6)
      go_wp2_with fail
      refine (awake_any _ H6.out).mono ?_; rintro e w7 ⟨rfl, hb7⟩
      go_wp2_with fail
      go_ret
      exact ⟨rfl, next B6 hb7⟩
    | false =>
      have PN := Lib.hid (fun w hr => put_no (.slice a xs.length cap) xs hl hp w hr)
      clear hp hbs
      go_enter Tryd.func4, Tryd.ntmps4
      go_wp2_with fail
      refine (A1.out _ HT.out).mono ?_; rintro e w1 ⟨v1, rfl, hr1, hb1⟩
      have H1 := Lib.hid (HT.out.next hb1)
      have R1 := Lib.hid (HR.out.next hb1)
      have S1 := Lib.hid hr1
      clear hr1
      go_wp2_with fail
      refine (A2.out _ _ S1.out).mono ?_; rintro e w2 ⟨rfl, hb2⟩
      have B2 := next hb1 hb2
      have H2 := Lib.hid (H1.out.next hb2)
      have R2 := Lib.hid (R1.out.next hb2)
      clear hb1 hb2
      go_wp2_with fail
      refine (PN.out _ R2.out).mono ?_; rintro e w3 ⟨rfl, hb3⟩
      have B3 := next B2 hb3
      have H3 := Lib.hid (H2.out.next hb3)
      go_wp2_with fail
      refine (runes_empty _ H3.out).mono ?_; rintro e w4 ⟨v4, rfl, hb4⟩
      have B4 := next B3 hb4
      have H4 := Lib.hid (H3.out.next hb4)
      go_wp2_with fail
      refine (awake_any _ H4.out).mono ?_; rintro e w7 ⟨rfl, hb7⟩
      go_wp2_with fail
      go_ret
      exact ⟨rfl, next B4 hb7⟩
  | some k =>
    obtain ⟨a1, a2, a3⟩ := back_no s k hs hbs
    have A1 := Lib.hid a1
    have A2 := Lib.hid a2
    have A3 := Lib.hid a3
    clear a1 a2 a3
    cases hp : pB xs with
    | true =>
      have PY := Lib.hid (fun w hr => put_yes (.slice a xs.length cap) xs hl hp w hr)
      have RY := Lib.hid (fun w hT => runes_yes xs hl hp w hT)
      have CY := Lib.hid (fun w hT => count_yes xs hl hp w hT)
      have NS := Lib.hid (fun v u w hv hu => numbers_same v u xs w hv hu (by omega))
      generalize pS xs = u at *
      clear hp hbs
      go_enter Tryd.func4, Tryd.ntmps4
      go_wp2_with fail
      refine (A1.out _ HT.out).mono ?_; rintro e w1 ⟨a1, cap1, rfl, hb1⟩
      have H1 := Lib.hid (HT.out.next hb1)
      have R1 := Lib.hid (HR.out.next hb1)
      go_wp2_with fail
      refine (A2.out _ _ _).mono ?_; rintro e w1b ⟨rfl, hb2⟩
      have B1 := next hb1 hb2
      have H1b := Lib.hid (H1.out.next hb2)
      have R1b := Lib.hid (R1.out.next hb2)
      clear hb1 hb2
      go_wp2_with fail
      refine (A3.out _ H1b.out).mono ?_; rintro e w2 ⟨rfl, hb2⟩
      have B2 := next B1 hb2
      have H2 := Lib.hid (H1b.out.next hb2)
      have R2 := Lib.hid (R1b.out.next hb2)
      clear hb2
      go_wp2_with fail
      refine (PY.out _ R2.out).mono ?_; rintro e w3 ⟨rfl, hb3⟩
      have B3 := next B2 hb3
      have H3 := Lib.hid (H2.out.next hb3)
      have R3 := Lib.hid (R2.out.next hb3)
      go_wp2_with fail
      refine (RY.out _ H3.out).mono ?_; rintro e w4 ⟨v4, rfl, hr4, hb4⟩
      have B4 := next B3 hb4
      have H4 := Lib.hid (H3.out.next hb4)
      have R4 := Lib.hid (R3.out.next hb4)
      have S4 := Lib.hid hr4
      clear hr4
      go_wp2_with fail
      refine (NS.out _ _ _ S4.out R4.out).mono ?_; rintro e w5 ⟨rfl, hb5⟩
      have B5 := next B4 hb5
      have H5 := Lib.hid (H4.out.next hb5)
      go_wp2_with fail
      refine (CY.out _ H5.out).mono ?_; rintro e w6 ⟨rfl, hb6⟩
      have B6 := next B5 hb6
      have H6 := Lib.hid (H5.out.next hb6)
      go_wp2_with fail
      refine (awake_any _ H6.out).mono ?_; rintro e w7 ⟨rfl, hb7⟩
      go_wp2_with fail
      go_ret
      exact ⟨rfl, next B6 hb7⟩
    | false =>
      have PN := Lib.hid (fun w hr => put_no (.slice a xs.length cap) xs hl hp w hr)
      clear hp hbs
      go_enter Tryd.func4, Tryd.ntmps4
      go_wp2_with fail
      refine (A1.out _ HT.out).mono ?_; rintro e w1 ⟨a1, cap1, rfl, hb1⟩
      have H1 := Lib.hid (HT.out.next hb1)
      have R1 := Lib.hid (HR.out.next hb1)
      go_wp2_with fail
      refine (A2.out _ _ _).mono ?_; rintro e w1b ⟨rfl, hb2⟩
      have B1 := next hb1 hb2
      have H1b := Lib.hid (H1.out.next hb2)
      have R1b := Lib.hid (R1.out.next hb2)
      clear hb1 hb2
      go_wp2_with fail
      refine (A3.out _ H1b.out).mono ?_; rintro e w2 ⟨rfl, hb2⟩
      have B2 := next B1 hb2
      have H2 := Lib.hid (H1b.out.next hb2)
      have R2 := Lib.hid (R1b.out.next hb2)
      clear hb2
      go_wp2_with fail
      refine (PN.out _ R2.out).mono ?_; rintro e w3 ⟨rfl, hb3⟩
      have B3 := next B2 hb3
      have H3 := Lib.hid (H2.out.next hb3)
      go_wp2_with fail
      refine (runes_empty _ H3.out).mono ?_; rintro e w4 ⟨v4, rfl, hb4⟩
      have B4 := next B3 hb4
      have H4 := Lib.hid (H3.out.next hb4)
      go_wp2_with fail
      refine (awake_any _ H4.out).mono ?_; rintro e w7 ⟨rfl, hb7⟩
      go_wp2_with fail
      go_ret
      exact ⟨rfl, next B4 hb7⟩

set_option maxRecDepth 100000 in
set_option maxHeartbeats 2000000 in
theorem says_walk (s : ByteArray) (i : Int) (v : Value) (xs : List Int) (w : World) (hT : Tabs w) (hr : Num.Row w v xs) (hz : xs.length ≤ 9223372036854775807) (hbd : ∀ n ∈ xs, -9223372036854775808 ≤ n ∧ n ≤ 9223372036854775807) :
    Calls Tryd.prog 3 #[.string s, .int .i64 i, v] w fun e w' => e = .returned (.bool true) ∧ Below w.heap.size w w' := by
  have HT := Lib.hid hT
  clear hT
  obtain ⟨a, cap, rfl⟩ := row_shape hr
  have HR := Lib.hid hr
  clear hr
  by_cases hg : 300 < s.size ∨ 300 < xs.length
  · have hg' : 300 < s.size ∨ (¬ 300 < s.size ∧ 300 < xs.length) := by omega
    clear hg hbd
    rcases hg' with h | ⟨h0, h⟩
    all_goals
      go_enter Tryd.func3, Tryd.ntmps3
      go_wp2_with fail
      refine (awake_any _ HT.out).mono ?_; rintro e w1 ⟨rfl, hb1⟩
      go_wp2_with fail
      go_ret
      exact ⟨rfl, hb1⟩
  have hs : s.size ≤ 300 := by omega
  have hl : xs.length ≤ 300 := by omega
  clear hg
  have hzl : (rZ s.data.toList).length ≤ 300 := by
    unfold rZ
    split
    · rw [List.length_map]; have := rnL_len s.data.toList; have e : s.data.toList.length = s.size := by simp
      omega
    · simp
  have A1 := Lib.hid (fun w hT => runes_any s w hT (by omega))
  have A2 := Lib.hid (fun w => rrunes_any s w (by omega))
  have A3 := Lib.hid (fun w hr => put_any (.slice a xs.length cap) xs w hr (by omega))
  have A4 := Lib.hid (fun w hr => rput_any (.slice a xs.length cap) xs w hr (by omega) hbd)
  have A5 := Lib.hid (fun w hT => width_any s i w hT)
  have A6 := Lib.hid (fun w => rwidth_any s i w (by omega))
  have A7 := Lib.hid (fun w hT => bad_any s w hT (by omega))
  have A8 := Lib.hid (fun w => rbad_any s w (by omega))
  have A9 := Lib.hid (fun v u w hv hu => numbers_same v u (rZ s.data.toList) w hv hu (by omega))
  have A10 := Lib.hid (fun w hT => count_any s w hT (by omega))
  have A11 := Lib.hid (fun w => rcount_any s w (by omega))
  clear hbd
  generalize bI (badL s.data.toList) = x1 at *
  generalize cI s.data.toList = x2 at *
  generalize rZ s.data.toList = zs at *
  generalize rB s.data.toList = b1 at *
  generalize pS xs = p1 at *
  generalize pB xs = p2 at *
  generalize wI s i = x3 at *
  go_enter Tryd.func3, Tryd.ntmps3
  go_wp2_with fail
  refine (A1.out _ HT.out).mono ?_; rintro e w1 ⟨v1, rfl, hr1, hb1⟩
  have T1 := Lib.hid (HT.out.next hb1); have R1 := Lib.hid (HR.out.next hb1); have S1 := Lib.hid hr1; clear hr1
  go_wp2_with fail
  refine (A2.out _).mono ?_; rintro e w2 ⟨v2, rfl, hr2, hb⟩
  have B2 := next hb1 hb; have T2 := Lib.hid (T1.out.next hb); have R2 := Lib.hid (R1.out.next hb); have S2 := Lib.hid (S1.out.next hb); have Q2 := Lib.hid hr2; clear hr2 hb hb1
  go_wp2_with fail
  refine (A3.out _ R2.out).mono ?_; rintro e w3 ⟨rfl, hb⟩
  have B3 := next B2 hb; have T3 := Lib.hid (T2.out.next hb); have R3 := Lib.hid (R2.out.next hb); have S3 := Lib.hid (S2.out.next hb); have Q3 := Lib.hid (Q2.out.next hb); clear hb
  go_wp2_with fail
  refine (A4.out _ R3.out).mono ?_; rintro e w4 ⟨rfl, hb⟩
  have B4 := next B3 hb; have T4 := Lib.hid (T3.out.next hb); have S4 := Lib.hid (S3.out.next hb); have Q4 := Lib.hid (Q3.out.next hb); clear hb
  go_wp2_with fail
  refine (A5.out _ T4.out).mono ?_; rintro e w5 ⟨rfl, hb⟩
  have B5 := next B4 hb; have T5 := Lib.hid (T4.out.next hb); have S5 := Lib.hid (S4.out.next hb); have Q5 := Lib.hid (Q4.out.next hb); clear hb
  go_wp2_with fail
  refine (A6.out _).mono ?_; rintro e w5b ⟨rfl, rfl⟩
  go_wp2_with fail
  refine (A7.out _ T5.out).mono ?_; rintro e w6 ⟨rfl, hb⟩
  have B6 := next B5 hb; have T6 := Lib.hid (T5.out.next hb); have S6 := Lib.hid (S5.out.next hb); have Q6 := Lib.hid (Q5.out.next hb); clear hb
  go_wp2_with fail
  refine (A8.out _).mono ?_; rintro e w6b ⟨rfl, rfl⟩
  go_wp2_with fail
  refine (A9.out _ _ _ S6.out Q6.out).mono ?_; rintro e w7 ⟨rfl, hb⟩
  have B7 := next B6 hb; have T7 := Lib.hid (T6.out.next hb); clear hb
  go_wp2_with fail
  refine (A10.out _ T7.out).mono ?_; rintro e w8 ⟨rfl, hb⟩
  have B8 := next B7 hb; have T8 := Lib.hid (T7.out.next hb); clear hb
  go_wp2_with fail
  refine (A11.out _).mono ?_; rintro e w9 ⟨rfl, hb⟩
  have B9 := next B8 hb; have T9 := Lib.hid (T8.out.next hb); clear hb
  go_wp2_with fail
  refine (awake_any _ T9.out).mono ?_; rintro e w10 ⟨rfl, hb⟩
  go_wp2_with fail
  go_ret
  exact ⟨rfl, next B9 hb⟩
end Go.Proofs.YtccihfolhkmgfaaDoor.Utf
