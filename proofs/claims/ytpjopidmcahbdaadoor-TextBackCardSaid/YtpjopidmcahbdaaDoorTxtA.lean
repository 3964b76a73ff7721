/- Contracts of text's Put and Take. Conditions: the two tables of unicode/utf8 are as its text lays them; as each theorem states. -/
import Derived.Test.YtpjopidmcahbdaaDoorTxtMath
import Derived.Test.YtpjopidmcahbdaaDoorOctA
import Derived.Test.YtpjopidmcahbdaaDoorVarE
import Derived.Test.YtpjopidmcahbdaaDoorUtfA
namespace Go.Proofs.YtpjopidmcahbdaaDoor.Txt
open Go.RowKit Go.Lib Go.Proofs.YtpjopidmcahbdaaDoor.Byt Go.Proofs.YtpjopidmcahbdaaDoor.Var Go.Proofs.YtpjopidmcahbdaaDoor.Utf Go.Proofs.YtpjopidmcahbdaaDoor.Oct

theorem ret_tS (s : ByteArray) (m : Int) : Ending.returned (.tuple #[.string (tS s m), .int .i64 (tE s m : Nat)]) = if tE s m = 0 then .returned (.tuple #[.string (putS s.size ++ s), .int .i64 0]) else .returned (.tuple #[.string ⟨#[]⟩, .int .i64 (tE s m : Nat)]) := by
  have e : (⟨(tB s).toArray⟩ : ByteArray) = putS s.size ++ s := by
    apply eq_of_list
    rw [ByteArray.data_append, Array.toList_append]
    simp [tB, putS]
  unfold tS
  by_cases h : tE s m = 0
  · rw [if_pos h, if_pos h, h, e]; rfl
  · rw [if_neg h, if_neg h]

theorem tput_any (s : ByteArray) (m : Int) (w : World) (hT : Tabs w) (hs : s.size ≤ 140737488355328) (hm : m ≤ 9223372036854775807) :
    Calls Tryd.prog 8 #[.string s, .int .i64 m] w fun e w' => e = .returned (.tuple #[.string (tS s m), .int .i64 (tE s m : Nat)]) ∧ Below w.heap.size w w' := by
  obtain ⟨t, ht⟩ : ∃ t : Nat, max m 0 = (t : Int) := ⟨(max m 0).toNat, by omega⟩
  rw [ret_tS]
  have hEE : tE s m = if (t : Int) < (s.size : Int) then 5 else if badL s.data.toList = none then 0 else 8 := by unfold tE; rw [ht]
  have HB := Lib.hid (bad_any s w hT hs)
  have HP := Lib.hid (fun w => puts_any s.size w (by omega))
  have hl : (putS s.size).size ≤ 10 := by rw [putS_size]; exact putV_len10 _ (by omega)
  generalize putS s.size = u at *
  by_cases h : (t : Int) < (s.size : Int)
  · rw [if_pos h] at hEE
    rw [hEE, if_neg (by decide)]
    clear hEE
    go_enter Tryd.func8, Tryd.ntmps8
    go_wp2_with fail
    go_ret2
    exact ⟨rfl, Below.refl _ _⟩
  · rw [if_neg h] at hEE
    cases hb : badL s.data.toList with
    | some k =>
      rw [hb] at HB
      have HB2 : Hid (Calls Tryd.prog 14 #[.string s] w fun e w' => e = .returned (.int .i64 (k : Int)) ∧ Below w.heap.size w w') := Lib.hid HB.out
      rw [hb, if_neg (by simp)] at hEE
      rw [hEE, if_neg (by decide)]
      clear hb HB hEE
      go_enter Tryd.func8, Tryd.ntmps8
      go_wp2_with (go_at_call 14; refine HB2.out.mono ?_; rintro e w1 ⟨rfl, hb1⟩)
      go_ret2
      exact ⟨rfl, hb1⟩
    | none =>
      rw [hb] at HB
      have HB2 : Hid (Calls Tryd.prog 14 #[.string s] w fun e w' => e = .returned (.int .i64 (-1)) ∧ Below w.heap.size w w') := Lib.hid HB.out
      rw [hb, if_pos rfl] at hEE
      rw [hEE, if_pos rfl]
      have hw : IntKind.u64.wrap (s.size : Int) = (s.size : Int) := by rw [IntKind.wrap_u64]; omega
      clear hb HB hEE
      go_enter Tryd.func8, Tryd.ntmps8
      go_wp2_with (first
        | (go_at_call 14; refine HB2.out.mono ?_; rintro e w1 ⟨rfl, hb1⟩)
        | (go_at_call 11; with_reducible refine (HP.out _).mono ?_; rintro e w2 ⟨rfl, hb2⟩))
      go_ret2
      exact ⟨rfl, next hb1 hb2⟩

theorem ret_gS (s : ByteArray) (a m : Int) : Ending.returned (.tuple #[.string (gS s a m), .int .i64 (gO s a m : Nat), .int .i64 (gE s a m : Nat)]) = if gE s a m = 0 then .returned (.tuple #[.string (cutB s (tkE s a) (tkN s a)), .int .i64 ((tkE s a : Int) + (tkN s a : Int)), .int .i64 0]) else .returned (.tuple #[.string ⟨#[]⟩, .int .i64 0, .int .i64 (gE s a m : Nat)]) := by
  unfold gS gO
  by_cases h : gE s a m = 0
  · rw [if_pos h, if_pos h, if_pos h, h]; simp
  · rw [if_neg h, if_neg h, if_neg h]; rfl

theorem tget_any (s : ByteArray) (a m : Int) (w : World) (hT : Tabs w) (hs : s.size ≤ 140737488355328) (hm : m ≤ 9223372036854775807) :
    Calls Tryd.prog 9 #[.string s, .int .i64 a, .int .i64 m] w fun e w' => e = .returned (.tuple #[.string (gS s a m), .int .i64 (gO s a m : Nat), .int .i64 (gE s a m : Nat)]) ∧ Below w.heap.size w w' := by
  obtain ⟨t, ht⟩ : ∃ t : Nat, max m 0 = (t : Int) := ⟨(max m 0).toNat, by omega⟩
  rw [ret_gS]
  have hEE : gE s a m = if tkC s a ≠ 0 then tkC s a else if (t : Int) < (tkN s a : Int) then 5 else if s.size < tkE s a + tkN s a then 3 else if badL (cutB s (tkE s a) (tkN s a)).data.toList = none then 0 else 8 := by unfold gE; rw [ht]
  generalize gE s a m = R at *
  have HT := Lib.hid (fun w => take_any s a w hs)
  have hE := tkE_le s a
  have hlt : t ≤ 9223372036854775807 := by omega
  have hw0 : IntKind.u64.wrap (t : Int) = (t : Int) := by rw [IntKind.wrap_u64]; omega
  have HY := fun w h => cut_yes s (tkE s a) (tkN s a) w h hs
  have HN := fun w h => cut_no s (tkE s a) (tkN s a) w h hs (by omega) (by omega)
  have hcz := fun h => cutB_size s (tkE s a) (tkN s a) h
  generalize hN : tkN s a = N at *
  generalize tkE s a = E at *
  generalize tkC s a = C at *
  by_cases hC : C = 0
  · subst hC
    rw [if_neg (by decide)] at hEE
    by_cases h1 : (t : Int) < (N : Int)
    · rw [if_pos h1] at hEE
      subst hEE
      rw [if_neg (by decide)]
      clear HY HN hcz hN
      go_enter Tryd.func9, Tryd.ntmps9
      go_wp2_with (go_at_call 15; refine (HT.out _).mono ?_; rintro e w1 ⟨rfl, rfl⟩)
      go_ret3
      exact ⟨rfl, Below.refl _ _⟩
    · rw [if_neg h1] at hEE
      have hw : IntKind.i64.wrap (N : Int) = (N : Int) := by rw [IntKind.wrap_i64]; omega
      by_cases h2 : s.size < E + N
      · rw [if_pos h2] at hEE
        subst hEE
        rw [if_neg (by decide)]
        have HN2 := Lib.hid (fun w => HN w (decide_eq_false (by omega)))
        clear HY HN hcz hN
        go_enter Tryd.func9, Tryd.ntmps9
        go_wp2_with (first
          | (go_at_call 15; refine (HT.out _).mono ?_; rintro e w1 ⟨rfl, rfl⟩)
          | (go_at_call 16; refine (HN2.out _).mono ?_; rintro e w2 ⟨rfl, rfl⟩))
        go_ret3
        exact ⟨rfl, Below.refl _ _⟩
      · rw [if_neg h2] at hEE
        have HY2 := Lib.hid (fun w => HY w (by omega))
        have hcz2 := hcz (by omega)
        have HB := Lib.hid (fun w hT => bad_any (cutB s E N) w hT (by omega))
        have HTab := Lib.hid hT
        clear HY HN hcz hN hT
        generalize cutB s E N = c at *
        cases hb : badL c.data.toList with
        | some k =>
          rw [hb] at HB
          have HB2 : Hid (∀ w, Tabs w → Calls Tryd.prog 14 #[.string c] w fun e w' => e = .returned (.int .i64 (k : Int)) ∧ Below w.heap.size w w') := Lib.hid HB.out
          rw [hb, if_neg (by simp)] at hEE
          subst hEE
          rw [if_neg (by decide)]
          clear hb HB hcz2
          go_enter Tryd.func9, Tryd.ntmps9
          go_wp2_with (first
            | (go_at_call 15; refine (HT.out _).mono ?_; rintro e w1 ⟨rfl, rfl⟩)
            | (go_at_call 16; refine (HY2.out _).mono ?_; rintro e w2 ⟨rfl, hb2⟩)
            | (go_at_call 14; refine (HB2.out _ (HTab.out.next hb2)).mono ?_; rintro e w3 ⟨rfl, hb3⟩))
          go_ret3
          exact ⟨rfl, next hb2 hb3⟩
        | none =>
          rw [hb] at HB
          have HB2 : Hid (∀ w, Tabs w → Calls Tryd.prog 14 #[.string c] w fun e w' => e = .returned (.int .i64 (-1)) ∧ Below w.heap.size w w') := Lib.hid HB.out
          rw [hb, if_pos rfl] at hEE
          subst hEE
          rw [if_pos rfl]
          clear hb HB hcz2
          go_enter Tryd.func9, Tryd.ntmps9
          go_wp2_with (first
            | (go_at_call 15; refine (HT.out _).mono ?_; rintro e w1 ⟨rfl, rfl⟩)
            | (go_at_call 16; refine (HY2.out _).mono ?_; rintro e w2 ⟨rfl, hb2⟩)
            | (go_at_call 14; refine (HB2.out _ (HTab.out.next hb2)).mono ?_; rintro e w3 ⟨rfl, hb3⟩))
          go_ret3
          exact ⟨rfl, next hb2 hb3⟩
  · rw [if_pos hC] at hEE
    subst hEE
    rw [if_neg hC]
    have hC2 : ((R : Int) == 0) = false := by rw [beq_eq_false_iff_ne]; omega
    clear HY HN hcz hN
    go_enter Tryd.func9, Tryd.ntmps9
    go_wp2_with (go_at_call 15; refine (HT.out _).mono ?_; rintro e w1 ⟨rfl, rfl⟩)
    go_ret3
    exact ⟨rfl, Below.refl _ _⟩
end Go.Proofs.YtpjopidmcahbdaaDoor.Txt
