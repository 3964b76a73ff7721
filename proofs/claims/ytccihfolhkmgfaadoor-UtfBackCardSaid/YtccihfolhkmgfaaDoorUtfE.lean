/- Plain facts of texts and their numbers; the statements' example; UtfGoes as a contract over every input. Conditions: the two tables of unicode/utf8 are as its text lays them; as each theorem states. -/
import Derived.Test.YtccihfolhkmgfaaDoorUtfD
namespace Go.Proofs.YtccihfolhkmgfaaDoor.Utf
open Go.RowKit Go.Lib Go.Proofs.YtccihfolhkmgfaaDoor.Byt

theorem encZ_map (ns : List Nat) : encZ (ns.map fun n : Nat => (n : Int)) = encL ns := by
  unfold encZ encL
  rw [List.flatMap_map]
  rfl
theorem list_bytes (s : ByteArray) : (⟨s.data.toList.toArray⟩ : ByteArray) = s := by cases s; simp
/-- The numbers of a text give the text. -/
theorem text_back (s : ByteArray) (h : badL s.data.toList = none) : rB s.data.toList = true ∧ pB (rZ s.data.toList) = true ∧ pS (rZ s.data.toList) = s ∧ (rZ s.data.toList).length ≤ s.size := by
  have hz : rZ s.data.toList = (rnL s.data.toList).map fun n : Nat => (n : Int) := by unfold rZ; rw [if_pos h]
  have hp : pB (rZ s.data.toList) = true := by
    rw [hz]
    unfold pB
    rw [List.all_eq_true]
    intro x hx
    obtain ⟨n, hn, rfl⟩ := List.mem_map.1 hx
    exact vN_vI (rnL_valid _ n hn)
  refine ⟨by unfold rB; rw [h]; rfl, hp, ?_, ?_⟩
  · rw [pS_yes hp, hz, encZ_map, enc_text _ h]
  · rw [hz, List.length_map]
    have := rnL_len s.data.toList
    simpa using this
theorem bad_back (s : ByteArray) (k : Nat) (h : badL s.data.toList = some k) : rB s.data.toList = false ∧ rZ s.data.toList = [] := by
  unfold rB rZ
  rw [h, if_neg (by simp)]
  exact ⟨rfl, rfl⟩
theorem nats_of : ∀ xs : List Int, pB xs = true → ∃ ns : List Nat, xs = (ns.map fun n : Nat => (n : Int)) ∧ ∀ n ∈ ns, vN n
  | [], _ => ⟨[], rfl, fun _ h => by cases h⟩
  | x :: xs, h => by
    have h2 : vI x = true ∧ pB xs = true := by
      unfold pB at h ⊢
      rwa [List.all_cons, Bool.and_eq_true] at h
    obtain ⟨m, rfl, hm⟩ := vI_nat h2.1
    obtain ⟨ns, rfl, hns⟩ := nats_of xs h2.2
    refine ⟨m :: ns, rfl, fun n hn => ?_⟩
    rcases List.mem_cons.1 hn with rfl | hn
    · exact hm
    · exact hns n hn
/-- The bytes of numbers tell the numbers. -/
theorem nums_back (xs : List Int) (h : pB xs = true) : rB (pS xs).data.toList = true ∧ rZ (pS xs).data.toList = xs ∧ cI (pS xs).data.toList = (xs.length : Nat) ∧ (pS xs).size ≤ 4 * xs.length := by
  have hl : (pS xs).size ≤ 4 * xs.length := by
    rw [pS_yes h]
    show (List.toArray _).size ≤ _
    have := encZ_len xs
    simpa using this
  refine ⟨?_, ?_, ?_, hl⟩
  all_goals
    rw [pS_yes h]
    obtain ⟨ns, hns, hv⟩ := nats_of xs h
    obtain ⟨h1, h2⟩ := text_enc ns hv
    have e : encZ xs = encL ns := by rw [hns, encZ_map]
    show _ = _
    simp only [e]
  · unfold rB; rw [h1]; rfl
  · unfold rZ; rw [if_pos h1, h2, hns]
  · unfold cI; rw [if_pos h1, h2, hns, List.length_map]

/-! ### the example -/
theorem aw_text : badL [195, 169, 97] = none ∧ rnL [195, 169, 97] = [233, 97] := by
  have h := text_enc [233, 97] (fun n hn => by
    simp only [List.mem_cons, List.mem_nil_iff, or_false] at hn
    unfold vN; omega)
  have e : encL [233, 97] = [195, 169, 97] := by decide +kernel
  rwa [e] at h
theorem aw_badL : badL [97, 192, 128] = some 1 := by
  have h1 : wL [97, 192, 128] = 1 := by decide +kernel
  have h2 : wL [192, 128] = 0 := by decide +kernel
  rw [badL_step (by omega), h1]
  show (badL [192, 128]).map (· + 1) = some 1
  rw [badL_zero (by simp) h2]
  rfl
theorem aw_runes (w : World) (hT : Tabs w) : Calls Tryd.prog 7 #[.string ⟨#[195, 169, 97]⟩] w fun e w' =>
    ∃ b off cap, e = .returned (.tuple #[.slice (some ⟨b, off, none⟩) 2 cap, .bool true]) ∧ w'.cell? ⟨b, off, none⟩ = some (.int .i64 233) ∧ Below w.heap.size w w' := by
  refine (runes_any ⟨#[195, 169, 97]⟩ w hT (by decide)).mono ?_
  rintro e w' ⟨v, rfl, hrow, hb⟩
  have e1 : rZ (⟨#[195, 169, 97]⟩ : ByteArray).data.toList = [233, 97] := by
    show rZ [195, 169, 97] = _
    unfold rZ; rw [if_pos aw_text.1, aw_text.2]; rfl
  have e2 : rB (⟨#[195, 169, 97]⟩ : ByteArray).data.toList = true := by
    show rB [195, 169, 97] = _
    unfold rB; rw [aw_text.1]; rfl
  rw [e1] at hrow
  rw [e2]
  rcases hrow with ⟨h, _⟩ | ⟨b, off, cap, rfl, hc⟩
  · cases h
  · exact ⟨b, off, cap, rfl, hc 0 (by decide), hb⟩
theorem aw_put (w : World) (T : TypeId) : Calls Tryd.prog 9 #[.slice (some ⟨w.heap.size, 0, none⟩) 2 2] (w.alloc (.cells #[.int .i64 233, .int .i64 97] T)) fun e w' =>
    e = .returned (.tuple #[.string ⟨#[195, 169, 97]⟩, .bool true]) ∧ Below w.heap.size w w' := by
  refine (put_any _ [233, 97] (w.alloc (.cells #[.int .i64 233, .int .i64 97] T)) (.inr ⟨w.heap.size, 0, 2, rfl, fun j hj => ?_⟩) (by decide)).mono ?_
  · have : j = 0 ∨ j = 1 := by simp at hj; omega
    rcases this with rfl | rfl
    · rw [World.cell?_alloc_mark]; rfl
    · rw [World.cell?_alloc_mark]; rfl
  · rintro e w' ⟨rfl, hb⟩
    exact ⟨rfl, ((Below.refl _ w).alloc (Nat.le_refl _) _).trans (hb.mono (by simp))⟩
theorem aw_bad (w : World) (hT : Tabs w) : Calls Tryd.prog 13 #[.string ⟨#[97, 192, 128]⟩] w fun e w' => e = .returned (.int .i64 1) ∧ Below w.heap.size w w' := by
  refine (bad_any ⟨#[97, 192, 128]⟩ w hT (by decide)).mono ?_
  rintro e w' ⟨rfl, hb⟩
  refine ⟨?_, hb⟩
  rw [show (⟨#[97, 192, 128]⟩ : ByteArray).data.toList = [97, 192, 128] from rfl, aw_badL]; rfl
theorem aw_width (w : World) (hT : Tabs w) : Calls Tryd.prog 11 #[.string ⟨#[237, 160, 128]⟩, .int .i64 0] w fun e w' => e = .returned (.int .i64 0) ∧ Below w.heap.size w w' := by
  refine (width_any ⟨#[237, 160, 128]⟩ 0 w hT).mono ?_
  rintro e w' ⟨rfl, hb⟩
  exact ⟨by rw [show wI ⟨#[237, 160, 128]⟩ 0 = 0 by decide +kernel]; rfl, hb⟩
theorem aw_count (w : World) (hT : Tabs w) : Calls Tryd.prog 16 #[.string ⟨#[]⟩] w fun e w' => e = .returned (.int .i64 0) ∧ Below w.heap.size w w' := by
  refine (count_any ⟨#[]⟩ w hT (by decide)).mono ?_
  rintro e w' ⟨rfl, hb⟩
  refine ⟨?_, hb⟩
  rw [show (⟨#[]⟩ : ByteArray).data.toList = [] from rfl, cI, if_pos badL_nil, rnL_nil]; rfl
theorem aw_none (w : World) (hT : Tabs w) : Calls Tryd.prog 13 #[.string ⟨#[]⟩] w fun e w' => e = .returned (.int .i64 (-1)) ∧ Below w.heap.size w w' := by
  refine (bad_any ⟨#[]⟩ w hT (by decide)).mono ?_
  rintro e w' ⟨rfl, hb⟩
  refine ⟨?_, hb⟩
  rw [show (⟨#[]⟩ : ByteArray).data.toList = [] from rfl, badL_nil]; rfl

set_option maxHeartbeats 1000000 in
theorem awake_any (w : World) (hT : Tabs w) : Calls Tryd.prog 6 #[] w fun e w' => e = .returned (.bool true) ∧ Below w.heap.size w w' := by
  have HT := Lib.hid hT
  clear hT
  go_enter Tryd.func6, Tryd.ntmps6
  go_wp2_with fail
  refine (aw_runes _ HT.out).mono ?_; rintro e w1 ⟨b, off, cap, rfl, hc1, hb1⟩
  go_wp2_with fail
  refine (aw_put _ _).mono ?_; rintro e w2 ⟨rfl, hb2⟩
  have hc2 := (hb2.cell (Num.cell_lt hc1)).trans hc1
  have hb3 := next hb1 hb2
  have HT2 := Lib.hid (HT.out.next hb3)
  clear hc1 hb1 hb2
  go_wp2_with fail
  refine (aw_bad _ HT2.out).mono ?_; rintro e w3 ⟨rfl, hb4⟩
  have HT3 := Lib.hid (HT2.out.next hb4)
  go_wp2_with fail
  refine (aw_width _ HT3.out).mono ?_; rintro e w4 ⟨rfl, hb5⟩
  have HT4 := Lib.hid (HT3.out.next hb5)
  go_wp2_with fail
  refine (aw_count _ HT4.out).mono ?_; rintro e w5 ⟨rfl, hb6⟩
  have HT5 := Lib.hid (HT4.out.next hb6)
  go_wp2_with fail
  refine (aw_none _ HT5.out).mono ?_; rintro e w6 ⟨rfl, hb7⟩
  go_wp2_with fail
  go_ret
  exact ⟨rfl, next (next (next (next hb3 hb4) hb5) hb6) hb7⟩

/-! ### UtfGoes -/
theorem list_app (s t : ByteArray) : (s ++ t).data.toList = s.data.toList ++ t.data.toList := by rw [ByteArray.data_append, Array.toList_append]

set_option maxHeartbeats 1000000 in
theorem goes_walk (s t : ByteArray) (w : World) (hT : Tabs w) :
    Calls Tryd.prog 5 #[.string s, .string t] w fun e w' => e = .returned (.bool true) ∧ Below w.heap.size w w' := by
  have HT := Lib.hid hT
  clear hT
  by_cases hg : 300 < s.size ∨ 300 < t.size
  · have hg' : 300 < s.size ∨ (¬ 300 < s.size ∧ 300 < t.size) := by omega
    clear hg
    rcases hg' with h | ⟨h0, h⟩
    all_goals
      go_enter Tryd.func5, Tryd.ntmps5
      go_wp2_with fail
      refine (awake_any _ HT.out).mono ?_; rintro e w1 ⟨rfl, hb1⟩
      go_wp2_with fail
      go_ret
      exact ⟨rfl, hb1⟩
  have hs : s.size ≤ 300 := by omega
  have ht : t.size ≤ 300 := by omega
  clear hg
  have HS := Lib.hid (fun w hT => bad_any s w hT (by omega))
  have hsl : s.data.toList.length = s.size := by simp
  cases hbs : badL s.data.toList with
  | some k =>
    rw [hbs] at HS
    have HS2 := Lib.hid (fun w hT => show Calls Tryd.prog 13 #[.string s] w fun e w' => e = .returned (.int .i64 (k : Int)) ∧ Below w.heap.size w w' from HS.out w hT)
    clear HS hbs
    go_enter Tryd.func5, Tryd.ntmps5
    go_wp2_with fail
    refine (HS2.out _ HT.out).mono ?_; rintro e w1 ⟨rfl, hb1⟩
    have HT1 := Lib.hid (HT.out.next hb1)
    go_wp2_with fail
    refine (awake_any _ HT1.out).mono ?_; rintro e w2 ⟨rfl, hb2⟩
    go_wp2_with fail
    go_ret
    exact ⟨rfl, next hb1 hb2⟩
  | none =>
    rw [hbs] at HS
    have HS2 := Lib.hid (fun w hT => show Calls Tryd.prog 13 #[.string s] w fun e w' => e = .returned (.int .i64 (-1)) ∧ Below w.heap.size w w' from HS.out w hT)
    have hz : (s ++ t).size = s.size + t.size := by simp
    obtain ⟨ha, hr⟩ := app_bad t.data.toList s.data.toList hbs
    have HB := Lib.hid (fun w hT => bad_any (s ++ t) w hT (by omega))
    have HTb := Lib.hid (fun w hT => bad_any t w hT (by omega))
    rw [list_app, ha, hsl] at HB
    cases hbt : badL t.data.toList with
    | some k =>
      rw [hbt] at HB HTb
      have hk := badL_lt _ _ hbt
      have htl : t.data.toList.length = t.size := by simp
      rw [htl] at hk
      have HB2 := Lib.hid (fun w hT => show Calls Tryd.prog 13 #[.string (s ++ t)] w fun e w' => e = .returned (.int .i64 ((k + s.size : Nat) : Int)) ∧ Below w.heap.size w w' from HB.out w hT)
      have HT2 := Lib.hid (fun w hT => show Calls Tryd.prog 13 #[.string t] w fun e w' => e = .returned (.int .i64 (k : Int)) ∧ Below w.heap.size w w' from HTb.out w hT)
      have he : (((k + s.size : Nat) : Int) == (s.size : Int) + (k : Int)) = true := by rw [beq_iff_eq]; omega
      generalize k + s.size = m at *
      clear HB HTb HS hbs hbt ha hr hsl htl
      go_enter Tryd.func5, Tryd.ntmps5
      go_wp2_with fail
      refine (HS2.out _ HT.out).mono ?_; rintro e w1 ⟨rfl, hb1⟩
      have H1 := Lib.hid (HT.out.next hb1)
      go_wp2_with fail
      refine (HT2.out _ H1.out).mono ?_; rintro e w2 ⟨rfl, hb2⟩
      have H2 := Lib.hid (H1.out.next hb2)
      go_wp2_with fail
      refine (HB2.out _ H2.out).mono ?_; rintro e w3 ⟨rfl, hb3⟩
      have H3 := Lib.hid (H2.out.next hb3)
      go_wp2_with fail
      refine (awake_any _ H3.out).mono ?_; rintro e w4 ⟨rfl, hb4⟩
      go_wp2_with fail
      go_ret
      exact ⟨rfl, next (next (next hb1 hb2) hb3) hb4⟩
    | none =>
      rw [hbt] at HB HTb ha
      have HB2 := Lib.hid (fun w hT => show Calls Tryd.prog 13 #[.string (s ++ t)] w fun e w' => e = .returned (.int .i64 (-1)) ∧ Below w.heap.size w w' from HB.out w hT)
      have HT2 := Lib.hid (fun w hT => show Calls Tryd.prog 13 #[.string t] w fun e w' => e = .returned (.int .i64 (-1)) ∧ Below w.heap.size w w' from HTb.out w hT)
      have C1 := Lib.hid (fun w hT => count_any (s ++ t) w hT (by omega))
      have C2 := Lib.hid (fun w hT => count_any s w hT (by omega))
      have C3 := Lib.hid (fun w hT => count_any t w hT (by omega))
      have e1 : cI (s ++ t).data.toList = (((rnL s.data.toList).length + (rnL t.data.toList).length : Nat) : Int) := by
        unfold cI
        rw [list_app, if_pos (show badL (s.data.toList ++ t.data.toList) = none from ha), hr, List.length_append]
      have e2 : cI s.data.toList = ((rnL s.data.toList).length : Nat) := by unfold cI; rw [if_pos hbs]
      have e3 : cI t.data.toList = ((rnL t.data.toList).length : Nat) := by unfold cI; rw [if_pos hbt]
      have l1 := rnL_len s.data.toList
      have l2 := rnL_len t.data.toList
      have htl : t.data.toList.length = t.size := by simp
      rw [e1] at C1
      rw [e2] at C2
      rw [e3] at C3
      have hxy : ∀ x y : Nat, ((x + y : Nat) : Int) = (x : Int) + (y : Int) := fun x y => by omega
      clear HB HTb HS hbs hbt ha hr e1 e2 e3
      generalize (rnL s.data.toList).length = x at *
      generalize (rnL t.data.toList).length = y at *
      rw [hxy] at C1
      clear hxy
      go_enter Tryd.func5, Tryd.ntmps5
      go_wp2_with fail
      refine (HS2.out _ HT.out).mono ?_; rintro e w1 ⟨rfl, hb1⟩
      have H1 := Lib.hid (HT.out.next hb1)
      go_wp2_with fail
      refine (HT2.out _ H1.out).mono ?_; rintro e w2 ⟨rfl, hb2⟩
      have H2 := Lib.hid (H1.out.next hb2)
      go_wp2_with fail
      refine (HB2.out _ H2.out).mono ?_; rintro e w3 ⟨rfl, hb3⟩
      have H3 := Lib.hid (H2.out.next hb3)
      go_wp2_with fail
      refine (C1.out _ H3.out).mono ?_; rintro e w4 ⟨rfl, hb4⟩
      have H4 := Lib.hid (H3.out.next hb4)
      go_wp2_with fail
      refine (C2.out _ H4.out).mono ?_; rintro e w5 ⟨rfl, hb5⟩
      have H5 := Lib.hid (H4.out.next hb5)
      go_wp2_with fail
      refine (C3.out _ H5.out).mono ?_; rintro e w6 ⟨rfl, hb6⟩
      have H6 := Lib.hid (H5.out.next hb6)
      go_wp2_with fail
      refine (awake_any _ H6.out).mono ?_; rintro e w7 ⟨rfl, hb7⟩
      go_wp2_with fail
      go_ret
      exact ⟨rfl, next (next (next (next (next (next hb1 hb2) hb3) hb4) hb5) hb6) hb7⟩
end Go.Proofs.YtccihfolhkmgfaaDoor.Utf
