/- The law's own examples of frames; the statements FrameSays and FrameBack as contracts over every input. Conditions: the arguments fit their kinds; the table of effects reads as the program lays it. -/
import Derived.Test.YtnknchadlhcdbaaDoorFrmF
namespace Go.Proofs.YtnknchadlhcdbaaDoor.Frm
open Go.RowKit Go.Lib Go.Proofs.YtnknchadlhcdbaaDoor.Byt Go.Proofs.YtnknchadlhcdbaaDoor.Oct Go.Proofs.YtnknchadlhcdbaaDoor.Crc

def awS : ByteArray := ⟨#[167, 1, 0, 0, 0, 2, 97, 98, 180, 180, 3, 191]⟩
theorem ex1 : frL 1 [97, 98] = [167, 1, 0, 0, 0, 2, 97, 98, 180, 180, 3, 191] := by decide +kernel
theorem ex2 : gEL [167, 1, 0, 0, 0, 2, 97, 98, 180, 180, 3, 191] = 0 ∧ gKL [167, 1, 0, 0, 0, 2, 97, 98, 180, 180, 3, 191] = 1 ∧ gBL [167, 1, 0, 0, 0, 2, 97, 98, 180, 180, 3, 191] = [97, 98] := by
  have := got_put 1 [97, 98] (by decide) (by decide) (by decide)
  rwa [ex1] at this
theorem ex3 : gEL [167, 1, 0, 0, 0, 2, 97, 98, 180, 180, 3, 191, 120] = 7 ∧ gKL [167, 1, 0, 0, 0, 2, 97, 98, 180, 180, 3, 191, 120] = 0 ∧ gBL [167, 1, 0, 0, 0, 2, 97, 98, 180, 180, 3, 191, 120] = [] := by decide +kernel
theorem aw1 (w : World) (hT : Tab w) : Calls Tryd.prog 7 #[.int .i64 1, .string ⟨#[97, 98]⟩] w fun e w' => e = .returned (.tuple #[.string ⟨#[167, 1, 0, 0, 0, 2, 97, 98, 180, 180, 3, 191]⟩, .int .i64 0]) ∧ Below w.heap.size w w' := by
  have h := fput_yes 1 ⟨#[97, 98]⟩ w (by decide) (by decide) (by decide) hT
  rw [show (ByteArray.mk #[97, 98]).data.toList = [97, 98] from rfl, ex1] at h
  exact h
theorem aw2 (w : World) (hT : Tab w) : Calls Tryd.prog 9 #[.string ⟨#[167, 1, 0, 0, 0, 2, 97, 98, 180, 180, 3, 191]⟩] w fun e w' => e = .returned (.tuple #[.int .i64 1, .string ⟨#[97, 98]⟩, .int .i64 0]) ∧ Below w.heap.size w w' := by
  have h := fget_any ⟨#[167, 1, 0, 0, 0, 2, 97, 98, 180, 180, 3, 191]⟩ w (by decide) hT
  unfold gK gB gE at h
  rw [show (ByteArray.mk #[167, 1, 0, 0, 0, 2, 97, 98, 180, 180, 3, 191]).data.toList = [167, 1, 0, 0, 0, 2, 97, 98, 180, 180, 3, 191] from rfl, ex2.1, ex2.2.1, ex2.2.2] at h
  exact h
theorem aw3 (w : World) (hT : Tab w) : Calls Tryd.prog 9 #[.string ⟨#[167, 1, 0, 0, 0, 2, 97, 98, 180, 180, 3, 191, 120]⟩] w fun e w' => e = .returned (.tuple #[.int .i64 0, .string ⟨#[]⟩, .int .i64 7]) ∧ Below w.heap.size w w' := by
  have h := fget_any ⟨#[167, 1, 0, 0, 0, 2, 97, 98, 180, 180, 3, 191, 120]⟩ w (by decide) hT
  unfold gK gB gE at h
  rw [show (ByteArray.mk #[167, 1, 0, 0, 0, 2, 97, 98, 180, 180, 3, 191, 120]).data.toList = [167, 1, 0, 0, 0, 2, 97, 98, 180, 180, 3, 191, 120] from rfl, ex3.1, ex3.2.1, ex3.2.2] at h
  exact h
theorem aw4 (w : World) (hT : Tab w) : Calls Tryd.prog 9 #[.string ⟨#[]⟩] w fun e w' => e = .returned (.tuple #[.int .i64 0, .string ⟨#[]⟩, .int .i64 3]) ∧ Below w.heap.size w w' :=
  fget_any ⟨#[]⟩ w (by decide) hT

theorem tab_next {w w' : World} (h : Tab w) (hb : Below w.heap.size w w') : Tab w' := tab_below h hb
theorem awake_any (w : World) (hT : Tab w) : Calls Tryd.prog 6 #[] w fun e w' => e = .returned (.bool true) ∧ Below w.heap.size w w' := by
  have hs6 : ∀ w, (Instr.slice 9 (.string ⟨#[167, 1, 0, 0, 0, 2, 97, 98, 180, 180, 3, 191]⟩) none (some (.int .i64 6)) none).run Tryd.prog w = .ok (.string ⟨#[167, 1, 0, 0, 0, 2]⟩) w := fun w => sl_to ⟨#[167, 1, 0, 0, 0, 2, 97, 98, 180, 180, 3, 191]⟩ 6 (by decide) w
  have hcat : ByteArray.mk #[167, 1, 0, 0, 0, 2, 97, 98, 180, 180, 3, 191] ++ ByteArray.mk #[120] = ⟨#[167, 1, 0, 0, 0, 2, 97, 98, 180, 180, 3, 191, 120]⟩ := cat_list [167, 1, 0, 0, 0, 2, 97, 98, 180, 180, 3, 191] [120]
  have hz : (ByteArray.mk #[167, 1, 0, 0, 0, 2, 97, 98, 180, 180, 3, 191]).size = 12 := rfl
  have H1 := Lib.hid (aw1 w hT)
  have HZ := Lib.hid (fun w => size_any 2 w (by decide))
  go_enter Tryd.func6, Tryd.ntmps6
  go_wp2_with fail
  refine H1.out.mono ?_; rintro e w1 ⟨rfl, hb1⟩
  have T1 := tab_next hT hb1
  go_wp2_with fail
  refine (aw2 _ T1).mono ?_; rintro e w2 ⟨rfl, hb2⟩
  have T2 := tab_next T1 hb2
  go_wp2_with fail
  refine (aw3 _ T2).mono ?_; rintro e w3 ⟨rfl, hb3⟩
  have T3 := tab_next T2 hb3
  go_wp2_with fail
  refine (aw4 _ T3).mono ?_; rintro e w4 ⟨rfl, hb4⟩
  go_wp2_with (go_at_call 11; refine (HZ.out _).mono ?_; rintro e w5 ⟨rfl, rfl⟩)
  go_ret
  have h2 := below_next hb1 hb1.size hb2
  have h3 := below_next h2 h2.size hb3
  exact ⟨rfl, below_next h3 h3.size hb4⟩

theorem says_walk (k : Int) (b s : ByteArray) (w : World) (hT : Tab w) :
    Calls Tryd.prog 3 #[.int .i64 k, .string b, .string s] w fun e w' => e = .returned (.bool true) ∧ Below w.heap.size w w' := by
  by_cases hg : (2000 < b.size ∧ b.size ≤ 1048576) ∨ 2000 < s.size
  · have hg' : (2000 < b.size ∧ b.size ≤ 1048576) ∨ (b.size ≤ 2000 ∧ 2000 < s.size) ∨ (1048576 < b.size ∧ 2000 < s.size) := by omega
    clear hg
    have HA := Lib.hid (awake_any w hT)
    rcases hg' with ⟨h, h2⟩ | ⟨h, h2⟩ | ⟨h, h2⟩
    all_goals
      go_enter Tryd.func3, Tryd.ntmps3
      go_wp2_with (go_at_call 6; refine HA.out.mono ?_; rintro e w1 ⟨rfl, hb1⟩)
      go_ret
      exact ⟨rfl, hb1⟩
  have hs : s.size ≤ 2000 := by omega
  have hb' : b.size ≤ 2000 ∨ 1048576 < b.size := by omega
  clear hg
  have H1 := Lib.hid (fun w hT => fput_any k b w hT)
  have H2 := Lib.hid (fun w => rfput_any k b w)
  have H3 := Lib.hid (fun w hT => fget_any s w (by omega) hT)
  have H4 := Lib.hid (fun w => rfget_any s w (by omega))
  have H5 := Lib.hid (fun w => size_of k w)
  have H6 := Lib.hid (fun w => rsize_of k w)
  generalize fpS k b = x1 at *
  generalize fpE k b = x2 at *
  generalize gK s = y1 at *
  generalize gB s = y2 at *
  generalize gE s = y3 at *
  generalize szN k = z at *
  rcases hb' with h | h
  all_goals
    go_enter Tryd.func3, Tryd.ntmps3
    go_wp2_with fail
    refine (H1.out _ hT).mono ?_; rintro e w1 ⟨rfl, hb1⟩
    have T1 := tab_next hT hb1
    go_wp2_with fail
    refine (H2.out _).mono ?_; rintro e w2 ⟨rfl, hb2⟩
    have T2 := tab_next T1 hb2
    have h2 := below_next hb1 hb1.size hb2
    go_wp2_with fail
    refine (H3.out _ T2).mono ?_; rintro e w3 ⟨rfl, hb3⟩
    have T3 := tab_next T2 hb3
    have h3 := below_next h2 h2.size hb3
    go_wp2_with fail
    refine (H4.out _).mono ?_; rintro e w4 ⟨rfl, hb4⟩
    have T4 := tab_next T3 hb4
    have h4 := below_next h3 h3.size hb4
    go_wp2_with (first
      | (go_at_call 11; with_reducible refine (H5.out _).mono ?_; rintro e w5 ⟨rfl, rfl⟩)
      | (go_at_call 12; with_reducible refine (H6.out _).mono ?_; rintro e w5 ⟨rfl, rfl⟩)
      | (go_at_call 6; refine (awake_any _ T4).mono ?_; rintro e w6 ⟨rfl, hb6⟩))
    go_ret
    exact ⟨rfl, below_next h4 h4.size hb6⟩

/-- What Back asks of the frame of a body, and of what is got. -/
theorem back_put (k : Nat) (b : ByteArray) (k0 : 0 < k) (k1 : k < 256) (hb : b.size ≤ 2000) : fpS k b = ⟨(frL k b.data.toList).toArray⟩ ∧ fpE k b = 0 ∧ (fpS k b).size = b.size + 10 ∧ gE (fpS k b) = 0 ∧ gK (fpS k b) = k ∧ gB (fpS k b) = b := by
  have hl : b.data.toList.length = b.size := by simp
  have e : fpS k b = ⟨(frL k b.data.toList).toArray⟩ := by unfold fpS; rw [if_neg (by omega)]; rfl
  have e2 : fpE k b = 0 := by unfold fpE; rw [if_neg (by omega), if_neg (by omega)]
  obtain ⟨h1, h2, h3⟩ := got_put k b.data.toList k0 k1 (by omega)
  refine ⟨e, e2, ?_, ?_, ?_, ?_⟩
  · rw [e]; show (List.toArray _).size = _; rw [List.size_toArray, frL_length, hl]
  · rw [e]; exact h1
  · rw [e]; exact h2
  · rw [e]; unfold gB; rw [h3]
theorem back_get (s : ByteArray) (h : gE s = 0) : fpS (gK s : Nat) (gB s) = s ∧ fpE (gK s : Nat) (gB s) = 0 := by
  obtain ⟨h1, h2, h3, h4, h5⟩ := got_zero s.data.toList h
  have hz : (gB s).size ≤ 1048576 := by show (List.toArray _).size ≤ _; rw [List.size_toArray]; exact h3
  have h1' : 0 < gK s := h1
  have h2' : gK s < 256 := h2
  refine ⟨?_, ?_⟩
  · unfold fpS
    rw [if_neg (by omega)]
    apply ByteArray.ext
    apply Array.toList_inj.1
    exact h5
  · unfold fpE; rw [if_neg (by omega), if_neg (by omega)]

theorem back_walk (k : Nat) (b s : ByteArray) (w : World) (k1 : k < 256) (hT : Tab w) :
    Calls Tryd.prog 4 #[.int .u8 (k : Int), .string b, .string s] w fun e w' => e = .returned (.bool true) ∧ Below w.heap.size w w' := by
  have hkw : wrap64 (k : Int) = (k : Int) := by rw [wrap64]; omega
  by_cases hg : 2000 < b.size ∨ 2000 < s.size
  · have hg' : (2000 < b.size) ∨ (b.size ≤ 2000 ∧ 2000 < s.size) := by omega
    clear hg
    have HA := Lib.hid (awake_any w hT)
    rcases hg' with h | ⟨h, h2⟩
    all_goals
      go_enter Tryd.func4, Tryd.ntmps4
      go_wp2_with (go_at_call 6; refine HA.out.mono ?_; rintro e w1 ⟨rfl, hb1⟩)
      go_ret
      exact ⟨rfl, hb1⟩
  have hs : s.size ≤ 2000 := by omega
  have hb : b.size ≤ 2000 := by omega
  clear hg
  by_cases h0 : k = 0
  · subst h0
    have H : Hid (Calls Tryd.prog 7 #[.int .i64 0, .string b] w fun e w' => e = .returned (.tuple #[.string ⟨#[]⟩, .int .i64 15]) ∧ w = w') := Lib.hid (fput_kind 0 b w (.inl (by decide)))
    have HA := Lib.hid (awake_any w hT)
    clear hkw
    have hkw : wrap64 0 = 0 := by rw [wrap64]; omega
    go_enter Tryd.func4, Tryd.ntmps4
    go_wp2_with (first
      | (go_at_call 7; refine H.out.mono ?_; rintro e w1 ⟨rfl, rfl⟩)
      | (go_at_call 6; refine HA.out.mono ?_; rintro e w1 ⟨rfl, hb1⟩))
    go_ret
    exact ⟨rfl, hb1⟩
  have k0 : 0 < k := by omega
  have hk0 : ((k : Int) == 0) = false := by rw [beq_eq_false_iff_ne]; omega
  obtain ⟨e1, e2, e3, e4, e5, e6⟩ := back_put k b k0 k1 hb
  clear e1
  have H1 := Lib.hid (fun w hT => fput_any k b w hT)
  rw [e2] at H1
  have H2 := Lib.hid (fun w hT => fget_any (fpS k b) w (by omega) hT)
  rw [e4, e5, e6] at H2
  clear e4 e5 e6 e2
  generalize fpS k b = f at *
  have H3 := Lib.hid (fun w hT => fget_any s w (by omega) hT)
  have HZ := Lib.hid (fun w => size_any b.size w (by omega))
  rw [← e3] at HZ
  have hfz : f.size ≤ 2010 := by omega
  clear e3
  by_cases hE : gE s = 0
  · obtain ⟨g1, g2⟩ := back_get s hE
    have H4 := Lib.hid (fun w hT => fput_any (gK s : Nat) (gB s) w hT)
    rw [g1, g2] at H4
    rw [hE] at H3
    clear g1 g2 hE
    generalize gK s = y1 at *
    generalize gB s = y2 at *
    go_enter Tryd.func4, Tryd.ntmps4
    go_wp2_with fail
    refine (H1.out _ hT).mono ?_; rintro e w1 ⟨rfl, hb1⟩
    have T1 := tab_next hT hb1
    go_wp2_with fail
    with_reducible refine (H2.out _ T1).mono ?_; rintro e w2 ⟨rfl, hb2⟩
    have T2 := tab_next T1 hb2
    have h2 := below_next hb1 hb1.size hb2
    go_wp2_with (go_at_call 11; with_reducible refine (HZ.out _).mono ?_; rintro e w5 ⟨rfl, rfl⟩)
    with_reducible refine (H3.out _ T2).mono ?_; rintro e w3 ⟨rfl, hb3⟩
    have T3 := tab_next T2 hb3
    have h3 := below_next h2 h2.size hb3
    go_wp2_with fail
    refine (H4.out _ T3).mono ?_; rintro e w4 ⟨rfl, hb4⟩
    have T4 := tab_next T3 hb4
    have h4 := below_next h3 h3.size hb4
    go_wp2_with (go_at_call 6; refine (awake_any _ T4).mono ?_; rintro e w6 ⟨rfl, hb6⟩)
    go_ret
    exact ⟨rfl, below_next h4 h4.size hb6⟩
  · obtain ⟨g1, g2⟩ := g_bad hE
    rw [g1, g2] at H3
    have hE2 : ((gE s : Int) == 0) = false := by rw [beq_eq_false_iff_ne]; omega
    clear g1 g2 hE
    generalize gE s = y3 at *
    go_enter Tryd.func4, Tryd.ntmps4
    go_wp2_with fail
    refine (H1.out _ hT).mono ?_; rintro e w1 ⟨rfl, hb1⟩
    have T1 := tab_next hT hb1
    go_wp2_with fail
    refine (H2.out _ T1).mono ?_; rintro e w2 ⟨rfl, hb2⟩
    have T2 := tab_next T1 hb2
    have h2 := below_next hb1 hb1.size hb2
    go_wp2_with (go_at_call 11; with_reducible refine (HZ.out _).mono ?_; rintro e w5 ⟨rfl, rfl⟩)
    refine (H3.out _ T2).mono ?_; rintro e w3 ⟨rfl, hb3⟩
    have T3 := tab_next T2 hb3
    have h3 := below_next h2 h2.size hb3
    go_wp2_with (go_at_call 6; refine (awake_any _ T3).mono ?_; rintro e w6 ⟨rfl, hb6⟩)
    go_ret
    exact ⟨rfl, below_next h3 h3.size hb6⟩
end Go.Proofs.YtnknchadlhcdbaaDoor.Frm
