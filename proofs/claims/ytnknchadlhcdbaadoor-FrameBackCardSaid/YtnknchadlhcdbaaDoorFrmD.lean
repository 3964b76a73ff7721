/- Contract of frame's Get. Conditions: the table of effects reads as the program lays it. -/
import Derived.Test.YtnknchadlhcdbaaDoorFrmC
namespace Go.Proofs.YtnknchadlhcdbaaDoor.Frm
open Go.RowKit Go.Lib Go.Proofs.YtnknchadlhcdbaaDoor.Byt Go.Proofs.YtnknchadlhcdbaaDoor.Oct Go.Proofs.YtnknchadlhcdbaaDoor.Crc

/-- What Get hands back. -/
def gE (s : ByteArray) : Nat := gEL s.data.toList
def gK (s : ByteArray) : Nat := gKL s.data.toList
def gB (s : ByteArray) : ByteArray := ⟨(gBL s.data.toList).toArray⟩
theorem g_bad {s : ByteArray} (h : gE s ≠ 0) : gK s = 0 ∧ gB s = ⟨#[]⟩ := by
  unfold gE at h
  unfold gK gB gKL gBL
  rw [if_neg h, if_neg h]
  exact ⟨rfl, rfl⟩
theorem g_cases (s : ByteArray) : (fzL s.data.toList ≠ 0 ∧ gE s = fzL s.data.toList) ∨ (fzL s.data.toList = 0 ∧ s.size < lenL s.data.toList + 10 ∧ gE s = 3) ∨ (fzL s.data.toList = 0 ∧ lenL s.data.toList + 10 < s.size ∧ gE s = 7) ∨
    (fzL s.data.toList = 0 ∧ s.size = lenL s.data.toList + 10 ∧ cutB s (s.size - 4) 4 ≠ ⟨(sumL ((cutB s 0 6).data.toList ++ (cutB s 6 (s.size - 10)).data.toList)).toArray⟩ ∧ gE s = 9) ∨
    (fzL s.data.toList = 0 ∧ s.size = lenL s.data.toList + 10 ∧ cutB s (s.size - 4) 4 = ⟨(sumL ((cutB s 0 6).data.toList ++ (cutB s 6 (s.size - 10)).data.toList)).toArray⟩ ∧ gE s = 0 ∧
      (∃ h : 1 < s.size, gK s = s[1].toNat) ∧ gB s = cutB s 6 (s.size - 10)) := by
  have hl : s.data.toList.length = s.size := by simp
  by_cases h0 : fzL s.data.toList = 0
  · by_cases h1 : s.size < lenL s.data.toList + 10
    · refine .inr (.inl ⟨h0, h1, ?_⟩)
      unfold gE gEL; rw [if_neg (by omega), if_pos (by omega)]
    · by_cases h2 : lenL s.data.toList + 10 < s.size
      · refine .inr (.inr (.inl ⟨h0, h2, ?_⟩))
        unfold gE gEL; rw [if_neg (by omega), if_neg (by omega), if_pos (by omega)]
      · have hz : s.size = lenL s.data.toList + 10 := by omega
        have e1 : (cutB s (s.size - 4) 4).data.toList = s.data.toList.drop (s.size - 4) := by
          show (s.data.toList.drop (s.size - 4)).take 4 = _
          rw [List.take_of_length_le (by rw [List.length_drop]; omega)]
        have e2 : (cutB s 0 6).data.toList ++ (cutB s 6 (s.size - 10)).data.toList = s.data.toList.take (s.size - 4) := by
          show (s.data.toList.drop 0).take 6 ++ (s.data.toList.drop 6).take (s.size - 10) = _
          rw [List.drop_zero, ← List.take_add, show 6 + (s.size - 10) = s.size - 4 by omega]
        have e3 : cutB s (s.size - 4) 4 = ⟨(sumL ((cutB s 0 6).data.toList ++ (cutB s 6 (s.size - 10)).data.toList)).toArray⟩ ↔ s.data.toList.drop (s.size - 4) = sumL (s.data.toList.take (s.size - 4)) := by
          rw [e2, ← e1]
          constructor
          · intro q; rw [q]
          · intro q
            apply ByteArray.ext
            apply Array.toList_inj.1
            exact q
        by_cases h3 : s.data.toList.drop (s.size - 4) = sumL (s.data.toList.take (s.size - 4))
        · have hg : gEL s.data.toList = 0 := by
            unfold gEL; rw [if_neg (by omega), if_neg (by omega), if_neg (by omega), hl, if_pos h3]
          refine .inr (.inr (.inr (.inr ⟨h0, hz, e3.2 h3, hg, ⟨by omega, ?_⟩, ?_⟩)))
          · unfold gK gKL; rw [if_pos hg, getD_at s 1 (by omega)]
          · unfold gB gBL cutB; rw [if_pos hg, hl]
        · refine .inr (.inr (.inr (.inl ⟨h0, hz, fun q => h3 (e3.1 q), ?_⟩)))
          unfold gE gEL; rw [if_neg (by omega), if_neg (by omega), if_neg (by omega), hl, if_neg h3]
  · refine .inl ⟨h0, ?_⟩
    unfold gE gEL; rw [if_pos h0]

theorem keep_below {w W W' : World} (hb : Below W.heap.size W W') (h : w.heap.size ≤ W.heap.size ∧ Below w.heap.size w W) : w.heap.size ≤ W'.heap.size ∧ Below w.heap.size w W' :=
  ⟨Nat.le_trans h.1 hb.size, below_next h.2 h.1 hb⟩

theorem fget_any (s : ByteArray) (w : World) (hs : s.size ≤ 140737488355328) (hT : Tab w) :
    Calls Tryd.prog 9 #[.string s] w fun e w' => e = .returned (.tuple #[.int .i64 (gK s : Nat), .string (gB s), .int .i64 (gE s : Nat)]) ∧ Below w.heap.size w w' := by
  have HF := Lib.hid (fsize_any s w hs)
  have hN : fzL s.data.toList = 0 → fzN s = lenL s.data.toList + 10 := fun h => by unfold fzN; rw [if_pos h]
  rcases g_cases s with ⟨h0, e⟩ | ⟨h0, h1, e⟩ | ⟨h0, h1, e⟩ | ⟨h0, h1, h2, e⟩ | ⟨h0, h1, h2, e, ⟨hk0, hk⟩, hb⟩
  · obtain ⟨e1, e2⟩ := g_bad (by rw [e]; exact h0)
    rw [e1, e2, e]
    have h0' : ((fzL s.data.toList : Int) == 0) = false := by rw [beq_eq_false_iff_ne]; omega
    clear e e1 e2 hN
    generalize fzL s.data.toList = f at *
    generalize fzN s = z at *
    go_enter Tryd.func9, Tryd.ntmps9
    go_wp2_with (go_at_call 18; with_reducible refine HF.out.mono ?_; rintro e w1 ⟨rfl, hb⟩)
    go_ret3
    exact ⟨rfl, hb⟩
  · obtain ⟨e1, e2⟩ := g_bad (s := s) (by rw [e]; decide)
    rw [e1, e2, e]
    rw [hN h0, h0] at HF
    clear e e1 e2 hN h0
    generalize lenL s.data.toList = n at *
    go_enter Tryd.func9, Tryd.ntmps9
    go_wp2_with (go_at_call 18; with_reducible refine HF.out.mono ?_; rintro e w1 ⟨rfl, hb⟩)
    go_ret3
    exact ⟨rfl, hb⟩
  · obtain ⟨e1, e2⟩ := g_bad (s := s) (by rw [e]; decide)
    rw [e1, e2, e]
    rw [hN h0, h0] at HF
    clear e e1 e2 hN h0
    generalize lenL s.data.toList = n at *
    go_enter Tryd.func9, Tryd.ntmps9
    go_wp2_with (go_at_call 18; with_reducible refine HF.out.mono ?_; rintro e w1 ⟨rfl, hb⟩)
    go_ret3
    exact ⟨rfl, hb⟩
  · obtain ⟨e1, e2⟩ := g_bad (s := s) (by rw [e]; decide)
    rw [e1, e2, e]
    rw [hN h0, h0, ← h1] at HF
    have hs10 : 10 ≤ s.size := by omega
    clear e e1 e2 hN h0 h1
    have hsl2 : ∀ w, (Instr.slice 9 (.string s) none (some (.int .i64 6)) none).run Tryd.prog w = .ok (.string (cutB s 0 6)) w := fun w => sl_to s 6 (by omega) w
    have hsl1 := fun w => sl_from s (s.size - 4) 4 (by omega) w
    have hsl3 := fun w => run_cut s 6 ((s.size - 4 : Nat) : Int) 6 (s.size - 10) rfl (by omega) (by omega) w
    have HS := Lib.hid (fun w hT => sum_bytes (cutB s 0 6) (cutB s 6 (s.size - 10)) w (by rw [cutB_size _ _ _ (by omega)]; decide) (by rw [cutB_size _ _ _ (by omega)]; omega) hT)
    have hne := str_neq h2
    clear h2
    generalize ByteArray.mk (sumL ((cutB s 0 6).data.toList ++ (cutB s 6 (s.size - 10)).data.toList)).toArray = c at *
    generalize cutB s 0 6 = p at *
    generalize cutB s 6 (s.size - 10) = q at *
    generalize cutB s (s.size - 4) 4 = u at *
    have hsz : (s.size : Int) - 4 = ((s.size - 4 : Nat) : Int) := by omega
    have hz1 : (6 : Int) ≤ ((s.size - 4 : Nat) : Int) := by omega
    have hz2 : ((s.size - 4 : Nat) : Int) ≤ (s.size : Int) := by omega
    have hz3 : (6 : Int) ≤ (s.size : Int) := by omega
    generalize s.size - 4 = z at *
    have HT := Lib.hid (fun W h => tab_below (W := W) hT h)
    clear hT
    go_enter Tryd.func9, Tryd.ntmps9
    go_wp2_with (go_at_call 18; with_reducible refine HF.out.mono ?_; rintro e w1 ⟨rfl, hb⟩)
    go_region_held3 (fun w' => w.heap.size ≤ w'.heap.size ∧ Below w.heap.size w w') (first | exact ⟨hb.size, hb.drew⟩ | exact keep_below (by assumption) (by assumption))
      ((go_at_call 14; with_reducible refine (HS.out _ (HT.out _ (by assumption : _ ∧ _).2)).mono ?_; rintro e w4 ⟨rfl, hb4⟩))
    all_goals
      go_wp2_with fail
      go_ret3
      exact ⟨rfl, ‹_ ∧ Below w.heap.size w _›.2⟩
  · rw [e, hk, hb]
    rw [hN h0, h0, ← h1] at HF
    have hs10 : 10 ≤ s.size := by omega
    have HC := Lib.hid (fun w => cut_yes s 6 (s.size - 10) w (by omega) hs)
    have hk1 : (1 : Int) < (s.size : Int) := by omega
    have hk8 : s[1].toNat < 256 := s[1].toNat_lt
    have hkw : wrap64 (s[1].toNat : Int) = (s[1].toNat : Int) := by rw [wrap64]; omega
    clear e hk hb hN h0 h1
    have hsl2 : ∀ w, (Instr.slice 9 (.string s) none (some (.int .i64 6)) none).run Tryd.prog w = .ok (.string (cutB s 0 6)) w := fun w => sl_to s 6 (by omega) w
    have hsl1 := fun w => sl_from s (s.size - 4) 4 (by omega) w
    have hsl3 := fun w => run_cut s 6 ((s.size - 4 : Nat) : Int) 6 (s.size - 10) rfl (by omega) (by omega) w
    have HS := Lib.hid (fun w hT => sum_bytes (cutB s 0 6) (cutB s 6 (s.size - 10)) w (by rw [cutB_size _ _ _ (by omega)]; decide) (by rw [cutB_size _ _ _ (by omega)]; omega) hT)
    rw [← h2] at HS
    clear h2
    generalize cutB s 0 6 = p at *
    generalize cutB s 6 (s.size - 10) = q at *
    generalize cutB s (s.size - 4) 4 = u at *
    have hsz : (s.size : Int) - 4 = ((s.size - 4 : Nat) : Int) := by omega
    have hz1 : (6 : Int) ≤ ((s.size - 4 : Nat) : Int) := by omega
    have hz2 : ((s.size - 4 : Nat) : Int) ≤ (s.size : Int) := by omega
    have hz3 : (6 : Int) ≤ (s.size : Int) := by omega
    have hyz : ((s.size - 4 : Nat) : Int) - 6 = ((s.size - 10 : Nat) : Int) := by omega
    generalize s.size - 4 = z at *
    generalize s.size - 10 = y at *
    have HT := Lib.hid (fun W h => tab_below (W := W) hT h)
    clear hT
    go_enter Tryd.func9, Tryd.ntmps9
    go_wp2_with (go_at_call 18; with_reducible refine HF.out.mono ?_; rintro e w1 ⟨rfl, hbw⟩)
    go_region_held3 (fun w' => w.heap.size ≤ w'.heap.size ∧ Below w.heap.size w w') (first | exact ⟨hbw.size, hbw.drew⟩ | exact keep_below (by assumption) (by assumption))
      ((go_at_call 14; with_reducible refine (HS.out _ (HT.out _ (by assumption : _ ∧ _).2)).mono ?_; rintro e w4 ⟨rfl, hb4⟩))
    all_goals
      have HK := Lib.hid ‹_ ∧ Below w.heap.size w _›
      go_wp2_with (go_at_call 19; refine (HC.out _).mono ?_; rintro e w5 ⟨rfl, hb5⟩)
      go_ret3
      exact ⟨rfl, below_next HK.out.2 HK.out.1 hb5⟩
end Go.Proofs.YtnknchadlhcdbaaDoor.Frm
