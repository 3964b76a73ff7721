/- Contract of the document's Get of frames. Conditions: none. -/
import Derived.Test.YtnknchadlhcdbaaDoorFrmE
namespace Go.Proofs.YtnknchadlhcdbaaDoor.Frm
open Go.RowKit Go.Lib Go.Proofs.YtnknchadlhcdbaaDoor.Byt Go.Proofs.YtnknchadlhcdbaaDoor.Oct Go.Proofs.YtnknchadlhcdbaaDoor.Crc

theorem rsize_any (n : Nat) (w : World) (h : n ≤ 1048576) :
    Calls Tryd.prog 12 #[.int .i64 (n : Int)] w fun e w' => e = .returned (.int .i64 ((n + 10 : Nat) : Int)) ∧ w = w' := by
  have := rsize_of (n : Int) w
  rwa [szN_in n h] at this
theorem cut_join (s : ByteArray) (h : 10 ≤ s.size) : (cutB s 0 6).data.toList ++ (cutB s 6 (s.size - 10)).data.toList = (cutB s 0 (s.size - 4)).data.toList := by
  show (s.data.toList.drop 0).take 6 ++ (s.data.toList.drop 6).take (s.size - 10) = (s.data.toList.drop 0).take (s.size - 4)
  rw [List.drop_zero, ← List.take_add, show 6 + (s.size - 10) = s.size - 4 by omega]

theorem rfget_any (s : ByteArray) (w : World) (hs : s.size ≤ 1000000) :
    Calls Tryd.prog 10 #[.string s] w fun e w' => e = .returned (.tuple #[.int .i64 (gK s : Nat), .string (gB s), .int .i64 (gE s : Nat)]) ∧ Below w.heap.size w w' := by
  have HT : Hid (6 ≤ s.size → Calls Tryd.prog 20 #[.string s, .int .i64 2, .int .i64 4] w fun e w' => e = .returned (.tuple #[.int .u64 (lenL s.data.toList : Nat), .bool true]) ∧ w = w') :=
    Lib.hid (fun h => rtake_yes s 2 4 w (by omega) (by omega) (by decide) (by decide))
  have hlt := lenL_lt s.data.toList
  have hne : 0 < s.size → s.toList.isEmpty = false := str_some
  rcases g_cases s with ⟨h0, e⟩ | ⟨h0, h1, e⟩ | ⟨h0, h1, e⟩ | ⟨h0, h1, h2, e⟩ | ⟨h0, h1, h2, e, ⟨hk0, hk⟩, hb⟩
  · obtain ⟨e1, e2⟩ := g_bad (by rw [e]; exact h0)
    rw [e1, e2, e]
    clear e e1 e2
    rcases fz_cases s with ⟨h, e⟩ | ⟨h, h1, e⟩ | ⟨h, h1, h2, e⟩ | ⟨h, h1, h2, e⟩ | ⟨h, h1, h2, h3, e⟩ | ⟨h, h1, h2, h3, e⟩
    · obtain rfl := str_none h
      rw [e]
      clear e HT h0 h hlt hne
      go_enter Tryd.func10, Tryd.ntmps10
      go_wp2_with fail
      go_ret3
      exact ⟨rfl, Below.refl _ _⟩
    · have hn := hne (by omega)
      rw [e]
      clear e HT h0 hlt hne
      go_enter Tryd.func10, Tryd.ntmps10
      go_wp2_with fail
      go_ret3
      exact ⟨rfl, Below.refl _ _⟩
    · have hn := hne (by omega)
      rw [e]
      clear e HT h0 hlt hne
      go_enter Tryd.func10, Tryd.ntmps10
      go_wp2_with fail
      go_ret3
      exact ⟨rfl, Below.refl _ _⟩
    · have hn := hne (by omega)
      rw [e]
      clear e HT h0 hlt hne
      go_enter Tryd.func10, Tryd.ntmps10
      go_wp2_with fail
      go_ret3
      exact ⟨rfl, Below.refl _ _⟩
    · have hn := hne (by omega)
      have H := Lib.hid (HT.out h)
      rw [e]
      clear e HT h0 hne
      generalize lenL s.data.toList = n at *
      go_enter Tryd.func10, Tryd.ntmps10
      go_wp2_with (go_at_call 20; with_reducible refine H.out.mono ?_; rintro e w' ⟨rfl, rfl⟩)
      go_ret3
      exact ⟨rfl, Below.refl _ _⟩
    · exact absurd e h0
  · obtain ⟨e1, e2⟩ := g_bad (s := s) (by rw [e]; decide)
    rw [e1, e2, e]
    clear e e1 e2
    rcases fz_cases s with ⟨h, e⟩ | ⟨h, h1, e⟩ | ⟨h, h1, h2, e⟩ | ⟨h, h1, h2, e⟩ | ⟨h, h1, h2, h3, e⟩ | ⟨h, g1, g2, g3, e⟩
    iterate 5 (exfalso; omega)
    have hn := hne (by omega)
    have H := Lib.hid (HT.out h)
    clear e HT h0 hne
    generalize lenL s.data.toList = n at *
    have HZ := Lib.hid (rsize_any n w g3)
    go_enter Tryd.func10, Tryd.ntmps10
    go_wp2_with (first
      | (go_at_call 20; with_reducible refine H.out.mono ?_; rintro e w' ⟨rfl, rfl⟩)
      | (go_at_call 12; with_reducible refine HZ.out.mono ?_; rintro e w' ⟨rfl, rfl⟩))
    go_ret3
    exact ⟨rfl, Below.refl _ _⟩
  · obtain ⟨e1, e2⟩ := g_bad (s := s) (by rw [e]; decide)
    rw [e1, e2, e]
    clear e e1 e2
    rcases fz_cases s with ⟨h, e⟩ | ⟨h, h1, e⟩ | ⟨h, h1, h2, e⟩ | ⟨h, h1, h2, e⟩ | ⟨h, h1, h2, h3, e⟩ | ⟨h, g1, g2, g3, e⟩
    iterate 5 (exfalso; omega)
    have hn := hne (by omega)
    have H := Lib.hid (HT.out h)
    clear e HT h0 hne
    generalize lenL s.data.toList = n at *
    have HZ := Lib.hid (rsize_any n w g3)
    go_enter Tryd.func10, Tryd.ntmps10
    go_wp2_with (first
      | (go_at_call 20; with_reducible refine H.out.mono ?_; rintro e w' ⟨rfl, rfl⟩)
      | (go_at_call 12; with_reducible refine HZ.out.mono ?_; rintro e w' ⟨rfl, rfl⟩))
    go_ret3
    exact ⟨rfl, Below.refl _ _⟩
  · obtain ⟨e1, e2⟩ := g_bad (s := s) (by rw [e]; decide)
    rw [e1, e2, e]
    have hs10 : 10 ≤ s.size := by omega
    rw [cut_join s hs10] at h2
    have hn3 : lenL s.data.toList ≤ 1048576 := by omega
    have hn := hne (by omega)
    have H := Lib.hid (HT.out (by omega))
    rcases fz_cases s with ⟨h, e⟩ | ⟨h, h1, e⟩ | ⟨h, h1, h2, e⟩ | ⟨h, h1, h2, e⟩ | ⟨h, h1, h2, h3, e⟩ | ⟨h, g1, g2, g3, _⟩
    iterate 5 (exfalso; omega)
    clear e e1 e2 hne hs10 HT h0 g3
    generalize lenL s.data.toList = n at *
    have HZ := Lib.hid (rsize_any n w hn3)
    rw [← h1] at HZ
    clear h1
    have hsl2 := fun w => sl_to s (s.size - 4) (by omega) w
    have hsl1 := fun w => sl_from s (s.size - 4) 4 (by omega) w
    have hz1 : (0 : Int) ≤ ((s.size - 4 : Nat) : Int) := by omega
    have hz2 : ((s.size - 4 : Nat) : Int) ≤ (s.size : Int) := by omega
    have hne := str_neq (fun q => h2 q.symm)
    have hcz := cutB_size s 0 (s.size - 4) (by omega)
    clear h2
    have HS := Lib.hid (fun w => rsum_any (cutB s 0 (s.size - 4)) w (by omega))
    have HQ := Lib.hid (fun w => rput_any (mr 0 (cutB s 0 (s.size - 4)).data.toList) 4 4 w (by have := mr_lt 0 (cutB s 0 (s.size - 4)).data.toList; omega) (by decide))
    have HR := Lib.hid (fun w => turned_any ⟨(putL (mr 0 (cutB s 0 (s.size - 4)).data.toList) 4).toArray⟩ w (by show (List.toArray _).size ≤ _; rw [List.size_toArray, putL_length]; decide))
    have e1 : (ByteArray.mk (putL (mr 0 (cutB s 0 (s.size - 4)).data.toList) 4).toArray).data.toList.reverse = sumL (cutB s 0 (s.size - 4)).data.toList := rfl
    rw [e1] at HR
    clear e1 hcz
    have hml := mr_lt 0 (cutB s 0 (s.size - 4)).data.toList
    generalize ByteArray.mk (sumL (cutB s 0 (s.size - 4)).data.toList).toArray = c at *
    generalize mr 0 (cutB s 0 (s.size - 4)).data.toList = m at *
    generalize ByteArray.mk (putL m 4).toArray = p4 at *
    generalize cutB s 0 (s.size - 4) = p at *
    generalize cutB s (s.size - 4) 4 = u at *
    have hsz : (s.size : Int) - 4 = ((s.size - 4 : Nat) : Int) := by omega
    generalize s.size - 4 = z at *
    have hmw : IntKind.u64.wrap (m : Int) = (m : Int) := by rw [IntKind.wrap_u64]; omega
    go_enter Tryd.func10, Tryd.ntmps10
    go_wp2_with (first
      | (go_at_call 20; with_reducible refine H.out.mono ?_; rintro e w' ⟨rfl, rfl⟩)
      | (go_at_call 12; with_reducible refine HZ.out.mono ?_; rintro e w' ⟨rfl, rfl⟩))
    go_region_held3 (fun w' => w.heap.size ≤ w'.heap.size ∧ Below w.heap.size w w') (first | exact ⟨Nat.le_refl _, (Below.refl _ _).drew⟩ | exact keep_below (by assumption) (by assumption))
      (first
      | (go_at_call 17; with_reducible refine (HS.out _).mono ?_; rintro e w8 ⟨rfl, rfl⟩)
      | (go_at_call 15; with_reducible refine (HQ.out _).mono ?_; rintro e w9 ⟨rfl, hb9⟩)
      | (go_at_call 16; with_reducible refine (HR.out _).mono ?_; rintro e wa ⟨rfl, hba⟩))
    all_goals
      go_wp2_with fail
      go_ret3
      exact ⟨rfl, ‹_ ∧ Below w.heap.size w _›.2⟩
  · rw [e, hk, hb]
    have hs10 : 10 ≤ s.size := by omega
    rw [cut_join s hs10] at h2
    have hn3 : lenL s.data.toList ≤ 1048576 := by omega
    have hn := hne (by omega)
    have H := Lib.hid (HT.out (by omega))
    rcases fz_cases s with ⟨h, e'⟩ | ⟨h, h1, e'⟩ | ⟨h, h1, h2, e'⟩ | ⟨h, h1, h2, e'⟩ | ⟨h, h1, h2, h3, e'⟩ | ⟨h, g1, g2, g3, _⟩
    iterate 5 (exfalso; omega)
    have hk8 : s[1].toNat < 256 := s[1].toNat_lt
    have hkw : wrap64 (s[1].toNat : Int) = (s[1].toNat : Int) := by rw [wrap64]; omega
    clear hk hb hne HT h0 g3
    generalize lenL s.data.toList = n at *
    have HZ := Lib.hid (rsize_any n w hn3)
    rw [← h1] at HZ
    clear h1
    have hsl2 := fun w => sl_to s (s.size - 4) (by omega) w
    have hsl1 := fun w => sl_from s (s.size - 4) 4 (by omega) w
    have hsl3 := fun w => run_cut s 6 ((s.size - 4 : Nat) : Int) 6 (s.size - 10) rfl (by omega) (by omega) w
    have hz3 : (6 : Int) ≤ ((s.size - 4 : Nat) : Int) := by omega
    have hk1 : (1 : Int) < (s.size : Int) := by omega
    have hz1 : (0 : Int) ≤ ((s.size - 4 : Nat) : Int) := by omega
    have hz2 : ((s.size - 4 : Nat) : Int) ≤ (s.size : Int) := by omega
    have hc2 := h2.symm
    have hcz := cutB_size s 0 (s.size - 4) (by omega)
    clear h2 e
    have HS := Lib.hid (fun w => rsum_any (cutB s 0 (s.size - 4)) w (by omega))
    have HQ := Lib.hid (fun w => rput_any (mr 0 (cutB s 0 (s.size - 4)).data.toList) 4 4 w (by have := mr_lt 0 (cutB s 0 (s.size - 4)).data.toList; omega) (by decide))
    have HR := Lib.hid (fun w => turned_any ⟨(putL (mr 0 (cutB s 0 (s.size - 4)).data.toList) 4).toArray⟩ w (by show (List.toArray _).size ≤ _; rw [List.size_toArray, putL_length]; decide))
    have e1 : (ByteArray.mk (putL (mr 0 (cutB s 0 (s.size - 4)).data.toList) 4).toArray).data.toList.reverse = sumL (cutB s 0 (s.size - 4)).data.toList := rfl
    rw [e1] at HR
    clear e1 hcz
    have hml := mr_lt 0 (cutB s 0 (s.size - 4)).data.toList
    generalize ByteArray.mk (sumL (cutB s 0 (s.size - 4)).data.toList).toArray = c at *
    generalize mr 0 (cutB s 0 (s.size - 4)).data.toList = m at *
    generalize ByteArray.mk (putL m 4).toArray = p4 at *
    generalize cutB s 0 (s.size - 4) = p at *
    generalize cutB s (s.size - 4) 4 = u at *
    subst hc2
    generalize cutB s 6 (s.size - 10) = q at *
    clear hs10
    have hsz : (s.size : Int) - 4 = ((s.size - 4 : Nat) : Int) := by omega
    generalize s.size - 4 = z at *
    have hmw : IntKind.u64.wrap (m : Int) = (m : Int) := by rw [IntKind.wrap_u64]; omega
    go_enter Tryd.func10, Tryd.ntmps10
    go_wp2_with (first
      | (go_at_call 20; with_reducible refine H.out.mono ?_; rintro e w' ⟨rfl, rfl⟩)
      | (go_at_call 12; with_reducible refine HZ.out.mono ?_; rintro e w' ⟨rfl, rfl⟩))
    go_region_held3 (fun w' => w.heap.size ≤ w'.heap.size ∧ Below w.heap.size w w') (first | exact ⟨Nat.le_refl _, (Below.refl _ _).drew⟩ | exact keep_below (by assumption) (by assumption))
      (first
      | (go_at_call 17; with_reducible refine (HS.out _).mono ?_; rintro e w8 ⟨rfl, rfl⟩)
      | (go_at_call 15; with_reducible refine (HQ.out _).mono ?_; rintro e w9 ⟨rfl, hb9⟩)
      | (go_at_call 16; with_reducible refine (HR.out _).mono ?_; rintro e wa ⟨rfl, hba⟩))
    all_goals
      go_wp2_with fail
      go_region
      all_goals
        go_wp2_with fail
        go_ret3
        exact ⟨rfl, (‹_ ∧ Below w.heap.size w _›.2).drew⟩
end Go.Proofs.YtnknchadlhcdbaaDoor.Frm
