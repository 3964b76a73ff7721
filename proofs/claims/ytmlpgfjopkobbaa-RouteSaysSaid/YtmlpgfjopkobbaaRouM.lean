/- The law RouteGoes. Conditions: as the theorem states. -/
import Derived.Test.YtmlpgfjopkobbaaRouL
namespace Go.Proofs.Ytmlpgfjopkobbaa.Rou
open Go.RowKit Go.Lib Go.Proofs.Ytmlpgfjopkobbaa.Byt

theorem sl_data (t : ByteArray) : (⟨#[47]⟩ ++ t : ByteArray).data.toList = 47 :: t.data.toList := by rw [app_data]; rfl
/-- A route with another behind it. -/
theorem growB {s t : ByteArray} (h1 : isB s = true) (h2 : isB (⟨#[47]⟩ ++ t) = true) (hs : s ≠ ⟨#[47]⟩) (ht : t ≠ ⟨#[]⟩) :
    isB (s ++ ⟨#[47]⟩ ++ t) = decide ((s ++ ⟨#[47]⟩ ++ t).size ≤ 255 ∧ (spB s).length + (spB (⟨#[47]⟩ ++ t)).length ≤ 32) ∧
    preB s (s ++ ⟨#[47]⟩ ++ t) = decide ((s ++ ⟨#[47]⟩ ++ t).size ≤ 255 ∧ (spB s).length + (spB (⟨#[47]⟩ ++ t)).length ≤ 32) ∧
    preB (s ++ ⟨#[47]⟩ ++ t) s = false := by
  have r1 : rowB s = true := by rw [isB_is, Bool.and_eq_true] at h1; exact h1.1
  have r2 : rowB (⟨#[47]⟩ ++ t) = true := by rw [isB_is, Bool.and_eq_true] at h2; exact h2.1
  obtain ⟨l, hl, _⟩ := row_iff.1 r1
  have hl0 : l ≠ [] := fun e => hs (ext_data (by rw [hl, e]))
  have ht0 : t.data.toList ≠ [] := fun e => ht (ext_data (by rw [e]))
  have e1 : (spB s).length = (prt (47 :: l)).length := by unfold spB prB; rw [if_pos r1, List.length_map, hl]
  have e2 : (spB (⟨#[47]⟩ ++ t)).length = (prt (47 :: t.data.toList)).length := by unfold spB prB; rw [if_pos r2, List.length_map, sl_data]
  have e3 : (s ++ ⟨#[47]⟩ ++ t).data.toList = 47 :: l ++ 47 :: t.data.toList := by rw [app_data, app_data, hl]; simp
  have e4 : (s ++ ⟨#[47]⟩ ++ t).size = (47 :: l ++ 47 :: t.data.toList).length := by rw [← len_dt, e3]
  have i1 : isR (47 :: l) = true := by unfold isB at h1; rwa [hl] at h1
  have i2 : isR (47 :: t.data.toList) = true := by unfold isB at h2; rwa [sl_data] at h2
  obtain ⟨k1, k2, k3⟩ := grow hl0 ht0 i1 i2
  unfold isB preB
  rw [e1, e2, e4, e3, hl]
  exact ⟨k1, k2, k3⟩
set_option maxHeartbeats 8000000 in
set_option maxRecDepth 100000 in
theorem goes_any (s t : ByteArray) (w : World) (hs0 : s.size ≤ 9223372036854775807) (ht0 : t.size ≤ 9223372036854775807) :
    Calls Try.prog 5 #[.string s, .string t] w fun e w' => e = .returned (.bool true) ∧ Below w.heap.size w w' := by
  have HAW := Lib.hid awake_any
  by_cases hls : 300 < s.size
  · have g : decide ((300 : Int) < (s.size : Int)) = true := decide_eq_true (by omega)
    have gn : decide (300 < s.size) = true := decide_eq_true hls
    go_enter Try.func5, Try.ntmps5
    go_wp2_with (go_at_call 6; (with_reducible refine (HAW.out _).mono ?_); rintro e w1 ⟨rfl, hb1⟩)
    go_ret
    exact ⟨rfl, hb1⟩
  · have g : decide ((300 : Int) < (s.size : Int)) = false := decide_eq_false (by omega)
    have gn : decide (300 < s.size) = false := decide_eq_false hls
    have hs : s.size ≤ 140737488355328 := by omega
    clear hs0
    by_cases hlt : 300 < t.size
    · have g1 : decide ((300 : Int) < (t.size : Int)) = true := decide_eq_true (by omega)
      have gn1 : decide (300 < t.size) = true := decide_eq_true hlt
      go_enter Try.func5, Try.ntmps5
      go_wp2_with (go_at_call 6; (with_reducible refine (HAW.out _).mono ?_); rintro e w1 ⟨rfl, hb1⟩)
      go_ret
      exact ⟨rfl, hb1⟩
    · have g1 : decide ((300 : Int) < (t.size : Int)) = false := decide_eq_false (by omega)
      have gn1 : decide (300 < t.size) = false := decide_eq_false hlt
      have ht : t.size ≤ 140737488355328 := by omega
      clear ht0
      have HI := Lib.hid (is_at s (isB s) rfl hs)
      cases hi : isB s with
      | false =>
        rw [hi] at HI
        clear hi
        go_enter Try.func5, Try.ntmps5
        go_wp2_with (first
          | (go_at_call 10; (with_reducible refine (HI.out _).mono ?_); rintro e wx ⟨rfl, hbx⟩; have HB := Lib.hid hbx; clear hbx)
          | (go_at_call 6; (with_reducible refine (HAW.out _).mono ?_); rintro e wx ⟨rfl, hbx⟩; have HB := Lib.hid (HB.out.trans (hbx.mono HB.out.size)); clear hbx))
        go_ret
        exact ⟨rfl, HB.out⟩
      | true =>
        rw [hi] at HI
        obtain ⟨u, hu⟩ : ∃ u, (⟨#[47]⟩ ++ t : ByteArray) = u := ⟨_, rfl⟩
        have huz : u.size = 1 + t.size := by rw [← hu, ByteArray.size_append]; rfl
        have r1 := add_run _ _ _ hu (by omega)
        have HI2 := Lib.hid (is_at u (isB u) rfl (by omega))
        cases hi2 : isB u with
        | false =>
          rw [hi2] at HI2
          clear hi hi2 hu huz
          go_enter Try.func5, Try.ntmps5
          go_wp2_with (first
            | (go_at_call 10; first
              | ((with_reducible refine (HI.out _).mono ?_); rintro e wx ⟨rfl, hbx⟩; have HB := Lib.hid hbx; clear hbx HI)
              | ((with_reducible refine (HI2.out _).mono ?_); rintro e wx ⟨rfl, hbx⟩; have HB := Lib.hid (HB.out.trans (hbx.mono HB.out.size)); clear hbx))
            | (go_at_call 6; (with_reducible refine (HAW.out _).mono ?_); rintro e wx ⟨rfl, hbx⟩; have HB := Lib.hid (HB.out.trans (hbx.mono HB.out.size)); clear hbx))
          go_ret
          exact ⟨rfl, HB.out⟩
        | true =>
          rw [hi2] at HI2
          by_cases hs1 : s = ⟨#[47]⟩
          · subst hs1
            clear hi hi2 hu huz g gn hls hs
            go_enter Try.func5, Try.ntmps5
            go_wp2_with (first
              | (go_at_call 10; first
                | ((with_reducible refine (HI.out _).mono ?_); rintro e wx ⟨rfl, hbx⟩; have HB := Lib.hid hbx; clear hbx HI)
                | ((with_reducible refine (HI2.out _).mono ?_); rintro e wx ⟨rfl, hbx⟩; have HB := Lib.hid (HB.out.trans (hbx.mono HB.out.size)); clear hbx))
              | (go_at_call 6; (with_reducible refine (HAW.out _).mono ?_); rintro e wx ⟨rfl, hbx⟩; have HB := Lib.hid (HB.out.trans (hbx.mono HB.out.size)); clear hbx))
            go_ret
            exact ⟨rfl, HB.out⟩
          · have hn := Byt.str_neq hs1
            rw [Byt.toList_data ⟨#[47]⟩] at hn
            change (s.toList == [47]) = false at hn
            by_cases ht1 : t = ⟨#[]⟩
            · subst ht1
              clear hi hi2 hu huz g1 gn1 hlt ht hs1
              go_enter Try.func5, Try.ntmps5
              go_wp2_with (first
                | (go_at_call 10; first
                  | ((with_reducible refine (HI.out _).mono ?_); rintro e wx ⟨rfl, hbx⟩; have HB := Lib.hid hbx; clear hbx HI)
                  | ((with_reducible refine (HI2.out _).mono ?_); rintro e wx ⟨rfl, hbx⟩; have HB := Lib.hid (HB.out.trans (hbx.mono HB.out.size)); clear hbx))
                | (go_at_call 6; (with_reducible refine (HAW.out _).mono ?_); rintro e wx ⟨rfl, hbx⟩; have HB := Lib.hid (HB.out.trans (hbx.mono HB.out.size)); clear hbx))
              go_ret
              exact ⟨rfl, HB.out⟩
            · have hne : t.toList.isEmpty = false := Byt.str_some (by
                rcases Nat.eq_zero_or_pos t.size with q | q
                · exact absurd (Byt.str_none q) ht1
                · exact q)
              have hgr := growB hi (hu ▸ hi2) hs1 ht1
              rw [hu] at hgr
              obtain ⟨y, hy⟩ : ∃ y, s ++ ⟨#[47]⟩ = y := ⟨_, rfl⟩
              rw [hy] at hgr
              obtain ⟨z, hz⟩ : ∃ z, y ++ t = z := ⟨_, rfl⟩
              rw [hz] at hgr
              have hyz : y.size = s.size + 1 := by rw [← hy, ByteArray.size_append]; rfl
              have hzz : z.size = s.size + 1 + t.size := by rw [← hz, ByteArray.size_append, hyz]
              have r2 := add_run _ _ _ hy (by omega)
              have r3 := add_run _ _ _ hz (by omega)
              have ru : rowB u = true := by rw [isB_is, Bool.and_eq_true] at hi2; exact hi2.1
              have rs : rowB s = true := by rw [isB_is, Bool.and_eq_true] at hi; exact hi.1
              obtain ⟨L, hL⟩ : ∃ L, spB s = L := ⟨_, rfl⟩
              obtain ⟨M, hM⟩ : ∃ M, spB u = M := ⟨_, rfl⟩
              have n1 := (spB_size s).1
              have n2 := (spB_size u).1
              have HS := Lib.hid (split_at s L true hL rs hs)
              have HS2 := Lib.hid (split_at u M true hM ru (by omega))
              rw [hL] at n1 hgr
              rw [hM] at n2 hgr
              obtain ⟨R, hR⟩ : ∃ R, decide (z.size ≤ 255 ∧ L.length + M.length ≤ 32) = R := ⟨_, rfl⟩
              rw [hR] at hgr
              obtain ⟨k1, k2, k3⟩ := hgr
              have HZ := Lib.hid (is_at z R k1 (by omega))
              have HX := Lib.hid (pre_at s z R k2 hs (by omega))
              have HX2 := Lib.hid (pre_at z s false k3 (by omega) hs)
              have HZZ := Lib.hid hzz
              have f1 : decide ((z.size : Int) ≤ 255) = decide (z.size ≤ 255) := by rw [Bool.eq_iff_iff, decide_eq_true_eq, decide_eq_true_eq]; omega
              have f2 : decide ((L.length : Int) + (M.length : Int) ≤ 32) = decide (L.length + M.length ≤ 32) := by rw [Bool.eq_iff_iff, decide_eq_true_eq, decide_eq_true_eq]; omega
              have hRR : R = (decide (z.size ≤ 255) && decide (L.length + M.length ≤ 32)) := by rw [← hR, Bool.decide_and]
              generalize L.length = n at *
              generalize M.length = m at *
              generalize hb1 : decide (z.size ≤ 255) = b1 at *
              generalize decide (n + m ≤ 32) = b2 at *
              clear hi hi2 hu huz hs1 ht1 hy hz hyz hzz ru rs hL hM hR k1 k2 k3 g g1 gn gn1 hb1
              have g : decide ((300 : Int) < (s.size : Int)) = false := decide_eq_false (by omega)
              have g1 : decide ((300 : Int) < (t.size : Int)) = false := decide_eq_false (by omega)
              subst hRR
              cases b1 <;> cases b2
              all_goals
                go_enter Try.func5, Try.ntmps5
                go_wp2_with (first
                  | (go_at_call 10; first
                    | ((with_reducible refine (HI.out _).mono ?_); rintro e wx ⟨rfl, hbx⟩; have HB := Lib.hid hbx; clear hbx HI)
                    | ((with_reducible refine (HI2.out _).mono ?_); rintro e wx ⟨rfl, hbx⟩; have HB := Lib.hid (HB.out.trans (hbx.mono HB.out.size)); clear hbx HI2)
                    | ((with_reducible refine (HZ.out _).mono ?_); rintro e wx ⟨rfl, hbx⟩; have HB := Lib.hid (HB.out.trans (hbx.mono HB.out.size)); clear hbx))
                  | (go_at_call 7; first
                    | ((with_reducible refine (HS.out _).mono ?_); rintro e wx ⟨a1, c1, rfl, _, _, hbx⟩; have HB := Lib.hid (HB.out.trans (hbx.mono HB.out.size)); clear hbx HS)
                    | ((with_reducible refine (HS2.out _).mono ?_); rintro e wx ⟨a2, c2, rfl, _, _, hbx⟩; have HB := Lib.hid (HB.out.trans (hbx.mono HB.out.size)); clear hbx))
                  | (go_at_call 16; first
                    | ((with_reducible refine (HX.out _).mono ?_); rintro e wx ⟨rfl, hbx⟩; have HB := Lib.hid (HB.out.trans (hbx.mono HB.out.size)); clear hbx)
                    | ((with_reducible refine (HX2.out _).mono ?_); rintro e wx ⟨rfl, hbx⟩; have HB := Lib.hid (HB.out.trans (hbx.mono HB.out.size)); clear hbx))
                  | (go_at_call 6; (with_reducible refine (HAW.out _).mono ?_); rintro e wx ⟨rfl, hbx⟩; have HB := Lib.hid (HB.out.trans (hbx.mono HB.out.size)); clear hbx))
                go_ret
                exact ⟨rfl, HB.out⟩
end Go.Proofs.Ytmlpgfjopkobbaa.Rou
