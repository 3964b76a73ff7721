/- The law TreeSorts. Conditions: as each theorem states. -/
import Derived.Test.YtafelidejkppkaaDoorTreX
namespace Go.Proofs.YtafelidejkppkaaDoor.Tre
open Go.RowKit Go.Lib Go.Proofs.YtafelidejkppkaaDoor.Byt Go.Proofs.YtafelidejkppkaaDoor.Utf

theorem al_srt (v : Vt) : alB v (srt v) = wi v 64 := by
  unfold alB
  rw [wi_srt, srt_srt, sm_self, Bool.and_true, Bool.and_self]
def SB (w : World) (v u : Vt) (G : Nat) (cs es : List Value) (W : World) : Prop := Box W w.heap.size cs.toArray ∧ Box W G es.toArray ∧ InV W v cs ∧ InV W u es ∧ Below w.heap.size w W ∧ Tabs W
section
variable {w W W' : World} {v u : Vt} {G : Nat} {cs es : List Value}
theorem SB.next (h : SB w v u G cs es W) (hb : Below W.heap.size W W') : SB w v u G cs es W' := by
  obtain ⟨h1, h2, h3, h4, h5, h6⟩ := h
  exact ⟨h1.next hb h1.lt, h2.next hb h2.lt, InV_next hb _ _ h3, InV_next hb _ _ h4, Tre.next h5 hb, h6.next hb⟩
theorem SB.drew (h : SB w v u G cs es W) : SB w v u G cs es W.drew := h.next (Below.refl _ _).drew
end
attribute [irreducible] SB
theorem sb_in {w W : World} {v u : Vt} {G : Nat} {cs es : List Value} (h : SB w v u G cs es W) : InV W v cs := by unfold SB at h; exact h.2.2.1
theorem sb_iu {w W : World} {v u : Vt} {G : Nat} {cs es : List Value} (h : SB w v u G cs es W) : InV W u es := by unfold SB at h; exact h.2.2.2.1
theorem sb_b1 {w W : World} {v u : Vt} {G : Nat} {cs es : List Value} (h : SB w v u G cs es W) : Box W w.heap.size cs.toArray := by unfold SB at h; exact h.1
theorem sb_b2 {w W : World} {v u : Vt} {G : Nat} {cs es : List Value} (h : SB w v u G cs es W) : Box W G es.toArray := by unfold SB at h; exact h.2.1
theorem sb_bel {w W : World} {v u : Vt} {G : Nat} {cs es : List Value} (h : SB w v u G cs es W) : Below w.heap.size w W := by unfold SB at h; exact h.2.2.2.2.1
theorem sb_tab {w W : World} {v u : Vt} {G : Nat} {cs es : List Value} (h : SB w v u G cs es W) : Tabs W := by unfold SB at h; exact h.2.2.2.2.2
theorem sb_mk {w W : World} {v u : Vt} {G : Nat} {cs es : List Value} (h1 : Box W w.heap.size cs.toArray) (h2 : Box W G es.toArray) (h3 : InV W v cs) (h4 : InV W u es) (h5 : Below w.heap.size w W) (h6 : Tabs W) : SB w v u G cs es W := by
  unfold SB; exact ⟨h1, h2, h3, h4, h5, h6⟩
/-- What the walk asks of the two values in their variables. -/
theorem sb_cells {w : World} {v u : Vt} {G : Nat} {c0 c1 c2 c3 c4 e0 e1 e2 e3 e4 : Value} :
    (∀ W, SB w v u G [c0, c1, c2, c3, c4] [e0, e1, e2, e3, e4] W → W.cell? ⟨w.heap.size, 0, none⟩ = some c0) ∧ (∀ W, SB w v u G [c0, c1, c2, c3, c4] [e0, e1, e2, e3, e4] W → W.cell? ⟨w.heap.size, 1, none⟩ = some c1) ∧
    (∀ W, SB w v u G [c0, c1, c2, c3, c4] [e0, e1, e2, e3, e4] W → W.cell? ⟨w.heap.size, 2, none⟩ = some c2) ∧ (∀ W, SB w v u G [c0, c1, c2, c3, c4] [e0, e1, e2, e3, e4] W → W.cell? ⟨w.heap.size, 3, none⟩ = some c3) ∧
    (∀ W, SB w v u G [c0, c1, c2, c3, c4] [e0, e1, e2, e3, e4] W → W.cell? ⟨w.heap.size, 4, none⟩ = some c4) ∧ (∀ W, SB w v u G [c0, c1, c2, c3, c4] [e0, e1, e2, e3, e4] W → W.cell? ⟨G, 0, none⟩ = some e0) ∧
    (∀ W, SB w v u G [c0, c1, c2, c3, c4] [e0, e1, e2, e3, e4] W → W.cell? ⟨G, 1, none⟩ = some e1) ∧ (∀ W, SB w v u G [c0, c1, c2, c3, c4] [e0, e1, e2, e3, e4] W → W.cell? ⟨G, 2, none⟩ = some e2) ∧
    (∀ W, SB w v u G [c0, c1, c2, c3, c4] [e0, e1, e2, e3, e4] W → W.cell? ⟨G, 3, none⟩ = some e3) ∧ (∀ W, SB w v u G [c0, c1, c2, c3, c4] [e0, e1, e2, e3, e4] W → W.cell? ⟨G, 4, none⟩ = some e4) :=
  ⟨fun _ h => (sb_b1 h).cell 0, fun _ h => (sb_b1 h).cell 1, fun _ h => (sb_b1 h).cell 2, fun _ h => (sb_b1 h).cell 3, fun _ h => (sb_b1 h).cell 4, fun _ h => (sb_b2 h).cell 0, fun _ h => (sb_b2 h).cell 1, fun _ h => (sb_b2 h).cell 2, fun _ h => (sb_b2 h).cell 3, fun _ h => (sb_b2 h).cell 4⟩

set_option maxHeartbeats 8000000 in
set_option maxRecDepth 100000 in
theorem sorts_any (v : Vt) (hv : OkT v) (cs : List Value) (w : World) (h : InV w v cs) (hT : Tabs w) :
    Calls Tryd.prog 4 #[.agg cs.toArray] w fun e w' => e = .returned (.bool true) ∧ Below w.heap.size w w' := by
  have HAW := Lib.hid awake_any
  have HRC := Lib.hid fun (W : World) (hb : Below w.heap.size w W) => rcount v hv cs W (InV_next hb v cs h)
  have HSO := Lib.hid fun (W : World) (hb : Below w.heap.size w W) => psort v hv cs W (InV_next hb v cs h)
  have hu := OkT_srt v hv
  have HS2 := Lib.hid (psort (srt v) hu)
  rw [srt_srt] at HS2
  have HSM := Lib.hid (psame (srt v) hu (srt v) hu)
  rw [sm_self] at HSM
  have HC1 := Lib.hid (pcount v hv)
  have HC2 := Lib.hid (pcount (srt v) hu)
  rw [cnt_srt] at HC2
  have HD1 := Lib.hid (pdepth v hv)
  have HD2 := Lib.hid (pdepth (srt v) hu)
  rw [dpw_srt] at HD2
  have HR1 := Lib.hid (pright v hv)
  have HR2 := Lib.hid (pright (srt v) hu)
  rw [wi_srt] at HR2
  have HAL := Lib.hid (palike v (srt v) hv hu)
  rw [al_srt] at HAL
  have HRISE := Lib.hid (names_rise (v := v) (m := 64))
  have HT := Lib.hid hT
  have HIN := Lib.hid h
  have HUL := Lib.hid ((OkT_iff _).1 hu).1.2.2.2.2.1
  have B0 := Lib.hid fun o : Obj => (Below.refl w.heap.size w).alloc (Nat.le_refl _) o
  obtain ⟨a, cap, c4, rfl, _, hr⟩ := (InV_iff w v cs).1 h
  obtain ⟨x4, y4, rfl, _⟩ := hr.open_
  clear hr h hv hu hT
  generalize srt v = u at *
  generalize wi v 64 = R at *
  generalize dpw v = D at *
  generalize wr64 (cnt v : Int) = N at *
  generalize v.l.length = l at *
  generalize v.ns.length = nl at *
  generalize v.k = k at *
  generalize v.n = n at *
  generalize v.s = s at *
  by_cases hN : 300 < N
  · have hN1 : decide (300 < N) = true := decide_eq_true hN
    clear hN HSO HS2 HSM HC1 HC2 HD1 HD2 HR1 HR2 HAL HRISE HIN HUL
    go_enter Tryd.func4, Tryd.ntmps4
    go_wp2_with (first
      | (refine wpList_fetch _ rfl _ rfl w.heap.size _ rfl (box_new _ _) rfl ?_)
      | (go_at_call 6; (with_reducible refine (HRC.out _ (B0.out _)).mono ?_); rintro e w1 ⟨rfl, hb1⟩; have hw1 := (box_after hb1).2)
      | (go_at_call 7; (with_reducible refine (HAW.out _ (HT.out.next hw1)).mono ?_); rintro e w2 ⟨rfl, hb2⟩))
    go_ret
    exact ⟨rfl, next hw1 hb2⟩
  · have hN1 : decide (300 < N) = false := decide_eq_false hN
    clear hN
    go_enter Tryd.func4, Tryd.ntmps4
    go_wp2_with (first
      | (refine wpList_fetch _ rfl _ rfl w.heap.size _ rfl (box_new _ _) rfl ?_)
      | (go_at_call 6; (with_reducible refine (HRC.out _ (B0.out _)).mono ?_); rintro e w1 ⟨rfl, hb1⟩; have hw1 := (box_after hb1).2; have bx1 : Box w1 w.heap.size #[.int .i64 k, .int .i64 n, .string s, .slice a l cap, .slice x4 nl y4] := (box_after hb1).1)
      | (refine wpList_fetch _ rfl _ rfl w.heap.size _ rfl bx1 rfl ?_)
      | (go_at_call 19; (with_reducible refine (HSO.out _ hw1).mono ?_); rintro e w2 ⟨es, rfl, hS2, hb2⟩; have bx2 := Box.next bx1 hb2 (Box.lt bx1); have hw2 := next hw1 hb2; have hi2 := InS_in _ _ hS2; obtain ⟨a6, p6, c6, he, _, hr6⟩ := (InV_iff w2 u es).1 hi2; obtain ⟨a7, p7, hc6, _⟩ := hr6.open_; subst hc6; subst he; clear hr6)
      | (refine wpList_keep _ rfl _ _ rfl w2.heap.size w2 ((Below.refl _ w2).alloc (Nat.le_refl _) _) w2.heap.size (Nat.le_refl _) _ _ rfl rfl (box_new _ _) rfl rfl (InS_one hi2) ?_; intro w3 bx3 hb3 _ hs3; clear hs3))
    have bx2b := Box.next bx2 hb3 (Box.lt bx2)
    have sb3 := sb_mk bx2b bx3 (InV_next (next hw2 hb3) _ _ HIN.out) (InV_next hb3 _ _ hi2) (next hw2 hb3) (HT.out.next (next hw2 hb3))
    clear bx1 bx2 bx2b bx3 hb1 hb2 hb3 hw1 hw2 hS2 hi2
    obtain ⟨q0, q1, q2, q3, q4, r0, r1, r2, r3, r4⟩ := sb_cells (w := w) (v := v) (u := u) (G := w2.heap.size) (c0 := .int .i64 k) (c1 := .int .i64 n) (c2 := .string s) (c3 := .slice a l cap) (c4 := .slice x4 nl y4) (e0 := .int .i64 u.k) (e1 := .int .i64 u.n) (e2 := .string u.s) (e3 := .slice a6 u.l.length p6) (e4 := .slice a7 u.ns.length p7)
    have sd3 := SB.drew sb3
    cases R
    · go_region_held3 (SB w v u w2.heap.size [.int .i64 k, .int .i64 n, .string s, .slice a l cap, .slice x4 nl y4] [.int .i64 u.k, .int .i64 u.n, .string u.s, .slice a6 u.l.length p6, .slice a7 u.ns.length p7]) (first | exact sd3 | assumption)
        ((first
          | (go_at_call 19; (with_reducible refine (HS2.out _ _ (sb_iu (by assumption))).mono ?_); rintro e wx ⟨d2, rfl, hSx, hbx⟩; have hix := InS_in _ _ hSx; have sbx := SB.next (by assumption) hbx)
          | (go_at_call 15; (with_reducible refine (HSM.out _ _ _ hix (sb_iu (by assumption))).mono ?_); rintro e wx ⟨rfl, hbx⟩; have sbx := SB.next (by assumption) hbx)
          | (go_at_call 14; (with_reducible refine (HC2.out _ _ (sb_iu (by assumption))).mono ?_); rintro e wx ⟨rfl, hbx⟩; have sbx := SB.next (by assumption) hbx)
          | (go_at_call 14; (with_reducible refine (HC1.out _ _ (sb_in (by assumption))).mono ?_); rintro e wx ⟨rfl, hbx⟩; have sbx := SB.next (by assumption) hbx)
          | (go_at_call 12; (with_reducible refine (HD2.out _ _ (sb_iu (by assumption))).mono ?_); rintro e wx ⟨rfl, hbx⟩; have sbx := SB.next (by assumption) hbx)
          | (go_at_call 12; (with_reducible refine (HD1.out _ _ (sb_in (by assumption))).mono ?_); rintro e wx ⟨rfl, hbx⟩; have sbx := SB.next (by assumption) hbx)
          | (go_at_call 10; (with_reducible refine (HR2.out _ _ (sb_iu (by assumption)) (sb_tab (by assumption))).mono ?_); rintro e wx ⟨rfl, hbx⟩; have sbx := SB.next (by assumption) hbx)
          | (go_at_call 10; (with_reducible refine (HR1.out _ _ (sb_in (by assumption)) (sb_tab (by assumption))).mono ?_); rintro e wx ⟨rfl, hbx⟩; have sbx := SB.next (by assumption) hbx)
          | (go_at_call 17; (with_reducible refine (HAL.out _ _ _ (sb_in (by assumption)) (sb_iu (by assumption)) (sb_tab (by assumption))).mono ?_); rintro e wx ⟨rfl, hbx⟩; have sbx := SB.next (by assumption) hbx)))
      all_goals
        have sby := sbx
        by_cases h1 : 1 < u.ns.length
        · have g1 : ((1 : Int) < (u.ns.length : Int)) := by omega
          go_wp2_with fail
          refine wp_loop_rounds 1 ?_
          rw [rounds_succ]
          go_wp2_with (first
            | (refine wpList_fetch_g _ (by rfl) _ rfl w.heap.size _ rfl (sb_b1 sby) rfl ?_)
            | (go_at_call 10; (with_reducible refine (HR1.out _ _ (sb_in sby) (sb_tab sby)).mono ?_); rintro e wy ⟨rfl, hby⟩; have sbz := SB.next sby hby)
            | (go_at_call 7; (with_reducible refine (HAW.out _ (sb_tab sbz)).mono ?_); rintro e wz ⟨rfl, hbz⟩))
          go_ret
          exact ⟨rfl, next (sb_bel sbz) hbz⟩
        · have g1 : ¬ ((1 : Int) < (u.ns.length : Int)) := by omega
          go_wp2_with fail
          refine wp_loop_rounds 1 ?_
          rw [rounds_succ]
          go_wp2_with (go_at_call 7; (with_reducible refine (HAW.out _ (sb_tab sby)).mono ?_); rintro e wz ⟨rfl, hbz⟩)
          go_ret
          exact ⟨rfl, next (sb_bel sby) hbz⟩
    · go_region_held3 (SB w v u w2.heap.size [.int .i64 k, .int .i64 n, .string s, .slice a l cap, .slice x4 nl y4] [.int .i64 u.k, .int .i64 u.n, .string u.s, .slice a6 u.l.length p6, .slice a7 u.ns.length p7]) (first | exact sd3 | assumption)
        ((first
          | (go_at_call 19; (with_reducible refine (HS2.out _ _ (sb_iu (by assumption))).mono ?_); rintro e wx ⟨d2, rfl, hSx, hbx⟩; have hix := InS_in _ _ hSx; have sbx := SB.next (by assumption) hbx)
          | (go_at_call 15; (with_reducible refine (HSM.out _ _ _ hix (sb_iu (by assumption))).mono ?_); rintro e wx ⟨rfl, hbx⟩; have sbx := SB.next (by assumption) hbx)
          | (go_at_call 14; (with_reducible refine (HC2.out _ _ (sb_iu (by assumption))).mono ?_); rintro e wx ⟨rfl, hbx⟩; have sbx := SB.next (by assumption) hbx)
          | (go_at_call 14; (with_reducible refine (HC1.out _ _ (sb_in (by assumption))).mono ?_); rintro e wx ⟨rfl, hbx⟩; have sbx := SB.next (by assumption) hbx)
          | (go_at_call 12; (with_reducible refine (HD2.out _ _ (sb_iu (by assumption))).mono ?_); rintro e wx ⟨rfl, hbx⟩; have sbx := SB.next (by assumption) hbx)
          | (go_at_call 12; (with_reducible refine (HD1.out _ _ (sb_in (by assumption))).mono ?_); rintro e wx ⟨rfl, hbx⟩; have sbx := SB.next (by assumption) hbx)
          | (go_at_call 10; (with_reducible refine (HR2.out _ _ (sb_iu (by assumption)) (sb_tab (by assumption))).mono ?_); rintro e wx ⟨rfl, hbx⟩; have sbx := SB.next (by assumption) hbx)
          | (go_at_call 10; (with_reducible refine (HR1.out _ _ (sb_in (by assumption)) (sb_tab (by assumption))).mono ?_); rintro e wx ⟨rfl, hbx⟩; have sbx := SB.next (by assumption) hbx)
          | (go_at_call 17; (with_reducible refine (HAL.out _ _ _ (sb_in (by assumption)) (sb_iu (by assumption)) (sb_tab (by assumption))).mono ?_); rintro e wx ⟨rfl, hbx⟩; have sbx := SB.next (by assumption) hbx)))
      all_goals
        have sby := sbx
        have hun : u.ns.length ≤ 9223372036854775807 := by have := HUL.out; omega
        go_wp2_with fail
        go_loopw [4] (fun x wr => ∃ j : Nat, x = .int .i64 ((j : Int) + 1) ∧ (j = 0 ∨ j < u.ns.length) ∧ SB w v u w2.heap.size [.int .i64 k, .int .i64 n, .string s, .slice a l cap, .slice x4 nl y4] [.int .i64 u.k, .int .i64 u.n, .string u.s, .slice a6 u.l.length p6, .slice a7 u.ns.length p7] wr)
          (fun x _ => u.ns.length + 1 - (RowKit.intOf x).toNat)
        case atStart => exact ⟨0, rfl, Or.inl rfl, sby⟩
        case round =>
          clear sby sbx sb3 sd3
          obtain ⟨j, rfl, hj, sbw⟩ := hrel
          have f4 : wr.cell? ⟨w2.heap.size, 4, none⟩ = some (.slice a7 u.ns.length p7) := (sb_b2 sbw).cell 4
          by_cases hlt : j + 1 < u.ns.length
          · obtain ⟨z1, z2, z3, z4, z5, hrow⟩ := (InV_iff _ _ _).1 (sb_iu sbw)
            injection z4 with _ z4
            injection z4 with _ z4
            injection z4 with _ z4
            injection z4 with _ z4
            injection z4 with z4 _
            subst z4
            obtain ⟨aa, pp, ee, hcell⟩ := hrow.open_
            injection ee with ee1 ee2 ee3
            subst ee1
            clear ee2
            subst ee3
            obtain ⟨b, off, rfl, cl1⟩ := hcell (j + 1) hlt
            obtain ⟨b', off', eb, cl0⟩ := hcell j (by omega)
            injection eb with eb
            injection eb with eb1 eb2
            subst eb1 eb2
            have hrise := List.pairwise_iff_getElem.1 (HRISE.out (by first | rfl | trivial)) j (j + 1) (by omega) hlt (by omega)
            have eA : u.ns.getD (j + 1) ⟨#[]⟩ = u.ns[j + 1] := by rw [List.getD_eq_getElem?_getD, List.getElem?_eq_getElem hlt]; rfl
            have eB : u.ns.getD j ⟨#[]⟩ = u.ns[j] := by rw [List.getD_eq_getElem?_getD, List.getElem?_eq_getElem (by omega)]; rfl
            rw [← eA, ← eB] at hrise
            generalize u.ns.getD (j + 1) ⟨#[]⟩ = A at *
            generalize u.ns.getD j ⟨#[]⟩ = B at *
            have l1 : Op.bytesLess A.toList B.toList = false := by
              rw [less_is]
              cases hq : ltB A B with
              | false => rfl
              | true => have := lt_trans hrise hq; rw [lt_irrefl] at this; cases this
            have l2 : (A.toList == B.toList) = false := Byt.str_neq (fun q => by rw [q, lt_irrefl] at hrise; cases hrise)
            clear hrise hcell hrow eA eB
            have g1 : ((j : Int) + 1 < (u.ns.length : Int)) := by omega
            go_wp2_with (first
              | (refine wpList_fetch_g _ (by rfl) _ rfl w.heap.size _ rfl (sb_b1 sbw) rfl ?_)
              | (go_at_call 10; (with_reducible refine (HR1.out _ _ (sb_in sbw) (sb_tab sbw)).mono ?_); rintro e wy ⟨rfl, hby⟩; have sbz := SB.next sbw hby; have y4 : wy.cell? ⟨w2.heap.size, 4, none⟩ = some (.slice (some ⟨b, off, none⟩) u.ns.length p7) := (sb_b2 sbz).cell 4; have y5 := (hby.cell (Strs.cell_lt cl1)).trans cl1; have y6 := (hby.cell (Strs.cell_lt cl0)).trans cl0))
            go_region
            all_goals
              go_wp2_with fail
              go_roundw
              case rel => exact ⟨j + 1, by go_num, .inr hlt, SB.drew sbz⟩
              case measure => simp [RowKit.intOf]; omega
          · have g1 : ¬ ((j : Int) + 1 < (u.ns.length : Int)) := by omega
            go_wp2_with (go_at_call 7; (with_reducible refine (HAW.out _ (sb_tab sbw)).mono ?_); rintro e wz ⟨rfl, hbz⟩)
            go_ret
            exact ⟨rfl, next (sb_bel sbw) hbz⟩
end Go.Proofs.YtafelidejkppkaaDoor.Tre
