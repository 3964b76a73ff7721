/- slices.Equal at rules of version 2; the code's Is out of its Canon. Conditions: as each theorem states. -/
import Derived.Test.YthkopnobekohcaaGreatDoorTwoG
namespace Go.Proofs.YthkopnobekohcaaGreatDoor.Two
open Go.RowKit Go.Lib

theorem sm_comm (L M : List Rw) : sm L M = sm M L := by
  rw [Bool.eq_iff_iff, sm_iff, sm_iff]
  exact ⟨Eq.symm, Eq.symm⟩
set_option maxHeartbeats 4000000 in
set_option maxRecDepth 100000 in
theorem equal_any (L M : List Rw) (v1 v2 : Value) (w : World) (h1 : Row w v1 L) (h2 : Row w v2 M) (hl : L.length ≤ 9223372036854775807) (_hm : M.length ≤ 9223372036854775807) :
    Calls Tryz.prog 29 #[v1, v2] w fun e w' => e = .returned (.bool (sm L M)) ∧ Below w.heap.size w w' := by
  obtain ⟨a1, cap1, rfl, _, c1⟩ := h1.open_
  obtain ⟨a2, cap2, rfl, _, c2⟩ := h2.open_
  have C1 := Lib.hid c1
  have C2 := Lib.hid c2
  clear c1 c2 h1 h2
  by_cases hlen : L.length = M.length
  · have HY := Lib.hid (@sm_yes L M hlen)
    have HNO := Lib.hid fun i => @sm_no_at L M i
    have hM : M.length = L.length := hlen.symm
    have C2' := Lib.hid fun j (hj : j < L.length) => C2.out j (hM ▸ hj)
    rw [hM]
    clear C2 hlen hM
    go_enter Tryz.func29, Tryz.ntmps29
    go_wp2_with fail
    go_loopw [13] (fun i wr => ∃ k : Nat, i = .int .i64 (k : Int) ∧ k ≤ L.length ∧ Hid (Below w.heap.size w wr) ∧ Hid (∀ j, j < k → ga L j = ga M j)) (fun i _ => L.length - (RowKit.intOf i).toNat)
    case atStart => exact ⟨0, rfl, Nat.zero_le _, Lib.hid (Below.refl _ _), Lib.hid fun j hj => absurd hj (Nat.not_lt_zero _)⟩
    case round =>
      obtain ⟨k, rfl, hk, HB, HA⟩ := hrel
      by_cases hlt : k < L.length
      · obtain ⟨b1, o1, rfl, x1⟩ := C1.out k hlt
        obtain ⟨b2, o2, rfl, x2⟩ := C2'.out k hlt
        have y1 := range_cells (fun j v hj => (HB.out.cell (lt_of_cell (x1 j v hj))).trans (x1 j v hj))
        have y2 := range_cells (fun j v hj => (HB.out.cell (lt_of_cell (x2 j v hj))).trans (x2 j v hj))
        rw [show ∀ (N : List Rw) i, rga N i = ga N i from fun _ _ => rfl] at y1 y2
        clear x1 x2
        have HQ := run_neq (ga L k) (ga M k)
        have HNK := Lib.hid (HNO.out k)
        have HX := Lib.hid fun (h : ga L k = ga M k) j (hj : j < k + 1) => by
          by_cases q : j < k
          · exact HA.out j q
          · obtain rfl : j = k := by omega
            exact h
        have HE := Lib.hid (rE_iff (ga L k) (ga M k))
        generalize ga L k = x at *
        generalize ga M k = y at *
        obtain ⟨p0, p1, p2, p3, p4, p5, p6, p7, p8⟩ := y1
        obtain ⟨q0, q1, q2, q3, q4, q5, q6, q7, q8⟩ := y2
        have HN : ∀ (_ : rE x y = false), ¬ x = y := fun h e => by rw [HE.out.2 e] at h; cases h
        have HN := Lib.hid HN
        cases hb : rE x y with
        | true =>
          have HX2 := Lib.hid (HX.out (HE.out.1 hb))
          rw [hb] at HQ
          clear hb HE HN HX HNK
          go_wp2_with fail
          go_region
          go_wp2_with fail
          go_roundw
          case rel => exact ⟨k + 1, by go_num, by omega, Lib.hid HB.out.drew, HX2⟩
          case measure => simp [RowKit.intOf]; omega
        | false =>
          have HZ := Lib.hid (HNK.out (HN.out hb))
          rw [hb] at HQ
          clear hb HE HN HX HNK
          go_wp2_with fail
          go_region
          go_wp2_with fail
          go_ret
          rw [HZ.out]
          exact ⟨rfl, HB.out.drew⟩
      · obtain rfl : k = L.length := by omega
        have HZ := Lib.hid (HY.out HA.out)
        go_wp2_with fail
        go_ret
        rw [HZ.out]
        exact ⟨rfl, HB.out⟩
  · rw [same_len hlen]
    have b1 : ((L.length : Int) != (M.length : Int)) = true := by rw [bne_iff_ne]; omega
    go_enter Tryz.func29, Tryz.ntmps29
    go_wp2_with fail
    go_ret
    exact ⟨rfl, Below.refl _ _⟩
set_option maxHeartbeats 8000000 in
set_option maxRecDepth 100000 in
theorem is_of (HCN : CnP) : IsP := by
  intro L v w hr h5 hm hE
  have HCH := Lib.hid (HCN L v w hr h5 hm hE)
  have HR := Lib.hid hr
  by_cases hz : (sck L).2 = 0
  · have hrs := (sck_zero L).1 hz
    rw [isC_ok hrs, sm_comm]
    rw [sck_ok hrs] at HCH
    have hln := hrs.len
    have hl2 := scn_len hrs
    have HS := Lib.hid fun W u (h : Row W u (scn L)) (k : Row W v L) => equal_any L (scn L) v u W k h (by omega) (by omega)
    clear hr hm hE hz hrs hl2 HCN
    generalize sm L (scn L) = R at *
    generalize scn L = C at *
    go_enter Tryz.func12, Tryz.ntmps12
    go_wp2_with (first
      | (go_at_call 9; (with_reducible refine HCH.out.mono ?_); rintro e w1 ⟨u, rfl, hu, hb1⟩; have R1 := Lib.hid (HR.out.next hb1); have U1 := Lib.hid hu; have B1 := Lib.hid hb1; clear hb1 hu)
      | (go_at_call 29; (with_reducible refine (HS.out _ _ U1.out R1.out).mono ?_); rintro e w2 ⟨rfl, hb2⟩; have B2 := Lib.hid (B1.out.trans (hb2.mono B1.out.size)); clear hb2))
    go_ret
    exact ⟨rfl, B2.out⟩
  · rw [isC_no hz]
    have b1 : ((sck L).2 == 0) = false := by simpa using hz
    clear hr hm hE hz HCN
    generalize scn L = C at *
    generalize sck L = x at *
    obtain ⟨p, E⟩ := x
    dsimp only at *
    go_enter Tryz.func12, Tryz.ntmps12
    go_wp2_with (first
      | (go_at_call 9; (with_reducible refine HCH.out.mono ?_); rintro e w1 ⟨u, rfl, hu, hb1⟩; have B1 := Lib.hid hb1; clear hb1 hu))
    go_ret
    exact ⟨rfl, B1.out⟩
end Go.Proofs.YthkopnobekohcaaGreatDoor.Two
