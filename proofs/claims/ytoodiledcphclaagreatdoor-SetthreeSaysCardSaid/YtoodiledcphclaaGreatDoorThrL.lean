/- slices.IndexFunc, slices.Equal at rules. Conditions: as each theorem states. -/
import Derived.Test.YtoodiledcphclaaGreatDoorThrP1
namespace Go.Proofs.YtoodiledcphclaaGreatDoor.Thr
open Go.RowKit Go.Lib
open Go.Proofs.YtoodiledcphclaaGreatDoor.Rul (Ru zero Row Own ruC ruL rga)

/-! ### Find -/
theorem has_any (s : ByteArray) (r : Ru) (B : Nat) (W : World) (hc : W.cell? ⟨B, 0, none⟩ = some (.string s)) :
    Calls Tryz.prog 25 #[.agg (ruC r), .pointer (some ⟨B, 0, none⟩)] W fun e w' => e = .returned (.bool (r.id.toList == s.toList)) ∧ Below W.heap.size W w' := by
  obtain ⟨id, no, ro, pr, ki, ra, pe, bu, co, mx, fa, wa, pb⟩ := r
  have hlt := Rul.lt_of_cell hc
  have hne : B ≠ W.heap.size := by simp at hlt; omega
  dsimp only [ruC] at *
  have hb := (Below.refl W.heap.size W).alloc (Nat.le_refl _) (.cells #[.string id, .string no, .string ro, .int .i64 pr, .int .i64 ki, .int .i64 ra, .int .i64 pe, .int .i64 bu, .int .i64 co, .int .i64 mx, .int .i64 fa, .int .i64 wa, .int .i64 pb] 35)
  have hc2 := (hb.cell hlt).trans hc
  go_enter Tryz.func25, Tryz.ntmps25
  go_wp2_with fail
  go_ret
  exact ⟨rfl, hb⟩
theorem index_any (L : List Ru) (a : Option Addr) (cap : Nat) (s : ByteArray) (g : Nat) (w : World) (hc : ∀ j, j < L.length → ∃ b off, a = some ⟨b, off, none⟩ ∧ w.rangeAt b (off + j * 13) (ruL (rga L j))) (hl : L.length ≤ 9223372036854775807) (hg : w.cell? ⟨g, 0, none⟩ = some (.string s)) :
    Calls Tryz.prog 24 #[.slice a L.length cap, .func (.func 25) #[] #[.pointer (some ⟨g, 0, none⟩)]] w fun e w' => e = .returned (.int .i64 (fd L s)) ∧ Below w.heap.size w w' := by
  have HC := Lib.hid hc
  have HG := Lib.hid hg
  have HY := Lib.hid fun k => @find_at L s k
  have HN := Lib.hid (@find_none L s)
  clear hc hg
  go_enter Tryz.func24, Tryz.ntmps24
  go_wp2_with fail
  go_loopw [8] (fun i wr => ∃ k : Nat, i = .int .i64 (k : Int) ∧ k ≤ L.length ∧ Hid (Below w.heap.size w wr) ∧ Hid (∀ j, j < k → (ga L j).id ≠ s)) (fun i _ => L.length - (RowKit.intOf i).toNat)
  case atStart => exact ⟨0, rfl, Nat.zero_le _, Lib.hid (Below.refl _ _), Lib.hid fun j hj => absurd hj (Nat.not_lt_zero _)⟩
  case round =>
    obtain ⟨k, rfl, hk, HB, HA⟩ := hrel
    by_cases hlt : k < L.length
    · obtain ⟨b, off, rfl, hcl⟩ := HC.out k hlt
      have HCM := Lib.hid (Rul.rangeAt_next hcl HB.out)
      clear hcl
      rw [rga_ga] at HCM
      have HH := Lib.hid (has_any s (ga L k) g wr ((HB.out.cell (Rul.lt_of_cell HG.out)).trans HG.out))
      have HX := Lib.hid fun (h : (ga L k).id ≠ s) j (hj : j < k + 1) => by
        by_cases q : j < k
        · exact HA.out j q
        · obtain rfl : j = k := by omega
          exact h
      have HY2 := Lib.hid fun (h : (ga L k).id = s) => HY.out k hlt h HA.out
      generalize ga L k = X at *
      by_cases hz : X.id = s
      · have E := Lib.hid (HY2.out hz)
        have hq : (X.id.toList == s.toList) = true := by rw [hz]; exact beq_self_eq_true _
        rw [hq] at HH
        go_wp2_with (first
          | (refine Rul.wpList_take _ rfl _ rfl b (off + k * 13) X rfl HCM.out ?_)
          | (go_at_call 25; (with_reducible refine HH.out.mono ?_); rintro e w1 ⟨rfl, hb1⟩; have B1 := Lib.hid (HB.out.trans (hb1.mono HB.out.size)); clear hb1))
        go_ret
        rw [E.out.1]
        exact ⟨rfl, B1.out⟩
      · have HX2 := Lib.hid (HX.out hz)
        have hq : (X.id.toList == s.toList) = false := Rul.str_ne hz
        rw [hq] at HH
        clear HX hz
        go_wp2_with (first
          | (refine Rul.wpList_take _ rfl _ rfl b (off + k * 13) X rfl HCM.out ?_)
          | (go_at_call 25; (with_reducible refine HH.out.mono ?_); rintro e w1 ⟨rfl, hb1⟩; have B1 := Lib.hid (HB.out.trans (hb1.mono HB.out.size)); clear hb1))
        go_roundw
        case rel => exact ⟨k + 1, by go_num, by omega, B1, HX2⟩
        case measure => simp [RowKit.intOf]; omega
    · obtain rfl : k = L.length := by omega
      have E := Lib.hid (HN.out HA.out)
      go_wp2_with fail
      go_ret
      rw [E.out.1]
      exact ⟨rfl, HB.out⟩
/-! ### Same -/
set_option maxHeartbeats 8000000 in
set_option maxRecDepth 100000 in
theorem equal_any (L M : List Ru) (v1 v2 : Value) (w : World) (h1 : Row w v1 L) (h2 : Row w v2 M) (hl : L.length ≤ 9223372036854775807) (_hm : M.length ≤ 9223372036854775807) :
    Calls Tryz.prog 39 #[v1, v2] w fun e w' => e = .returned (.bool (sm L M)) ∧ Below w.heap.size w w' := by
  obtain ⟨a1, cap1, rfl, _, c1⟩ := h1.open_
  obtain ⟨a2, cap2, rfl, _, c2⟩ := h2.open_
  have C1 := Lib.hid c1
  have C2 := Lib.hid c2
  clear c1 c2 h1 h2
  by_cases hlen : L.length = M.length
  · have HY := Lib.hid (@sm_yes L M hlen)
    have HNO := Lib.hid fun i => @sm_no_at L M i
    have hM : M.length = L.length := hlen.symm
    have C2' := Lib.hid fun j (hj : j < L.length) => C2.out j (hM ▸ hj)
    rw [hM]
    clear C2 hlen hM
    go_enter Tryz.func39, Tryz.ntmps39
    go_wp2_with fail
    go_loopw [13] (fun i wr => ∃ k : Nat, i = .int .i64 (k : Int) ∧ k ≤ L.length ∧ Hid (Below w.heap.size w wr) ∧ Hid (∀ j, j < k → ga L j = ga M j)) (fun i _ => L.length - (RowKit.intOf i).toNat)
    case atStart => exact ⟨0, rfl, Nat.zero_le _, Lib.hid (Below.refl _ _), Lib.hid fun j hj => absurd hj (Nat.not_lt_zero _)⟩
    case round =>
      obtain ⟨k, rfl, hk, HB, HA⟩ := hrel
      by_cases hlt : k < L.length
      · obtain ⟨b1, o1, rfl, x1⟩ := C1.out k hlt
        obtain ⟨b2, o2, rfl, x2⟩ := C2'.out k hlt
        have y1 := Rul.range_cells (fun j v hj => (HB.out.cell (Rul.lt_of_cell (x1 j v hj))).trans (x1 j v hj))
        have y2 := Rul.range_cells (fun j v hj => (HB.out.cell (Rul.lt_of_cell (x2 j v hj))).trans (x2 j v hj))
        rw [rga_ga] at y1 y2
        clear x1 x2
        have HQ := run_neq (ga L k) (ga M k)
        have HNK := Lib.hid (HNO.out k)
        have HX := Lib.hid fun (h : ga L k = ga M k) j (hj : j < k + 1) => by
          by_cases q : j < k
          · exact HA.out j q
          · obtain rfl : j = k := by omega
            exact h
        have HE := Lib.hid (rE_iff (ga L k) (ga M k))
        generalize ga L k = x at *
        generalize ga M k = y at *
        obtain ⟨p0, p1, p2, p3, p4, p5, p6, p7, p8, p9, p10, p11, p12⟩ := y1
        obtain ⟨q0, q1, q2, q3, q4, q5, q6, q7, q8, q9, q10, q11, q12⟩ := y2
        have HN : ∀ (_ : rE x y = false), ¬ x = y := fun h e => by rw [HE.out.2 e] at h; cases h
        have HN := Lib.hid HN
        cases hb : rE x y with
        | true =>
          have HX2 := Lib.hid (HX.out (HE.out.1 hb))
          rw [hb] at HQ
          clear hb HE HN HX HNK
          go_wp2_with fail
          go_region
          go_wp2_with fail
          go_roundw
          case rel => exact ⟨k + 1, by go_num, by omega, Lib.hid HB.out.drew, HX2⟩
          case measure => simp [RowKit.intOf]; omega
        | false =>
          have HZ := Lib.hid (HNK.out (HN.out hb))
          rw [hb] at HQ
          clear hb HE HN HX HNK
          go_wp2_with fail
          go_region
          go_wp2_with fail
          go_ret
          rw [HZ.out]
          exact ⟨rfl, HB.out.drew⟩
      · obtain rfl : k = L.length := by omega
        have HZ := Lib.hid (HY.out HA.out)
        go_wp2_with fail
        go_ret
        rw [HZ.out]
        exact ⟨rfl, HB.out⟩
  · rw [same_len hlen]
    have b1 : ((L.length : Int) != (M.length : Int)) = true := by rw [bne_iff_ne]; omega
    go_enter Tryz.func39, Tryz.ntmps39
    go_wp2_with fail
    go_ret
    exact ⟨rfl, Below.refl _ _⟩
end Go.Proofs.YtoodiledcphclaaGreatDoor.Thr
