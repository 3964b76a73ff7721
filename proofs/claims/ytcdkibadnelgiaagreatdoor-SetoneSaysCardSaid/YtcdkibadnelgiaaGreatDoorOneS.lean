/- Contracts of the code's same, Same of sets of rules of version 1 (slices.EqualFunc). Conditions: the rates are doubles of 64 bits. -/
import Derived.Test.YtcdkibadnelgiaaGreatDoorOneP3
namespace Go.Proofs.YtcdkibadnelgiaaGreatDoor.One
open Go.RowKit Go.Lib

theorem rE_eq (x y : Ro) : rE x y = (decide (x.nm = y.nm) && (decide (x.pa = y.pa) && (Real.sameB x.ps y.ps && decide (x.bu = y.bu)))) := by
  unfold rE
  rw [Bool.and_comm (decide (x.bu = y.bu))]
set_option maxHeartbeats 4000000 in
theorem same1_any (x y : Ro) (hx : x.ps < 18446744073709551616) (hy : y.ps < 18446744073709551616) (W : World) :
    Calls Tryz.prog 26 #[.agg (ruC x), .agg (ruC y)] W fun e w' => e = .returned (.bool (rE x y)) ∧ Below W.heap.size W w' := by
  have HS := Lib.hid fun W => Real.Same_is x.ps y.ps hx hy W
  rw [rE_eq]
  have hb := Lib.hid (show ∀ o1 o2, Below W.heap.size W ((W.alloc o1).alloc o2) from fun o1 o2 => ((Below.refl _ _).alloc (Nat.le_refl _) _).alloc (by simp) _)
  obtain ⟨nm, pa, ps, bu⟩ := x
  obtain ⟨nm', pa', ps', bu'⟩ := y
  dsimp only [ruC] at *
  clear hx hy
  generalize Real.sameB ps ps' = sb at *
  by_cases q1 : nm = nm'
  · have t1 : (nm.toList == nm'.toList) = true := by rw [q1]; exact beq_self_eq_true _
    rw [decide_eq_true q1]
    by_cases q2 : pa = pa'
    · have t2 : (pa.toList == pa'.toList) = true := by rw [q2]; exact beq_self_eq_true _
      rw [decide_eq_true q2]
      clear q1 q2
      by_cases q3 : bu = bu'
      all_goals cases sb
      all_goals
        go_enter Tryz.func26, Tryz.ntmps26
        go_wp2_with (go_at_call 14; (with_reducible refine (HS.out _).mono ?_); rintro e w3 ⟨rfl, rfl⟩)
        go_ret
        exact ⟨by simp [q3], hb.out _ _⟩
    · have t2 : (pa.toList == pa'.toList) = false := Byt.str_neq q2
      rw [decide_eq_false q2]
      clear q1 q2
      go_enter Tryz.func26, Tryz.ntmps26
      go_wp2_with fail
      go_ret
      exact ⟨by simp, hb.out _ _⟩
  · have t1 : (nm.toList == nm'.toList) = false := Byt.str_neq q1
    rw [decide_eq_false q1]
    clear q1
    go_enter Tryz.func26, Tryz.ntmps26
    go_wp2_with fail
    go_ret
    exact ⟨by simp, hb.out _ _⟩

set_option maxHeartbeats 8000000 in
set_option maxRecDepth 100000 in
theorem equal_any (L M : List Ro) (v1 v2 : Value) (w : World) (h1 : Row w v1 L) (h2 : Row w v2 M) (hl : L.length ≤ 9223372036854775807) (_hm : M.length ≤ 9223372036854775807) (hs1 : ∀ r ∈ L, r.ps < 18446744073709551616) (hs2 : ∀ r ∈ M, r.ps < 18446744073709551616) :
    Calls Tryz.prog 25 #[v1, v2, .func (.func 26) #[] #[]] w fun e w' => e = .returned (.bool (sm L M)) ∧ Below w.heap.size w w' := by
  obtain ⟨a1, cap1, rfl, _, c1⟩ := h1.open_
  obtain ⟨a2, cap2, rfl, _, c2⟩ := h2.open_
  have C1 := Lib.hid c1
  have C2 := Lib.hid c2
  clear c1 c2 h1 h2
  by_cases hlen : L.length = M.length
  · have HY := Lib.hid (@sm_yes L M hlen)
    have HNO := Lib.hid fun i => @sm_no_at L M i
    have hM : M.length = L.length := hlen.symm
    have C2' := Lib.hid fun j (hj : j < L.length) => C2.out j (hM ▸ hj)
    have HSA := Lib.hid fun j (hj : j < L.length) W => same1_any (ga L j) (ga M j) (hs1 _ (ga_mem hj)) (hs2 _ (ga_mem (hM ▸ hj : j < M.length))) W
    rw [hM]
    clear C2 hlen hM hs1 hs2
    go_enter Tryz.func25, Tryz.ntmps25
    go_wp2_with fail
    go_loopw [17] (fun i wr => ∃ k : Nat, i = .int .i64 (k : Int) ∧ k ≤ L.length ∧ Hid (Below w.heap.size w wr) ∧ Hid (∀ j, j < k → rE (ga L j) (ga M j) = true)) (fun i _ => L.length - (RowKit.intOf i).toNat)
    case atStart => exact ⟨0, rfl, Nat.zero_le _, Lib.hid (Below.refl _ _), Lib.hid fun j hj => absurd hj (Nat.not_lt_zero _)⟩
    case round =>
      obtain ⟨k, rfl, hk, HB, HA⟩ := hrel
      by_cases hlt : k < L.length
      · obtain ⟨b1, o1, rfl, x1⟩ := C1.out k hlt
        obtain ⟨b2, o2, rfl, x2⟩ := C2'.out k hlt
        have Y1 := Lib.hid (show wr.rangeAt b1 (o1 + k * 4) (ruL (ga L k)) from rangeAt_next x1 HB.out)
        have Y2 := Lib.hid (show wr.rangeAt b2 (o2 + k * 4) (ruL (ga M k)) from rangeAt_next x2 HB.out)
        clear x1 x2
        have HNK := Lib.hid (HNO.out k hlt)
        have HS := Lib.hid (HSA.out k hlt)
        have HX := Lib.hid fun (h : rE (ga L k) (ga M k) = true) j (hj : j < k + 1) => by
          by_cases q : j < k
          · exact HA.out j q
          · obtain rfl : j = k := by omega
            exact h
        generalize ga L k = x at *
        generalize ga M k = y at *
        cases hb : rE x y with
        | true =>
          have HX2 := Lib.hid (HX.out hb)
          rw [hb] at HS
          clear hb HX HNK
          go_wp2_with (first
            | (refine wpList_take _ rfl _ rfl b1 (o1 + k * 4) x rfl Y1.out ?_)
            | (refine wpList_keep _ rfl _ _ rfl wr.heap.size wr ((Below.refl _ _).alloc (Nat.le_refl _) _) _ (Nat.le_refl _) x _ rfl rfl (bx_new _ _) rfl ?_; intro w4 hk4 hb4 ho4; have K4 := Lib.hid hk4; have B4 := Lib.hid hb4; have Y4 := Lib.hid (rangeAt_next Y2.out hb4); clear hk4 hb4 ho4)
            | (refine wpList_take _ rfl _ rfl b2 (o2 + k * 4) y rfl Y4.out ?_)
            | (refine wpList_keep _ rfl _ _ rfl w4.heap.size w4 ((Below.refl _ _).alloc (Nat.le_refl _) _) _ (Nat.le_refl _) y _ rfl rfl (bx_new _ _) rfl ?_; intro w5 hk5 hb5 ho5; have K5 := Lib.hid hk5; have KX := Lib.hid (K4.out.next hb5 K4.out.lt); have B5 := Lib.hid (B4.out.trans (hb5.mono B4.out.size)); clear hk5 hb5 ho5)
            | (refine wpList_fetch _ rfl _ rfl wr.heap.size _ rfl KX.out rfl ?_)
            | (refine wpList_fetch _ rfl _ rfl w4.heap.size _ rfl K5.out rfl ?_)
            | (go_at_call 26; (with_reducible refine (HS.out _).mono ?_); rintro e w6 ⟨rfl, hb6⟩; have B6 := Lib.hid (HB.out.trans ((B5.out.trans (hb6.mono B5.out.size)).mono HB.out.size)); clear hb6))
          go_roundw
          case rel => exact ⟨k + 1, by go_num, by omega, B6, HX2⟩
          case measure => simp [RowKit.intOf]; omega
        | false =>
          have HZ := Lib.hid (HNK.out hb)
          rw [hb] at HS
          clear hb HX HNK
          go_wp2_with (first
            | (refine wpList_take _ rfl _ rfl b1 (o1 + k * 4) x rfl Y1.out ?_)
            | (refine wpList_keep _ rfl _ _ rfl wr.heap.size wr ((Below.refl _ _).alloc (Nat.le_refl _) _) _ (Nat.le_refl _) x _ rfl rfl (bx_new _ _) rfl ?_; intro w4 hk4 hb4 ho4; have K4 := Lib.hid hk4; have B4 := Lib.hid hb4; have Y4 := Lib.hid (rangeAt_next Y2.out hb4); clear hk4 hb4 ho4)
            | (refine wpList_take _ rfl _ rfl b2 (o2 + k * 4) y rfl Y4.out ?_)
            | (refine wpList_keep _ rfl _ _ rfl w4.heap.size w4 ((Below.refl _ _).alloc (Nat.le_refl _) _) _ (Nat.le_refl _) y _ rfl rfl (bx_new _ _) rfl ?_; intro w5 hk5 hb5 ho5; have K5 := Lib.hid hk5; have KX := Lib.hid (K4.out.next hb5 K4.out.lt); have B5 := Lib.hid (B4.out.trans (hb5.mono B4.out.size)); clear hk5 hb5 ho5)
            | (refine wpList_fetch _ rfl _ rfl wr.heap.size _ rfl KX.out rfl ?_)
            | (refine wpList_fetch _ rfl _ rfl w4.heap.size _ rfl K5.out rfl ?_)
            | (go_at_call 26; (with_reducible refine (HS.out _).mono ?_); rintro e w6 ⟨rfl, hb6⟩; have B6 := Lib.hid (HB.out.trans ((B5.out.trans (hb6.mono B5.out.size)).mono HB.out.size)); clear hb6))
          go_ret
          rw [HZ.out]
          exact ⟨rfl, B6.out⟩
      · obtain rfl : k = L.length := by omega
        have HZ := Lib.hid (HY.out HA.out)
        go_wp2_with fail
        go_ret
        rw [HZ.out]
        exact ⟨rfl, HB.out⟩
  · rw [sm_no_len hlen]
    have b1 : ((L.length : Int) != (M.length : Int)) = true := by rw [bne_iff_ne]; omega
    go_enter Tryz.func25, Tryz.ntmps25
    go_wp2_with fail
    go_ret
    exact ⟨rfl, Below.refl _ _⟩
theorem same_any : SmP := by
  intro L M v u W hr hq hl hm h1 h2
  have HE := Lib.hid (equal_any L M v u W hr hq hl hm h1 h2)
  clear hr hq h1 h2
  generalize sm L M = b at *
  go_enter Tryz.func13, Tryz.ntmps13
  go_wp2_with (first
    | (go_at_call 25; (with_reducible refine HE.out.mono ?_); rintro e w1 ⟨rfl, hb1⟩))
  go_ret
  exact ⟨rfl, hb1⟩
end Go.Proofs.YtcdkibadnelgiaaGreatDoor.One
