/- The law PointerBack. Conditions: strconv's two errors are there, the table of powers is as the library's text lays it, MaxLen holds some number (Env); as each theorem states. -/
import Derived.Test.YtfefbfohenmajaaDoorPtrL
import Derived.Test.YtfefbfohenmajaaDoorStrsR
namespace Go.Proofs.YtfefbfohenmajaaDoor.Ptr
open Go.RowKit Go.Lib Go.Proofs.YtfefbfohenmajaaDoor.Byt

theorem jB_put (l : List ByteArray) (s : ByteArray) : jB ⟨(pB l).toArray⟩ s = ⟨(pB (l ++ [s])).toArray⟩ := by
  have e : pB (l ++ [s]) = pB l ++ pB [s] := by unfold pB putP; simp
  unfold jB
  rw [app_mk, e]
theorem put_eq (l m : List ByteArray) : ((⟨(pB l).toArray⟩ : ByteArray).toList == (⟨(pB m).toArray⟩ : ByteArray).toList) = decide (l = m) := by
  by_cases h : l = m
  · rw [h, decide_eq_true rfl]; exact beq_self_eq_true _
  · rw [decide_eq_false h]
    refine str_neq fun q => h (pB_same ?_)
    have := congrArg (fun b : ByteArray => b.data.toList) q
    simpa using this
/-- What the law carries from call to call: two rows of parts. -/
structure Sz (w : World) (lv mv : Value) (l m : List ByteArray) (W : World) : Prop where
  env : Env W
  one : Strs.Row W lv l
  two : Strs.Row W mv m
  bel : Below w.heap.size w W
section
variable {w W W' : World} {lv mv : Value} {l m : List ByteArray}
theorem Sz.next (h : Sz w lv mv l m W) (hb : Below W.heap.size W W') : Sz w lv mv l m W' := ⟨h.env.next hb, h.one.next hb, h.two.next hb, h.bel.trans (hb.mono h.bel.size)⟩
theorem Sz.to (h : Sz w lv mv l m W) (hb : Below w.heap.size w W') (k : Below W.heap.size W W') : Sz w lv mv l m W' := ⟨h.env.next k, h.one.next k, h.two.next k, hb⟩
end
theorem below_beside {w W W' : World} (h : Below w.heap.size w W) (k : Below W.heap.size W W') : Below w.heap.size w W' := h.trans (k.mono h.size)
set_option maxHeartbeats 8000000 in
set_option maxRecDepth 100000 in
theorem back_any (l m : List ByteArray) (lv mv : Value) (s : ByteArray) (w : World) (hr : Strs.Row w lv l) (hr2 : Strs.Row w mv m) (hl : l.length ≤ 9223372036854775807) (hm : m.length ≤ 9223372036854775807) (hE : Env w) (hsm : s.size ≤ 9223372036854775807) :
    Calls Tryd.prog 4 #[lv, mv, .string s] w fun e w' => e = .returned (.bool true) ∧ Below w.heap.size w w' := by
  have HAW := Lib.hid awake_any
  have HL1 := Lib.hid fun W (hr : Strs.Row W lv l) => light_any lv l W hr hl
  have HL2 := Lib.hid fun W (hr : Strs.Row W mv m) => light_any mv m W hr hm
  have S0 := Lib.hid (show Sz w lv mv l m w from ⟨hE, hr, hr2, Below.refl _ _⟩)
  by_cases hlg : lgt l = true
  · rw [hlg] at HL1
    by_cases hmg : lgt m = true
    · rw [hmg] at HL2
      by_cases hs : 300 < s.size
      · have g1 : decide ((300 : Int) < (s.size : Int)) = true := decide_eq_true (by omega)
        have g1n : decide (300 < s.size) = true := decide_eq_true hs
        clear hlg hmg hs
        go_enter Tryd.func4, Tryd.ntmps4
        go_wp2_with (first
          | (go_at_call 6; (with_reducible refine (HL1.out _ S0.out.one).mono ?_); rintro e w2 ⟨rfl, hw⟩; obtain rfl := hw.symm)
          | (go_at_call 6; (with_reducible refine (HL2.out _ S0.out.two).mono ?_); rintro e w2 ⟨rfl, hw⟩; obtain rfl := hw.symm)
          | (go_at_call 8; (with_reducible refine (HAW.out _ S0.out.env).mono ?_); rintro e w3 ⟨rfl, hb3⟩))
        go_ret
        exact ⟨rfl, (S0.out.next hb3).bel⟩
      · have g1 : decide ((300 : Int) < (s.size : Int)) = false := decide_eq_false (by omega)
        have g1n : decide (300 < s.size) = false := decide_eq_false hs
        have hs3 : s.size ≤ 300 := by omega
        obtain ⟨lf1, lf2, lf3⟩ := lgt_fit hlg
        obtain ⟨mf1, mf2, mf3⟩ := lgt_fit hmg
        have hpz : (⟨(pB l).toArray⟩ : ByteArray).size ≤ 8000000 := by
          rw [sz_mk]
          exact Nat.le_trans (pB_len l lf2) (Nat.le_trans (Nat.mul_le_mul_right _ lf1) (by omega))
        have HP1 := Lib.hid fun W hr (h : Mx W) => pput_any lv l W hr h lf2 (by omega)
        have HP2 := Lib.hid fun W hr (h : Mx W) => pput_any mv m W hr h mf2 (by omega)
        have HT := Lib.hid fun W (h : Mx W) => ptake_any ⟨(pB l).toArray⟩ W hpz h
        rw [tkA_put] at HT
        have HS1 := Lib.hid fun W va ha hb => same_any va lv l l W ha hb hl hl
        rw [decide_eq_true rfl] at HS1
        have HS2 := Lib.hid fun W ha hb => same_any lv mv l m W ha hb hl hm
        have lf4 : Fit (l ++ [s]) := fun x hx => by
          rcases List.mem_append.1 hx with hx | hx
          · exact lf2 x hx
          · rw [List.mem_singleton.1 hx]; omega
        have HP3 := Lib.hid fun W v hr (h : Mx W) => pput_any v (l ++ [s]) W hr h lf4 (by simp; omega)
        have HJ := Lib.hid fun W (h : Mx W) => pjoin_any ⟨(pB l).toArray⟩ s W h (by omega) (by omega)
        rw [jB_put] at HJ
        have e1 := put_eq l m
        have HTS := Lib.hid fun W (h : Mx W) => ptake_any s W (by omega) h
        have hfit := take_fit s hs3
        have hback := @pB_take s
        generalize decide (l = m) = q at *
        have e2 : (q != q) = false := by cases q <;> rfl
        generalize (⟨(pB (l ++ [s])).toArray⟩ : ByteArray) = Y at *
        generalize (⟨(pB l).toArray⟩ : ByteArray) = T at *
        generalize (⟨(pB m).toArray⟩ : ByteArray) = U at *
        have e3 : (Y.toList == Y.toList) = true := beq_self_eq_true _
        cases ht : tkA s with
        | some L =>
          rw [ht] at HTS hfit
          have hsL : (⟨(pB L).toArray⟩ : ByteArray) = s := by rw [hback ht]
          have HPN := Lib.hid fun W v hr (h : Mx W) => pput_any v L W hr h hfit.2.1 (by have : L.length ≤ 300 := hfit.1; omega)
          rw [hsL] at HPN
          have e4 : (s.toList == s.toList) = true := beq_self_eq_true _
          clear hback hfit ht hsL hlg hmg hs hs3 lf2 lf3 lf4 mf1 mf2 mf3 hr hr2 hE
          go_enter Tryd.func4, Tryd.ntmps4
          go_wp2_with (first
            | (go_at_call 6; (with_reducible refine (HL1.out _ S0.out.one).mono ?_); rintro e w2 ⟨rfl, hw⟩; obtain rfl := hw.symm)
            | (go_at_call 6; (with_reducible refine (HL2.out _ S0.out.two).mono ?_); rintro e w2 ⟨rfl, hw⟩; obtain rfl := hw.symm)
            | (go_at_call 13; (with_reducible refine (HP1.out _ S0.out.one S0.out.env.mx).mono ?_); rintro e w2 ⟨rfl, hb2⟩; have s2 := S0.out.next hb2; clear hb2)
            | (go_at_call 9; (with_reducible refine (HT.out _ s2.env.mx).mono ?_); rintro e w3 ⟨kv, rfl, rk, hb3⟩; have s3 := s2.next hb3; clear hb3)
            | (go_at_call 17; (with_reducible refine (HS1.out _ _ rk s3.one).mono ?_); rintro e w4 ⟨rfl, hb4⟩; have s4 := s3.next hb4; clear hb4)
            | (go_at_call 13; (with_reducible refine (HP2.out _ s4.two s4.env.mx).mono ?_); rintro e w5 ⟨rfl, hb5⟩; have s5 := s4.next hb5; clear hb5)
            | (go_at_call 17; (with_reducible refine (HS2.out _ s5.one s5.two).mono ?_); rintro e w6 ⟨rfl, hb6⟩; have s6 := s5.next hb6; have z6 := s6.bel.size; clear hb6)
            | (refine Strs.wpList_pushRow _ (by rfl) _ _ rfl w.heap.size w _ _ _ _ rfl rfl (Strs.Own.lit0 w6 w.heap.size z6) (s6.bel.alloc z6 _) (Nat.le_refl _) (s6.one.next (bel_al _ _)) (by simp; omega) ?_; intro v7 w7 o7 b7 _)
            | (refine Strs.wpList_pushRow _ (by rfl) _ _ rfl w.heap.size w _ _ _ _ rfl rfl (o7.alloc _) (b7.alloc b7.size _) (Nat.le_refl _) (lit1_row _ _) (by simp; omega) ?_; intro v8 w8 o8 b8 _; have s8 := S0.out.next b8; have r8 : Strs.Row w8 v8 (l ++ [s]) := by simpa using o8.row)
            | (go_at_call 13; (with_reducible refine (HP3.out _ _ r8 s8.env.mx).mono ?_); rintro e w9 ⟨rfl, hb9⟩; have s9 := s8.next hb9; clear hb9)
            | (go_at_call 15; (with_reducible refine (HJ.out _ s9.env.mx).mono ?_); rintro e w10 ⟨rfl, hb10⟩; have s10 := s9.next hb10; clear hb10)
            | (go_at_call 9; (with_reducible refine (HTS.out _ s10.env.mx).mono ?_); rintro e w11 ⟨nv, rfl, rn, hb11⟩; have s11 := s10.next hb11; clear hb11)
            | (go_at_call 13; (with_reducible refine (HPN.out _ _ rn s11.env.mx).mono ?_); rintro e w12 ⟨rfl, hb12⟩; have s12 := s11.next hb12; clear hb12)
            | (go_at_call 8; (with_reducible refine (HAW.out _ s12.env).mono ?_); rintro e w13 ⟨rfl, hb13⟩))
          go_ret
          exact ⟨rfl, (s12.next hb13).bel⟩
        | none =>
          rw [ht] at HTS
          clear hback hfit ht hlg hmg hs hs3 lf2 lf3 lf4 mf1 mf2 mf3 hr hr2 hE
          go_enter Tryd.func4, Tryd.ntmps4
          go_wp2_with (first
            | (go_at_call 6; (with_reducible refine (HL1.out _ S0.out.one).mono ?_); rintro e w2 ⟨rfl, hw⟩; obtain rfl := hw.symm)
            | (go_at_call 6; (with_reducible refine (HL2.out _ S0.out.two).mono ?_); rintro e w2 ⟨rfl, hw⟩; obtain rfl := hw.symm)
            | (go_at_call 13; (with_reducible refine (HP1.out _ S0.out.one S0.out.env.mx).mono ?_); rintro e w2 ⟨rfl, hb2⟩; have s2 := S0.out.next hb2; clear hb2)
            | (go_at_call 9; (with_reducible refine (HT.out _ s2.env.mx).mono ?_); rintro e w3 ⟨kv, rfl, rk, hb3⟩; have s3 := s2.next hb3; clear hb3)
            | (go_at_call 17; (with_reducible refine (HS1.out _ _ rk s3.one).mono ?_); rintro e w4 ⟨rfl, hb4⟩; have s4 := s3.next hb4; clear hb4)
            | (go_at_call 13; (with_reducible refine (HP2.out _ s4.two s4.env.mx).mono ?_); rintro e w5 ⟨rfl, hb5⟩; have s5 := s4.next hb5; clear hb5)
            | (go_at_call 17; (with_reducible refine (HS2.out _ s5.one s5.two).mono ?_); rintro e w6 ⟨rfl, hb6⟩; have s6 := s5.next hb6; have z6 := s6.bel.size; clear hb6)
            | (refine Strs.wpList_pushRow _ (by rfl) _ _ rfl w.heap.size w _ _ _ _ rfl rfl (Strs.Own.lit0 w6 w.heap.size z6) (s6.bel.alloc z6 _) (Nat.le_refl _) (s6.one.next (bel_al _ _)) (by simp; omega) ?_; intro v7 w7 o7 b7 _)
            | (refine Strs.wpList_pushRow _ (by rfl) _ _ rfl w.heap.size w _ _ _ _ rfl rfl (o7.alloc _) (b7.alloc b7.size _) (Nat.le_refl _) (lit1_row _ _) (by simp; omega) ?_; intro v8 w8 o8 b8 _; have s8 := S0.out.next b8; have r8 : Strs.Row w8 v8 (l ++ [s]) := by simpa using o8.row)
            | (go_at_call 13; (with_reducible refine (HP3.out _ _ r8 s8.env.mx).mono ?_); rintro e w9 ⟨rfl, hb9⟩; have s9 := s8.next hb9; clear hb9)
            | (go_at_call 15; (with_reducible refine (HJ.out _ s9.env.mx).mono ?_); rintro e w10 ⟨rfl, hb10⟩; have s10 := s9.next hb10; clear hb10)
            | (go_at_call 9; (with_reducible refine (HTS.out _ s10.env.mx).mono ?_); rintro e w11 ⟨nv, rfl, rn, hb11⟩; obtain ⟨na, np, rfl, _⟩ := rn.open_; have s11 := s10.next hb11; clear hb11)
            | (go_at_call 8; (with_reducible refine (HAW.out _ s11.env).mono ?_); rintro e w13 ⟨rfl, hb13⟩))
          go_ret
          exact ⟨rfl, (s11.next hb13).bel⟩
    · have hm2 : lgt m = false := by
        cases q : lgt m with
        | false => rfl
        | true => exact absurd q hmg
      rw [hm2] at HL2
      clear hlg hmg hm2
      go_enter Tryd.func4, Tryd.ntmps4
      go_wp2_with (first
        | (go_at_call 6; (with_reducible refine (HL1.out _ S0.out.one).mono ?_); rintro e w2 ⟨rfl, hw⟩; obtain rfl := hw.symm)
        | (go_at_call 6; (with_reducible refine (HL2.out _ S0.out.two).mono ?_); rintro e w2 ⟨rfl, hw⟩; obtain rfl := hw.symm)
        | (go_at_call 8; (with_reducible refine (HAW.out _ S0.out.env).mono ?_); rintro e w3 ⟨rfl, hb3⟩))
      go_ret
      exact ⟨rfl, (S0.out.next hb3).bel⟩
  · have hl2 : lgt l = false := by
      cases q : lgt l with
      | false => rfl
      | true => exact absurd q hlg
    rw [hl2] at HL1
    clear hlg hl2
    go_enter Tryd.func4, Tryd.ntmps4
    go_wp2_with (first
      | (go_at_call 6; (with_reducible refine (HL1.out _ S0.out.one).mono ?_); rintro e w2 ⟨rfl, hw⟩; obtain rfl := hw.symm)
      | (go_at_call 6; (with_reducible refine (HL2.out _ S0.out.two).mono ?_); rintro e w2 ⟨rfl, hw⟩; obtain rfl := hw.symm)
      | (go_at_call 8; (with_reducible refine (HAW.out _ S0.out.env).mono ?_); rintro e w3 ⟨rfl, hb3⟩))
    go_ret
    exact ⟨rfl, (S0.out.next hb3).bel⟩
end Go.Proofs.YtfefbfohenmajaaDoor.Ptr
