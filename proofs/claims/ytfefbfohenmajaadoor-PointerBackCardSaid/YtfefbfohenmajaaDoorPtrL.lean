/- What the laws of paths carry along; the law PointerSays. Conditions: strconv's two errors are there, the table of powers is as the library's text lays it, MaxLen holds some number (Env); as each theorem states. -/
import Derived.Test.YtfefbfohenmajaaDoorPtrF
import Derived.Test.YtfefbfohenmajaaDoorPtrH
import Derived.Test.YtfefbfohenmajaaDoorPtrJ
import Derived.Test.YtfefbfohenmajaaDoorPtrK
namespace Go.Proofs.YtfefbfohenmajaaDoor.Ptr
open Go.RowKit Go.Lib Go.Proofs.YtfefbfohenmajaaDoor.Byt
open Go.Proofs.YtfefbfohenmajaaDoor.Tre (Vt V0 find cnt OkT okV OkT_iff OkT_zero InV InV_iff InV_next InV_five InV_zero InS InS_in InS_iff InS_five InS_one Box Box.next Box.lt Box.cell box_new wpList_keep wpList_fetch wpList_fetch_g wr64 sm_self smB rcount rsame psame)

/-- A value in a variable of its own. -/
structure Bv (W : World) (g : Nat) (v : Vt) (cs : List Value) : Prop where
  box : Box W g cs.toArray
  inv : InV W v cs
theorem Bv.next {W W' : World} {g : Nat} {v : Vt} {cs : List Value} (h : Bv W g v cs) (hb : Below W.heap.size W W') : Bv W' g v cs := ⟨h.box.next hb h.box.lt, InV_next hb _ _ h.inv⟩
theorem Bv.made {W : World} {v : Vt} {cs : List Value} (h : InV W v cs) : Bv (W.alloc (.cells cs.toArray 25)) W.heap.size v cs := ⟨box_new _ _, InV_next ((Below.refl _ _).alloc (Nat.le_refl _) _) _ _ h⟩
theorem bel_al (W : World) (o : Obj) : Below W.heap.size W (W.alloc o) := (Below.refl _ _).alloc (Nat.le_refl _) _
/-- What a law carries from call to call: its argument in its variable, a row of parts. -/
structure Sy (w : World) (v : Vt) (cs : List Value) (lv : Value) (l : List ByteArray) (W : World) : Prop where
  env : Env W
  row : Strs.Row W lv l
  bel : Below w.heap.size w W
  bv : Bv W w.heap.size v cs
section
variable {w W W' : World} {v : Vt} {cs : List Value} {lv : Value} {l : List ByteArray}
theorem Sy.next (h : Sy w v cs lv l W) (hb : Below W.heap.size W W') : Sy w v cs lv l W' := ⟨h.env.next hb, h.row.next hb, h.bel.trans (hb.mono h.bel.size), h.bv.next hb⟩
theorem Sy.al (h : Sy w v cs lv l W) (o : Obj) : Sy w v cs lv l (W.alloc o) := h.next (bel_al W o)
theorem Sy.start (hE : Env w) (hr : Strs.Row w lv l) (hi : InV w v cs) : Sy w v cs lv l (w.alloc (.cells cs.toArray 25)) := ⟨hE.next (bel_al _ _), hr.next (bel_al _ _), bel_al _ _, Bv.made hi⟩
end
theorem ok_at {v : Vt} (hv : OkT v) (l : List ByteArray) : OkT ((fdP v l).getD V0) := by
  cases h : fdP v l with
  | none => exact OkT_zero
  | some x => exact fdP_keep (P := OkT) (fun y hy z hz => ((OkT_iff y).1 hy).2 z hz) l v x hv h
theorem lgt_fit {l : List ByteArray} (h : lgt l = true) : l.length ≤ 40 ∧ Fit l ∧ ∀ x ∈ l, x.size ≤ 8000000 :=
  ⟨(lgt_yes h).1, fun x hx => by have := (lgt_yes h).2 x hx; omega, fun x hx => by have := (lgt_yes h).2 x hx; omega⟩
/-- The parts of a short text. -/
theorem take_fit (s : ByteArray) (hs : s.size ≤ 300) : ((tkA s).getD []).length ≤ 300 ∧ Fit ((tkA s).getD []) ∧ ∀ x ∈ (tkA s).getD [], x.size ≤ 8000000 := by
  cases h : tkA s with
  | none => exact ⟨by simp, fun x hx => by simp at hx, fun x hx => by simp at hx⟩
  | some l =>
    obtain ⟨h1, h2⟩ := tkA_fit h
    exact ⟨by simp; omega, fun x hx => by have := h2 x hx; omega, fun x hx => by have := h2 x hx; omega⟩

set_option maxHeartbeats 8000000 in
set_option maxRecDepth 100000 in
theorem says_any (l : List ByteArray) (lv : Value) (s : ByteArray) (v : Vt) (hv : OkT v) (cs : List Value) (w : World) (hr : Strs.Row w lv l) (hl : l.length ≤ 9223372036854775807) (h : InV w v cs) (hE : Env w) (hsm : s.size ≤ 9223372036854775807) :
    Calls Tryd.prog 3 #[lv, .string s, .agg cs.toArray] w fun e w' => e = .returned (.bool true) ∧ Below w.heap.size w w' := by
  have HAW := Lib.hid awake_any
  have HLT := Lib.hid fun W (hr : Strs.Row W lv l) => light_any lv l W hr hl
  have HCN := Lib.hid (rcount v hv)
  have S0 := Lib.hid (Sy.start hE hr h)
  obtain ⟨km, nm, sm, a7, l7, p7, a8, l8, p8, rfl⟩ := Tre.InV_shp h
  generalize wr64 (cnt v : Int) = N at *
  by_cases hlg : lgt l = true
  · rw [hlg] at HLT
    by_cases hs : 300 < s.size
    · have g1 : decide ((300 : Int) < (s.size : Int)) = true := decide_eq_true (by omega)
      have g1n : decide (300 < s.size) = true := decide_eq_true hs
      clear HCN hlg hs
      go_enter Tryd.func3, Tryd.ntmps3
      go_wp2_with (first
        | (go_at_call 6; (with_reducible refine (HLT.out _ S0.out.row).mono ?_); rintro e w2 ⟨rfl, rfl⟩)
        | (go_at_call 8; (with_reducible refine (HAW.out _ S0.out.env).mono ?_); rintro e w3 ⟨rfl, hb3⟩))
      go_ret
      exact ⟨rfl, (S0.out.next hb3).bel⟩
    · have g1 : decide ((300 : Int) < (s.size : Int)) = false := decide_eq_false (by omega)
      have g1n : decide (300 < s.size) = false := decide_eq_false hs
      by_cases hN : 300 < N
      · have g2 : decide ((300 : Int) < N) = true := decide_eq_true hN
        clear hlg hs hN
        go_enter Tryd.func3, Tryd.ntmps3
        go_wp2_with (first
          | (go_at_call 6; (with_reducible refine (HLT.out _ S0.out.row).mono ?_); rintro e w2 ⟨rfl, rfl⟩)
          | (go_at_call 7; (with_reducible refine (HCN.out _ _ S0.out.bv.inv).mono ?_); rintro e w2 ⟨rfl, hb2⟩; have s2 := S0.out.next hb2)
          | (go_at_call 8; (with_reducible refine (HAW.out _ s2.env).mono ?_); rintro e w3 ⟨rfl, hb3⟩))
        go_ret
        exact ⟨rfl, (s2.next hb3).bel⟩
      · have g2 : decide ((300 : Int) < N) = false := decide_eq_false hN
        have hs3 : s.size ≤ 300 := by omega
        obtain ⟨lf1, lf2, lf3⟩ := lgt_fit hlg
        obtain ⟨tf1, tf2, tf3⟩ := take_fit s hs3
        have HT := Lib.hid fun W (h : Mx W) => ptake_any s W (by omega) h
        have HU := Lib.hid fun W => rtake_any s W (by omega)
        have HF := Lib.hid fun W cs hi hr (h : Env W) => pfindp v hv l lv cs W hi hr h lf3 (by omega)
        have HG := Lib.hid fun W cs hi hr => rfindp v hv l lv cs W hi hr lf3 (by omega)
        have HF2 := Lib.hid fun W cs bv hi hr (h : Env W) => pfindp v hv ((tkA s).getD []) bv cs W hi hr h tf3 (by omega)
        have HG2 := Lib.hid fun W cs bv hi hr => rfindp v hv ((tkA s).getD []) bv cs W hi hr tf3 (by omega)
        have HX := Lib.hid (rsame _ (ok_at hv l) _ (ok_at hv l))
        have HZ := Lib.hid (rsame _ (ok_at hv ((tkA s).getD [])) _ (ok_at hv ((tkA s).getD [])))
        rw [sm_self] at HX HZ
        have HP := Lib.hid fun W hr (h : Mx W) => pput_any lv l W hr h lf2 (by omega)
        have HQ := Lib.hid fun W hr => rput_any lv l W hr lf2 (by omega)
        have HJ := Lib.hid fun W (h : Mx W) => pjoin_any s s W h (by omega) (by omega)
        have HK := Lib.hid fun W => rjoin_any s s W (by omega) (by omega)
        have HSM := Lib.hid fun W va vb ha hb => same_any va vb ((tkA s).getD []) ((tkA s).getD []) W ha hb (by omega) (by omega)
        rw [decide_eq_true rfl] at HSM
        generalize (fdP v l).isSome = o2 at *
        generalize (fdP v l).getD V0 = X at *
        generalize (fdP v ((tkA s).getD [])).isSome = o3 at *
        generalize (fdP v ((tkA s).getD [])).getD V0 = Z at *
        generalize (tkA s).getD [] = L at *
        generalize (tkA s).isSome = o1 at *
        generalize (⟨(pB l).toArray⟩ : ByteArray) = y1 at *
        generalize jB s s = y2 at *
        have e1 : (y1.toList == y1.toList) = true := beq_self_eq_true _
        have e2 : (y2.toList == y2.toList) = true := beq_self_eq_true _
        have e3 : (o1 == o1) = true := beq_self_eq_true _
        have e4 : (o2 == o2) = true := beq_self_eq_true _
        have e5 : (o3 == o3) = true := beq_self_eq_true _
        clear hlg hs hN lf1 lf2 lf3 tf1 tf2 tf3 hs3 hr h hE hv
        go_enter Tryd.func3, Tryd.ntmps3
        go_wp2_with (first
          | (go_at_call 6; (with_reducible refine (HLT.out _ S0.out.row).mono ?_); rintro e w2 ⟨rfl, rfl⟩)
          | (go_at_call 7; (with_reducible refine (HCN.out _ _ S0.out.bv.inv).mono ?_); rintro e w2 ⟨rfl, hb2⟩; have s2 := S0.out.next hb2; clear hb2)
          | (go_at_call 9; (with_reducible refine (HT.out _ s2.env.mx).mono ?_); rintro e w3 ⟨va, rfl, ra3, hb3⟩; have s3 := s2.next hb3; clear hb3 s2)
          | (go_at_call 10; (with_reducible refine (HU.out _).mono ?_); rintro e w4 ⟨vb, rfl, rb4, hb4⟩; have s4 := s3.next hb4; have ra4 := ra3.next hb4; clear hb4 s3 ra3)
          | (refine wpList_fetch _ rfl _ rfl w.heap.size _ rfl s4.bv.box rfl ?_)
          | (go_at_call 11; (with_reducible refine (HF.out _ _ s4.bv.inv s4.row s4.env).mono ?_); rintro e w5 ⟨d5, rfl, hS5, hb5⟩; obtain ⟨k5, n5, t5, i5, j5, q5, u5, v5, z5, rfl⟩ := Tre.InV_shp (InS_in _ _ hS5); have m5_5 := Bv.made (InS_in _ _ hS5); have ha5 := bel_al w5 (.cells #[.int .i64 k5, .int .i64 n5, .string t5, .slice i5 j5 q5, .slice u5 v5 z5] 25); have s5 := (s4.next hb5).next ha5; have ra5 := (ra4.next hb5).next ha5; have rb5 := (rb4.next hb5).next ha5; clear hS5 hb5 ha5 s4 ra4 rb4)
          | (refine wpList_fetch _ rfl _ rfl w.heap.size _ rfl s5.bv.box rfl ?_)
          | (go_at_call 12; (with_reducible refine (HG.out _ _ s5.bv.inv s5.row).mono ?_); rintro e w6 ⟨d6, rfl, hS6, hb6⟩; obtain ⟨k6, n6, t6, i6, j6, q6, u6, v6, z6, rfl⟩ := Tre.InV_shp (InS_in _ _ hS6); have m6_6 := Bv.made (InS_in _ _ hS6); have ha6 := bel_al w6 (.cells #[.int .i64 k6, .int .i64 n6, .string t6, .slice i6 j6 q6, .slice u6 v6 z6] 25); have s6 := (s5.next hb6).next ha6; have m5_6 := (m5_5.next hb6).next ha6; have ra6 := (ra5.next hb6).next ha6; have rb6 := (rb5.next hb6).next ha6; clear hS6 hb6 ha6 s5 m5_5 ra5 rb5)
          | (refine wpList_fetch _ rfl _ rfl w.heap.size _ rfl s6.bv.box rfl ?_)
          | (go_at_call 11; (with_reducible refine (HF2.out _ _ _ s6.bv.inv rb6 s6.env).mono ?_); rintro e w7 ⟨d7, rfl, hS7, hb7⟩; obtain ⟨k7, n7, t7, i7, j7, q7, u7, v7, z7, rfl⟩ := Tre.InV_shp (InS_in _ _ hS7); have m7_7 := Bv.made (InS_in _ _ hS7); have ha7 := bel_al w7 (.cells #[.int .i64 k7, .int .i64 n7, .string t7, .slice i7 j7 q7, .slice u7 v7 z7] 25); have s7 := (s6.next hb7).next ha7; have m5_7 := (m5_6.next hb7).next ha7; have m6_7 := (m6_6.next hb7).next ha7; have ra7 := (ra6.next hb7).next ha7; have rb7 := (rb6.next hb7).next ha7; clear hS7 hb7 ha7 s6 m5_6 m6_6 ra6 rb6)
          | (refine wpList_fetch _ rfl _ rfl w.heap.size _ rfl s7.bv.box rfl ?_)
          | (go_at_call 12; (with_reducible refine (HG2.out _ _ _ s7.bv.inv rb7).mono ?_); rintro e w8 ⟨d8, rfl, hS8, hb8⟩; obtain ⟨k8, n8, t8, i8, j8, q8, u8, v8, z8, rfl⟩ := Tre.InV_shp (InS_in _ _ hS8); have m8_8 := Bv.made (InS_in _ _ hS8); have ha8 := bel_al w8 (.cells #[.int .i64 k8, .int .i64 n8, .string t8, .slice i8 j8 q8, .slice u8 v8 z8] 25); have s8 := (s7.next hb8).next ha8; have m5_8 := (m5_7.next hb8).next ha8; have m6_8 := (m6_7.next hb8).next ha8; have m7_8 := (m7_7.next hb8).next ha8; have ra8 := (ra7.next hb8).next ha8; have rb8 := (rb7.next hb8).next ha8; clear hS8 hb8 ha8 s7 m5_7 m6_7 m7_7 ra7 rb7)
          | (go_at_call 13; (with_reducible refine (HP.out _ s8.row s8.env.mx).mono ?_); rintro e w9 ⟨rfl, hb9⟩; have s9 := s8.next hb9; have m5_9 := m5_8.next hb9; have m6_9 := m6_8.next hb9; have m7_9 := m7_8.next hb9; have m8_9 := m8_8.next hb9; have ra9 := ra8.next hb9; have rb9 := rb8.next hb9; clear hb9 s8 m5_8 m6_8 m7_8 m8_8 ra8 rb8)
          | (go_at_call 14; (with_reducible refine (HQ.out _ s9.row).mono ?_); rintro e wq ⟨rfl, rfl⟩)
          | (go_at_call 15; (with_reducible refine (HJ.out _ s9.env.mx).mono ?_); rintro e w10 ⟨rfl, hb10⟩; have s10 := s9.next hb10; have m5_10 := m5_9.next hb10; have m6_10 := m6_9.next hb10; have m7_10 := m7_9.next hb10; have m8_10 := m8_9.next hb10; have ra10 := ra9.next hb10; have rb10 := rb9.next hb10; clear hb10 s9 m5_9 m6_9 m7_9 m8_9 ra9 rb9)
          | (go_at_call 16; (with_reducible refine (HK.out _).mono ?_); rintro e wq ⟨rfl, rfl⟩)
          | (go_at_call 17; (with_reducible refine (HSM.out _ _ _ ra10 rb10).mono ?_); rintro e w11 ⟨rfl, hb11⟩; have s11 := s10.next hb11; have m5_11 := m5_10.next hb11; have m6_11 := m6_10.next hb11; have m7_11 := m7_10.next hb11; have m8_11 := m8_10.next hb11; clear hb11 s10 m5_10 m6_10 m7_10 m8_10)
          | (refine wpList_fetch_g _ (by rfl) _ rfl w5.heap.size _ rfl m5_11.box rfl ?_)
          | (refine wpList_fetch_g _ (by rfl) _ rfl w6.heap.size _ rfl m6_11.box rfl ?_)
          | (go_at_call 18; (with_reducible refine (HX.out _ _ _ m5_11.inv m6_11.inv).mono ?_); rintro e w12 ⟨rfl, hb12⟩; have s12 := s11.next hb12; have m7_12 := m7_11.next hb12; have m8_12 := m8_11.next hb12; clear hb12 s11 m7_11 m8_11)
          | (refine wpList_fetch_g _ (by rfl) _ rfl w7.heap.size _ rfl m7_12.box rfl ?_)
          | (refine wpList_fetch_g _ (by rfl) _ rfl w8.heap.size _ rfl m8_12.box rfl ?_)
          | (go_at_call 18; (with_reducible refine (HZ.out _ _ _ m7_12.inv m8_12.inv).mono ?_); rintro e w13 ⟨rfl, hb13⟩; have s13 := s12.next hb13; clear hb13 s12)
          | (go_at_call 8; (with_reducible refine (HAW.out _ s13.env).mono ?_); rintro e w14 ⟨rfl, hb14⟩))
        go_ret
        exact ⟨rfl, (s13.next hb14).bel⟩
  · have hlg2 : lgt l = false := by
      cases q : lgt l with
      | false => rfl
      | true => exact absurd q hlg
    rw [hlg2] at HLT
    clear HCN hlg hlg2
    go_enter Tryd.func3, Tryd.ntmps3
    go_wp2_with (first
      | (go_at_call 6; (with_reducible refine (HLT.out _ S0.out.row).mono ?_); rintro e w2 ⟨rfl, rfl⟩)
      | (go_at_call 8; (with_reducible refine (HAW.out _ S0.out.env).mono ?_); rintro e w3 ⟨rfl, hb3⟩))
    go_ret
    exact ⟨rfl, (S0.out.next hb3).bel⟩
end Go.Proofs.YtfefbfohenmajaaDoor.Ptr
