/- The law TreeSays. Conditions: as each theorem states. -/
import Derived.Test.YtafelidejkppkaaDoorTreSc
import Derived.Test.YtafelidejkppkaaDoorTreRw
import Derived.Test.YtafelidejkppkaaDoorTreRd
namespace Go.Proofs.YtafelidejkppkaaDoor.Tre
open Go.RowKit Go.Lib Go.Proofs.YtafelidejkppkaaDoor.Byt Go.Proofs.YtafelidejkppkaaDoor.Utf

set_option maxHeartbeats 8000000 in
set_option maxRecDepth 100000 in
theorem says_any (a b : Vt) (ha : OkT a) (hb : OkT b) (ca cb : List Value) (s : ByteArray) (w : World) (h : InV w a ca) (k : InV w b cb) (hT : Tabs w) :
    Calls Tryd.prog 3 #[.agg ca.toArray, .agg cb.toArray, .string s] w fun e w' => e = .returned (.bool true) ∧ Below w.heap.size w w' := by
  have HAW := Lib.hid awake_any
  have HCA := Lib.hid (rcount a ha)
  have HCB := Lib.hid (rcount b hb)
  have HF1 := Lib.hid (pfind a ha s)
  have HF2 := Lib.hid (rfind a ha s)
  have hx := OkT_find ha s
  have hu := OkT_srt a ha
  have HXX := Lib.hid (rsame _ hx _ hx)
  rw [sm_self] at HXX
  have HR1 := Lib.hid (pright a ha)
  have HR2 := Lib.hid (rright a ha)
  have HD1 := Lib.hid (pdepth a ha)
  have HD2 := Lib.hid (rdepth a ha)
  have HC1 := Lib.hid (pcount a ha)
  have HS1 := Lib.hid (psame a ha b hb)
  have HS2 := Lib.hid (rsame a ha b hb)
  have HA1 := Lib.hid (palike a b ha hb)
  have HA2 := Lib.hid (ralike a b ha hb)
  have HO1 := Lib.hid (psort a ha)
  have HO2 := Lib.hid (rsort a ha)
  have HSS := Lib.hid (rsame (srt a) hu (srt a) hu)
  rw [sm_self] at HSS
  have B0 := Lib.hid fun (o p : Obj) => two_boxes (Below.refl ((w.alloc o).alloc p).heap.size ((w.alloc o).alloc p))
  have HT := Lib.hid hT
  have HIA := Lib.hid h
  have HIB := Lib.hid k
  obtain ⟨a3, p3, c4, rfl, _, hr⟩ := (InV_iff w a ca).1 h
  obtain ⟨a4, p4, rfl, _⟩ := hr.open_
  obtain ⟨b3, r3, d4, rfl, _, kr⟩ := (InV_iff w b cb).1 k
  obtain ⟨b4, r4, rfl, _⟩ := kr.open_
  clear hr kr h k ha hb hT hx hu
  generalize srt a = u at *
  generalize (find a s).isSome = F at *
  generalize (find a s).getD V0 = X at *
  generalize wi a 64 = R at *
  generalize dpw a = D at *
  generalize wr64 (cnt a : Int) = N at *
  generalize wr64 (cnt b : Int) = N2 at *
  generalize smB a b = M at *
  generalize alB a b = AL at *
  generalize a.l.length = l at *
  generalize a.ns.length = nl at *
  generalize a.k = k at *
  generalize a.n = n at *
  generalize a.s = sa at *
  generalize b.l.length = l2 at *
  generalize b.ns.length = nl2 at *
  generalize b.k = k2 at *
  generalize b.n = n2 at *
  generalize b.s = sb at *
  by_cases hN : 300 < N
  · have hN1 : decide (300 < N) = true := decide_eq_true hN
    clear hN HCB HF1 HF2 HXX HR1 HR2 HD1 HD2 HC1 HS1 HS2 HA1 HA2 HO1 HO2 HSS HIB
    go_enter Tryd.func3, Tryd.ntmps3
    go_wp2_with (first
      | (refine wpList_fetch _ rfl _ rfl w.heap.size _ rfl (B0.out _ _).1 rfl ?_)
      | (go_at_call 6; (with_reducible refine (HCA.out _ _ (InV_next (B0.out _ _).2.2 _ _ HIA.out)).mono ?_); rintro e w1 ⟨rfl, hb1⟩; have hw1 := (two_boxes hb1).2.2)
      | (go_at_call 7; (with_reducible refine (HAW.out _ (HT.out.next hw1)).mono ?_); rintro e w2 ⟨rfl, hb2⟩))
    go_ret
    exact ⟨rfl, next hw1 hb2⟩
  · have hN1 : decide (300 < N) = false := decide_eq_false hN
    clear hN
    by_cases hM : 300 < N2
    · have hM1 : decide (300 < N2) = true := decide_eq_true hM
      clear hM HF1 HF2 HXX HR1 HR2 HD1 HD2 HC1 HS1 HS2 HA1 HA2 HO1 HO2 HSS
      go_enter Tryd.func3, Tryd.ntmps3
      go_wp2_with (first
        | (refine wpList_fetch _ rfl _ rfl w.heap.size _ rfl (B0.out _ _).1 rfl ?_)
        | (go_at_call 6; (with_reducible refine (HCA.out _ _ (InV_next (B0.out _ _).2.2 _ _ HIA.out)).mono ?_); rintro e w1 ⟨rfl, hb1⟩; have hw1 := (two_boxes hb1).2.2; have by1 := (two_boxes hb1).2.1)
        | (refine wpList_fetch_g _ (by rfl) _ rfl (w.heap.size + 1) _ rfl by1 rfl ?_)
        | (go_at_call 6; (with_reducible refine (HCB.out _ _ (InV_next hw1 _ _ HIB.out)).mono ?_); rintro e w2 ⟨rfl, hb2⟩; have hw2 := next hw1 hb2)
        | (go_at_call 7; (with_reducible refine (HAW.out _ (HT.out.next hw2)).mono ?_); rintro e w3 ⟨rfl, hb3⟩))
      go_ret
      exact ⟨rfl, next hw2 hb3⟩
    · have hM1 : decide (300 < N2) = false := decide_eq_false hM
      clear hM
      go_enter Tryd.func3, Tryd.ntmps3
      go_wp2_with (first
        | (refine wpList_fetch _ rfl _ rfl w.heap.size _ rfl (B0.out _ _).1 rfl ?_)
        | (go_at_call 6; (with_reducible refine (HCA.out _ _ (InV_next (B0.out _ _).2.2 _ _ HIA.out)).mono ?_); rintro e w1 ⟨rfl, hb1⟩; have hw1 := (two_boxes hb1).2.2; have bx1 := (two_boxes hb1).1; have by1 := (two_boxes hb1).2.1)
        | (refine wpList_fetch_g _ (by rfl) _ rfl (w.heap.size + 1) _ rfl by1 rfl ?_)
        | (go_at_call 6; (with_reducible refine (HCB.out _ _ (InV_next hw1 _ _ HIB.out)).mono ?_); rintro e w2 ⟨rfl, hb2⟩; have hw2 := next hw1 hb2; have sb2 : SB w a b (w.heap.size + 1) [.int .i64 k, .int .i64 n, .string sa, .slice a3 l p3, .slice a4 nl p4] [.int .i64 k2, .int .i64 n2, .string sb, .slice b3 l2 r3, .slice b4 nl2 r4] w2 := sb_mk (Box.next bx1 hb2 (Box.lt bx1)) (Box.next by1 hb2 (Box.lt by1)) (InV_next hw2 _ _ HIA.out) (InV_next hw2 _ _ HIB.out) hw2 (HT.out.next hw2); clear bx1 by1)
        | (refine wpList_fetch _ rfl _ rfl w.heap.size _ rfl (sb_b1 sb2) rfl ?_)
        | (go_at_call 8; (with_reducible refine (HF1.out _ _ (sb_in sb2)).mono ?_); rintro e w3 ⟨d3, rfl, hi3, hb3⟩; have sb3 := sb2.next hb3; have d31 := InS_one hi3; obtain ⟨ek, en, es, ea, el, ep, ea2, el2, ep2, hes⟩ := InV_shp hi3; subst hes; clear sb2)
        | (refine wpList_keep _ rfl _ _ rfl w3.heap.size w3 ((Below.refl _ w3).alloc (Nat.le_refl _) _) w3.heap.size (Nat.le_refl _) _ _ rfl rfl (box_new _ _) rfl rfl d31 ?_; intro w4 bx4 hb4 _ hs4; clear hs4; have sb4 := sb3.next hb4; have hi4 := InV_next hb4 _ _ hi3)
        | (refine wpList_fetch _ rfl _ rfl w.heap.size _ rfl (sb_b1 sb4) rfl ?_)
        | (go_at_call 9; (with_reducible refine (HF2.out _ _ (sb_in sb4)).mono ?_); rintro e w5 ⟨d5, rfl, hi5, hb5⟩; have sb5 := sb4.next hb5; have hj5 := InV_next hb5 _ _ hi4; have bx5 := bx4.next hb5 bx4.lt; have d51 := InS_one hi5; obtain ⟨fk, fn, fs, fa, fl, fp, fa2, fl2, fp2, hes⟩ := InV_shp hi5; subst hes; clear sb4)
        | (refine wpList_keep _ rfl _ _ rfl w5.heap.size w5 ((Below.refl _ w5).alloc (Nat.le_refl _) _) w5.heap.size (Nat.le_refl _) _ _ rfl rfl (box_new _ _) rfl rfl d51 ?_; intro w6 bx6 hb6 _ hs6; clear hs6; have sc6 := sc_mk (sb5.next hb6) (bx5.next hb6 bx5.lt) bx6 (InV_next hb6 _ _ hj5) (InV_next hb6 _ _ hi5)))
      clear sb3 sb5 hj5 hi3 hi4 hi5 bx4 bx5 bx6 hb1 hb2 hb3 hb4 hb5 hb6 hw1 hw2 d31 d51
      clear HCB HF1 HF2 HIA HIB B0
      have t1 : (R != R) = false := bne_self_eq_false R
      have t2 : (D != D) = false := bne_self_eq_false D
      have t3 : (N != N) = false := bne_self_eq_false N
      have t4 : (M != M) = false := bne_self_eq_false M
      have t5 : (AL != AL) = false := bne_self_eq_false AL
      have t6 : (F == F) = true := beq_self_eq_true F
      have sd := SC.drew sc6
      obtain ⟨q0, q1, q2, q3, q4, r0, r1, r2, r3', r4'⟩ := sc_ab (w := w) (a := a) (b := b) (x := X) (G := w.heap.size + 1) (G1 := w3.heap.size) (G2 := w5.heap.size) (c0 := .int .i64 k) (c1 := .int .i64 n) (c2 := .string sa) (c3 := .slice a3 l p3) (c4 := .slice a4 nl p4) (e0 := .int .i64 k2) (e1 := .int .i64 n2) (e2 := .string sb) (e3 := .slice b3 l2 r3) (e4 := .slice b4 nl2 r4) (cx := [.int .i64 ek, .int .i64 en, .string es, .slice ea el ep, .slice ea2 el2 ep2]) (cy := [.int .i64 fk, .int .i64 fn, .string fs, .slice fa fl fp, .slice fa2 fl2 fp2])
      go_region_held3 (SC w a b X (w.heap.size + 1) w3.heap.size w5.heap.size [.int .i64 k, .int .i64 n, .string sa, .slice a3 l p3, .slice a4 nl p4] [.int .i64 k2, .int .i64 n2, .string sb, .slice b3 l2 r3, .slice b4 nl2 r4] [.int .i64 ek, .int .i64 en, .string es, .slice ea el ep, .slice ea2 el2 ep2] [.int .i64 fk, .int .i64 fn, .string fs, .slice fa fl fp, .slice fa2 fl2 fp2]) (first | exact sd | assumption)
        ((first
          | (go_at_call 10; (with_reducible refine (HR1.out _ _ (sb_in (SC.sb (by assumption))) (sb_tab (SC.sb (by assumption)))).mono ?_); rintro e wx ⟨rfl, hbx⟩; have scx := SC.next (by assumption) hbx)
          | (go_at_call 11; (with_reducible refine (HR2.out _ _ (sb_in (SC.sb (by assumption)))).mono ?_); rintro e wx ⟨rfl, hbx⟩; have scx := SC.next (by assumption) hbx)
          | (go_at_call 12; (with_reducible refine (HD1.out _ _ (sb_in (SC.sb (by assumption)))).mono ?_); rintro e wx ⟨rfl, hbx⟩; have scx := SC.next (by assumption) hbx)
          | (go_at_call 13; (with_reducible refine (HD2.out _ _ (sb_in (SC.sb (by assumption)))).mono ?_); rintro e wx ⟨rfl, hbx⟩; have scx := SC.next (by assumption) hbx)
          | (go_at_call 14; (with_reducible refine (HC1.out _ _ (sb_in (SC.sb (by assumption)))).mono ?_); rintro e wx ⟨rfl, hbx⟩; have scx := SC.next (by assumption) hbx)
          | (go_at_call 6; (with_reducible refine (HCA.out _ _ (sb_in (SC.sb (by assumption)))).mono ?_); rintro e wx ⟨rfl, hbx⟩; have scx := SC.next (by assumption) hbx)
          | (go_at_call 15; (with_reducible refine (HS1.out _ _ _ (sb_in (SC.sb (by assumption))) (sb_iu (SC.sb (by assumption)))).mono ?_); rintro e wx ⟨rfl, hbx⟩; have scx := SC.next (by assumption) hbx)
          | (go_at_call 16; (with_reducible refine (HS2.out _ _ _ (sb_in (SC.sb (by assumption))) (sb_iu (SC.sb (by assumption)))).mono ?_); rintro e wx ⟨rfl, hbx⟩; have scx := SC.next (by assumption) hbx)
          | (go_at_call 17; (with_reducible refine (HA1.out _ _ _ (sb_in (SC.sb (by assumption))) (sb_iu (SC.sb (by assumption))) (sb_tab (SC.sb (by assumption)))).mono ?_); rintro e wx ⟨rfl, hbx⟩; have scx := SC.next (by assumption) hbx)
          | (go_at_call 18; (with_reducible refine (HA2.out _ _ _ (sb_in (SC.sb (by assumption))) (sb_iu (SC.sb (by assumption)))).mono ?_); rintro e wx ⟨rfl, hbx⟩; have scx := SC.next (by assumption) hbx)))
      all_goals
        have sd2 := SC.drew scx
        clear HR1 HR2 HD1 HD2 HC1 HCA HS1 HS2 HA1 HA2 sc6 sd
        obtain ⟨x0, x1, x2, x3, x4, y0, y1, y2, y3, y4⟩ := sc_xy (w := w) (a := a) (b := b) (x := X) (G := w.heap.size + 1) (G1 := w3.heap.size) (G2 := w5.heap.size) (c0 := .int .i64 ek) (c1 := .int .i64 en) (c2 := .string es) (c3 := .slice ea el ep) (c4 := .slice ea2 el2 ep2) (e0 := .int .i64 fk) (e1 := .int .i64 fn) (e2 := .string fs) (e3 := .slice fa fl fp) (e4 := .slice fa2 fl2 fp2) (ca := [.int .i64 k, .int .i64 n, .string sa, .slice a3 l p3, .slice a4 nl p4]) (cb := [.int .i64 k2, .int .i64 n2, .string sb, .slice b3 l2 r3, .slice b4 nl2 r4])
        go_wp2_with fail
        go_region_held3 (SC w a b X (w.heap.size + 1) w3.heap.size w5.heap.size [.int .i64 k, .int .i64 n, .string sa, .slice a3 l p3, .slice a4 nl p4] [.int .i64 k2, .int .i64 n2, .string sb, .slice b3 l2 r3, .slice b4 nl2 r4] [.int .i64 ek, .int .i64 en, .string es, .slice ea el ep, .slice ea2 el2 ep2] [.int .i64 fk, .int .i64 fn, .string fs, .slice fa fl fp, .slice fa2 fl2 fp2]) (first | exact sd2 | assumption)
          ((first
          | (go_at_call 16; (with_reducible refine (HXX.out _ _ _ (SC.x1 (by assumption)) (SC.x2 (by assumption))).mono ?_); rintro e wx ⟨rfl, hbx⟩; have scx := SC.next (by assumption) hbx)
          | (go_at_call 19; (with_reducible refine (HO1.out _ _ (sb_in (SC.sb (by assumption)))).mono ?_); rintro e wy ⟨d7, rfl, hS7, hb7⟩; have sc7 := SC.next (by assumption) hb7)
          | (go_at_call 20; (with_reducible refine (HO2.out _ _ (sb_in (SC.sb (by assumption)))).mono ?_); rintro e wz ⟨d8, rfl, hS8, hb8⟩; have sc8 := SC.next (by assumption) hb8; have i7 := InV_next hb8 _ _ (InS_in _ _ hS7); have i8 := InS_in _ _ hS8)
          | (go_at_call 16; (with_reducible refine (HSS.out _ _ _ i7 i8).mono ?_); rintro e wx ⟨rfl, hbx⟩; have scx := SC.next (by assumption) hbx)
          | (go_at_call 7; (with_reducible refine (HAW.out _ (sb_tab (SC.sb (by assumption)))).mono ?_); rintro e wx ⟨rfl, hbx⟩; have scx := SC.next (by assumption) hbx)))
        all_goals
          go_wp2_with fail
          go_ret
          exact ⟨rfl, sb_bel (SC.sb scx)⟩
end Go.Proofs.YtafelidejkppkaaDoor.Tre
