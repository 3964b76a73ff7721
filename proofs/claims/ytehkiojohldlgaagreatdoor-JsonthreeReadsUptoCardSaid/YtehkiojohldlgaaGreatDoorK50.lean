/- Texts of my own, packed: JsnZd, JsnU. Conditions: as each theorem states. -/
import Derived.Laws.Cover2
import Derived.Test.YtehkiojohldlgaaGreatDoorK08
import Derived.Test.YtehkiojohldlgaaGreatDoorK37
import Derived.Test.YtehkiojohldlgaaGreatDoorK39
import Derived.Test.YtehkiojohldlgaaGreatDoorK41
import Derived.Test.YtehkiojohldlgaaGreatDoorK47
import Derived.Test.YtehkiojohldlgaaGreatDoorK48
import Derived.Test.YtehkiojohldlgaaGreatDoorK49
namespace Go.Proofs.YtehkiojohldlgaaGreatDoor.Jsn
open Go.RowKit Go.Lib
open Go.Proofs.YtehkiojohldlgaaGreatDoor.Tre (Vt V0 find OkT OkT_iff InV InV_iff InV_next InV_five InV_shp Box box_new range_next)
open Go.Proofs.YtehkiojohldlgaaGreatDoor.Rul (Ru ruC fst fst_yes fst_no Row Own Bx)
open Go.Proofs.YtehkiojohldlgaaGreatDoor.Thr (sck scn Mod Ev)

theorem rdX_rd {x : Vt} (h : x.k = 5) : rdX x = rdE x := if_pos h
theorem bad_rp (i : Nat) (x : Vt) (h : (rdX x).2 ≠ 0) : bad i x = (atP i ++ rp x, (rdX x).2) := by
  by_cases hk : x.k = 5
  · rw [rdX_rd hk] at h ⊢
    unfold bad rp
    rw [if_pos hk, if_neg h, if_pos ⟨hk, h⟩, join_behind]
    rfl
  · unfold bad rp rdX
    rw [if_neg hk, if_neg hk, if_neg fun q => hk q.1, join_none]
theorem bad_ok (i : Nat) (x : Vt) (h : (rdX x).2 = 0) : bad i x = (⟨#[]⟩, 0) := by
  by_cases hk : x.k = 5
  · rw [rdX_rd hk] at h
    unfold bad
    rw [if_pos hk, if_pos h]
  · unfold rdX at h
    rw [if_neg hk] at h
    exact absurd h (by decide)
theorem jB_size (p : ByteArray) (h : p.size ≤ 4000000) : (Ptr.jB ⟨#[]⟩ p).size ≤ 8000001 := by
  have h1 : (⟨(Ptr.pB [p]).toArray⟩ : ByteArray).size ≤ 8000001 := by rw [Ptr.sz_mk]; exact Nat.le_trans (Ptr.pB_len2 [p] (fun y hy => by rw [List.mem_singleton.1 hy]; exact h)) (by simp)
  show ((⟨#[]⟩ : ByteArray) ++ _).size ≤ _
  rw [ByteArray.size_append]
  show 0 + _ ≤ _
  omega
theorem rp_size {x : Vt} (hz : ∀ n ∈ x.ns, n.size ≤ 4000000) : (rp x).size ≤ 8000001 := by
  unfold rp
  split
  · refine jB_size _ ?_
    unfold rdE
    cases hu : unk x.ns all with
    | some s => exact hz s (unk_name hu)
    | none => exact Nat.le_trans (rdL_size x) (by decide)
  · exact Nat.zero_le _
theorem ones5 (k n : Int) (s : ByteArray) (a : Option Addr) (l c : Nat) (b : Option Addr) (l2 c2 : Nat) : ∀ u ∈ [Value.int .i64 k, .int .i64 n, .string s, .slice a l c, .slice b l2 c2], u.oneCell' = true := by
  intro u hu
  simp only [List.mem_cons, List.not_mem_nil, or_false] at hu
  rcases hu with rfl | rfl | rfl | rfl | rfl <;> rfl

set_option maxHeartbeats 8000000 in
set_option maxRecDepth 100000 in
theorem of_any : OfP 4000000 Ptr.Mx := by
  intro v hv hnz cs w h hE hM
  obtain ⟨a, cap, c4, rfl, hit, hr⟩ := (InV_iff w v cs).1 h
  obtain ⟨a2, cap2, rfl, -⟩ := hr.open_
  have hA := Lib.hid fun o => (Below.refl w.heap.size w).alloc (Nat.le_refl _) o
  by_cases h4 : v.k = 4
  case neg =>
    have e : ofE v = (⟨#[]⟩, 15) := if_neg h4
    have e2 : ofR v = [] := of_bad (by rw [e]; decide)
    rw [e, e2]
    have b4 : (v.k != 4) = true := by simpa using h4
    clear h hit hr hv hE hM hnz h4 e e2
    go_enter Tryz.func12, Tryz.ntmps12
    go_wp2_with fail
    go_ret3
    exact ⟨_, rfl, Row.nil _, hA.out _⟩
  have b4 : (v.k != 4) = false := by simp [h4]
  by_cases hl : 4096 < v.l.length
  · have e : ofE v = (⟨#[]⟩, 12) := by unfold ofE; rw [if_pos h4, if_pos hl]
    have e2 : ofR v = [] := of_bad (by rw [e]; decide)
    rw [e, e2]
    clear h hit hr hv hE hM hnz h4 e e2
    go_enter Tryz.func12, Tryz.ntmps12
    go_wp2_with fail
    go_ret3
    exact ⟨_, rfl, Row.nil _, hA.out _⟩
  have HOK := Lib.hid (@of_ok v h4 hl)
  have HNO := Lib.hid fun p E => @of_no v h4 hl p E
  have HIT := Lib.hid hit
  have HEV := Lib.hid hE
  have HMX := Lib.hid hM
  have HRD := Lib.hid fun (i : Nat) (hi : i < v.l.length) ds W (hI : InV W (gv v.l i) ds) g (hK : Kn all g W) (hb : Below w.heap.size w W) => ruleof_any (gv v.l i) (gv_ok hv hi) (hnz _ (by rw [gv_at hi]; exact List.getElem_mem hi)) ds g W hI hK (hM.next hb) (hE.next hb).tab
  have HRS := Lib.hid fun (i : Nat) (hi : i < v.l.length) => rp_size (hnz (gv v.l i) (by rw [gv_at hi]; exact List.getElem_mem hi))
  have HIA := Lib.hid fun (i : Nat) (hi : i < v.l.length) W (hb : Below w.heap.size w W) => Thr.itoa_at (i : Int) (by omega) (by omega) W (hE.next hb).pow
  have HIZ := Lib.hid fun (i : Nat) (hi : i < v.l.length) => Thr.itoa_size i (by omega)
  have HJI := Lib.hid fun (i : Nat) (hi : i < v.l.length) => join_index i (by omega)
  have HMD : Mod (v.l.map rdR) := fun r hr => by
    obtain ⟨x, hx, rfl⟩ := List.mem_map.1 hr
    exact rdR_size (((OkT_iff v).1 hv).2 x hx)
  have HCN := Lib.hid fun u W (hr : Row W u (v.l.map rdR)) (hb : Below w.heap.size w W) => Thr.canon_any (v.l.map rdR) u W hr (by rw [List.length_map]; omega) HMD (hE.next hb)
  have HST := Lib.hid fun (i : Nat) (hi : i < v.l.length) p E => @bads_step v.l i hi p E
  have HEN := Lib.hid (bads_end v.l)
  have HMT := Lib.hid fun (i : Nat) (hi : i < v.l.length) => map_take v.l hi
  have hmx : v.l.length ≤ 4096 := by omega
  have hd1 : decide (4096 < v.l.length) = false := decide_eq_false hl
  have hd2 : decide ((4096 : Int) < (v.l.length : Int)) = false := decide_eq_false (by omega)
  have HAM := Lib.hid fun u W (k : Strs.Row W u all) => among_any all u W k (by decide) all_size
  clear h hit hr hv hE hM hnz h4 HMD hl
  generalize ofE v = OE at *
  generalize ofR v = OR at *
  generalize v.k = vk at *
  generalize v.n = vn at *
  generalize v.s = vs at *
  generalize v.ns.length = vm at *
  generalize v.l = l at *
  go_enter Tryz.func12, Tryz.ntmps12
  have X00 := Lib.hid (box_new w #[.int .i64 vk, .int .i64 vn, .string vs, .slice a l.length cap, .slice a2 vm cap2])
  have HB00 := Lib.hid (hA.out (.cells #[.int .i64 vk, .int .i64 vn, .string vs, .slice a l.length cap, .slice a2 vm cap2] 26))
  go_wp2_with (first
    | (go_at_call 32; (with_reducible refine (membern_any _).mono ?_); rintro e wa ⟨u1, rfl, hr1, hb1⟩; have RA := Lib.hid hr1; have BA := Lib.hid (HB00.out.trans (hb1.mono HB00.out.size)); have XA := Lib.hid (X00.out.next hb1 X00.out.lt); clear hr1 hb1)
    | (go_at_call 31; (with_reducible refine (HAM.out _ _ RA.out).mono ?_); rintro e w0 ⟨gk, rfl, hk0, hb0⟩; have K0 := Lib.hid hk0; have HB0 := Lib.hid (BA.out.trans (hb0.mono BA.out.size)); have X0 := Lib.hid (XA.out.next hb0 XA.out.lt); have x3' : w0.cell? ⟨w.heap.size, 3, none⟩ = some (.slice a l.length cap) := X0.out.cell 3; clear hk0 hb0))
  have HG0 := Lib.hid X0.out.lt
  clear RA BA XA X00 HB00 HAM
  go_loopw [24, 5] (fun i u wr => ∃ (k : Nat) (a3 : Option Addr) (n3 p3 : Nat), i = .int .i64 (k : Int) ∧ u = .slice a3 n3 p3 ∧ k ≤ l.length ∧ Hid (Or_ w0 w.heap.size #[.int .i64 vk, .int .i64 vn, .string vs, .slice a l.length cap, .slice a2 vm cap2] ((l.take k).map rdR) (.slice a3 n3 p3) wr) ∧ Hid (fst (bads l) = fst ((bads l).drop k))) (fun i _ _ => l.length - (RowKit.intOf i).toNat)
  case atStart => exact ⟨0, _, _, _, rfl, rfl, Nat.zero_le _, Lib.hid ⟨X0.out, Own.nil _ _, Below.refl _ _, HG0.out⟩, Lib.hid rfl⟩
  case round =>
    obtain ⟨k, a3, n3, p3, rfl, rfl, hk, HO, HF⟩ := hrel
    have HBW := Lib.hid (HB0.out.trans (HO.out.bel.mono HB0.out.size))
    by_cases hlt : k < l.length
    · obtain ⟨b, off, rfl, ds, hrg, hin⟩ := HIT.out k hlt
      have hlb := Tre.range_lt hrg (InV_five hin)
      replace hin : InV w (gv l k) ds := hin
      obtain ⟨xa, xcap, xc4, hds, -, hsr⟩ := (InV_iff w (gv l k) ds).1 hin
      obtain ⟨xb, xcap2, hxc, -⟩ := hsr.open_
      rw [hxc] at hds
      subst hds
      rw [Nat.mul_comm 5 k] at hrg
      have HRG := Lib.hid (range_next hrg HBW.out)
      have HIN := Lib.hid hin
      have HR := Lib.hid fun W (hb : Below w.heap.size w W) (hK : Kn all gk W) => HRD.out k hlt _ W (InV_next hb _ _ HIN.out) gk hK hb
      have HI := Lib.hid (HIA.out k hlt)
      have hiz := HIZ.out k hlt
      have hrs := HRS.out k hlt
      have HJ : Hid (∀ W, Below w.heap.size w W → Calls Tryz.prog 34 #[.string ⟨#[]⟩, .string ⟨(Lib.itoa (k : Int)).toArray⟩] W fun e w' => e = .returned (.string (atP k)) ∧ Below W.heap.size W w') := Lib.hid fun W hb => by
        rw [← HJI.out k hlt]
        exact Ptr.pjoin2_any ⟨#[]⟩ _ W (HMX.out.next hb) (by decide) (by omega)
      have HBO := Lib.hid (bad_ok k (gv l k))
      have HBR := Lib.hid (bad_rp k (gv l k))
      have HSK := Lib.hid fun p E => HST.out k hlt p E HF.out
      have HMK := Lib.hid (HMT.out k hlt)
      have HLB := Lib.hid hlb
      have hats : (atP k).size ≤ 22 := by rw [show atP k = (⟨#[47]⟩ : ByteArray) ++ ⟨(Lib.itoa (k : Int)).toArray⟩ from rfl, ByteArray.size_append]; show 1 + _ ≤ 22; omega
      have HONE := Lib.hid (ones5 (gv l k).k (gv l k).n (gv l k).s xa (gv l k).l.length xcap xb (gv l k).ns.length xcap2)
      obtain ⟨X, hX⟩ : ∃ X, (rdX (gv l k)).2 = X := ⟨_, rfl⟩
      obtain ⟨R, hR⟩ : ∃ R, rdR (gv l k) = R := ⟨_, rfl⟩
      rw [hX] at HR HBO HBR
      rw [hR] at HR HMK
      have HLM := Lib.hid (show ((l.take k).map rdR).length + 1 ≤ 1000000000 by rw [List.length_map, List.length_take]; omega)
      have KO := Lib.hid (K0.out.next HO.out.bel)
      clear hrg hin hlb hsr hxc hX hR HRD HIA HIZ HRS HJI HIT HST
      generalize (gv l k).k = xk at *
      generalize (gv l k).n = xn at *
      generalize (gv l k).s = xs at *
      generalize (gv l k).l.length = xll at *
      generalize (gv l k).ns.length = xnl at *
      generalize bad k (gv l k) = bk at *
      generalize rp (gv l k) = P at *
      generalize (⟨(Lib.itoa (k : Int)).toArray⟩ : ByteArray) = it at *
      generalize atP k = A at *
      by_cases hE : X = 0
      · subst hE
        have HS2 := Lib.hid ((HSK.out _ _ (HBO.out rfl)).1 rfl)
        rw [show okR 0 R = R from if_pos rfl] at HR
        obtain ⟨id, no, ro, pr, ki, ra, pe, bu, co, mx, fa, wa, pb⟩ := R
        dsimp only [ruC] at HR
        clear HBO HBR HSK hats HJ HI hrs hiz HCN HEN HOK HNO HEV HMX
        go_wp2_with (first
          | (refine Tre.wpList_take _ rfl _ rfl b (off + k * 5) _ rfl HRG.out rfl ?_)
          | (refine Tre.wpList_keep _ rfl _ _ rfl wr.heap.size wr ((Below.refl _ _).alloc (Nat.le_refl _) _) wr.heap.size (Nat.le_refl _) _ _ rfl rfl (box_new _ _) rfl rfl (by intro u hu; simp only [List.mem_cons, List.not_mem_nil, or_false] at hu; rcases hu with rfl | rfl | rfl | rfl | rfl <;> rfl) ?_; intro wx hkx hbx hox hsx; have XB := Lib.hid hkx; have OX := Lib.hid (HO.out.next hbx); have BX := Lib.hid (HBW.out.trans (hbx.mono HBW.out.size)); have KX := Lib.hid (KO.out.next hbx); clear hkx hbx hox hsx)
          | (refine Tre.wpList_fetch _ rfl _ rfl wr.heap.size _ rfl XB.out rfl ?_)
          | (go_at_call 33; (with_reducible refine (HR.out _ BX.out KX.out).mono ?_); rintro e wA ⟨rfl, hbA⟩; have OA := Lib.hid (OX.out.next hbA); have BA := Lib.hid (BX.out.trans (hbA.mono BX.out.size)); clear hbA)
          | (refine Rul.wpList_keep _ rfl _ _ rfl wA.heap.size wA ((Below.refl _ _).alloc (Nat.le_refl _) _) wA.heap.size (Nat.le_refl _) ⟨id, no, ro, pr, ki, ra, pe, bu, co, mx, fa, wa, pb⟩ _ rfl rfl (Rul.bx_new _ _) rfl ?_; intro wB hkB hbB hoB; have RB : Hid (Bx wB wA.heap.size #[.string id, .string no, .string ro, .int .i64 pr, .int .i64 ki, .int .i64 ra, .int .i64 pe, .int .i64 bu, .int .i64 co, .int .i64 mx, .int .i64 fa, .int .i64 wa, .int .i64 pb]) := Lib.hid hkB; have OB := Lib.hid (OA.out.next hbB); clear hkB hbB hoB)
          | (refine Rul.wpList_fetch _ rfl _ rfl wA.heap.size _ rfl RB.out rfl ?_)
          | (refine Rul.wpList_push0 _ rfl (.tmp 44) (.tmp 46) rfl w0.heap.size w0 (.slice a3 n3 p3) (.slice (some ⟨wB.heap.size, 0, none⟩) 1 1) ((l.take k).map rdR) [⟨id, no, ro, pr, ki, ra, pe, bu, co, mx, fa, wa, pb⟩] rfl rfl (OB.out.ow.alloc _) (OB.out.bel.alloc OB.out.bel.size _) (Nat.le_refl _) (Rul.row_one wB ⟨id, no, ro, pr, ki, ra, pe, bu, co, mx, fa, wa, pb⟩) HLM.out ?_; intro v' wD ow' hb' hg'; obtain ⟨a9, n9, p9, e9⟩ := ow_shp ow'; subst e9; have OD := Lib.hid (Or_.push OB.out ow' hb' X0.out); clear ow' hb' hg'))
        go_roundw
        case rel => exact ⟨k + 1, _, _, _, by go_num, rfl, by omega, Lib.hid (by rw [HMK.out]; exact OD.out), HS2⟩
        case measure => simp [RowKit.intOf]; omega
      · have bE : (X != 0) = true := by simpa using hE
        rw [show okR X R = Rul.zero from if_neg hE] at HR
        dsimp only [ruC, Rul.zero] at HR
        have HFN := Lib.hid (HNO.out _ _ hE ((HSK.out _ _ (HBR.out hE)).2 hE))
        have p1 : ∀ W, (Op.stringOp .add A P).run Tryz.prog W = .ok (.string (A ++ P)) W := fun W => run_string_add_sum W A P (by omega)
        clear HBO HBR HSK hE HCN HEN HOK HNO HEV HMX HMK HLM HF
        go_wp2_with (first
          | (refine Tre.wpList_take _ rfl _ rfl b (off + k * 5) _ rfl HRG.out rfl ?_)
          | (refine Tre.wpList_keep _ rfl _ _ rfl wr.heap.size wr ((Below.refl _ _).alloc (Nat.le_refl _) _) wr.heap.size (Nat.le_refl _) _ _ rfl rfl (box_new _ _) rfl rfl (by intro u hu; simp only [List.mem_cons, List.not_mem_nil, or_false] at hu; rcases hu with rfl | rfl | rfl | rfl | rfl <;> rfl) ?_; intro wx hkx hbx hox hsx; have XB := Lib.hid hkx; have BX := Lib.hid (HBW.out.trans (hbx.mono HBW.out.size)); have KX := Lib.hid (KO.out.next hbx); clear hkx hbx hox hsx)
          | (refine Tre.wpList_fetch _ rfl _ rfl wr.heap.size _ rfl XB.out rfl ?_)
          | (go_at_call 33; (with_reducible refine (HR.out _ BX.out KX.out).mono ?_); rintro e wA ⟨rfl, hbA⟩; have BA := Lib.hid (BX.out.trans (hbA.mono BX.out.size)); clear hbA)
          | (refine Rul.wpList_keep _ rfl _ _ rfl wA.heap.size wA ((Below.refl _ _).alloc (Nat.le_refl _) _) wA.heap.size (Nat.le_refl _) Rul.zero _ rfl rfl (Rul.bx_new _ _) rfl ?_; intro wB hkB hbB hoB; have BB := Lib.hid (BA.out.trans (hbB.mono BA.out.size)); clear hkB hbB hoB)
          | (go_at_call 35; (with_reducible refine (HI.out _ BB.out).mono ?_); rintro e wC ⟨rfl, hbC⟩; have BC := Lib.hid (BB.out.trans (hbC.mono BB.out.size)); clear hbC)
          | (go_at_call 34; (with_reducible refine (HJ.out _ BC.out).mono ?_); rintro e wD ⟨rfl, hbD⟩; have BD := Lib.hid (BC.out.trans (hbD.mono BC.out.size)); clear hbD))
        go_ret3
        rw [HFN.out.1, HFN.out.2]
        exact ⟨_, rfl, Row.nil _, BD.out⟩
    · obtain rfl : k = l.length := by omega
      have HZ := Lib.hid (HOK.out (HEN.out HF.out))
      have HRW := Lib.hid (show Row wr (.slice a3 n3 p3) (l.map rdR) by have := HO.out.ow.row; rwa [List.take_length] at this)
      have HC2 := Lib.hid (HCN.out _ wr HRW.out HBW.out)
      clear HRD HIA HIZ HCN HST HEN HOK HNO
      generalize sck (l.map rdR) = y at *
      generalize scn (l.map rdR) = C at *
      go_wp2_with (first
        | (go_at_call 22; (with_reducible refine HC2.out.mono ?_); rintro e w9 ⟨u9, rfl, hr9, hb9⟩))
      go_ret3
      rw [HZ.out.1, HZ.out.2]
      exact ⟨_, rfl, hr9, HBW.out.trans (hb9.mono HBW.out.size)⟩
end Go.Proofs.YtehkiojohldlgaaGreatDoor.Jsn

namespace Go.Proofs.YtehkiojohldlgaaGreatDoor.Jsn
open Go.RowKit Go.Lib Go.ChangeShapes Go.WideShapes Go.ChangeAt
open Go.Proofs.YtehkiojohldlgaaGreatDoor.Tre (Vt V0 OkT InV)
open Go.Proofs.YtehkiojohldlgaaGreatDoor.Rul (Ru Row Fits)
open Go.Proofs.YtehkiojohldlgaaGreatDoor.Thr (Ev Fit CnP IsP SmP)
open Go.Proofs.YtehkiojohldlgaaGreatDoor.Ren (cw)

theorem tx_law : TxP := fun v hv s cs W h => text_any v hv s cs W h
theorem nu_law : NuP := fun v hv s cs W h => number_any v hv s cs W h
theorem cn_law : CnP := Thr.canon_any
theorem is_law : IsP := Thr.is_any
theorem sm_law : SmP := Thr.same_any
theorem evx_of {W : World} (h : laidMetH Tryz.prog Thr.tabs W) (hs : W.ShapedOpen Tryz.prog) : Ev W ∧ Ptr.Mx W := ⟨Thr.ev_of h, mx_of hs⟩
theorem says_law {H : Type} {d0 d1 : DataW H} (L : List Ru) (X : Vt) (cs : List Value) {v : Value} {W : World} (hr : Row W v L) (hl : L.length ≤ 9223372036854775807) (hs : ∀ x ∈ L, Fits x) (hi : InV W X cs) (hX : OkT X) (hb : cw X ≤ Rows.uptoBulk d1) (hE : Ev W ∧ Ptr.Mx W) (hk : Rows.uptoSmall H [d0, d1] = true) :
    Calls Tryz.prog 3 #[v, .agg cs.toArray] W fun e w' => e = .returned (.bool true) ∧ Below W.heap.size W w' :=
  says_up put_any of_any nu_law L X cs hr hl hs hi hX (Nat.le_trans hb (Upto.two hk)) hE
theorem members_law (X : Vt) (cs : List Value) (s : ByteArray) (names : List ByteArray) {nv : Value} {W : World} (hi : InV W X cs) (hX : OkT X) (_ : s.size ≤ maxLen) (hr : Strs.Row W nv names) (hl : names.length ≤ 9223372036854775807) (hnz : ∀ n ∈ names, n.size ≤ maxLen) (hE : Ev W ∧ Ptr.Mx W) :
    Calls Tryz.prog 4 #[.agg cs.toArray, .string s, nv] W fun e w' => e = .returned (.bool true) ∧ Below W.heap.size W w' :=
  members_up put_any of_any tx_law nu_law known_any X cs s names hi hX hr hl hnz hE
theorem back_law (L : List Ru) {v : Value} {W : World} (hr : Row W v L) (hl : L.length ≤ 9223372036854775807) (hs : ∀ x ∈ L, Fits x) (hE : Ev W ∧ Ptr.Mx W) :
    Calls Tryz.prog 5 #[v] W fun e w' => e = .returned (.bool true) ∧ Below W.heap.size W w' :=
  back_up put_any of_any nu_law cn_law sm_law L hr hl hs hE
theorem reads_law {H : Type} {d0 : DataW H} (X : Vt) (cs : List Value) {W : World} (hi : InV W X cs) (hX : OkT X) (hb : cw X ≤ Rows.uptoBulk d0) (hE : Ev W ∧ Ptr.Mx W) (hk : Rows.uptoSmall H [d0] = true) :
    Calls Tryz.prog 6 #[.agg cs.toArray] W fun e w' => e = .returned (.bool true) ∧ Below W.heap.size W w' :=
  reads_up put_any of_any nu_law is_law sm_law X cs hi hX (Nat.le_trans hb (Upto.one hk)) hE
end Go.Proofs.YtehkiojohldlgaaGreatDoor.Jsn
