/- Texts of my own, packed: JsnK. Conditions: as each theorem states. -/
import Derived.Test.YtehkiojohldlgaaGreatDoorK13
import Derived.Test.YtehkiojohldlgaaGreatDoorK29
import Derived.Test.YtehkiojohldlgaaGreatDoorK35
import Derived.Test.YtehkiojohldlgaaGreatDoorK38
namespace Go.Proofs.YtehkiojohldlgaaGreatDoor.Jsn
open Go.RowKit Go.Lib
open Go.Proofs.YtehkiojohldlgaaGreatDoor.Tre (Vt V0 find OkT OkT_iff InV InV_iff InV_next InV_five InV_shp Box box_new range_next)
open Go.Proofs.YtehkiojohldlgaaGreatDoor.Rul (Ru ruC fst fst_yes fst_no Row Own Bx)
open Go.Proofs.YtehkiojohldlgaaGreatDoor.Thr (sck scn Mod)
open Go.Proofs.YtehkiojohldlgaaGreatDoor.Ren (Pw)

theorem bads_step (l : List Vt) {i : Nat} (h : i < l.length) {p : ByteArray} {E : Int} (hf : fst (bads l) = fst ((bads l).drop i)) (hb : bad i (gv l i) = (p, E)) : (E = 0 → fst (bads l) = fst ((bads l).drop (i + 1))) ∧ (E ≠ 0 → fst (bads l) = (p, E)) := by
  rw [bads_drop l h, hb] at hf
  exact ⟨fun e => by rw [hf, fst_no _ e], fun e => by rw [hf, fst_yes _ e]⟩
theorem bads_end (l : List Vt) (hf : fst (bads l) = fst ((bads l).drop l.length)) : fst (bads l) = (⟨#[]⟩, 0) := by
  rw [hf, List.drop_of_length_le (by rw [bads_len]; exact Nat.le_refl _)]; rfl
theorem map_take (l : List Vt) {i : Nat} (h : i < l.length) : (l.take (i + 1)).map rdR = (l.take i).map rdR ++ [rdR (gv l i)] := by
  rw [List.take_add_one, List.getElem?_eq_getElem h, gv_at h, List.map_append]; rfl
theorem of_ok {v : Vt} (h4 : v.k = 4) (hl : ¬ 4096 < v.l.length) (hf : fst (bads v.l) = (⟨#[]⟩, 0)) : ofE v = sck (v.l.map rdR) ∧ ofR v = scn (v.l.map rdR) := by
  have e : ofE v = sck (v.l.map rdR) := by unfold ofE; rw [if_pos h4, if_neg hl, hf, if_pos rfl]
  refine ⟨e, ?_⟩
  unfold ofR
  rw [e]
  split
  · rfl
  · rw [Thr.scn_no (by assumption)]
theorem of_no {v : Vt} (h4 : v.k = 4) (hl : ¬ 4096 < v.l.length) {p : ByteArray} {E : Int} (hE : E ≠ 0) (hf : fst (bads v.l) = (p, E)) : ofE v = (p, E) ∧ ofR v = [] := by
  have e : ofE v = (p, E) := by unfold ofE; rw [if_pos h4, if_neg hl, hf, if_neg hE]
  exact ⟨e, of_bad (by rw [e]; exact hE)⟩
/-- The value's variable, and the rules that were read, in memory of the call's own. -/
structure Or_ (w0 : World) (g : Nat) (cs : Array Value) (L : List Ru) (u : Value) (W : World) : Prop where
  bx : Box W g cs
  ow : Own W w0.heap.size u L
  bel : Below w0.heap.size w0 W
  gl : g < w0.heap.size
theorem Or_.next {w0 : World} {g : Nat} {cs : Array Value} {L : List Ru} {u : Value} {W W' : World} (h : Or_ w0 g cs L u W) (hb : Below W.heap.size W W') : Or_ w0 g cs L u W' :=
  ⟨h.bx.next hb h.bx.lt, h.ow.next hb, h.bel.trans (hb.mono h.bel.size), h.gl⟩
theorem Or_.push {w0 : World} {g : Nat} {cs : Array Value} {L M : List Ru} {u u' : Value} {W W' : World} (h : Or_ w0 g cs L u W) (ho : Own W' w0.heap.size u' (L ++ M)) (hb : Below w0.heap.size w0 W') (h0 : Box w0 g cs) : Or_ w0 g cs (L ++ M) u' W' :=
  ⟨h0.next hb h.gl, ho, hb, h.gl⟩
theorem ow_shp {w : World} {B : Nat} {u : Value} {L : List Ru} (h : Own w B u L) : ∃ a n p, u = .slice a n p := by
  obtain ⟨a, p, e, -⟩ := h.row.open_
  exact ⟨_, _, _, e⟩

set_option maxHeartbeats 8000000 in
set_option maxRecDepth 100000 in
theorem rof_any (v : Vt) (hv : OkT v) (cs : List Value) (w : World) (h : InV w v cs) (hP : Pw w) :
    Calls Tryz.prog 13 #[.agg cs.toArray] w fun e w' => ∃ u, e = .returned (.tuple #[u, .string (ofE v).1, .int .i64 (ofE v).2]) ∧ Row w' u (ofR v) ∧ Below w.heap.size w w' := by
  obtain ⟨a, cap, c4, rfl, hit, hr⟩ := (InV_iff w v cs).1 h
  obtain ⟨a2, cap2, rfl, -⟩ := hr.open_
  have hA := Lib.hid fun o => (Below.refl w.heap.size w).alloc (Nat.le_refl _) o
  by_cases h4 : v.k = 4
  case neg =>
    have e : ofE v = (⟨#[]⟩, 15) := if_neg h4
    have e2 : ofR v = [] := of_bad (by rw [e]; decide)
    rw [e, e2]
    have b4 : (v.k != 4) = true := by simpa using h4
    clear h hit hr hv hP h4 e e2
    go_enter Tryz.func13, Tryz.ntmps13
    go_wp2_with fail
    go_ret3
    exact ⟨_, rfl, Row.nil _, hA.out _⟩
  have b4 : (v.k != 4) = false := by simp [h4]
  by_cases hl : 4096 < v.l.length
  · have e : ofE v = (⟨#[]⟩, 12) := by unfold ofE; rw [if_pos h4, if_pos hl]
    have e2 : ofR v = [] := of_bad (by rw [e]; decide)
    rw [e, e2]
    clear h hit hr hv hP h4 e e2
    go_enter Tryz.func13, Tryz.ntmps13
    go_wp2_with fail
    go_ret3
    exact ⟨_, rfl, Row.nil _, hA.out _⟩
  have HOK := Lib.hid (@of_ok v h4 hl)
  have HNO := Lib.hid fun p E => @of_no v h4 hl p E
  have HIT := Lib.hid hit
  have HPW := Lib.hid hP
  have HRD := Lib.hid fun (i : Nat) (hi : i < v.l.length) ds W (hI : InV W (gv v.l i) ds) => rread_any (gv v.l i) (gv_ok hv hi) ds W hI
  have HIA := Lib.hid fun (i : Nat) (hi : i < v.l.length) W (hW : Pw W) => Thr.itoa_at (i : Int) (by omega) (by omega) W hW
  have HIZ := Lib.hid fun (i : Nat) (hi : i < v.l.length) => Thr.itoa_size i (by omega)
  have HNS := Lib.hid fun (i : Nat) (hi : i < v.l.length) => rdE_size (gv_ok hv hi)
  have HMD : Mod (v.l.map rdR) := fun r hr => by
    obtain ⟨x, hx, rfl⟩ := List.mem_map.1 hr
    exact rdR_size (((OkT_iff v).1 hv).2 x hx)
  have HCN := Lib.hid fun u W (hr : Row W u (v.l.map rdR)) (hW : Pw W) => Thr.rcanon_any (v.l.map rdR) u W hr (by rw [List.length_map]; omega) HMD hW
  have HST := Lib.hid fun (i : Nat) (hi : i < v.l.length) p E => @bads_step v.l i hi p E
  have HEN := Lib.hid (bads_end v.l)
  have HMT := Lib.hid fun (i : Nat) (hi : i < v.l.length) => map_take v.l hi
  have hmx : v.l.length ≤ 4096 := by omega
  have hd1 : decide (4096 < v.l.length) = false := decide_eq_false hl
  have hd2 : decide ((4096 : Int) < (v.l.length : Int)) = false := decide_eq_false (by omega)
  clear h hit hr hv hP h4 HMD hl
  generalize ofE v = OE at *
  generalize ofR v = OR at *
  generalize v.k = vk at *
  generalize v.n = vn at *
  generalize v.s = vs at *
  generalize v.ns.length = vm at *
  generalize v.l = l at *
  go_enter Tryz.func13, Tryz.ntmps13
  have X0 := Lib.hid (box_new w #[.int .i64 vk, .int .i64 vn, .string vs, .slice a l.length cap, .slice a2 vm cap2])
  have HB0 := Lib.hid (hA.out (.cells #[.int .i64 vk, .int .i64 vn, .string vs, .slice a l.length cap, .slice a2 vm cap2] 26))
  have hg0 : w.heap.size < (w.alloc (.cells #[.int .i64 vk, .int .i64 vn, .string vs, .slice a l.length cap, .slice a2 vm cap2] 26)).heap.size := by simp
  have HG0 := Lib.hid hg0
  clear hg0
  go_wp2_with fail
  generalize w.alloc (.cells #[.int .i64 vk, .int .i64 vn, .string vs, .slice a l.length cap, .slice a2 vm cap2] 26) = w0 at *
  go_loopw [21, 5] (fun i u wr => ∃ (k : Nat) (a3 : Option Addr) (n3 p3 : Nat), i = .int .i64 (k : Int) ∧ u = .slice a3 n3 p3 ∧ k ≤ l.length ∧ Hid (Or_ w0 w.heap.size #[.int .i64 vk, .int .i64 vn, .string vs, .slice a l.length cap, .slice a2 vm cap2] ((l.take k).map rdR) (.slice a3 n3 p3) wr) ∧ Hid (fst (bads l) = fst ((bads l).drop k))) (fun i _ _ => l.length - (RowKit.intOf i).toNat)
  case atStart => exact ⟨0, _, _, _, rfl, rfl, Nat.zero_le _, Lib.hid ⟨X0.out, Own.nil _ _, Below.refl _ _, HG0.out⟩, Lib.hid rfl⟩
  case round =>
    obtain ⟨k, a3, n3, p3, rfl, rfl, hk, HO, HF⟩ := hrel
    have HBW := Lib.hid (HB0.out.trans (HO.out.bel.mono HB0.out.size))
    have x3 : wr.cell? ⟨w.heap.size, 3, none⟩ = some (.slice a l.length cap) := HO.out.bx.cell 3
    by_cases hlt : k < l.length
    · obtain ⟨b, off, rfl, ds, hrg, hin⟩ := HIT.out k hlt
      have h5 := InV_five hin
      have hlb := Tre.range_lt hrg h5
      obtain ⟨xa, xcap, xc4, hds, -, -⟩ := (InV_iff w _ ds).1 hin
      rw [Nat.mul_comm 5 k] at hrg
      have hk0 : w.cell? ⟨b, off + k * 5, none⟩ = some (.int .i64 (gv l k).k) := hrg 0 _ (by rw [hds]; rfl)
      have HRG := Lib.hid (range_next hrg HBW.out)
      have HR := Lib.hid (HRD.out k hlt ds wr (InV_next HBW.out _ ds hin))
      have HLB := Lib.hid hlb
      have HK0 := Lib.hid hk0
      have HI := Lib.hid (HIA.out k hlt)
      have hiz := HIZ.out k hlt
      have hns := HNS.out k hlt
      have HBX := Lib.hid fun p E => bad_X k (gv l k) p E
      have HSK := Lib.hid fun p E => HST.out k hlt p E HF.out
      have HMK := Lib.hid (HMT.out k hlt)
      have hat : (⟨#[47]⟩ : ByteArray) ++ ⟨(Lib.itoa (k : Int)).toArray⟩ = atP k := rfl
      have hats : (atP k).size ≤ 22 := by rw [← hat, ByteArray.size_append]; show 1 + _ ≤ 22; omega
      have p1 : ∀ W, (Op.stringOp .add ⟨#[47]⟩ ⟨(Lib.itoa (k : Int)).toArray⟩).run Tryz.prog W = .ok (.string (atP k)) W := fun W => (run_string_add W _ _ (by decide) (by omega)).trans rfl
      have hbk : bad k (gv l k) = bad k (gv l k) := rfl
      obtain ⟨X, hX⟩ : ∃ X, rdX (gv l k) = X := ⟨_, rfl⟩
      obtain ⟨p, E⟩ := X
      have hps : p.size ≤ 140737488355328 := by
        by_cases q : (gv l k).k = 5
        · have e : rdE (gv l k) = (p, E) := by rw [← hX]; unfold rdX; rw [if_pos q]
          rw [e] at hns
          exact Nat.le_trans hns (by decide)
        · have e : (⟨#[]⟩, (15 : Int)) = (p, E) := by rw [← hX]; unfold rdX; rw [if_neg q]
          injection e with e1 _
          rw [← e1]; exact Nat.zero_le _
      have HJ := Lib.hid fun W => Ptr.rjoin2_any (atP k) p W (by omega) hps
      have HB3 := Lib.hid (HBX.out p E hX)
      rw [hX] at HR
      dsimp only at HR
      obtain ⟨R, hR⟩ : ∃ R, rdR (gv l k) = R := ⟨_, rfl⟩
      rw [hR] at HR HMK
      have HLM := Lib.hid (show ((l.take k).map rdR).length + 1 ≤ 1000000000 by rw [List.length_map, List.length_take]; omega)
      clear hrg hin hds hlb hk0 hns hX hR hps hbk HBX hat
      generalize (gv l k).k = xk at *
      generalize bad k (gv l k) = bk at *
      generalize (⟨(Lib.itoa (k : Int)).toArray⟩ : ByteArray) = it at *
      generalize atP k = A at *
      by_cases hE : E = 0
      · subst hE
        have HS2 := Lib.hid ((HSK.out _ _ (HB3.out.1 rfl).1).1 rfl)
        rw [show okR 0 R = R from if_pos rfl] at HR
        obtain ⟨id, no, ro, pr, ki, ra, pe, bu, co, mx, fa, wa, pb⟩ := R
        dsimp only [ruC] at HR
        clear HB3 HSK hats HJ HRD HIA HIZ HNS HCN HST HEN HOK HNO
        go_wp2_with (first
          | (refine Tre.wpList_take _ rfl _ rfl b (off + k * 5) ds rfl HRG.out h5 ?_)
          | (go_at_call 36; (with_reducible refine HR.out.mono ?_); rintro e wA ⟨rfl, hbA⟩; have OA := Lib.hid (HO.out.next hbA); have BA := Lib.hid (HBW.out.trans (hbA.mono HBW.out.size)); have OB := Lib.hid fun o => OA.out.next ((Below.refl wA.heap.size wA).alloc (Nat.le_refl _) o); have BB := Lib.hid fun o => BA.out.alloc BA.out.size o; clear hbA)
          | (go_at_call 35; (with_reducible refine (HI.out _ (HPW.out.next (BB.out _))).mono ?_); rintro e wB ⟨rfl, hbB⟩; have OC := Lib.hid ((OB.out _).next hbB); have BC := Lib.hid ((BB.out _).trans (hbB.mono (BB.out _).size)); have RB := Lib.hid ((Rul.bx_new wA #[.string id, .string no, .string ro, .int .i64 pr, .int .i64 ki, .int .i64 ra, .int .i64 pe, .int .i64 bu, .int .i64 co, .int .i64 mx, .int .i64 fa, .int .i64 wa, .int .i64 pb]).next hbB (by simp)); have c3 : wB.cell? ⟨w.heap.size, 3, none⟩ = some (.slice (some ⟨b, off, none⟩) l.length cap) := OC.out.bx.cell 3; have ck : wB.cell? ⟨b, off + k * 5, none⟩ = some (.int .i64 xk) := (BC.out.cell (p := ⟨b, off + k * 5, none⟩) HLB.out).trans HK0.out; clear hbB)
          | (refine Rul.wpList_fetch _ rfl _ rfl _ _ rfl RB.out rfl ?_)
          | (refine Rul.wpList_push0 _ rfl (.tmp 56) (.tmp 58) rfl w0.heap.size w0 (.slice a3 n3 p3) (.slice (some ⟨wB.heap.size, 0, none⟩) 1 1) ((l.take k).map rdR) [⟨id, no, ro, pr, ki, ra, pe, bu, co, mx, fa, wa, pb⟩] rfl rfl (OC.out.ow.alloc _) (OC.out.bel.alloc OC.out.bel.size _) (Nat.le_refl _) (Rul.row_one wB ⟨id, no, ro, pr, ki, ra, pe, bu, co, mx, fa, wa, pb⟩) HLM.out ?_; intro v' wD ow' hb' hg'; obtain ⟨a9, n9, p9, e9⟩ := ow_shp ow'; subst e9; have OD := Lib.hid (Or_.push OC.out ow' hb' X0.out); clear ow' hb' hg'))
        go_roundw
        case rel => exact ⟨k + 1, _, _, _, by go_num, rfl, by omega, Lib.hid (by rw [HMK.out]; exact OD.out), HS2⟩
        case measure => simp [RowKit.intOf]; omega
      · have bE : (E != 0) = true := by simpa using hE
        rw [show okR E R = Rul.zero from if_neg hE] at HR
        dsimp only [ruC, Rul.zero] at HR
        by_cases h5' : xk = 5
        · have q5 : (xk == 5) = true := by simpa using h5'
          have HFN := Lib.hid (HNO.out _ _ hE ((HSK.out _ _ (HB3.out.2.1 hE h5')).2 hE))
          clear HB3 HSK hE h5' HRD HIA HIZ HNS HCN HST HEN HOK HNO
          go_wp2_with (first
            | (refine Tre.wpList_take _ rfl _ rfl b (off + k * 5) ds rfl HRG.out h5 ?_)
            | (go_at_call 36; (with_reducible refine HR.out.mono ?_); rintro e wA ⟨rfl, hbA⟩; have OA := Lib.hid (HO.out.next hbA); have BA := Lib.hid (HBW.out.trans (hbA.mono HBW.out.size)); have OB := Lib.hid fun o => OA.out.next ((Below.refl wA.heap.size wA).alloc (Nat.le_refl _) o); have BB := Lib.hid fun o => BA.out.alloc BA.out.size o; clear hbA)
            | (go_at_call 35; (with_reducible refine (HI.out _ (HPW.out.next (BB.out _))).mono ?_); rintro e wB ⟨rfl, hbB⟩; have OC := Lib.hid ((OB.out _).next hbB); have BC := Lib.hid ((BB.out _).trans (hbB.mono (BB.out _).size)); have RB := Lib.hid ((Rul.bx_new wA #[.string ⟨#[]⟩, .string ⟨#[]⟩, .string ⟨#[]⟩, .int .i64 0, .int .i64 0, .int .i64 0, .int .i64 0, .int .i64 0, .int .i64 0, .int .i64 0, .int .i64 0, .int .i64 0, .int .i64 0]).next hbB (by simp)); have c3 : wB.cell? ⟨w.heap.size, 3, none⟩ = some (.slice (some ⟨b, off, none⟩) l.length cap) := OC.out.bx.cell 3; have ck : wB.cell? ⟨b, off + k * 5, none⟩ = some (.int .i64 xk) := (BC.out.cell (p := ⟨b, off + k * 5, none⟩) HLB.out).trans HK0.out; clear hbB)
            | (go_at_call 37; (with_reducible refine (HJ.out _).mono ?_); rintro e wC ⟨rfl, rfl⟩))
          go_ret3
          rw [HFN.out.1, HFN.out.2]
          exact ⟨_, rfl, Row.nil _, BC.out⟩
        · have q5 : (xk == 5) = false := by simpa using h5'
          have HFN := Lib.hid (HNO.out _ _ hE ((HSK.out _ _ (HB3.out.2.2 hE h5')).2 hE))
          clear HB3 HSK hE h5' HRD HIA HIZ HNS HCN HST HEN HOK HNO
          go_wp2_with (first
            | (refine Tre.wpList_take _ rfl _ rfl b (off + k * 5) ds rfl HRG.out h5 ?_)
            | (go_at_call 36; (with_reducible refine HR.out.mono ?_); rintro e wA ⟨rfl, hbA⟩; have OA := Lib.hid (HO.out.next hbA); have BA := Lib.hid (HBW.out.trans (hbA.mono HBW.out.size)); have OB := Lib.hid fun o => OA.out.next ((Below.refl wA.heap.size wA).alloc (Nat.le_refl _) o); have BB := Lib.hid fun o => BA.out.alloc BA.out.size o; clear hbA)
            | (go_at_call 35; (with_reducible refine (HI.out _ (HPW.out.next (BB.out _))).mono ?_); rintro e wB ⟨rfl, hbB⟩; have OC := Lib.hid ((OB.out _).next hbB); have BC := Lib.hid ((BB.out _).trans (hbB.mono (BB.out _).size)); have RB := Lib.hid ((Rul.bx_new wA #[.string ⟨#[]⟩, .string ⟨#[]⟩, .string ⟨#[]⟩, .int .i64 0, .int .i64 0, .int .i64 0, .int .i64 0, .int .i64 0, .int .i64 0, .int .i64 0, .int .i64 0, .int .i64 0, .int .i64 0]).next hbB (by simp)); have c3 : wB.cell? ⟨w.heap.size, 3, none⟩ = some (.slice (some ⟨b, off, none⟩) l.length cap) := OC.out.bx.cell 3; have ck : wB.cell? ⟨b, off + k * 5, none⟩ = some (.int .i64 xk) := (BC.out.cell (p := ⟨b, off + k * 5, none⟩) HLB.out).trans HK0.out; clear hbB))
          go_ret3
          rw [HFN.out.1, HFN.out.2]
          exact ⟨_, rfl, Row.nil _, BC.out⟩
    · obtain rfl : k = l.length := by omega
      have HZ := Lib.hid (HOK.out (HEN.out HF.out))
      have HRW := Lib.hid (show Row wr (.slice a3 n3 p3) (l.map rdR) by have := HO.out.ow.row; rwa [List.take_length] at this)
      have HC2 := Lib.hid (HCN.out _ wr HRW.out (HPW.out.next HBW.out))
      clear HRD HIA HIZ HNS HCN HST HEN HOK HNO
      generalize sck (l.map rdR) = y at *
      generalize scn (l.map rdR) = C at *
      go_wp2_with (first
        | (go_at_call 29; (with_reducible refine HC2.out.mono ?_); rintro e w9 ⟨u9, rfl, hr9, hb9⟩))
      go_ret3
      rw [HZ.out.1, HZ.out.2]
      exact ⟨_, rfl, hr9, HBW.out.trans (hb9.mono HBW.out.size)⟩
end Go.Proofs.YtehkiojohldlgaaGreatDoor.Jsn
