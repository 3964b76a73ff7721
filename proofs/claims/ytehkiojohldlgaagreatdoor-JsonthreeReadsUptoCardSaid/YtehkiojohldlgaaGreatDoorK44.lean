/- Texts of my own, packed: JsnO. Conditions: as each theorem states. -/
import Derived.Test.YtehkiojohldlgaaGreatDoorK10
import Derived.Test.YtehkiojohldlgaaGreatDoorK15
import Derived.Test.YtehkiojohldlgaaGreatDoorK17
import Derived.Test.YtehkiojohldlgaaGreatDoorK18
import Derived.Test.YtehkiojohldlgaaGreatDoorK43
namespace Go.Proofs.YtehkiojohldlgaaGreatDoor.Jsn
open Go.RowKit Go.Lib
open Go.Proofs.YtehkiojohldlgaaGreatDoor.Tre (Vt V0 find OkT OkT_iff okV OkT_srt InV InV_iff InS InS_in InS_one InV_next InV_shp Box box_new sm_self smB srt srtL_map mkO isort wi psame pright psort)
open Go.Proofs.YtehkiojohldlgaaGreatDoor.Rul (Ru ruC Row Rt kB can)
open Go.Proofs.YtehkiojohldlgaaGreatDoor.Thr (sck scn Rs Mod Ev ga lgS lgS_iff Fit CnP SmP)

/-- What a law's walk carries of a row of rules. -/
structure Jc (K : World → Prop) (w : World) (v : Value) (L : List Ru) (W : World) : Prop where
  row : Row W v L
  env : Ev W
  kk : K W
  bel : Below w.heap.size w W
theorem Jc.next {K : World → Prop} (hK : ∀ a b, K a → Below a.heap.size a b → K b) {w W W' : World} {v : Value} {L : List Ru} (h : Jc K w v L W) (hb : Below W.heap.size W W') : Jc K w v L W' :=
  ⟨h.row.next hb, h.env.next hb, hK _ _ h.kk hb, h.bel.trans (hb.mono h.bel.size)⟩
theorem Jc.alloc {K : World → Prop} (hK : ∀ a b, K a → Below a.heap.size a b → K b) {w W : World} {v : Value} {L : List Ru} (h : Jc K w v L W) (o : Obj) : Jc K w v L (W.alloc o) := h.next hK ((Below.refl _ _).alloc (Nat.le_refl _) o)
theorem name8 {r : Ru} {n : ByteArray} (hn : n ∈ (mem r).map Prod.fst) : n.size ≤ 8 := by
  have hu := in_mem r
  unfold unk at hu
  rw [List.find?_eq_none] at hu
  have := hu n hn
  have hq : isin all n = true := by simpa using this
  unfold isin at hq
  rw [List.any_eq_true] at hq
  obtain ⟨m, hm, he⟩ := hq
  rw [← of_decide_eq_true he]
  have key : ∀ n ∈ all, n.size ≤ 8 := by decide
  exact key m hm
theorem Nz_srt {B : Nat} (h8 : 8 ≤ B) (C : List Ru) : Nz B (srt (putV C)) := by
  intro x hx n hn
  have e : srt (putV C) = .mk 4 0 ⟨#[]⟩ ((C.map one).map srt) [] := by
    show mkO 4 0 ⟨#[]⟩ (Tre.srtL (C.map one)) [] = _
    unfold mkO
    rw [if_neg (fun h => absurd h.1 (by decide)), srtL_map]
  rw [e] at hx
  obtain ⟨y, hy, rfl⟩ := List.mem_map.1 (show x ∈ (C.map one).map srt from hx)
  obtain ⟨r, -, rfl⟩ := List.mem_map.1 hy
  rw [show srt (one r) = obj (isort (mem r)) from srt_obj (mem_leaf r)] at hn
  exact Nat.le_trans (name8 (((isort_perm (mem r)).map Prod.fst).mem_iff.1 hn)) h8
theorem inv_zero (W : World) : InV W V0 [.int .i64 0, .int .i64 0, .string ⟨#[]⟩, .slice none 0 0, .slice none 0 0] := InS_in _ _ (zero_in (fun _ => True) W)

set_option maxHeartbeats 8000000 in
set_option maxRecDepth 100000 in
theorem back_of {B : Nat} (h8 : 8 ≤ B) {K : World → Prop} (hK : ∀ a b, K a → Below a.heap.size a b → K b) (HCN : CnP) (HPU : PuP) (HOF : OfP B K) (HSM : SmP) (HAW : AwP K) (L : List Ru) (v : Value) (w : World) (hr : Row w v L) (hl : L.length ≤ 9223372036854775807) (hs : Fit L) (hE : Ev w) (hk : K w) :
    Calls Tryz.prog 5 #[v] w fun e w' => e = .returned (.bool true) ∧ Below w.heap.size w w' := by
  have HLG := Lib.hid fun W (h : Row W v L) => light_any L v W h hl hs
  have HAWh := Lib.hid fun W (k : Ev W) (q : K W) => HAW W k q
  have HJ0 := Lib.hid (⟨hr, hE, hk, Below.refl _ _⟩ : Jc K w v L w)
  have HKK := Lib.hid hK
  obtain ⟨ra, rc, rfl, -, -⟩ := hr.open_
  cases hlg : lgS L with
  | false =>
    rw [hlg] at HLG
    clear hr hs hE hlg HAW HPU HOF HCN HSM hk hK
    generalize L.length = ll at *
    go_enter Tryz.func5, Tryz.ntmps5
    go_wp2_with (first
      | (go_at_call 7; (with_reducible refine (HLG.out _ HJ0.out.row).mono ?_); rintro e w1 ⟨rfl, rfl⟩)
      | (go_at_call 9; (with_reducible refine (HAWh.out _ HJ0.out.env HJ0.out.kk).mono ?_); rintro e w1 ⟨rfl, hb1⟩))
    go_ret
    exact ⟨rfl, hb1⟩
  | true =>
    rw [hlg] at HLG
    by_cases h60 : 60 < L.length
    · have g1 : decide ((60 : Int) < (L.length : Int)) = true := decide_eq_true (by omega)
      have g2 : decide (60 < L.length) = true := decide_eq_true h60
      clear hr hs hE hlg HAW HPU HOF HCN HSM hk hK h60
      generalize L.length = ll at *
      go_enter Tryz.func5, Tryz.ntmps5
      go_wp2_with (first
        | (go_at_call 7; (with_reducible refine (HLG.out _ HJ0.out.row).mono ?_); rintro e w1 ⟨rfl, rfl⟩)
        | (go_at_call 9; (with_reducible refine (HAWh.out _ HJ0.out.env HJ0.out.kk).mono ?_); rintro e w1 ⟨rfl, hb1⟩))
      go_ret
      exact ⟨rfl, hb1⟩
    have g1 : decide ((60 : Int) < (L.length : Int)) = false := decide_eq_false (by omega)
    have g2 : decide (60 < L.length) = false := decide_eq_false h60
    have h5 : L.length ≤ 5000 := by omega
    have hmod := mod_of hlg
    have hro := ro_of hlg
    have H1 := Lib.hid fun W (h : Row W (.slice ra L.length rc) L) (k : Ev W) => HCN L _ W h h5 hmod k
    have H2 := Lib.hid fun W (h : Row W (.slice ra L.length rc) L) (k : Ev W) => HPU L _ W h h5 hmod k
    by_cases hz : (sck L).2 = 0
    · have hrs := (Thr.sck_zero L).1 hz
      have hsc := Thr.sck_ok hrs
      have hC := Thr.scn_right hrs
      have hpo : putO L = putV (scn L) := by unfold putO; rw [if_pos hz]
      have hok : OkT (putV (scn L)) := hpo ▸ OkT_putO hro
      have hcl : (scn L).length ≤ 9223372036854775807 := by rw [Thr.scn_len hrs]; omega
      have o1 := of_put hC
      have o2 := of_sorted hC
      rw [Thr.scn_scn hrs] at o1 o2
      have H3 := Lib.hid fun ds W (h : InV W (putV (scn L)) ds) (k : Ev W) (q : K W) => HOF (putV (scn L)) hok (hpo ▸ Nz_put h8 L) ds W h k q
      have H4 := Lib.hid fun ds W (h : InV W (putV (scn L)) ds) => psort (putV (scn L)) hok ds W h
      have H5 := Lib.hid fun ds W (h : InV W (srt (putV (scn L))) ds) (k : Ev W) (q : K W) => HOF (srt (putV (scn L))) (OkT_srt _ hok) (Nz_srt h8 (scn L)) ds W h k q
      have H6 := Lib.hid fun ds W (h : InV W (putV (scn L)) ds) (k : Ev W) => pright (putV (scn L)) hok ds W h k.utf
      have H7 := Lib.hid fun u1 u2 W (h : Row W u1 (scn L)) (k : Row W u2 (scn L)) => HSM (scn L) (scn L) u1 u2 W h k hcl hcl
      rw [Thr.sm_self] at H7
      rw [wi_put hC] at H6
      rw [o1.1, o1.2] at H3
      rw [o2.1, o2.2] at H5
      rw [hpo] at H2
      rw [hsc] at H1 H2
      clear hr hs hE hlg HAW HPU HOF HCN HSM hk hK h60 hmod hro hrs hsc hC hpo hok hcl o1 o2 hz h5
      generalize srt (putV (scn L)) = Q at *
      generalize putV (scn L) = P at *
      generalize scn L = C at *
      generalize L.length = ll at *
      go_enter Tryz.func5, Tryz.ntmps5
      go_wp2_with (first
        | (go_at_call 7; (with_reducible refine (HLG.out _ HJ0.out.row).mono ?_); rintro e w1 ⟨rfl, rfl⟩)
        | (go_at_call 22; (with_reducible refine (H1.out _ HJ0.out.row HJ0.out.env).mono ?_); rintro e w2 ⟨u2, rfl, hr2, hb2⟩; have C2 := Lib.hid hr2; have J2 := Lib.hid (HJ0.out.next HKK.out hb2); clear hr2 hb2)
        | (go_at_call 10; (with_reducible refine (H2.out _ J2.out.row J2.out.env).mono ?_); rintro e w3 ⟨es, rfl, hS, hb3⟩; have i3 := InS_in _ _ hS; obtain ⟨ez1, ez2, ez3, ez4, ez5, ez6, ez7, ez8, ez9, hes⟩ := InV_shp i3; subst hes; have V3 := Lib.hid (Va.new i3); have C3 := Lib.hid fun o => (C2.out.next hb3).next ((Below.refl w3.heap.size w3).alloc (Nat.le_refl _) o); have J3 := Lib.hid fun o => (J2.out.next HKK.out hb3).alloc HKK.out o; clear hb3 hS i3)
        | (refine Tre.wpList_fetch _ rfl _ rfl w3.heap.size _ rfl V3.out.bx rfl ?_)
        | (go_at_call 12; (with_reducible refine (H3.out _ _ V3.out.iv (J3.out _).env (J3.out _).kk).mono ?_); rintro e w4 ⟨u4, rfl, hr4, hb4⟩; have A4 := Lib.hid hr4; have C4 := Lib.hid ((C3.out _).next hb4); have V4 := Lib.hid (V3.out.next hb4); have J4 := Lib.hid ((J3.out _).next HKK.out hb4); clear hb4 hr4)
        | (refine Tre.wpList_fetch _ rfl _ rfl w3.heap.size _ rfl V4.out.bx rfl ?_)
        | (go_at_call 24; (with_reducible refine (H4.out _ _ V4.out.iv).mono ?_); rintro e w5 ⟨qs, rfl, hS, hb5⟩; have I5 := Lib.hid (InS_in _ _ hS); have A5 := Lib.hid (A4.out.next hb5); have C5 := Lib.hid (C4.out.next hb5); have V5 := Lib.hid (V4.out.next hb5); have J5 := Lib.hid (J4.out.next HKK.out hb5); clear hb5 hS)
        | (go_at_call 12; (with_reducible refine (H5.out _ _ I5.out J5.out.env J5.out.kk).mono ?_); rintro e w6 ⟨u6, rfl, hr6, hb6⟩; have B6 := Lib.hid hr6; have A6 := Lib.hid (A5.out.next hb6); have C6 := Lib.hid (C5.out.next hb6); have V6 := Lib.hid (V5.out.next hb6); have J6 := Lib.hid (J5.out.next HKK.out hb6); clear hb6 hr6)
        | (refine Tre.wpList_fetch _ rfl _ rfl w3.heap.size _ rfl V6.out.bx rfl ?_)
        | (go_at_call 25; (with_reducible refine (H6.out _ _ V6.out.iv J6.out.env).mono ?_); rintro e w7 ⟨rfl, hb7⟩; have B7 := Lib.hid (B6.out.next hb7); have A7 := Lib.hid (A6.out.next hb7); have C7 := Lib.hid (C6.out.next hb7); have J7 := Lib.hid (J6.out.next HKK.out hb7); clear hb7)
        | (go_at_call 26; first
          | ((with_reducible refine (H7.out _ _ _ B8.out C8.out).mono ?_); rintro e w9 ⟨rfl, hb9⟩; have J9 := Lib.hid (J8.out.next HKK.out hb9); clear hb9)
          | ((with_reducible refine (H7.out _ _ _ A7.out C7.out).mono ?_); rintro e w8 ⟨rfl, hb8⟩; have B8 := Lib.hid (B7.out.next hb8); have C8 := Lib.hid (C7.out.next hb8); have J8 := Lib.hid (J7.out.next HKK.out hb8); clear hb8))
        | (go_at_call 9; (with_reducible refine (HAWh.out _ J9.out.env J9.out.kk).mono ?_); rintro e wx ⟨rfl, hbx⟩))
      go_ret
      exact ⟨by simp, J9.out.bel.trans (hbx.mono J9.out.bel.size)⟩
    · have hpo : putO L = V0 := by unfold putO; rw [if_neg hz]
      have b1 : ((sck L).2 != 0) = true := by simpa using hz
      have H3 := Lib.hid fun ds W (h : InV W V0 ds) => psame V0 OkT_zero V0 OkT_zero ds _ W h (inv_zero W)
      rw [sm_self] at H3
      rw [hpo] at H2
      clear hr hs hE hlg HAW HPU HOF HCN HSM hk hK h60 hmod hro hpo hz h5
      generalize scn L = C at *
      generalize sck L = x at *
      obtain ⟨p, E⟩ := x
      dsimp only at b1 H1 H2
      generalize L.length = ll at *
      have q1 : (p.toList == p.toList) = true := beq_self_eq_true _
      have q2 : (E == E) = true := beq_self_eq_true _
      have q3 : (E != E) = false := by simp
      go_enter Tryz.func5, Tryz.ntmps5
      go_wp2_with (first
        | (go_at_call 7; (with_reducible refine (HLG.out _ HJ0.out.row).mono ?_); rintro e w1 ⟨rfl, rfl⟩)
        | (go_at_call 22; (with_reducible refine (H1.out _ HJ0.out.row HJ0.out.env).mono ?_); rintro e w2 ⟨u2, rfl, hr2, hb2⟩; have J2 := Lib.hid (HJ0.out.next HKK.out hb2); clear hr2 hb2)
        | (go_at_call 10; (with_reducible refine (H2.out _ J2.out.row J2.out.env).mono ?_); rintro e w3 ⟨es, rfl, hS, hb3⟩; have i3 := InS_in _ _ hS; obtain ⟨ez1, ez2, ez3, ez4, ez5, ez6, ez7, ez8, ez9, hes⟩ := InV_shp i3; subst hes; have V3 := Lib.hid (Va.new i3); have J3 := Lib.hid fun o => (J2.out.next HKK.out hb3).alloc HKK.out o; clear hb3 hS i3)
        | (refine Tre.wpList_fetch _ rfl _ rfl w3.heap.size _ rfl V3.out.bx rfl ?_)
        | (go_at_call 23; (with_reducible refine (H3.out _ _ V3.out.iv).mono ?_); rintro e w4 ⟨rfl, hb4⟩; have J4 := Lib.hid ((J3.out _).next HKK.out hb4); clear hb4)
        | (go_at_call 9; (with_reducible refine (HAWh.out _ J4.out.env J4.out.kk).mono ?_); rintro e wx ⟨rfl, hbx⟩))
      go_ret
      exact ⟨by simp, J4.out.bel.trans (hbx.mono J4.out.bel.size)⟩
end Go.Proofs.YtehkiojohldlgaaGreatDoor.Jsn
