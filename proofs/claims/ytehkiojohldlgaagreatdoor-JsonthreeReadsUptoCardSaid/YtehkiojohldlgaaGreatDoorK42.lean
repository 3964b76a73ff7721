/- Texts of my own, packed: JsnM. Conditions: as each theorem states. -/
import Derived.Test.YtehkiojohldlgaaGreatDoorK41
namespace Go.Proofs.YtehkiojohldlgaaGreatDoor.Jsn
open Go.RowKit Go.Lib
open Go.Proofs.YtehkiojohldlgaaGreatDoor.Tre (Vt V0 find OkT OkT_iff okV InV InV_iff InS InS_in InS_one InV_next InV_shp Box box_new cnt wr64 rcount rsame sm_self)
open Go.Proofs.YtehkiojohldlgaaGreatDoor.Rul (Ru ruC Row Rt kB)
open Go.Proofs.YtehkiojohldlgaaGreatDoor.Thr (sck scn Rs Mod Ev ga lgS lg1 lg1_iff lgS_long lgS_wide lgS_yes lgS_iff Fit rga_ga ga_mem)

set_option maxHeartbeats 4000000 in
set_option maxRecDepth 100000 in
theorem light_any (L : List Ru) (v : Value) (w : World) (hr : Row w v L) (hl : L.length ≤ 9223372036854775807) (hs : Fit L) :
    Calls Tryz.prog 7 #[v] w fun e w' => e = .returned (.bool (lgS L)) ∧ w = w' := by
  obtain ⟨a, cap, rfl, -, hc⟩ := hr.open_
  by_cases h60 : (60 < L.length ∧ L.length ≤ 4096) ∨ 5000 < L.length
  · rw [lgS_long h60]
    clear hc hr hs
    by_cases g1 : 5000 < L.length
    · have n1 : 60 < L.length := by omega
      have n2 : ¬ L.length ≤ 4096 := by omega
      clear h60
      go_enter Tryz.func7, Tryz.ntmps7
      go_wp2_with fail
      go_ret
      exact ⟨rfl, rfl⟩
    · have n1 : 60 < L.length := by omega
      have n2 : L.length ≤ 4096 := by omega
      clear h60 g1
      go_enter Tryz.func7, Tryz.ntmps7
      go_wp2_with fail
      go_ret
      exact ⟨rfl, rfl⟩
  · have HC := Lib.hid hc
    have HW := Lib.hid fun i => @lgS_wide L i
    have HY := Lib.hid (@lgS_yes L h60)
    have HS := Lib.hid hs
    have HL1 := Lib.hid fun r => lg1_iff r
    have n1 : ¬ 5000 < L.length := by omega
    have n2 : ¬ (60 < L.length ∧ L.length ≤ 4096) := by omega
    clear hc hr hs h60
    rcases (show ¬ 60 < L.length ∨ (60 < L.length ∧ ¬ L.length ≤ 4096) by omega) with n3 | ⟨n3, n4⟩
    all_goals
      clear n2
      go_enter Tryz.func7, Tryz.ntmps7
      go_wp2_with fail
      go_loop [19] (fun i => ∃ k : Nat, i = .int .i64 (k : Int) ∧ k ≤ L.length ∧ Hid (∀ j, j < k → lg1 (ga L j) = true)) (fun i => L.length - (RowKit.intOf i).toNat)
      case atStart => exact ⟨0, rfl, Nat.zero_le _, Lib.hid fun j hj => absurd hj (Nat.not_lt_zero _)⟩
      case round =>
        obtain ⟨k, rfl, hk, HA⟩ := hrel
        by_cases hlt : k < L.length
        · obtain ⟨b, off, rfl, hcl⟩ := HC.out k hlt
          rw [rga_ga] at hcl
          obtain ⟨c0, c1, c2, -⟩ := Rul.range_cells hcl
          have hsz := HS.out _ (ga_mem hlt)
          have HW2 := Lib.hid (HW.out k hlt)
          have HX := Lib.hid fun (h : lg1 (ga L k) = true) j (hj : j < k + 1) => by
            by_cases q : j < k
            · exact HA.out j q
            · obtain rfl : j = k := by omega
              exact h
          have HL2 := Lib.hid (HL1.out (ga L k))
          clear hcl
          generalize hq : lg1 (ga L k) = bq at *
          clear hq
          generalize (ga L k).id = x0 at *
          generalize (ga L k).no = x1 at *
          generalize (ga L k).ro = x2 at *
          obtain ⟨z0, z1, z2⟩ := hsz
          cases bq with
          | true =>
            obtain ⟨y0, y1, y2⟩ := HL2.out.1 rfl
            have HX2 := Lib.hid (HX.out rfl)
            go_wp2_with fail
            go_round
            case rel => exact ⟨k + 1, by go_num, by omega, HX2⟩
            case measure => simp [RowKit.intOf]; omega
          | false =>
            have HN : ¬ (x0.size ≤ 400 ∧ x1.size ≤ 400 ∧ x2.size ≤ 400) := fun h => by have := HL2.out.2 h; cases this
            have HZ := Lib.hid (HW2.out rfl)
            rcases (show ¬ x0.size ≤ 400 ∨ (x0.size ≤ 400 ∧ ¬ x1.size ≤ 400) ∨ (x0.size ≤ 400 ∧ x1.size ≤ 400 ∧ ¬ x2.size ≤ 400) by omega) with y0 | ⟨y0, y1⟩ | ⟨y0, y1, y2⟩
            all_goals
              clear HN
              go_wp2_with fail
              go_ret
              rw [HZ.out]
              exact ⟨rfl, rfl⟩
        · obtain rfl : k = L.length := by omega
          have HZ := Lib.hid (HY.out HA.out)
          go_wp2_with fail
          go_ret
          rw [HZ.out]
          exact ⟨rfl, rfl⟩
/-- What a law's walk carries of its two arguments. -/
structure Ja (K : World → Prop) (w : World) (X : Vt) (cs : List Value) (v : Value) (L : List Ru) (W : World) : Prop where
  inv : InV W X cs
  row : Row W v L
  env : Ev W
  kk : K W
  box : Box W w.heap.size cs.toArray
  bel : Below w.heap.size w W
theorem Ja.next {K : World → Prop} (hK : ∀ a b, K a → Below a.heap.size a b → K b) {w W W' : World} {X : Vt} {cs : List Value} {v : Value} {L : List Ru} (h : Ja K w X cs v L W) (hb : Below W.heap.size W W') : Ja K w X cs v L W' :=
  ⟨InV_next hb _ _ h.inv, h.row.next hb, h.env.next hb, hK _ _ h.kk hb, h.box.next hb h.box.lt, h.bel.trans (hb.mono h.bel.size)⟩
theorem Ja.start {K : World → Prop} (hK : ∀ a b, K a → Below a.heap.size a b → K b) {w : World} {X : Vt} {cs : List Value} {v : Value} {L : List Ru} (hi : InV w X cs) (hr : Row w v L) (hE : Ev w) (hk : K w) : Ja K w X cs v L (w.alloc (.cells cs.toArray 26)) := by
  have hb : Below w.heap.size w (w.alloc (.cells cs.toArray 26)) := (Below.refl _ _).alloc (Nat.le_refl _) _
  exact ⟨InV_next hb _ _ hi, hr.next hb, hE.next hb, hK _ _ hk hb, box_new _ _, hb⟩
theorem Ja.alloc {K : World → Prop} (hK : ∀ a b, K a → Below a.heap.size a b → K b) {w W : World} {X : Vt} {cs : List Value} {v : Value} {L : List Ru} (h : Ja K w X cs v L W) (o : Obj) : Ja K w X cs v L (W.alloc o) := h.next hK ((Below.refl _ _).alloc (Nat.le_refl _) o)
/-- A value that a call made, in a variable of its own. -/
structure Va (g : Nat) (x : Vt) (ds : List Value) (W : World) : Prop where
  bx : Box W g ds.toArray
  iv : InV W x ds
theorem Va.next {g : Nat} {x : Vt} {ds : List Value} {W W' : World} (h : Va g x ds W) (hb : Below W.heap.size W W') : Va g x ds W' := ⟨h.bx.next hb h.bx.lt, InV_next hb _ _ h.iv⟩
theorem Va.new {x : Vt} {ds : List Value} {W : World} (h : InV W x ds) : Va W.heap.size x ds (W.alloc (.cells ds.toArray 26)) := ⟨box_new _ _, InV_next ((Below.refl _ _).alloc (Nat.le_refl _) _) _ _ h⟩
theorem mod_of {L : List Ru} (h : lgS L = true) : Mod L := fun r hr => by
  have := (lgS_iff h).2.2 r hr
  omega
theorem ro_of {L : List Ru} (h : lgS L = true) : ∀ r ∈ L, r.ro.size ≤ 140737488351232 := fun r hr => by
  have := (lgS_iff h).2.2 r hr
  omega

set_option maxHeartbeats 8000000 in
set_option maxRecDepth 100000 in
theorem says_of {B : Nat} {K : World → Prop} (hK : ∀ a b, K a → Below a.heap.size a b → K b) (HPU : PuP) (HOF : OfP B K) (HAW : AwP K) (L : List Ru) (v : Value) (X : Vt) (hX : OkT X) (hN : Nz B X) (cs : List Value) (w : World) (hr : Row w v L) (hl : L.length ≤ 9223372036854775807) (hs : Fit L)
    (hi : InV w X cs) (hE : Ev w) (hk : K w) :
    Calls Tryz.prog 3 #[v, .agg cs.toArray] w fun e w' => e = .returned (.bool true) ∧ Below w.heap.size w w' := by
  have HLG := Lib.hid fun W (h : Row W v L) => light_any L v W h hl hs
  have HC := Lib.hid fun W (h : InV W X cs) => rcount X hX cs W h
  have HAWh := Lib.hid fun W (k : Ev W) (q : K W) => HAW W k q
  have HJ0 := Lib.hid (Ja.start hK hi hr hE hk)
  have HO1 := Lib.hid fun W (h : InV W X cs) (k : Ev W) (q : K W) => HOF X hX hN cs W h k q
  have HO2 := Lib.hid fun W (h : InV W X cs) (k : Ev W) => rof_any X hX cs W h k.pow
  have HKK := Lib.hid hK
  obtain ⟨a, cap, c4, rfl, -, hsr⟩ := (InV_iff w X cs).1 hi
  obtain ⟨a2, cap2, rfl, -⟩ := hsr.open_
  have hrow := hr
  obtain ⟨ra, rc, rfl, -, -⟩ := hrow.open_
  cases hlg : lgS L with
  | false =>
    rw [hlg] at HLG
    clear hr hs hE hlg HAW HPU HOF hi hX hN hk hsr hK HC HO1 HO2 hrow
    generalize X.k = k1 at *
    generalize X.n = m1 at *
    generalize X.s = s1 at *
    generalize X.l.length = l1 at *
    generalize X.ns.length = n1 at *
    generalize L.length = ll at *
    go_enter Tryz.func3, Tryz.ntmps3
    go_wp2_with (first
      | (go_at_call 7; (with_reducible refine (HLG.out _ HJ0.out.row).mono ?_); rintro e w1 ⟨rfl, rfl⟩)
      | (go_at_call 9; (with_reducible refine (HAWh.out _ HJ0.out.env HJ0.out.kk).mono ?_); rintro e w1 ⟨rfl, hb1⟩))
    go_ret
    exact ⟨rfl, HJ0.out.bel.trans (hb1.mono HJ0.out.bel.size)⟩
  | true =>
    rw [hlg] at HLG
    by_cases hc : 500 < wr64 (cnt X : Int)
    · have g1 : decide ((500 : Int) < wr64 (cnt X : Int)) = true := decide_eq_true hc
      clear hr hs hE hlg HAW HPU HOF hi hX hN hk hsr hK HO1 HO2 hc hrow
      generalize wr64 (cnt X : Int) = cn at *
      generalize X.k = k1 at *
      generalize X.n = m1 at *
      generalize X.s = s1 at *
      generalize X.l.length = l1 at *
      generalize X.ns.length = n1 at *
      generalize L.length = ll at *
      go_enter Tryz.func3, Tryz.ntmps3
      go_wp2_with (first
        | (go_at_call 7; (with_reducible refine (HLG.out _ HJ0.out.row).mono ?_); rintro e w1 ⟨rfl, rfl⟩)
        | (refine Tre.wpList_fetch_g _ (by rfl) _ rfl w.heap.size _ rfl HJ0.out.box rfl ?_)
        | (go_at_call 8; (with_reducible refine (HC.out _ HJ0.out.inv).mono ?_); rintro e w2 ⟨rfl, hb2⟩; have J2 := Lib.hid (HJ0.out.next HKK.out hb2); clear hb2)
        | (go_at_call 9; (with_reducible refine (HAWh.out _ J2.out.env J2.out.kk).mono ?_); rintro e w1 ⟨rfl, hb1⟩))
      go_ret
      exact ⟨rfl, J2.out.bel.trans (hb1.mono J2.out.bel.size)⟩
    · have g1 : decide ((500 : Int) < wr64 (cnt X : Int)) = false := decide_eq_false hc
      have h5 := (lgS_iff hlg).1
      have hmod := mod_of hlg
      have hok := OkT_putO (ro_of hlg)
      have hcl : (scn L).length ≤ 5000 := Thr.scn_size h5
      have H1 := Lib.hid fun W (h : Row W (.slice ra L.length rc) L) (k : Ev W) => HPU L _ W h h5 hmod k
      have H2 := Lib.hid fun W (h : Row W (.slice ra L.length rc) L) (k : Ev W) => rput_any L _ W h hl hmod k.pow
      have H3 := Lib.hid fun ds es W (h : InV W (putO L) ds) (k : InV W (putO L) es) => rsame (putO L) hok (putO L) hok ds es W h k
      rw [sm_self] at H3
      have hol : (ofR X).length ≤ 9223372036854775807 := by
        unfold ofR
        split
        · rename_i hz
          have := Thr.scn_len (of_zero hz).2.1
          have := (of_zero hz).2.1.len
          omega
        · exact Nat.zero_le _
      have H4 := Lib.hid fun u1 u2 W (h : Row W u1 (ofR X)) (k : Row W u2 (ofR X)) => Thr.rsame_any (ofR X) (ofR X) u1 u2 W h k hol hol
      rw [Thr.sm_self] at H4
      clear hr hs hE hlg HAW HPU HOF hi hX hN hk hsr hK hc hmod hok hcl hol h5 hrow
      generalize wr64 (cnt X : Int) = cn at *
      generalize sck L = x at *
      obtain ⟨p, E⟩ := x
      generalize ofE X = y at *
      obtain ⟨p', E'⟩ := y
      dsimp only at H1 H2 HO1 HO2
      generalize putO L = P at *
      generalize ofR X = R at *
      generalize X.k = k1 at *
      generalize X.n = m1 at *
      generalize X.s = s1 at *
      generalize X.l.length = l1 at *
      generalize X.ns.length = n1 at *
      generalize L.length = ll at *
      have q1 : (p.toList == p.toList) = true := beq_self_eq_true _
      have q2 : (p'.toList == p'.toList) = true := beq_self_eq_true _
      have q3 : (E == E) = true := beq_self_eq_true _
      have q4 : (E' == E') = true := beq_self_eq_true _
      go_enter Tryz.func3, Tryz.ntmps3
      go_wp2_with (first
        | (go_at_call 7; (with_reducible refine (HLG.out _ HJ0.out.row).mono ?_); rintro e w1 ⟨rfl, rfl⟩)
        | (refine Tre.wpList_fetch_g _ (by rfl) _ rfl w.heap.size _ rfl HJ0.out.box rfl ?_)
        | (go_at_call 8; (with_reducible refine (HC.out _ HJ0.out.inv).mono ?_); rintro e w2 ⟨rfl, hb2⟩; have J2 := Lib.hid (HJ0.out.next HKK.out hb2); clear hb2)
        | (go_at_call 10; (with_reducible refine (H1.out _ J2.out.row J2.out.env).mono ?_); rintro e w3 ⟨es, rfl, hS, hb3⟩; have i3 := InS_in _ _ hS; obtain ⟨ez1, ez2, ez3, ez4, ez5, ez6, ez7, ez8, ez9, hes⟩ := InV_shp i3; subst hes; have V3 := Lib.hid (Va.new i3); have J3 := Lib.hid fun o => (J2.out.next HKK.out hb3).alloc HKK.out o; clear hb3 hS i3)
        | (go_at_call 11; (with_reducible refine (H2.out _ (J3.out _).row (J3.out _).env).mono ?_); rintro e w4 ⟨es, rfl, hS, hb4⟩; have i4 := InS_in _ _ hS; obtain ⟨fz1, fz2, fz3, fz4, fz5, fz6, fz7, fz8, fz9, hes⟩ := InV_shp i4; subst hes; have U4 := Lib.hid (Va.new i4); have V4 := Lib.hid fun o => (V3.out.next hb4).next ((Below.refl w4.heap.size w4).alloc (Nat.le_refl _) o); have J4 := Lib.hid fun o => ((J3.out _).next HKK.out hb4).alloc HKK.out o; clear hb4 hS i4)
        | (refine Tre.wpList_fetch _ rfl _ rfl w.heap.size _ rfl (J4.out _).box rfl ?_)
        | (go_at_call 12; (with_reducible refine (HO1.out _ (J4.out _).inv (J4.out _).env (J4.out _).kk).mono ?_); rintro e w5 ⟨u5, rfl, hr5, hb5⟩; have R5 := Lib.hid hr5; have U5 := Lib.hid (U4.out.next hb5); have V5 := Lib.hid ((V4.out _).next hb5); have J5 := Lib.hid ((J4.out _).next HKK.out hb5); clear hb5 hr5)
        | (refine Tre.wpList_fetch _ rfl _ rfl w.heap.size _ rfl J5.out.box rfl ?_)
        | (go_at_call 13; (with_reducible refine (HO2.out _ J5.out.inv J5.out.env).mono ?_); rintro e w6 ⟨u6, rfl, hr6, hb6⟩; have R6 := Lib.hid hr6; have Q6 := Lib.hid (R5.out.next hb6); have U6 := Lib.hid (U5.out.next hb6); have V6 := Lib.hid (V5.out.next hb6); have J6 := Lib.hid (J5.out.next HKK.out hb6); clear hb6 hr6)
        | (refine Tre.wpList_fetch _ rfl _ rfl w3.heap.size _ rfl V6.out.bx rfl ?_)
        | (refine Tre.wpList_fetch _ rfl _ rfl w4.heap.size _ rfl U6.out.bx rfl ?_)
        | (go_at_call 14; (with_reducible refine (H3.out _ _ _ V6.out.iv U6.out.iv).mono ?_); rintro e w7 ⟨rfl, hb7⟩; have R7 := Lib.hid (R6.out.next hb7); have Q7 := Lib.hid (Q6.out.next hb7); have J7 := Lib.hid (J6.out.next HKK.out hb7); clear hb7)
        | (go_at_call 15; (with_reducible refine (H4.out _ _ _ Q7.out R7.out).mono ?_); rintro e w8 ⟨rfl, hb8⟩; have J8 := Lib.hid (J7.out.next HKK.out hb8); clear hb8)
        | (go_at_call 9; (with_reducible refine (HAWh.out _ J8.out.env J8.out.kk).mono ?_); rintro e w9 ⟨rfl, hb9⟩))
      go_ret
      exact ⟨by simp, J8.out.bel.trans (hb9.mono J8.out.bel.size)⟩
end Go.Proofs.YtehkiojohldlgaaGreatDoor.Jsn
