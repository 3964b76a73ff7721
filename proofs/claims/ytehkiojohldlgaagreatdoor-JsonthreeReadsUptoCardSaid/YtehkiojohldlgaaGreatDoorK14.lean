/- Texts of my own, packed: TreRb. Conditions: as each theorem states. -/
import Derived.Deep.RegionHeld3
import Derived.Test.YtehkiojohldlgaaGreatDoorK10
namespace Go.Proofs.YtehkiojohldlgaaGreatDoor.Tre
open Go.RowKit Go.Lib Go.Proofs.YtehkiojohldlgaaGreatDoor.Byt

/-- Two variables made ahead stand as they were made. -/
def TB (w : World) (x y : Obj) (W : World) : Prop := Below ((w.alloc x).alloc y).heap.size ((w.alloc x).alloc y) W
theorem TB.start (w : World) (x y : Obj) : TB w x y ((w.alloc x).alloc y) := Below.refl _ _
theorem TB.next {w W W' : World} {x y : Obj} (h : TB w x y W) (hb : Below W.heap.size W W') : TB w x y W' := Tre.next h hb
theorem TB.drew {w W : World} {x y : Obj} (h : TB w x y W) : TB w x y W.drew := Below.drew h
theorem TB.below {w W : World} {x y : Obj} (h : TB w x y W) : Below w.heap.size w W := (two_boxes h).2.2
theorem TB.one {w W : World} {c d : Array Value} (h : TB w (.cells c 26) (.cells d 26) W) : Box W w.heap.size c := (two_boxes h).1
theorem TB.two {w W : World} {c d : Array Value} (h : TB w (.cells c 26) (.cells d 26) W) : Box W (w.heap.size + 1) d := (two_boxes h).2.1
attribute [irreducible] TB
theorem InV_cells {w : World} {v : Vt} {cs : List Value} (h : InV w v cs) : ∃ a cap c4, cs = [.int .i64 v.k, .int .i64 v.n, .string v.s, .slice a v.l.length cap, c4] := by
  obtain ⟨a, cap, c4, e, _⟩ := (InV_iff w v cs).1 h
  exact ⟨a, cap, c4, e⟩

set_option maxHeartbeats 4000000 in
set_option maxRecDepth 100000 in
theorem rsame_any (v u : Vt) (cs ds : List Value) (w : World) (h : InV w v cs) (k : InV w u ds) (hv : okV v)
    (ih : ∀ x ∈ v.l, ∀ y ∈ u.l, ∀ cs ds w, InV w x cs → InV w y ds → Calls Tryz.prog 14 #[.agg cs.toArray, .agg ds.toArray] w fun e w' => e = .returned (.bool (smB x y)) ∧ Below w.heap.size w w') :
    Calls Tryz.prog 14 #[.agg cs.toArray, .agg ds.toArray] w fun e w' => e = .returned (.bool (smB v u)) ∧ Below w.heap.size w w' := by
  obtain ⟨a1, p1, c4, rfl, hit, hr⟩ := (InV_iff w v cs).1 h
  obtain ⟨a2, p2, d4, rfl, kit, kr⟩ := (InV_iff w u ds).1 k
  obtain ⟨n1, q1, rfl, hn⟩ := hr.open_
  obtain ⟨n2, q2, rfl, kn⟩ := kr.open_
  have hsm := sm_parts v u
  have HIT := Lib.hid hit
  have KIT := Lib.hid kit
  have HN := Lib.hid hn
  have KN := Lib.hid kn
  have HIH := Lib.hid ih
  have hmx : v.l.length ≤ 9223372036854775807 := by have := hv.2.2.2.1; omega
  have hmy : v.ns.length ≤ 9223372036854775807 := by have := hv.2.2.2.2.1; omega
  clear h k hv ih hit kit hr kr hn kn
  generalize smB v u = C at *
  generalize v.l = l1 at *
  generalize u.l = l2 at *
  generalize v.ns = ns at *
  generalize u.ns = ms at *
  generalize v.k = k1 at *
  generalize u.k = k2 at *
  generalize v.n = m1 at *
  generalize u.n = m2 at *
  generalize v.s = s1 at *
  generalize u.s = s2 at *
  have HSM := Lib.hid hsm
  clear hsm
  have T0 := Lib.hid (TB.start w (.cells #[.int .i64 k1, .int .i64 m1, .string s1, .slice a1 l1.length p1, .slice n1 ns.length q1] 26) (.cells #[.int .i64 k2, .int .i64 m2, .string s2, .slice a2 l2.length p2, .slice n2 ms.length q2] 26))
  by_cases hg : k1 = k2 ∧ m1 = m2 ∧ s1 = s2 ∧ l1.length = l2.length ∧ ns.length = ms.length
  · obtain ⟨rfl, rfl, rfl, hl, hnl⟩ := hg
    have HL := Lib.hid hl
    have HNL := Lib.hid hnl
    rw [← hl] at T0 ⊢
    rw [← hnl] at T0 ⊢
    clear hl hnl
    have hse : (s1.toList == s1.toList) = true := by simp
    go_enter Tryz.func14, Tryz.ntmps14
    go_wp2_with fail
    go_loopw [47] (fun x wr => ∃ i : Nat, x = .int .i64 (i : Int) ∧ i ≤ ns.length ∧ TB w (.cells #[.int .i64 k1, .int .i64 m1, .string s1, .slice a1 l1.length p1, .slice n1 ns.length q1] 26) (.cells #[.int .i64 k1, .int .i64 m1, .string s1, .slice a2 l1.length p2, .slice n2 ns.length q2] 26) wr ∧ Hid (∀ j, j < i → ns.getD j ⟨#[]⟩ = ms.getD j ⟨#[]⟩))
      (fun x _ => ns.length - (RowKit.intOf x).toNat)
    case atStart => exact ⟨0, by go_num, by omega, T0.out, Lib.hid fun j hj => absurd hj (Nat.not_lt_zero _)⟩
    case round =>
      obtain ⟨i, rfl, hi, tb, hz⟩ := hrel
      by_cases hlt : i < ns.length
      · obtain ⟨b, off, rfl, f1⟩ := HN.out i hlt
        obtain ⟨bb, oo, rfl, f2⟩ := KN.out i (HNL.out ▸ hlt)
        have x4 : wr.cell? ⟨w.heap.size, 4, none⟩ = some (.slice (some ⟨b, off, none⟩) ns.length q1) := tb.one.cell 4
        have y4 : wr.cell? ⟨w.heap.size + 1, 4, none⟩ = some (.slice (some ⟨bb, oo, none⟩) ns.length q2) := tb.two.cell 4
        have g1 := (tb.below.cell (Strs.cell_lt f1)).trans f1
        have g2 := (tb.below.cell (Strs.cell_lt f2)).trans f2
        obtain ⟨A, hA⟩ : ∃ A, A = ns.getD i ⟨#[]⟩ := ⟨_, rfl⟩
        obtain ⟨B, hB⟩ : ∃ B, B = ms.getD i ⟨#[]⟩ := ⟨_, rfl⟩
        rw [← hA] at g1
        rw [← hB] at g2
        have HA := Lib.hid hA
        have HB := Lib.hid hB
        clear f1 f2 hA hB
        by_cases hAB : A = B
        · subst hAB
          have e1 : (A.toList == A.toList) = true := by simp
          go_wp2_with fail
          go_region
          all_goals
            go_wp2_with fail
            go_roundw
            case rel =>
              refine ⟨i + 1, by go_num, by omega, tb.drew, Lib.hid fun j hj => ?_⟩
              by_cases hji : j < i
              · exact hz.out j hji
              · obtain rfl : j = i := by omega
                rw [← HA.out, ← HB.out]
            case measure => simp [RowKit.intOf]; omega
        · have e1 : (A.toList == B.toList) = false := Byt.str_neq hAB
          have HC : Hid (C = false) := by
            refine Lib.hid ?_
            rw [HSM.out, decide_eq_false (fun q => hAB (by rw [HA.out, HB.out, q.2.2.2]))]
            rfl
          clear hAB
          go_wp2_with fail
          go_region
          all_goals
            go_wp2_with fail
            go_ret
            exact ⟨by rw [HC.out]; rfl, tb.drew.below⟩
      · obtain rfl : i = ns.length := by omega
        have HNE := Lib.hid ((ns_at HNL.out).2 hz.out)
        have x3 : wr.cell? ⟨w.heap.size, 3, none⟩ = some (.slice a1 l1.length p1) := tb.one.cell 3
        clear hz HN KN
        go_wp2_with fail
        go_loopw [65] (fun x wr => ∃ i : Nat, x = .int .i64 (i : Int) ∧ i ≤ l1.length ∧ TB w (.cells #[.int .i64 k1, .int .i64 m1, .string s1, .slice a1 l1.length p1, .slice n1 ns.length q1] 26) (.cells #[.int .i64 k1, .int .i64 m1, .string s1, .slice a2 l1.length p2, .slice n2 ns.length q2] 26) wr ∧ Hid (∀ j, j < i → smB (l1.getD j V0) (l2.getD j V0) = true))
          (fun x _ => l1.length - (RowKit.intOf x).toNat)
        case atStart => exact ⟨0, by go_num, by omega, tb, Lib.hid fun j hj => absurd hj (Nat.not_lt_zero _)⟩
        case round =>
          clear tb x3
          obtain ⟨i, rfl, hi, tb, hz⟩ := hrel
          by_cases hlt : i < l1.length
          · obtain ⟨b, off, rfl, ds, hrg, hin⟩ := HIT.out i hlt
            obtain ⟨bb, oo, rfl, es, krg, kin⟩ := KIT.out i (HL.out ▸ hlt)
            have hrg2 := range_next hrg tb.below
            rw [Nat.mul_comm 5 i] at hrg2
            have krg2 := range_next krg tb.below
            rw [Nat.mul_comm 5 i] at krg2
            have HI := Lib.hid (InV_next tb.below _ _ hin)
            have KI := Lib.hid (InV_next tb.below _ _ kin)
            have HX := Lib.hid fun W (hb : Below wr.heap.size wr W) => HIH.out _ (mem_get hlt) _ (mem_get (HL.out ▸ hlt)) ds es W (InV_next hb _ _ HI.out) (InV_next hb _ _ KI.out)
            obtain ⟨z1, z2, z3, rfl⟩ := InV_cells hin
            obtain ⟨y1, y2, y3, rfl⟩ := InV_cells kin
            have hst : smB (l1.getD i V0) (l2.getD i V0) = true → ∀ j, j < i + 1 → smB (l1.getD j V0) (l2.getD j V0) = true := by
              intro q j hj
              by_cases hji : j < i
              · exact hz.out j hji
              · obtain rfl : j = i := by omega
                exact q
            have HST := Lib.hid hst
            have HSP := Lib.hid (smL_stop HL.out hlt)
            have FX : ∀ {a x : _} {W : World}, Below wr.heap.size wr W → wr.cell? a = some x → W.cell? a = some x := fun hb hc => (hb.cell (Strs.cell_lt hc)).trans hc
            have x3 : ∀ W, Below wr.heap.size wr W → W.cell? ⟨w.heap.size, 3, none⟩ = some (.slice (some ⟨b, off, none⟩) l1.length p1) := fun W hb => FX hb (tb.one.cell 3)
            have w3 : ∀ W, Below wr.heap.size wr W → W.cell? ⟨w.heap.size + 1, 3, none⟩ = some (.slice (some ⟨bb, oo, none⟩) l1.length p2) := fun W hb => FX hb (tb.two.cell 3)
            have r0 : ∀ W, Below wr.heap.size wr W → W.cell? ⟨b, off + i * 5, none⟩ = some (.int .i64 (l1.getD i V0).k) := fun W hb => FX hb (hrg2 0 _ rfl)
            have r1 := fun W (hb : Below wr.heap.size wr W) => FX hb (hrg2 1 _ rfl)
            have r2 := fun W (hb : Below wr.heap.size wr W) => FX hb (hrg2 2 _ rfl)
            have r3 := fun W (hb : Below wr.heap.size wr W) => FX hb (hrg2 3 _ rfl)
            have r4 := fun W (hb : Below wr.heap.size wr W) => FX hb (hrg2 4 _ rfl)
            have t0 : ∀ W, Below wr.heap.size wr W → W.cell? ⟨bb, oo + i * 5, none⟩ = some (.int .i64 (l2.getD i V0).k) := fun W hb => FX hb (krg2 0 _ rfl)
            have t1 := fun W (hb : Below wr.heap.size wr W) => FX hb (krg2 1 _ rfl)
            have t2 := fun W (hb : Below wr.heap.size wr W) => FX hb (krg2 2 _ rfl)
            have t3 := fun W (hb : Below wr.heap.size wr W) => FX hb (krg2 3 _ rfl)
            have t4 := fun W (hb : Below wr.heap.size wr W) => FX hb (krg2 4 _ rfl)
            have h0 : Below wr.heap.size wr wr.drew := (Below.refl _ _).drew
            have HTB := Lib.hid tb
            clear FX hst hz hin kin hrg krg hrg2 krg2 HIT KIT HIH tb
            generalize l1.getD i V0 = X at *
            generalize l2.getD i V0 = Y at *
            cases hs : smB X Y
            all_goals
              rw [hs] at HX
              have HS := Lib.hid hs
              clear hs
              go_wp2_with fail
              go_region_held3 (Below wr.heap.size wr) (first | exact h0 | assumption)
                ((go_at_call 14; (with_reducible refine (HX.out _ (by assumption)).mono ?_); rintro e w6 ⟨rfl, hb6⟩; have hb7 := Tre.next (a := wr) (by assumption) hb6))
            · all_goals
                go_wp2_with fail
                go_ret
                refine ⟨?_, (TB.next HTB.out hb7).below⟩
                have : C = false := by
                  rw [HSM.out, HSP.out HS.out]; simp
                rw [this]; rfl
            · all_goals
                go_wp2_with fail
                go_roundw
                case rel => exact ⟨i + 1, by go_num, by omega, TB.next HTB.out hb7, Lib.hid (HST.out HS.out)⟩
                case measure => simp [RowKit.intOf]; omega
          · obtain rfl : i = l1.length := by omega
            have HC : Hid (C = true) := by
              refine Lib.hid ?_
              rw [HSM.out, (smL_at l1 l2 HL.out).2 hz.out, HNE.out]
              simp
            clear hz
            go_wp2_with fail
            go_ret
            exact ⟨by rw [HC.out]; rfl, tb.below⟩
  · have hC : C = false := by
      rw [HSM.out]
      cases hq : (decide (k1 = k2 ∧ m1 = m2 ∧ s1 = s2 ∧ ns = ms) && smL l1 l2) with
      | false => rfl
      | true =>
        rw [Bool.and_eq_true, decide_eq_true_eq] at hq
        exact absurd ⟨hq.1.1, hq.1.2.1, hq.1.2.2.1, smL_len _ _ hq.2, congrArg List.length hq.1.2.2.2⟩ hg
    subst hC
    clear HSM HIT KIT HIH HN KN
    by_cases e1 : k1 = k2
    · subst e1
      by_cases e2 : m1 = m2
      · subst e2
        by_cases e3 : s1 = s2
        · subst e3
          have f3 : (s1.toList == s1.toList) = true := by simp
          by_cases e4 : l1.length = l2.length
          · have e5 : ¬ ns.length = ms.length := fun q => hg ⟨rfl, rfl, rfl, e4, q⟩
            have f4 : ((l1.length : Int) != (l2.length : Int)) = false := by rw [bne_eq_false_iff_eq]; omega
            have f5 : ((ns.length : Int) != (ms.length : Int)) = true := by rw [bne_iff_ne]; omega
            clear hg e4 e5
            go_enter Tryz.func14, Tryz.ntmps14
            go_wp2_with fail
            go_ret
            exact ⟨rfl, T0.out.below⟩
          · have f4 : ((l1.length : Int) != (l2.length : Int)) = true := by rw [bne_iff_ne]; omega
            clear hg e4
            go_enter Tryz.func14, Tryz.ntmps14
            go_wp2_with fail
            go_ret
            exact ⟨rfl, T0.out.below⟩
        · have f3 : (s1.toList == s2.toList) = false := Byt.str_neq e3
          clear hg e3
          go_enter Tryz.func14, Tryz.ntmps14
          go_wp2_with fail
          go_ret
          exact ⟨rfl, T0.out.below⟩
      · have f2 : ((m1 : Int) != m2) = true := by rw [bne_iff_ne]; exact e2
        clear hg e2
        go_enter Tryz.func14, Tryz.ntmps14
        go_wp2_with fail
        go_ret
        exact ⟨rfl, T0.out.below⟩
    · have f1 : ((k1 : Int) != k2) = true := by rw [bne_iff_ne]; exact e1
      clear hg e1
      go_enter Tryz.func14, Tryz.ntmps14
      go_wp2_with fail
      go_ret
      exact ⟨rfl, T0.out.below⟩
theorem rsame (v : Vt) (hv : OkT v) : ∀ (u : Vt), OkT u → ∀ (cs ds : List Value) (w : World), InV w v cs → InV w u ds → Calls Tryz.prog 14 #[.agg cs.toArray, .agg ds.toArray] w fun e w' => e = .returned (.bool (smB v u)) ∧ Below w.heap.size w w' := by
  revert hv
  refine vt_ind (p := fun v => OkT v → ∀ (u : Vt), OkT u → ∀ (cs ds : List Value) (w : World), InV w v cs → InV w u ds → Calls Tryz.prog 14 #[.agg cs.toArray, .agg ds.toArray] w fun e w' => e = .returned (.bool (smB v u)) ∧ Below w.heap.size w w') ?_ v
  intro v ih hv u hu cs ds w h k
  obtain ⟨_, h1, h2⟩ := hv
  obtain ⟨_, _, k2⟩ := hu
  exact rsame_any v u cs ds w h k h1 fun x hx y hy => ih x hx (h2 x hx) y (k2 y hy)
end Go.Proofs.YtehkiojohldlgaaGreatDoor.Tre
