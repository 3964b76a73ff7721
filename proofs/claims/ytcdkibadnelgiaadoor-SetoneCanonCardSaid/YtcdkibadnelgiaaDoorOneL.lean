/- Laws of sets of rules of version 1: SetoneEdges, out of what the code's calls answer. Conditions: as each theorem states. -/
import Derived.Test.YtcdkibadnelgiaaDoorOneK
namespace Go.Proofs.YtcdkibadnelgiaaDoor.One
open Go.RowKit Go.Lib Go.Proofs.YtcdkibadnelgiaaDoor.Real
open Go.Proofs.YtcdkibadnelgiaaDoor.Ren (Pw)

def rX (b : Nat) (q : Int) : Ro := ⟨⟨#[97]⟩, ⟨#[47]⟩, b, q⟩
theorem row_X (W : World) (g b : Nat) (q : Int) (hg : g = W.heap.size) : Row (W.alloc (.cells #[.string ⟨#[97]⟩, .string ⟨#[47]⟩, .float .f64 b, .int .i64 q] 33)) (.slice (some ⟨g, 0, none⟩) 1 1) [rX b q] := by
  subst hg
  exact row_one W (rX b q)
theorem sck_X3 {b : Nat} {q : Int} (h : ((me b : Nat) : Int) ≠ 0) : sck [rX b q] = (⟨#[47, 48, 47, 112, 101, 114, 83, 101, 99, 111, 110, 100]⟩, ((me b : Nat) : Int)) := by
  have hc : chk (rX b q) = (f3, ((me b : Nat) : Int)) := chk_3 (r := rX b q) isN_a isP_1 h
  rw [sck_one (by rw [hc]; exact h), hc]
  rfl
theorem sck_X4 {b : Nat} {q : Int} (h : ((me b : Nat) : Int) = 0) (h4 : ¬ (1 ≤ q ∧ q ≤ 1000000)) : sck [rX b q] = (⟨#[47, 48, 47, 98, 117, 114, 115, 116]⟩, 2) := by
  have hc : chk (rX b q) = (f4, 2) := chk_4 (r := rX b q) isN_a isP_1 h h4
  rw [sck_one (by rw [hc]; decide), hc]
  rfl
theorem rt_X {b : Nat} {q : Int} (h : ((me b : Nat) : Int) = 0) (h4 : 1 ≤ q ∧ q ≤ 1000000) : Rt (rX b q) := ⟨isN_a, isP_1, by have := h; show me b = 0; omega, h4⟩
theorem scn_X {b : Nat} {q : Int} (h : Rt (rX b q)) : scn [rX b q] = [⟨⟨#[97]⟩, ⟨#[47]⟩, thB (mn b), q⟩] := by
  rw [scn_ok (rs_one h)]
  rfl
theorem gt_is {b c : Nat} (hb : b < 18446744073709551616) (hc : c < 18446744073709551616) (nb : nan b = false) (nc : nan c = false) : (FloatKind.f64.format.order b c == some .gt) = decide (key c < key b) := by
  rcases Int.lt_trichotomy (key b) (key c) with h | h | h
  · rw [order_lt b c hb hc nb nc h, decide_eq_false (by omega)]; rfl
  · rw [order_eq b c hb hc nb nc h, decide_eq_false (by omega)]; rfl
  · rw [order_gt b c hb hc nb nc h, decide_eq_true h]; rfl

set_option maxHeartbeats 8000000 in
set_option maxRecDepth 100000 in
theorem edges_of (HCK : CkP) (HCN : CnP) (HAW : AwP) (b : Nat) (q : Int) (w : World) (hb : b < 18446744073709551616) (hE : Pw w) :
    Calls Tryd.prog 4 #[.float .f64 b, .int .i64 q] w fun e w' => e = .returned (.bool true) ∧ Below w.heap.size w w' := by
  have hmod : Mod [rX b q] := fun r hr => by
    rw [List.mem_singleton.1 hr]
    exact ⟨hb, by show (1 : Nat) ≤ 140737488355328; decide, by show (1 : Nat) ≤ 140737488355328; decide⟩
  have H1 := Lib.hid fun u W (h : Row W u [rX b q]) (k : Pw W) => HCK [rX b q] u W h (by show 1 ≤ 5000; decide) hmod k
  have H2 := Lib.hid fun u W (h : Row W u [rX b q]) (k : Pw W) => HCN [rX b q] u W h (by show 1 ≤ 5000; decide) hmod k
  have HE := Lib.hid hE
  have HA := Lib.hid fun W (k : Pw W) => HAW W k
  have hb0 := Lib.hid ((Below.refl w.heap.size w).alloc (Nat.le_refl _) (.cells #[.string ⟨#[97]⟩, .string ⟨#[47]⟩, .float .f64 b, .int .i64 q] 33))
  have HR := Lib.hid (row_X w w.heap.size b q rfl)
  clear HCK HCN HAW hE hmod
  cases hn : nan b with
  | true =>
    have hm : me b = 18 := me_bad (by unfold mbad; rw [hn]; rfl)
    have hs := sck_X3 (b := b) (q := q) (by rw [hm]; decide)
    rw [hm] at hs
    rw [hs] at H1 H2
    have o1 := order_nan_l b b hb hn
    clear hs hm hn
    generalize scn [rX b q] = C at *
    go_enter Tryd.func4, Tryd.ntmps4
    go_wp2_with (first
      | (go_at_call 13; (with_reducible refine (H1.out _ _ HR.out (HE.out.next hb0.out)).mono ?_); rintro e w1 ⟨rfl, hb1⟩; have R1 := Lib.hid (HR.out.next hb1); have B1 := Lib.hid (hb0.out.trans (hb1.mono hb0.out.size)); clear hb1)
      | (go_at_call 7; (with_reducible refine (H2.out _ _ R1.out (HE.out.next B1.out)).mono ?_); rintro e w2 ⟨v2, rfl, hr2, hb2⟩; have B2 := Lib.hid (B1.out.trans (hb2.mono B1.out.size)); clear hb2 hr2)
      | (go_at_call 6; (with_reducible refine (HA.out _ (HE.out.next B2.out)).mono ?_); rintro e w3 ⟨rfl, hb3⟩))
    go_ret
    exact ⟨rfl, B2.out.trans (hb3.mono B2.out.size)⟩
  | false =>
    have oB := order_eq b b hb hb hn hn rfl
    by_cases hneg : key b < 0
    · have hm : me b = 18 := me_bad (by unfold mbad; rw [decide_eq_true hneg, Bool.or_true])
      have hs := sck_X3 (b := b) (q := q) (by rw [hm]; decide)
      rw [hm] at hs
      rw [hs] at H1 H2
      have o1 := order0_lt b hb hn hneg
      clear hs hm hn hneg
      generalize scn [rX b q] = C at *
      go_enter Tryd.func4, Tryd.ntmps4
      go_wp2_with (first
        | (go_at_call 13; (with_reducible refine (H1.out _ _ HR.out (HE.out.next hb0.out)).mono ?_); rintro e w1 ⟨rfl, hb1⟩; have R1 := Lib.hid (HR.out.next hb1); have B1 := Lib.hid (hb0.out.trans (hb1.mono hb0.out.size)); clear hb1)
        | (go_at_call 7; (with_reducible refine (H2.out _ _ R1.out (HE.out.next B1.out)).mono ?_); rintro e w2 ⟨v2, rfl, hr2, hb2⟩; have B2 := Lib.hid (B1.out.trans (hb2.mono B1.out.size)); clear hb2 hr2)
        | (go_at_call 6; (with_reducible refine (HA.out _ (HE.out.next B2.out)).mono ?_); rintro e w3 ⟨rfl, hb3⟩))
      go_ret
      exact ⟨rfl, B2.out.trans (hb3.mono B2.out.size)⟩
    · have kc0 : key 0 = 0 := rfl
      have kc1 : key 4607182418800017408 = 4607182418800017408 := by decide +kernel
      have kc9 : key 4651998512748167168 = 4651998512748167168 := by decide +kernel
      have kc10 : key 4652016104934211584 = 4652016104934211584 := by decide +kernel
      have nc1 : nan 4607182418800017408 = false := by decide +kernel
      have nc9 : nan 4651998512748167168 = false := by decide +kernel
      have nc10 : nan 4652016104934211584 = false := by decide +kernel
      have hkr : key b = (rung b : Int) := by
        unfold key rung at *
        split at hneg
        · rw [if_pos (by assumption)]; omega
        · rw [if_neg (by assumption)]
      by_cases hi : rung b = inf
      · have hm : me b = 18 := me_bad (by unfold mbad oinf; rw [show decide (rung b = 9218868437227405312) = true from decide_eq_true (by unfold inf at hi; exact hi)]; simp)
        have hs := sck_X3 (b := b) (q := q) (by rw [hm]; decide)
        rw [hm] at hs
        rw [hs] at H1 H2
        have hki : key b = 9218868437227405312 := by rw [hkr, hi]; rfl
        have o0 := order0_gt b hb hn (by omega)
        have o1 := order_gt b 4607182418800017408 hb (by decide) hn nc1 (by omega)
        have hsr := sub_run_inf b hb hi
        have hn2 := fun w => order_nan_l (someNan b w) 0 (someNan_lt b w) (someNan_nan b w)
        clear hs hm hn hneg hkr hi hki kc0 kc1 kc9 kc10 nc1 nc9 nc10
        generalize scn [rX b q] = C at *
        go_enter Tryd.func4, Tryd.ntmps4
        go_wp2_with (first
          | (go_at_call 13; (with_reducible refine (H1.out _ _ HR.out (HE.out.next hb0.out)).mono ?_); rintro e w1 ⟨rfl, hb1⟩; have R1 := Lib.hid (HR.out.next hb1); have B1 := Lib.hid (hb0.out.trans (hb1.mono hb0.out.size)); clear hb1)
          | (go_at_call 7; (with_reducible refine (H2.out _ _ R1.out (HE.out.next B1.out)).mono ?_); rintro e w2 ⟨v2, rfl, hr2, hb2⟩; have B2 := Lib.hid (B1.out.trans (hb2.mono B1.out.size)); clear hb2 hr2)
          | (go_at_call 6; (with_reducible refine (HA.out _ (HE.out.next (by first | exact B2.out | exact B2.out.drew))).mono ?_); rintro e w3 ⟨rfl, hb3⟩))
        go_ret
        first
          | exact ⟨rfl, B2.out.trans (hb3.mono B2.out.size)⟩
          | exact ⟨rfl, B2.out.drew.trans (hb3.mono B2.out.size)⟩
      · have hf : rung b < inf := by rw [nan_f] at hn; omega
        have hsr := sub_run_fin b hb hf
        have o00 := order00
        have hbad : mbad b = false := by
          unfold mbad
          rw [hn, decide_eq_false hneg, show oinf b = false from decide_eq_false (by unfold inf at hi; exact hi)]; rfl
        by_cases h0 : key b = 0
        · have hr0 : rung b = 0 := by omega
          have hme : me b = 0 := me_ok hbad (by rw [hr0]; decide +kernel)
          have hmn : mn b = 0 := by rw [mn_ok hbad (by rw [hr0]; decide +kernel), hr0]; decide +kernel
          have o0 := order0_eq b hb hn h0
          have o1 := order_lt b 4607182418800017408 hb (by decide) hn nc1 (by omega)
          have o9 := order_lt b 4651998512748167168 hb (by decide) hn nc9 (by omega)
          have o10 := order_lt b 4652016104934211584 hb (by decide) hn nc10 (by omega)
          have HCL := Lib.hid fun W => Class_any 0 (by decide) W
          rw [show cls 0 = 3 by decide +kernel] at HCL
          have hmz : ((me b : Nat) : Int) = 0 := by omega
          by_cases hq : 1 ≤ q ∧ q ≤ 1000000
          · have hrt := rt_X hmz hq
            have hs := sck_ok (rs_one hrt)
            have hsc := scn_X hrt
            rw [hmn, th_0] at hsc
            rw [hs, hsc] at H2
            rw [hs] at H1
            obtain ⟨q1, q2⟩ := hq
            have hq1 : ¬ q < 1 := by omega
            obtain ⟨tb, htb⟩ : ∃ tb : Nat, tb = 0 := ⟨0, rfl⟩
            rw [← htb] at H2 HCL
            clear hs hsc hrt hme hmn hmz hn hneg hkr hi kc0 kc1 kc9 kc10 nc1 nc9 nc10 hr0 h0 hbad hf htb
            go_enter Tryd.func4, Tryd.ntmps4
            go_wp2_with (first
              | (go_at_call 13; (with_reducible refine (H1.out _ _ HR.out (HE.out.next hb0.out)).mono ?_); rintro e w1 ⟨rfl, hb1⟩; have R1 := Lib.hid (HR.out.next hb1); have B1 := Lib.hid (hb0.out.trans (hb1.mono hb0.out.size)); clear hb1)
              | (go_at_call 7; (with_reducible refine (H2.out _ _ R1.out (HE.out.next B1.out)).mono ?_); rintro e w2 ⟨v2, rfl, hr2, hb2⟩; have B2 := Lib.hid (B1.out.trans (hb2.mono B1.out.size)); obtain ⟨a3, c3, e3, -, hc3⟩ := hr2.open_; obtain ⟨g, o, e4, hx0⟩ := hc3 0 (by show 0 < 1; decide); rw [e4] at e3; replace e3 : v2 = .slice (some ⟨g, o, none⟩) 1 c3 := e3; subst e3; have y2 : w2.cell? ⟨g, o + 2, none⟩ = some (.float .f64 tb) := hx0 2 _ rfl; clear hb2 hr2 hc3 hx0 e4)
              | (go_at_call 14; (with_reducible refine (HCL.out _).mono ?_); rintro e wc ⟨rfl, rfl⟩)
              | (go_at_call 6; (with_reducible refine (HA.out _ (HE.out.next (by first | exact B2.out | exact B2.out.drew))).mono ?_); rintro e w3 ⟨rfl, hb3⟩))
            go_ret
            first
              | exact ⟨rfl, B2.out.trans (hb3.mono B2.out.size)⟩
              | exact ⟨rfl, B2.out.drew.trans (hb3.mono B2.out.size)⟩
          · have hs := sck_X4 hmz hq
            rw [hs] at H1 H2
            rcases (show q < 1 ∨ (¬ q < 1 ∧ ¬ q ≤ 1000000) by omega) with g1 | ⟨g1, g2⟩
            all_goals
              clear hs hme hmn hmz hn hneg hkr hi kc0 kc1 kc9 kc10 nc1 nc9 nc10 hr0 h0 hbad hf hq HCL
              generalize scn [rX b q] = C at *
              go_enter Tryd.func4, Tryd.ntmps4
              go_wp2_with (first
                | (go_at_call 13; (with_reducible refine (H1.out _ _ HR.out (HE.out.next hb0.out)).mono ?_); rintro e w1 ⟨rfl, hb1⟩; have R1 := Lib.hid (HR.out.next hb1); have B1 := Lib.hid (hb0.out.trans (hb1.mono hb0.out.size)); clear hb1)
                | (go_at_call 7; (with_reducible refine (H2.out _ _ R1.out (HE.out.next B1.out)).mono ?_); rintro e w2 ⟨v2, rfl, hr2, hb2⟩; have B2 := Lib.hid (B1.out.trans (hb2.mono B1.out.size)); clear hb2 hr2)
                | (go_at_call 6; (with_reducible refine (HA.out _ (HE.out.next (by first | exact B2.out | exact B2.out.drew))).mono ?_); rintro e w3 ⟨rfl, hb3⟩))
              go_ret
              first
                | exact ⟨rfl, B2.out.trans (hb3.mono B2.out.size)⟩
                | exact ⟨rfl, B2.out.drew.trans (hb3.mono B2.out.size)⟩
        · have o0 := order0_gt b hb hn (by omega)
          by_cases h10 : key 4652016104934211584 < key b
          · have hme : me b = 6 := me_over hbad (by
              have := mil_mono (r := 4652016104934211584) (s := rung b) (by omega)
              rw [mil_1001] at this
              omega)
            have hs := sck_X3 (b := b) (q := q) (by rw [hme]; decide)
            rw [hme] at hs
            rw [hs] at H1 H2
            have o1 := order_gt b 4607182418800017408 hb (by decide) hn nc1 (by omega)
            have o10 := order_gt b 4652016104934211584 hb (by decide) hn nc10 h10
            clear hs hme hn hneg hkr hi kc0 kc1 kc9 kc10 nc1 nc9 nc10 h0 hbad hf h10
            generalize scn [rX b q] = C at *
            go_enter Tryd.func4, Tryd.ntmps4
            go_wp2_with (first
              | (go_at_call 13; (with_reducible refine (H1.out _ _ HR.out (HE.out.next hb0.out)).mono ?_); rintro e w1 ⟨rfl, hb1⟩; have R1 := Lib.hid (HR.out.next hb1); have B1 := Lib.hid (hb0.out.trans (hb1.mono hb0.out.size)); clear hb1)
              | (go_at_call 7; (with_reducible refine (H2.out _ _ R1.out (HE.out.next B1.out)).mono ?_); rintro e w2 ⟨v2, rfl, hr2, hb2⟩; have B2 := Lib.hid (B1.out.trans (hb2.mono B1.out.size)); clear hb2 hr2)
              | (go_at_call 6; (with_reducible refine (HA.out _ (HE.out.next (by first | exact B2.out | exact B2.out.drew))).mono ?_); rintro e w3 ⟨rfl, hb3⟩))
            go_ret
            first
              | exact ⟨rfl, B2.out.trans (hb3.mono B2.out.size)⟩
              | exact ⟨rfl, B2.out.drew.trans (hb3.mono B2.out.size)⟩
          · by_cases h9 : key 4651998512748167168 < key b
            · have o1 := order_gt b 4607182418800017408 hb (by decide) hn nc1 (by omega)
              have o9 := order_gt b 4651998512748167168 hb (by decide) hn nc9 h9
              have o10 : FloatKind.f64.format.order b 4652016104934211584 = some .lt ∨ FloatKind.f64.format.order b 4652016104934211584 = some .eq := by
                rcases Int.lt_trichotomy (key b) (key 4652016104934211584) with h | h | h
                · exact .inl (order_lt b _ hb (by decide) hn nc10 h)
                · exact .inr (order_eq b _ hb (by decide) hn nc10 h)
                · exact absurd h h10
              by_cases hz : (sck [rX b q]).2 = 0
              · have hrs := (sck_zero [rX b q]).1 hz
                have hrt := hrs.rt (rX b q) (List.mem_singleton.2 rfl)
                have hs := sck_ok hrs
                have hsc := scn_X hrt
                rw [hs, hsc] at H2
                rw [hs] at H1
                generalize thB (mn b) = tb at *
                rcases o10 with o10 | o10
                all_goals
                  clear hs hsc hrt hrs hz hn hneg hkr hi kc0 kc1 kc9 kc10 nc1 nc9 nc10 h0 hbad hf h10 h9
                  go_enter Tryd.func4, Tryd.ntmps4
                  go_wp2_with (first
                    | (go_at_call 13; (with_reducible refine (H1.out _ _ HR.out (HE.out.next hb0.out)).mono ?_); rintro e w1 ⟨rfl, hb1⟩; have R1 := Lib.hid (HR.out.next hb1); have B1 := Lib.hid (hb0.out.trans (hb1.mono hb0.out.size)); clear hb1)
                    | (go_at_call 7; (with_reducible refine (H2.out _ _ R1.out (HE.out.next B1.out)).mono ?_); rintro e w2 ⟨v2, rfl, hr2, hb2⟩; have B2 := Lib.hid (B1.out.trans (hb2.mono B1.out.size)); obtain ⟨a3, c3, e3, -, hc3⟩ := hr2.open_; obtain ⟨g, o, e4, hx0⟩ := hc3 0 (by show 0 < 1; decide); rw [e4] at e3; replace e3 : v2 = .slice (some ⟨g, o, none⟩) 1 c3 := e3; subst e3; have y2 : w2.cell? ⟨g, o + 2, none⟩ = some (.float .f64 tb) := hx0 2 _ rfl; clear hb2 hr2 hc3 hx0 e4)
                    | (go_at_call 6; (with_reducible refine (HA.out _ (HE.out.next (by first | exact B2.out | exact B2.out.drew))).mono ?_); rintro e w3 ⟨rfl, hb3⟩))
                  go_ret
                  first
                    | exact ⟨rfl, B2.out.trans (hb3.mono B2.out.size)⟩
                    | exact ⟨rfl, B2.out.drew.trans (hb3.mono B2.out.size)⟩
              · have b1 : ((sck [rX b q]).2 != 0) = true := by simpa using hz
                clear hz
                generalize scn [rX b q] = C at *
                generalize sck [rX b q] = x at *
                obtain ⟨p, E⟩ := x
                dsimp only at H1 H2 b1
                have b2 : (E != E) = false := bne_self_eq_false E
                rcases o10 with o10 | o10
                all_goals
                  clear hn hneg hkr hi kc0 kc1 kc9 kc10 nc1 nc9 nc10 h0 hbad hf h10 h9
                  go_enter Tryd.func4, Tryd.ntmps4
                  go_wp2_with (first
                    | (go_at_call 13; (with_reducible refine (H1.out _ _ HR.out (HE.out.next hb0.out)).mono ?_); rintro e w1 ⟨rfl, hb1⟩; have R1 := Lib.hid (HR.out.next hb1); have B1 := Lib.hid (hb0.out.trans (hb1.mono hb0.out.size)); clear hb1)
                    | (go_at_call 7; (with_reducible refine (H2.out _ _ R1.out (HE.out.next B1.out)).mono ?_); rintro e w2 ⟨v2, rfl, hr2, hb2⟩; have B2 := Lib.hid (B1.out.trans (hb2.mono B1.out.size)); clear hb2 hr2)
                    | (go_at_call 6; (with_reducible refine (HA.out _ (HE.out.next (by first | exact B2.out | exact B2.out.drew))).mono ?_); rintro e w3 ⟨rfl, hb3⟩))
                  go_ret
                  first
                    | exact ⟨rfl, B2.out.trans (hb3.mono B2.out.size)⟩
                    | exact ⟨rfl, B2.out.drew.trans (hb3.mono B2.out.size)⟩
            · have hme : me b = 0 := me_ok hbad (by
                have := mil_mono (r := rung b) (s := 4651998512748167168) (by omega)
                rw [show mil 4651998512748167168 = 999000 by decide +kernel] at this
                omega)
              have o10 := order_lt b 4652016104934211584 hb (by decide) hn nc10 (by omega)
              have od : (FloatKind.f64.format.order b 4607182418800017408 = some .lt ∧ FloatKind.f64.format.order b 4651998512748167168 = some .lt) ∨ (FloatKind.f64.format.order b 4607182418800017408 = some .eq ∧ FloatKind.f64.format.order b 4651998512748167168 = some .lt) ∨ (FloatKind.f64.format.order b 4607182418800017408 = some .gt ∧ FloatKind.f64.format.order b 4651998512748167168 = some .lt) ∨ (FloatKind.f64.format.order b 4607182418800017408 = some .gt ∧ FloatKind.f64.format.order b 4651998512748167168 = some .eq) := by
                rcases Int.lt_trichotomy (key b) (key 4607182418800017408) with h | h | h
                · exact .inl ⟨order_lt b _ hb (by decide) hn nc1 h, order_lt b _ hb (by decide) hn nc9 (by omega)⟩
                · exact .inr (.inl ⟨order_eq b _ hb (by decide) hn nc1 h, order_lt b _ hb (by decide) hn nc9 (by omega)⟩)
                · rcases Int.lt_trichotomy (key b) (key 4651998512748167168) with k | k | k
                  · exact .inr (.inr (.inl ⟨order_gt b _ hb (by decide) hn nc1 h, order_lt b _ hb (by decide) hn nc9 k⟩))
                  · exact .inr (.inr (.inr ⟨order_gt b _ hb (by decide) hn nc1 h, order_eq b _ hb (by decide) hn nc9 k⟩))
                  · exact absurd k h9
              have hmz : ((me b : Nat) : Int) = 0 := by omega
              by_cases hq : 1 ≤ q ∧ q ≤ 1000000
              · have hrt := rt_X hmz hq
                have hs := sck_ok (rs_one hrt)
                have hsc := scn_X hrt
                rw [hs, hsc] at H2
                rw [hs] at H1
                generalize thB (mn b) = tb at *
                obtain ⟨q1, q2⟩ := hq
                have hq1 : ¬ q < 1 := by omega
                clear hs hsc hrt hme hmz hn hneg hkr hi kc0 kc1 kc9 kc10 nc1 nc9 nc10 h0 hbad hf h10 h9
                rcases od with ⟨o1, o9⟩ | ⟨o1, o9⟩ | ⟨o1, o9⟩ | ⟨o1, o9⟩
                all_goals
                  skip
                  go_enter Tryd.func4, Tryd.ntmps4
                  go_wp2_with (first
                    | (go_at_call 13; (with_reducible refine (H1.out _ _ HR.out (HE.out.next hb0.out)).mono ?_); rintro e w1 ⟨rfl, hb1⟩; have R1 := Lib.hid (HR.out.next hb1); have B1 := Lib.hid (hb0.out.trans (hb1.mono hb0.out.size)); clear hb1)
                    | (go_at_call 7; (with_reducible refine (H2.out _ _ R1.out (HE.out.next B1.out)).mono ?_); rintro e w2 ⟨v2, rfl, hr2, hb2⟩; have B2 := Lib.hid (B1.out.trans (hb2.mono B1.out.size)); obtain ⟨a3, c3, e3, -, hc3⟩ := hr2.open_; obtain ⟨g, o, e4, hx0⟩ := hc3 0 (by show 0 < 1; decide); rw [e4] at e3; replace e3 : v2 = .slice (some ⟨g, o, none⟩) 1 c3 := e3; subst e3; have y2 : w2.cell? ⟨g, o + 2, none⟩ = some (.float .f64 tb) := hx0 2 _ rfl; clear hb2 hr2 hc3 hx0 e4)
                    | (go_at_call 6; (with_reducible refine (HA.out _ (HE.out.next (by first | exact B2.out | exact B2.out.drew))).mono ?_); rintro e w3 ⟨rfl, hb3⟩))
                  go_ret
                  first
                    | exact ⟨rfl, B2.out.trans (hb3.mono B2.out.size)⟩
                    | exact ⟨rfl, B2.out.drew.trans (hb3.mono B2.out.size)⟩
              · have hs := sck_X4 hmz hq
                rw [hs] at H1 H2
                generalize scn [rX b q] = C at *
                rcases (show q < 1 ∨ (¬ q < 1 ∧ ¬ q ≤ 1000000) by omega) with g1 | ⟨g1, g2⟩
                all_goals
                  clear hs hme hmz hn hneg hkr hi kc0 kc1 kc9 kc10 nc1 nc9 nc10 h0 hbad hf hq h10 h9
                  rcases od with ⟨o1, o9⟩ | ⟨o1, o9⟩ | ⟨o1, o9⟩ | ⟨o1, o9⟩
                  all_goals
                    skip
                    go_enter Tryd.func4, Tryd.ntmps4
                    go_wp2_with (first
                      | (go_at_call 13; (with_reducible refine (H1.out _ _ HR.out (HE.out.next hb0.out)).mono ?_); rintro e w1 ⟨rfl, hb1⟩; have R1 := Lib.hid (HR.out.next hb1); have B1 := Lib.hid (hb0.out.trans (hb1.mono hb0.out.size)); clear hb1)
                      | (go_at_call 7; (with_reducible refine (H2.out _ _ R1.out (HE.out.next B1.out)).mono ?_); rintro e w2 ⟨v2, rfl, hr2, hb2⟩; have B2 := Lib.hid (B1.out.trans (hb2.mono B1.out.size)); clear hb2 hr2)
                      | (go_at_call 6; (with_reducible refine (HA.out _ (HE.out.next (by first | exact B2.out | exact B2.out.drew))).mono ?_); rintro e w3 ⟨rfl, hb3⟩))
                    go_ret
                    first
                      | exact ⟨rfl, B2.out.trans (hb3.mono B2.out.size)⟩
                      | exact ⟨rfl, B2.out.drew.trans (hb3.mono B2.out.size)⟩
end Go.Proofs.YtcdkibadnelgiaaDoor.One
