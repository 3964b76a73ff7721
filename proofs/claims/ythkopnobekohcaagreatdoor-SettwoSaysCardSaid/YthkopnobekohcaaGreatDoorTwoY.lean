/- Laws of sets of rules of version 2: SettwoSpoilt, out of what the code's calls answer. Conditions: as each theorem states. -/
import Derived.Test.YthkopnobekohcaaGreatDoorTwoX
namespace Go.Proofs.YthkopnobekohcaaGreatDoor.Two
open Go.RowKit Go.Lib
open Go.Proofs.YthkopnobekohcaaGreatDoor.Ptr (jB Mx)

theorem own_empty (W : World) (B : Nat) (hB : B ≤ W.heap.size) : Own (W.alloc (.cells #[] 35)) B (.slice (some ⟨W.heap.size, 0, none⟩) 0 0) [] :=
  own_lit W B hB [] (by decide)
set_option maxHeartbeats 8000000 in
set_option maxRecDepth 100000 in
theorem spoilt_right (HCK : CkP) (HAW : AwP) (L : List Rw) (v : Value) (k q : Int) (w : World) (hr : Row w v L) (hl : L.length ≤ 9223372036854775807) (hs : Fit L) (hE : Ev w) (hM : Mx w) (k0 : 0 ≤ k) (k1 : k ≤ 255) (q0 : 0 ≤ q) (q1 : q ≤ 255)
    (hlg : lgS L = true) (hrs : Rs L) (hn : 0 < L.length) (j : Nat) (hj : j < 5) (hq : q % 5 = (j : Int)) :
    Calls Tryz.prog 4 #[v, .int .u8 k, .int .u8 q] w fun e w' => e = .returned (.bool true) ∧ Below w.heap.size w w' := by
  have HLG := Lib.hid (light_any L v w hr hl hs)
  rw [hlg] at HLG
  have HR := Lib.hid hr
  have HE := Lib.hid hE
  have HMX := Lib.hid hM
  have HAWh := Lib.hid fun W (k : Ev W) => HAW W k
  obtain ⟨h5, h60, -⟩ := lgS_iff hlg
  have hmod := mod_of hs hlg
  have h60 : L.length ≤ 60 := by have := hrs.len; omega
  have H1 := Lib.hid fun W (h : Row W v L) (k : Ev W) => HCK L v W h h5 hmod k
  rw [sck_ok hrs] at H1
  obtain ⟨t, ht⟩ : ∃ t : Nat, k % (L.length : Int) = (t : Int) := ⟨(k % (L.length : Int)).toNat, by have := Int.emod_nonneg k (show (L.length : Int) ≠ 0 by omega); omega⟩
  have htl : t < L.length := by have := Int.emod_lt_of_pos k (show (0 : Int) < (L.length : Int) by omega); omega
  have H2 := Lib.hid fun u W (h : Row W u (L.set t (spo j (ga L t)))) (k : Ev W) => HCK (L.set t (spo j (ga L t))) u W h (by rw [List.length_set]; exact h5) (spo_mod hmod htl j) k
  rw [spo_sck hrs htl hj] at H2
  have HD := Lib.hid fun W => dec_any t (by omega) W
  have hjn := dN_join t (by omega)
  have hdz := dN_size t
  have HJ := Lib.hid fun W (h : Mx W) => Ptr.pjoin_any ⟨#[]⟩ (dN t) W h (Nat.zero_le _) (by omega)
  rw [hjn] at HJ
  have hat : (at_ t).size ≤ 22 := by
    have := itoa_size t (by omega)
    show (⟨#[47]⟩ ++ ⟨(Lib.itoa (t : Int)).toArray⟩ : ByteArray).size ≤ 22
    rw [ByteArray.size_append]
    show 1 + _ ≤ 22
    omega
  have HP := Lib.hid fun W B g cap (h : Own W B (.slice (some ⟨g, 0, none⟩) L.length cap) L) => own_field h t (spF j) htl (by unfold spF; split <;> omega) (spo j (ga L t)) (spV j) (spo_cell _ j hj)
  have L1 := Lib.hid (show ([] : List Rw).length + L.length ≤ 1000000000 by rw [List.length_nil]; omega)
  generalize spo j (ga L t) = R at *
  generalize at_ t = A at *
  generalize dN t = dn at *
  have HLS := Lib.hid (show (L.set t R).length = L.length from List.length_set)
  have gt1 : (t : Int) < (L.length : Int) := by omega
  have gt0 : (0 : Int) ≤ (t : Int) := by omega
  have hln : ¬ ((L.length : Int) = 0) := by omega
  have hln2 : ((L.length : Int) == 0) = false := by simpa using hln
  clear hr hs hE hlg HAW HCK hmod hrs hM h5 hjn h60
  generalize L.set t R = M at *
  obtain ⟨a0, c0, rfl, hcap0, -⟩ := HR.out.open_
  have hnil : ∀ v1 : Value, ¬ (v1 = .slice none 0 0 ∧ L = []) := fun v1 h => by rw [h.2] at hn; exact absurd hn (by decide)
  match j, hj with
  | 0, _ =>
    dsimp only [spP, spE, spF, spV] at HP H2 H1
    simp only [Nat.add_zero] at HP
    replace hq : q % 5 = 0 := hq
    unfold f1 at H2
    go_enter Tryz.func4, Tryz.ntmps4
    go_wp2_with (first
      | (go_at_call 5; (with_reducible refine HLG.out.mono ?_); rintro e w1 ⟨rfl, rfl⟩)
      | (go_at_call 7; first
        | ((with_reducible refine (H2.out _ _ R3.out (HE.out.next B3.out)).mono ?_); rintro e w4 ⟨rfl, hb4⟩; have B4 := Lib.hid (B3.out.trans (hb4.mono B3.out.size)); clear hb4)
        | ((with_reducible refine (H1.out _ HR.out HE.out).mono ?_); rintro e w1 ⟨rfl, hb1⟩; have B1 := Lib.hid hb1; clear hb1))
      | (refine wpList_push0 _ rfl _ _ rfl w1.heap.size w1 (.slice (some ⟨w1.heap.size, 0, none⟩) 0 0) (.slice a0 L.length c0) [] L rfl rfl (own_empty w1 _ (Nat.le_refl _)) ((Below.refl _ _).alloc (Nat.le_refl _) _) (Nat.le_refl _) (HR.out.next (B1.out.alloc B1.out.size _)) L1.out ?_
         intro v1 w2 own1 hb2 hg2
         rw [List.nil_append] at own1
         obtain ⟨g, cap, rfl, hcg, hBg⟩ := own1.cap.resolve_left (hnil v1)
         obtain ⟨⟨u0, c3⟩, f3, own3, hgr3⟩ := HP.out _ _ _ _ own1
         have B2 := Lib.hid (B1.out.trans (hb2.mono B1.out.size))
         have B3 := Lib.hid (B2.out.grown hgr3 B2.out.size fun k hk => by rw [← Option.some.inj hk]; exact Nat.le_trans B1.out.size hBg)
         have R3 := Lib.hid own3.row
         clear own1 hb2 hg2 own3 hgr3)
      | (go_at_call 19; (with_reducible refine (HD.out _).mono ?_); rintro e w5 ⟨rfl, rfl⟩)
      | (go_at_call 18; (with_reducible refine (HJ.out _ (HMX.out.next B4.out)).mono ?_); rintro e w6 ⟨rfl, hb6⟩; have B6 := Lib.hid (B4.out.trans (hb6.mono B4.out.size)); clear hb6)
      | (go_at_call 6; (with_reducible refine (HAWh.out _ (HE.out.next B6.out)).mono ?_); rintro e w7 ⟨rfl, hb7⟩))
    go_ret
    exact ⟨by first | rfl | simp, B6.out.trans (hb7.mono B6.out.size)⟩
  | 1, _ =>
    dsimp only [spP, spE, spF, spV] at HP H2 H1
    replace hq : q % 5 = 1 := hq
    unfold f3 at H2
    go_enter Tryz.func4, Tryz.ntmps4
    go_wp2_with (first
      | (go_at_call 5; (with_reducible refine HLG.out.mono ?_); rintro e w1 ⟨rfl, rfl⟩)
      | (go_at_call 7; first
        | ((with_reducible refine (H2.out _ _ R3.out (HE.out.next B3.out)).mono ?_); rintro e w4 ⟨rfl, hb4⟩; have B4 := Lib.hid (B3.out.trans (hb4.mono B3.out.size)); clear hb4)
        | ((with_reducible refine (H1.out _ HR.out HE.out).mono ?_); rintro e w1 ⟨rfl, hb1⟩; have B1 := Lib.hid hb1; clear hb1))
      | (refine wpList_push0 _ rfl _ _ rfl w1.heap.size w1 (.slice (some ⟨w1.heap.size, 0, none⟩) 0 0) (.slice a0 L.length c0) [] L rfl rfl (own_empty w1 _ (Nat.le_refl _)) ((Below.refl _ _).alloc (Nat.le_refl _) _) (Nat.le_refl _) (HR.out.next (B1.out.alloc B1.out.size _)) L1.out ?_
         intro v1 w2 own1 hb2 hg2
         rw [List.nil_append] at own1
         obtain ⟨g, cap, rfl, hcg, hBg⟩ := own1.cap.resolve_left (hnil v1)
         obtain ⟨⟨u0, c3⟩, f3, own3, hgr3⟩ := HP.out _ _ _ _ own1
         have B2 := Lib.hid (B1.out.trans (hb2.mono B1.out.size))
         have B3 := Lib.hid (B2.out.grown hgr3 B2.out.size fun k hk => by rw [← Option.some.inj hk]; exact Nat.le_trans B1.out.size hBg)
         have R3 := Lib.hid own3.row
         clear own1 hb2 hg2 own3 hgr3)
      | (go_at_call 19; (with_reducible refine (HD.out _).mono ?_); rintro e w5 ⟨rfl, rfl⟩)
      | (go_at_call 18; (with_reducible refine (HJ.out _ (HMX.out.next B4.out)).mono ?_); rintro e w6 ⟨rfl, hb6⟩; have B6 := Lib.hid (B4.out.trans (hb6.mono B4.out.size)); clear hb6)
      | (go_at_call 6; (with_reducible refine (HAWh.out _ (HE.out.next B6.out)).mono ?_); rintro e w7 ⟨rfl, hb7⟩))
    go_ret
    exact ⟨by first | rfl | simp, B6.out.trans (hb7.mono B6.out.size)⟩
  | 2, _ =>
    dsimp only [spP, spE, spF, spV] at HP H2 H1
    replace hq : q % 5 = 2 := hq
    unfold f4 at H2
    go_enter Tryz.func4, Tryz.ntmps4
    go_wp2_with (first
      | (go_at_call 5; (with_reducible refine HLG.out.mono ?_); rintro e w1 ⟨rfl, rfl⟩)
      | (go_at_call 7; first
        | ((with_reducible refine (H2.out _ _ R3.out (HE.out.next B3.out)).mono ?_); rintro e w4 ⟨rfl, hb4⟩; have B4 := Lib.hid (B3.out.trans (hb4.mono B3.out.size)); clear hb4)
        | ((with_reducible refine (H1.out _ HR.out HE.out).mono ?_); rintro e w1 ⟨rfl, hb1⟩; have B1 := Lib.hid hb1; clear hb1))
      | (refine wpList_push0 _ rfl _ _ rfl w1.heap.size w1 (.slice (some ⟨w1.heap.size, 0, none⟩) 0 0) (.slice a0 L.length c0) [] L rfl rfl (own_empty w1 _ (Nat.le_refl _)) ((Below.refl _ _).alloc (Nat.le_refl _) _) (Nat.le_refl _) (HR.out.next (B1.out.alloc B1.out.size _)) L1.out ?_
         intro v1 w2 own1 hb2 hg2
         rw [List.nil_append] at own1
         obtain ⟨g, cap, rfl, hcg, hBg⟩ := own1.cap.resolve_left (hnil v1)
         obtain ⟨⟨u0, c3⟩, f3, own3, hgr3⟩ := HP.out _ _ _ _ own1
         have B2 := Lib.hid (B1.out.trans (hb2.mono B1.out.size))
         have B3 := Lib.hid (B2.out.grown hgr3 B2.out.size fun k hk => by rw [← Option.some.inj hk]; exact Nat.le_trans B1.out.size hBg)
         have R3 := Lib.hid own3.row
         clear own1 hb2 hg2 own3 hgr3)
      | (go_at_call 19; (with_reducible refine (HD.out _).mono ?_); rintro e w5 ⟨rfl, rfl⟩)
      | (go_at_call 18; (with_reducible refine (HJ.out _ (HMX.out.next B4.out)).mono ?_); rintro e w6 ⟨rfl, hb6⟩; have B6 := Lib.hid (B4.out.trans (hb6.mono B4.out.size)); clear hb6)
      | (go_at_call 6; (with_reducible refine (HAWh.out _ (HE.out.next B6.out)).mono ?_); rintro e w7 ⟨rfl, hb7⟩))
    go_ret
    exact ⟨by first | rfl | simp, B6.out.trans (hb7.mono B6.out.size)⟩
  | 3, _ =>
    dsimp only [spP, spE, spF, spV] at HP H2 H1
    replace hq : q % 5 = 3 := hq
    unfold f5 at H2
    go_enter Tryz.func4, Tryz.ntmps4
    go_wp2_with (first
      | (go_at_call 5; (with_reducible refine HLG.out.mono ?_); rintro e w1 ⟨rfl, rfl⟩)
      | (go_at_call 7; first
        | ((with_reducible refine (H2.out _ _ R3.out (HE.out.next B3.out)).mono ?_); rintro e w4 ⟨rfl, hb4⟩; have B4 := Lib.hid (B3.out.trans (hb4.mono B3.out.size)); clear hb4)
        | ((with_reducible refine (H1.out _ HR.out HE.out).mono ?_); rintro e w1 ⟨rfl, hb1⟩; have B1 := Lib.hid hb1; clear hb1))
      | (refine wpList_push0 _ rfl _ _ rfl w1.heap.size w1 (.slice (some ⟨w1.heap.size, 0, none⟩) 0 0) (.slice a0 L.length c0) [] L rfl rfl (own_empty w1 _ (Nat.le_refl _)) ((Below.refl _ _).alloc (Nat.le_refl _) _) (Nat.le_refl _) (HR.out.next (B1.out.alloc B1.out.size _)) L1.out ?_
         intro v1 w2 own1 hb2 hg2
         rw [List.nil_append] at own1
         obtain ⟨g, cap, rfl, hcg, hBg⟩ := own1.cap.resolve_left (hnil v1)
         obtain ⟨⟨u0, c3⟩, f3, own3, hgr3⟩ := HP.out _ _ _ _ own1
         have B2 := Lib.hid (B1.out.trans (hb2.mono B1.out.size))
         have B3 := Lib.hid (B2.out.grown hgr3 B2.out.size fun k hk => by rw [← Option.some.inj hk]; exact Nat.le_trans B1.out.size hBg)
         have R3 := Lib.hid own3.row
         clear own1 hb2 hg2 own3 hgr3)
      | (go_at_call 19; (with_reducible refine (HD.out _).mono ?_); rintro e w5 ⟨rfl, rfl⟩)
      | (go_at_call 18; (with_reducible refine (HJ.out _ (HMX.out.next B4.out)).mono ?_); rintro e w6 ⟨rfl, hb6⟩; have B6 := Lib.hid (B4.out.trans (hb6.mono B4.out.size)); clear hb6)
      | (go_at_call 6; (with_reducible refine (HAWh.out _ (HE.out.next B6.out)).mono ?_); rintro e w7 ⟨rfl, hb7⟩))
    go_ret
    exact ⟨by first | rfl | simp, B6.out.trans (hb7.mono B6.out.size)⟩
  | 4, _ =>
    dsimp only [spP, spE, spF, spV] at HP H2 H1
    replace hq : q % 5 = 4 := hq
    unfold Two.q1 at H2
    go_enter Tryz.func4, Tryz.ntmps4
    go_wp2_with (first
      | (go_at_call 5; (with_reducible refine HLG.out.mono ?_); rintro e w1 ⟨rfl, rfl⟩)
      | (go_at_call 7; first
        | ((with_reducible refine (H2.out _ _ R3.out (HE.out.next B3.out)).mono ?_); rintro e w4 ⟨rfl, hb4⟩; have B4 := Lib.hid (B3.out.trans (hb4.mono B3.out.size)); clear hb4)
        | ((with_reducible refine (H1.out _ HR.out HE.out).mono ?_); rintro e w1 ⟨rfl, hb1⟩; have B1 := Lib.hid hb1; clear hb1))
      | (refine wpList_push0 _ rfl _ _ rfl w1.heap.size w1 (.slice (some ⟨w1.heap.size, 0, none⟩) 0 0) (.slice a0 L.length c0) [] L rfl rfl (own_empty w1 _ (Nat.le_refl _)) ((Below.refl _ _).alloc (Nat.le_refl _) _) (Nat.le_refl _) (HR.out.next (B1.out.alloc B1.out.size _)) L1.out ?_
         intro v1 w2 own1 hb2 hg2
         rw [List.nil_append] at own1
         obtain ⟨g, cap, rfl, hcg, hBg⟩ := own1.cap.resolve_left (hnil v1)
         obtain ⟨⟨u0, c3⟩, f3, own3, hgr3⟩ := HP.out _ _ _ _ own1
         have B2 := Lib.hid (B1.out.trans (hb2.mono B1.out.size))
         have B3 := Lib.hid (B2.out.grown hgr3 B2.out.size fun k hk => by rw [← Option.some.inj hk]; exact Nat.le_trans B1.out.size hBg)
         have R3 := Lib.hid own3.row
         clear own1 hb2 hg2 own3 hgr3)
      | (go_at_call 19; (with_reducible refine (HD.out _).mono ?_); rintro e w5 ⟨rfl, rfl⟩)
      | (go_at_call 18; (with_reducible refine (HJ.out _ (HMX.out.next B4.out)).mono ?_); rintro e w6 ⟨rfl, hb6⟩; have B6 := Lib.hid (B4.out.trans (hb6.mono B4.out.size)); clear hb6)
      | (go_at_call 6; (with_reducible refine (HAWh.out _ (HE.out.next B6.out)).mono ?_); rintro e w7 ⟨rfl, hb7⟩))
    go_ret
    exact ⟨by first | rfl | simp, B6.out.trans (hb7.mono B6.out.size)⟩

set_option maxHeartbeats 8000000 in
set_option maxRecDepth 100000 in
theorem spoilt_of (HCK : CkP) (HAW : AwP) (L : List Rw) (v : Value) (k q : Int) (w : World) (hr : Row w v L) (hl : L.length ≤ 9223372036854775807) (hs : Fit L) (hE : Ev w) (hM : Mx w) (k0 : 0 ≤ k) (k1 : k ≤ 255) (q0 : 0 ≤ q) (q1 : q ≤ 255) :
    Calls Tryz.prog 4 #[v, .int .u8 k, .int .u8 q] w fun e w' => e = .returned (.bool true) ∧ Below w.heap.size w w' := by
  have HLG := Lib.hid (light_any L v w hr hl hs)
  have HE := Lib.hid hE
  have HAWh := Lib.hid fun W (k : Ev W) => HAW W k
  cases hlg : lgS L with
  | false =>
    rw [hlg] at HLG
    clear hr hs hE hlg HAW HCK hM
    go_enter Tryz.func4, Tryz.ntmps4
    go_wp2_with (first
      | (go_at_call 5; (with_reducible refine HLG.out.mono ?_); rintro e w1 ⟨rfl, rfl⟩)
      | (go_at_call 6; (with_reducible refine (HAWh.out _ HE.out).mono ?_); rintro e w1 ⟨rfl, hb1⟩))
    go_ret
    exact ⟨rfl, hb1⟩
  | true =>
    by_cases hn : 0 < L.length
    · by_cases hz : (sck L).2 = 0
      · exact spoilt_right HCK HAW L v k q w hr hl hs hE hM k0 k1 q0 q1 hlg ((sck_zero L).1 hz) hn (q % 5).toNat (by omega) (by omega)
      · have H1 := Lib.hid (HCK L v w hr (lgS_iff hlg).1 (mod_of hs hlg) hE)
        rw [hlg] at HLG
        have b1 : ((sck L).2 != 0) = true := by simpa using hz
        obtain ⟨a0, c0, rfl, -, -⟩ := hr.open_
        have hln : ¬ ((L.length : Int) = 0) := by omega
        have hln2 : ((L.length : Int) == 0) = false := by simpa using hln
        clear hr hs hE hlg HAW HCK hM hz
        generalize sck L = x at *
        obtain ⟨p, E⟩ := x
        dsimp only at b1 H1
        go_enter Tryz.func4, Tryz.ntmps4
        go_wp2_with (first
          | (go_at_call 5; (with_reducible refine HLG.out.mono ?_); rintro e w1 ⟨rfl, rfl⟩)
          | (go_at_call 7; (with_reducible refine H1.out.mono ?_); rintro e w1 ⟨rfl, hb1⟩; have B1 := Lib.hid hb1; clear hb1)
          | (go_at_call 6; (with_reducible refine (HAWh.out _ (HE.out.next B1.out)).mono ?_); rintro e w2 ⟨rfl, hb2⟩))
        go_ret
        exact ⟨rfl, B1.out.trans (hb2.mono B1.out.size)⟩
    · obtain rfl : L = [] := List.eq_nil_of_length_eq_zero (by omega)
      obtain ⟨a0, c0, rfl, -, -⟩ := hr.open_
      rw [hlg] at HLG
      clear hr hs hE hlg HAW HCK hM hn
      rw [show ([] : List Rw).length = 0 from rfl] at *
      go_enter Tryz.func4, Tryz.ntmps4
      go_wp2_with (first
        | (go_at_call 5; (with_reducible refine HLG.out.mono ?_); rintro e w1 ⟨rfl, rfl⟩)
        | (go_at_call 6; (with_reducible refine (HAWh.out _ HE.out).mono ?_); rintro e w1 ⟨rfl, hb1⟩))
      go_ret
      exact ⟨rfl, hb1⟩
end Go.Proofs.YthkopnobekohcaaGreatDoor.Two
