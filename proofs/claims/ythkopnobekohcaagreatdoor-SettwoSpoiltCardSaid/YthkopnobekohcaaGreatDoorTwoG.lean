/- Contract of the document's Is of sets of rules of version 2; what the code's calls answer, as premises; SettwoSays out of them. Conditions: as each theorem states. -/
import Derived.Test.YthkopnobekohcaaGreatDoorTwoP3
import Derived.Test.YthkopnobekohcaaGreatDoorTwoP2
import Derived.Test.YthkopnobekohcaaGreatDoorTwoEv
namespace Go.Proofs.YthkopnobekohcaaGreatDoor.Two
open Go.RowKit Go.Lib
open Go.Proofs.YthkopnobekohcaaGreatDoor.Ren (Pw)

theorem scn_size {L : List Rw} (h : L.length ≤ 5000) : (scn L).length ≤ 5000 := by
  by_cases hz : (sck L).2 = 0
  · rw [scn_len ((sck_zero L).1 hz)]; exact h
  · rw [scn_no hz]; exact Nat.zero_le _

set_option maxHeartbeats 4000000 in
set_option maxRecDepth 100000 in
theorem ris_any (L : List Rw) (v : Value) (w : World) (hr : Row w v L) (hl : L.length ≤ 9223372036854775807) (hs : Mod L) (hP : Pw w) :
    Calls Tryz.prog 13 #[v] w fun e w' => e = .returned (.bool (isC L)) ∧ Below w.heap.size w w' := by
  have HCN := Lib.hid (rcanon_any L v w hr hl hs hP)
  obtain ⟨a, cap, rfl, -, hc⟩ := hr.open_
  by_cases hz : (sck L).2 = 0
  · have hrs := (sck_zero L).1 hz
    have hlen := scn_len hrs
    rw [isC_ok hrs]
    rw [sck_ok hrs] at HCN
    have HC := Lib.hid hc
    clear hc hr hs hP hz hrs
    generalize scn L = C at *
    have HY := Lib.hid (@sm_yes C L hlen)
    have HNO := Lib.hid fun i => @sm_no_at C L i
    have HLN := Lib.hid hlen
    clear hlen
    go_enter Tryz.func13, Tryz.ntmps13
    go_wp2_with (first
      | (go_at_call 10; (with_reducible refine HCN.out.mono ?_); rintro e w1 ⟨u1, rfl, hr1, hb1⟩; obtain ⟨a1, cap1, hu, -, c1⟩ := hr1.open_; rw [HLN.out] at hu c1; subst hu; have C1 := Lib.hid c1; have B1 := Lib.hid hb1; clear c1 hb1 hr1))
    go_loopw [24] (fun i wr => ∃ k : Nat, i = .int .i64 (k : Int) ∧ k ≤ L.length ∧ Hid (Below w1.heap.size w1 wr) ∧ Hid (∀ j, j < k → ga C j = ga L j)) (fun i _ => L.length - (RowKit.intOf i).toNat)
    case atStart => exact ⟨0, rfl, Nat.zero_le _, Lib.hid (Below.refl _ _), Lib.hid fun j hj => absurd hj (Nat.not_lt_zero _)⟩
    case round =>
      obtain ⟨k, rfl, hk, HB, HA⟩ := hrel
      have HBW := Lib.hid (B1.out.trans (HB.out.mono B1.out.size))
      by_cases hlt : k < L.length
      · obtain ⟨b1, o1, rfl, x1⟩ := C1.out k hlt
        obtain ⟨b2, o2, rfl, x2⟩ := HC.out k hlt
        have y1 := range_cells (fun j v hj => (HB.out.cell (lt_of_cell (x1 j v hj))).trans (x1 j v hj))
        have y2 := range_cells (fun j v hj => (HBW.out.cell (lt_of_cell (x2 j v hj))).trans (x2 j v hj))
        rw [show ∀ (N : List Rw) i, rga N i = ga N i from fun _ _ => rfl] at y1 y2
        clear x1 x2
        have HQ := run_neq (ga C k) (ga L k)
        have HNK := Lib.hid (HNO.out k)
        have HX := Lib.hid fun (h : ga C k = ga L k) j (hj : j < k + 1) => by
          by_cases q : j < k
          · exact HA.out j q
          · obtain rfl : j = k := by omega
            exact h
        have HE := Lib.hid (rE_iff (ga C k) (ga L k))
        generalize ga C k = x at *
        generalize ga L k = y at *
        obtain ⟨p0, p1, p2, p3, p4, p5, p6, p7, p8⟩ := y1
        obtain ⟨q0, q1, q2, q3, q4, q5, q6, q7, q8⟩ := y2
        have HN : ∀ (_ : rE x y = false), ¬ x = y := fun h e => by rw [HE.out.2 e] at h; cases h
        have HN := Lib.hid HN
        cases hb : rE x y with
        | true =>
          have HX2 := Lib.hid (HX.out (HE.out.1 hb))
          rw [hb] at HQ
          clear hb HE HN HX HNK
          go_wp2_with fail
          go_region
          go_wp2_with fail
          go_roundw
          case rel => exact ⟨k + 1, by go_num, by omega, Lib.hid HB.out.drew, HX2⟩
          case measure => simp [RowKit.intOf]; omega
        | false =>
          have HZ := Lib.hid (HNK.out (HN.out hb))
          rw [hb] at HQ
          clear hb HE HN HX HNK
          go_wp2_with fail
          go_region
          go_wp2_with fail
          go_ret
          rw [HZ.out]
          exact ⟨rfl, HBW.out.drew⟩
      · obtain rfl : k = L.length := by omega
        have HZ := Lib.hid (HY.out fun j hj => HA.out j (by rw [← HLN.out]; exact hj))
        go_wp2_with fail
        go_ret
        rw [HZ.out]
        exact ⟨rfl, HBW.out⟩
  · rw [isC_no hz]
    have b1 : ((sck L).2 != 0) = true := by simpa using hz
    clear hc hr hs hP hz
    generalize scn L = C at *
    generalize sck L = x at *
    obtain ⟨p, E⟩ := x
    dsimp only at b1 HCN
    go_enter Tryz.func13, Tryz.ntmps13
    go_wp2_with (first
      | (go_at_call 10; (with_reducible refine HCN.out.mono ?_); rintro e w1 ⟨u1, rfl, hr1, hb1⟩))
    go_ret
    exact ⟨rfl, hb1⟩

/-! ### the laws' premises -/
def CkP : Prop := ∀ (L : List Rw) (v : Value) (W : World), Row W v L → L.length ≤ 5000 → Mod L → Ev W →
  Calls Tryz.prog 7 #[v] W fun e w' => e = .returned (.tuple #[.string (sck L).1, .int .i64 (sck L).2]) ∧ Below W.heap.size W w'
def CnP : Prop := ∀ (L : List Rw) (v : Value) (W : World), Row W v L → L.length ≤ 5000 → Mod L → Ev W →
  Calls Tryz.prog 9 #[v] W fun e w' => ∃ v', e = .returned (.tuple #[v', .string (sck L).1, .int .i64 (sck L).2]) ∧ Row w' v' (scn L) ∧ Below W.heap.size W w'
def IsP : Prop := ∀ (L : List Rw) (v : Value) (W : World), Row W v L → L.length ≤ 5000 → Mod L → Ev W →
  Calls Tryz.prog 12 #[v] W fun e w' => e = .returned (.bool (isC L)) ∧ Below W.heap.size W w'
def KiP : Prop := ∀ (k : Int) (W : World), Ev W → Calls Tryz.prog 14 #[.int .i64 k] W fun e w' => e = .returned (.string (kB k)) ∧ Below W.heap.size W w'
def KoP : Prop := ∀ (s : ByteArray) (W : World), s.size ≤ 9223372036854775807 → Ev W → Calls Tryz.prog 16 #[.string s] W fun e w' => e = .returned (.int .i64 (kO s)) ∧ Below W.heap.size W w'
def AwP : Prop := ∀ (W : World), Ev W → Calls Tryz.prog 6 #[] W fun e w' => e = .returned (.bool true) ∧ Below W.heap.size W w'
theorem mod_of {L : List Rw} (hf : Fit L) (h : lgS L = true) : Mod L := fun r hr => by
  have := (lgS_iff h).2.2 r hr
  have := hf r hr
  omega

set_option maxHeartbeats 8000000 in
set_option maxRecDepth 100000 in
theorem says_of (HCK : CkP) (HCN : CnP) (HIS : IsP) (HKI : KiP) (HKO : KoP) (HAW : AwP) (L : List Rw) (v : Value) (k : Int) (s : ByteArray) (w : World) (hr : Row w v L) (hl : L.length ≤ 9223372036854775807) (hs : Fit L) (hss : s.size ≤ 9223372036854775807) (hE : Ev w) :
    Calls Tryz.prog 3 #[v, .int .i64 k, .string s] w fun e w' => e = .returned (.bool true) ∧ Below w.heap.size w w' := by
  have HLG := Lib.hid (light_any L v w hr hl hs)
  have HR := Lib.hid hr
  have HE := Lib.hid hE
  have HAWh := Lib.hid fun W (k : Ev W) => HAW W k
  cases hlg : lgS L with
  | false =>
    rw [hlg] at HLG
    clear hr hs hE hlg HAW HCK HCN HIS HKI HKO
    go_enter Tryz.func3, Tryz.ntmps3
    go_wp2_with (first
      | (go_at_call 5; (with_reducible refine HLG.out.mono ?_); rintro e w1 ⟨rfl, rfl⟩)
      | (go_at_call 6; (with_reducible refine (HAWh.out _ HE.out).mono ?_); rintro e w1 ⟨rfl, hb1⟩))
    go_ret
    exact ⟨rfl, hb1⟩
  | true =>
    rw [hlg] at HLG
    have h5 := (lgS_iff hlg).1
    have hmod := mod_of hs hlg
    have H1 := Lib.hid fun W (h : Row W v L) (k : Ev W) => HCK L v W h h5 hmod k
    have H2 := Lib.hid fun W (h : Row W v L) (k : Ev W) => rcheck_any L v W h hl hmod k.pow
    have H3 := Lib.hid fun W (h : Row W v L) (k : Ev W) => HCN L v W h h5 hmod k
    have H4 := Lib.hid fun W (h : Row W v L) (k : Ev W) => rcanon_any L v W h hl hmod k.pow
    have H7 := Lib.hid fun W (h : Row W v L) (k : Ev W) => HIS L v W h h5 hmod k
    have H8 := Lib.hid fun W (h : Row W v L) (k : Ev W) => ris_any L v W h hl hmod k.pow
    have h6 := scn_size h5
    have H9 := Lib.hid fun u1 u2 W (h : Row W u1 (scn L)) (k : Row W u2 (scn L)) => same_any (scn L) (scn L) u1 u2 W h k (by omega) (by omega)
    rw [sm_self] at H9
    have HA := Lib.hid fun W (h : Ev W) => HKI k W h
    have HB := Lib.hid fun W (h : Ev W) => (rkind_any k W).mono (R' := fun e w' => e = .returned (.string (kB k)) ∧ Below W.heap.size W w') fun e w' h => ⟨h.1, h.2 ▸ Below.refl _ _⟩
    have HC := Lib.hid fun W (h : Ev W) => HKO s W hss h
    have HD := Lib.hid fun W (h : Ev W) => (rkindof_any s W).mono (R' := fun e w' => e = .returned (.int .i64 (kO s)) ∧ Below W.heap.size W w') fun e w' h => ⟨h.1, h.2 ▸ Below.refl _ _⟩
    clear hr hs hE hlg HAW HCK HCN HIS HKI HKO h6 hss
    generalize sck L = x at *
    obtain ⟨p, E⟩ := x
    dsimp only at H1 H2 H3 H4
    generalize scn L = C at *
    generalize isC L = b at *
    generalize kB k = kb at *
    generalize kO s = ko at *
    have q1 : (p.toList == p.toList) = true := beq_self_eq_true _
    have q2 : (b == b) = true := beq_self_eq_true _
    have q3 : (kb.toList == kb.toList) = true := beq_self_eq_true _
    go_enter Tryz.func3, Tryz.ntmps3
    go_wp2_with (first
      | (go_at_call 5; (with_reducible refine HLG.out.mono ?_); rintro e w1 ⟨rfl, rfl⟩)
      | (go_at_call 7; (with_reducible refine (H1.out _ HR.out HE.out).mono ?_); rintro e w1 ⟨rfl, hb1⟩; have B1 := Lib.hid hb1; clear hb1)
      | (go_at_call 8; (with_reducible refine (H2.out _ (HR.out.next B1.out) (HE.out.next B1.out)).mono ?_); rintro e w2 ⟨rfl, hb2⟩; have B2 := Lib.hid (B1.out.trans (hb2.mono B1.out.size)); clear hb2)
      | (go_at_call 9; (with_reducible refine (H3.out _ (HR.out.next B2.out) (HE.out.next B2.out)).mono ?_); rintro e w3 ⟨v3, rfl, hr3, hb3⟩; have R3 := Lib.hid hr3; have B3 := Lib.hid (B2.out.trans (hb3.mono B2.out.size)); clear hb3 hr3)
      | (go_at_call 10; (with_reducible refine (H4.out _ (HR.out.next B3.out) (HE.out.next B3.out)).mono ?_); rintro e w4 ⟨v4, rfl, hr4, hb4⟩; have R4 := Lib.hid hr4; have R34 := Lib.hid (R3.out.next hb4); have B4 := Lib.hid (B3.out.trans (hb4.mono B3.out.size)); clear hb4 hr4)
      | (go_at_call 11; (with_reducible refine (H9.out _ _ _ R34.out R4.out).mono ?_); rintro e w7 ⟨rfl, hb7⟩; have B7 := Lib.hid (B4.out.trans (hb7.mono B4.out.size)); clear hb7)
      | (go_at_call 12; (with_reducible refine (H7.out _ (HR.out.next B7.out) (HE.out.next B7.out)).mono ?_); rintro e w8 ⟨rfl, hb8⟩; have B8 := Lib.hid (B7.out.trans (hb8.mono B7.out.size)); clear hb8)
      | (go_at_call 13; (with_reducible refine (H8.out _ (HR.out.next B8.out) (HE.out.next B8.out)).mono ?_); rintro e w9 ⟨rfl, hb9⟩; have B9 := Lib.hid (B8.out.trans (hb9.mono B8.out.size)); clear hb9)
      | (go_at_call 14; (with_reducible refine (HA.out _ (HE.out.next B9.out)).mono ?_); rintro e wa ⟨rfl, hba⟩; have BA := Lib.hid (B9.out.trans (hba.mono B9.out.size)); clear hba)
      | (go_at_call 15; (with_reducible refine (HB.out _ (HE.out.next BA.out)).mono ?_); rintro e wb ⟨rfl, hbb⟩; have BB := Lib.hid (BA.out.trans (hbb.mono BA.out.size)); clear hbb)
      | (go_at_call 16; (with_reducible refine (HC.out _ (HE.out.next BB.out)).mono ?_); rintro e wc ⟨rfl, hbc⟩; have BC := Lib.hid (BB.out.trans (hbc.mono BB.out.size)); clear hbc)
      | (go_at_call 17; (with_reducible refine (HD.out _ (HE.out.next BC.out)).mono ?_); rintro e wd ⟨rfl, hbd⟩; have BD := Lib.hid (BC.out.trans (hbd.mono BC.out.size)); clear hbd)
      | (go_at_call 6; (with_reducible refine (HAWh.out _ (HE.out.next BD.out)).mono ?_); rintro e wx ⟨rfl, hbx⟩))
    go_ret
    exact ⟨by simp, BD.out.trans (hbx.mono BD.out.size)⟩
end Go.Proofs.YthkopnobekohcaaGreatDoor.Two
