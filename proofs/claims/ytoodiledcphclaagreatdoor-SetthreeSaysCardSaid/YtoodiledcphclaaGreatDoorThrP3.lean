/- Laws of sets of rules: light. Conditions: the rules can be read. · Laws of sets of rules: what the code's calls answer, as premises; awake's plain facts. Conditions: as each theorem states. · Laws of sets of rules: SetthreeSays, SetthreeSame, out of what the code's calls answer. Conditions: as each theorem states. -/
import Derived.Test.YtoodiledcphclaaGreatDoorThrP1
import Derived.Test.YtoodiledcphclaaGreatDoorThrP2
namespace Go.Proofs.YtoodiledcphclaaGreatDoor.Thr
open Go.RowKit Go.Lib
open Go.Proofs.YtoodiledcphclaaGreatDoor.Rul (Ru zero Row Own ruC ruL rga)

def lg1 (r : Ru) : Bool := decide (r.id.size ≤ 400) && decide (r.no.size ≤ 400) && decide (r.ro.size ≤ 400)
theorem lg1_iff (r : Ru) : lg1 r = true ↔ r.id.size ≤ 400 ∧ r.no.size ≤ 400 ∧ r.ro.size ≤ 400 := by
  unfold lg1
  rw [Bool.and_eq_true, Bool.and_eq_true, decide_eq_true_eq, decide_eq_true_eq, decide_eq_true_eq]
  exact ⟨fun h => ⟨h.1.1, h.1.2, h.2⟩, fun h => ⟨⟨h.1, h.2.1⟩, h.2.2⟩⟩
/-- Few rules, with short texts, or more than there may be. -/
def lgS (L : List Ru) : Bool := !((decide (60 < L.length) && decide (L.length ≤ 4096)) || decide (5000 < L.length)) && L.all lg1
theorem lgS_long {L : List Ru} (h : (60 < L.length ∧ L.length ≤ 4096) ∨ 5000 < L.length) : lgS L = false := by
  unfold lgS
  have : ((decide (60 < L.length) && decide (L.length ≤ 4096)) || decide (5000 < L.length)) = true := by simpa using h
  rw [this]; rfl
theorem lgS_wide {L : List Ru} {i : Nat} (hi : i < L.length) (h : lg1 (ga L i) = false) : lgS L = false := by
  unfold lgS
  rw [Bool.and_eq_false_iff]
  right
  rw [List.all_eq_false]
  exact ⟨_, ga_mem hi, by rw [h]; decide⟩
theorem lgS_yes {L : List Ru} (h1 : ¬ ((60 < L.length ∧ L.length ≤ 4096) ∨ 5000 < L.length)) (h2 : ∀ j, j < L.length → lg1 (ga L j) = true) : lgS L = true := by
  unfold lgS
  have : ((decide (60 < L.length) && decide (L.length ≤ 4096)) || decide (5000 < L.length)) = false := by
    rw [Bool.eq_false_iff]
    intro q
    exact h1 (by simpa using q)
  rw [this, Bool.not_false, Bool.true_and, List.all_eq_true]
  intro r hr
  obtain ⟨i, hi, rfl⟩ := mem_ga hr
  exact h2 i hi
theorem lgS_iff {L : List Ru} (h : lgS L = true) : L.length ≤ 5000 ∧ (L.length ≤ 60 ∨ 4096 < L.length) ∧ ∀ r ∈ L, r.id.size ≤ 400 ∧ r.no.size ≤ 400 ∧ r.ro.size ≤ 400 := by
  have h1 : ¬ ((60 < L.length ∧ L.length ≤ 4096) ∨ 5000 < L.length) := fun q => by rw [lgS_long q] at h; cases h
  refine ⟨by omega, by omega, fun r hr => ?_⟩
  obtain ⟨i, hi, rfl⟩ := mem_ga hr
  cases hq : lg1 (ga L i) with
  | true => exact (lg1_iff _).1 hq
  | false => rw [lgS_wide hi hq] at h; cases h
/-- The texts are strings. -/
def Fit (L : List Ru) : Prop := ∀ r ∈ L, r.id.size ≤ 9223372036854775807 ∧ r.no.size ≤ 9223372036854775807 ∧ r.ro.size ≤ 9223372036854775807

set_option maxHeartbeats 4000000 in
set_option maxRecDepth 100000 in
theorem light_any (L : List Ru) (v : Value) (w : World) (hr : Row w v L) (hl : L.length ≤ 9223372036854775807) (hs : Fit L) :
    Calls Tryz.prog 4 #[v] w fun e w' => e = .returned (.bool (lgS L)) ∧ w = w' := by
  obtain ⟨a, cap, rfl, -, hc⟩ := hr.open_
  by_cases h60 : (60 < L.length ∧ L.length ≤ 4096) ∨ 5000 < L.length
  · rw [lgS_long h60]
    clear hc hr hs
    by_cases g1 : 5000 < L.length
    · have n1 : 60 < L.length := by omega
      have n2 : ¬ L.length ≤ 4096 := by omega
      clear h60
      go_enter Tryz.func4, Tryz.ntmps4
      go_wp2_with fail
      go_ret
      exact ⟨rfl, rfl⟩
    · have n1 : 60 < L.length := by omega
      have n2 : L.length ≤ 4096 := by omega
      clear h60 g1
      go_enter Tryz.func4, Tryz.ntmps4
      go_wp2_with fail
      go_ret
      exact ⟨rfl, rfl⟩
  · have HC := Lib.hid hc
    have HW := Lib.hid fun i => @lgS_wide L i
    have HY := Lib.hid (@lgS_yes L h60)
    have HS := Lib.hid hs
    have HL1 := Lib.hid fun r => lg1_iff r
    have n1 : ¬ 5000 < L.length := by omega
    have n2 : ¬ (60 < L.length ∧ L.length ≤ 4096) := by omega
    clear hc hr hs h60
    rcases (show ¬ 60 < L.length ∨ (60 < L.length ∧ ¬ L.length ≤ 4096) by omega) with n3 | ⟨n3, n4⟩
    all_goals
      clear n2
      go_enter Tryz.func4, Tryz.ntmps4
      go_wp2_with fail
      go_loop [19] (fun i => ∃ k : Nat, i = .int .i64 (k : Int) ∧ k ≤ L.length ∧ Hid (∀ j, j < k → lg1 (ga L j) = true)) (fun i => L.length - (RowKit.intOf i).toNat)
      case atStart => exact ⟨0, rfl, Nat.zero_le _, Lib.hid fun j hj => absurd hj (Nat.not_lt_zero _)⟩
      case round =>
        obtain ⟨k, rfl, hk, HA⟩ := hrel
        by_cases hlt : k < L.length
        · obtain ⟨b, off, rfl, hcl⟩ := HC.out k hlt
          rw [rga_ga] at hcl
          obtain ⟨c0, c1, c2, -⟩ := Rul.range_cells hcl
          have hsz := HS.out _ (ga_mem hlt)
          have HW2 := Lib.hid (HW.out k hlt)
          have HX := Lib.hid fun (h : lg1 (ga L k) = true) j (hj : j < k + 1) => by
            by_cases q : j < k
            · exact HA.out j q
            · obtain rfl : j = k := by omega
              exact h
          have HL2 := Lib.hid (HL1.out (ga L k))
          clear hcl
          generalize hq : lg1 (ga L k) = bq at *
          clear hq
          generalize (ga L k).id = x0 at *
          generalize (ga L k).no = x1 at *
          generalize (ga L k).ro = x2 at *
          obtain ⟨z0, z1, z2⟩ := hsz
          cases bq with
          | true =>
            obtain ⟨y0, y1, y2⟩ := HL2.out.1 rfl
            have HX2 := Lib.hid (HX.out rfl)
            go_wp2_with fail
            go_round
            case rel => exact ⟨k + 1, by go_num, by omega, HX2⟩
            case measure => simp [RowKit.intOf]; omega
          | false =>
            have HN : ¬ (x0.size ≤ 400 ∧ x1.size ≤ 400 ∧ x2.size ≤ 400) := fun h => by have := HL2.out.2 h; cases this
            have HZ := Lib.hid (HW2.out rfl)
            rcases (show ¬ x0.size ≤ 400 ∨ (x0.size ≤ 400 ∧ ¬ x1.size ≤ 400) ∨ (x0.size ≤ 400 ∧ x1.size ≤ 400 ∧ ¬ x2.size ≤ 400) by omega) with y0 | ⟨y0, y1⟩ | ⟨y0, y1, y2⟩
            all_goals
              clear HN
              go_wp2_with fail
              go_ret
              rw [HZ.out]
              exact ⟨rfl, rfl⟩
        · obtain rfl : k = L.length := by omega
          have HZ := Lib.hid (HY.out HA.out)
          go_wp2_with fail
          go_ret
          rw [HZ.out]
          exact ⟨rfl, rfl⟩
end Go.Proofs.YtoodiledcphclaaGreatDoor.Thr

namespace Go.Proofs.YtoodiledcphclaaGreatDoor.Thr
open Go.RowKit Go.Lib
open Go.Proofs.YtoodiledcphclaaGreatDoor.Rul (Ru zero Row Own ruC ruL rga chk can cn)
open Go.Proofs.YtoodiledcphclaaGreatDoor.Ren (Pw)

/-- The tables that the code reads. -/
structure Ev (W : World) : Prop where
  tab : Rul.Tab W
  utf : Utf.Tabs W
  pow : Pw W
theorem Ev.next {W W' : World} (h : Ev W) (hb : Below W.heap.size W W') : Ev W' := ⟨h.tab.next hb, Utf.Tabs.next h.utf hb, h.pow.next hb⟩

/-! ### awake's sets -/
def rA : Ru := ⟨⟨#[97]⟩, ⟨#[]⟩, ⟨#[47]⟩, 0, 2, 0, 0, 0, 0, 1, 0, 0, 0⟩
def rB : Ru := ⟨⟨#[98]⟩, ⟨#[]⟩, ⟨#[47]⟩, 0, 2, 0, 0, 0, 0, 2, 0, 0, 0⟩
theorem chk_A : chk rA = (⟨#[]⟩, 0) := by decide +kernel
theorem chk_B : chk rB = (⟨#[]⟩, 0) := by decide +kernel
theorem rt_A : Rul.Rt rA := (Rul.chk_zero _).1 (by rw [chk_A])
theorem rt_B : Rul.Rt rB := (Rul.chk_zero _).1 (by rw [chk_B])
theorem can_A : can rA = rA := Rul.can_two rfl
theorem can_B : can rB = rB := Rul.can_two rfl
theorem rs_BA : Rs [rB, rA] := ⟨by decide, fun r hr => by
  simp only [List.mem_cons, List.not_mem_nil, or_false] at hr
  rcases hr with rfl | rfl
  · exact rt_B
  · exact rt_A, by decide⟩
theorem scn_BA : scn [rB, rA] = [rA, rB] := by
  rw [scn_ok rs_BA]
  show srt [can rB, can rA] = _
  rw [can_A, can_B]
  show ins rA [rB] = _
  unfold ins
  rw [if_neg (by rw [Ide.lt_is]; decide)]
theorem sck_BA : sck [rB, rA] = (⟨#[]⟩, 0) := sck_ok rs_BA
theorem sck_AA : sck [rA, rA] = (⟨#[47, 49, 47, 105, 100]⟩, 11) := by
  rw [sck_few (by decide)]
  have h0 : nx [rA, rA] 0 = (⟨#[]⟩, 0) := nx_ok (L := [rA, rA]) (i := 0) (by show (chk rA).2 = 0; rw [chk_A]) rfl
  have h1 : nx [rA, rA] 1 = (pre 1 Rul.p1, 11) := nx_twice (L := [rA, rA]) (i := 1) (by show (chk rA).2 = 0; rw [chk_A]) rfl
  show Rul.fst [nx [rA, rA] 0, nx [rA, rA] 1] = _
  rw [h0, h1, Rul.fst_no _ rfl, Rul.fst_yes _ (by decide)]
  have e : Lib.itoa ((1 : Nat) : Int) = [49] := by
    unfold Lib.itoa
    rw [if_neg (by decide)]
    exact Lib.decDigits_one (by decide)
  unfold pre
  rw [e]
  rfl
theorem isC_AB : isC [rA, rB] = true := by have := isC_scn rs_BA; rwa [scn_BA] at this
theorem isC_BA : isC [rB, rA] = false := by
  rw [isC_ok rs_BA, scn_BA]
  decide
theorem isC_nil : isC [] = true := by
  have h : Rs [] := ⟨by decide, fun r hr => absurd hr List.not_mem_nil, List.nodup_nil⟩
  rw [isC_ok h, scn_ok h]
  rfl
theorem fd_BA : fd [rB, rA] ⟨#[97]⟩ = 1 ∧ fk [rB, rA] ⟨#[97]⟩ = true := find_at (L := [rB, rA]) (k := 1) (by decide) rfl (fun j hj => by
  obtain rfl : j = 0 := by omega
  decide)
theorem mod_two {a b : Ru} (ha : a = rA ∨ a = rB) (hb : b = rA ∨ b = rB) : Mod [a, b] := fun r hr => by
  simp only [List.mem_cons, List.not_mem_nil, or_false] at hr
  rcases hr with rfl | rfl
  · rcases ha with rfl | rfl <;> exact ⟨by decide, by decide, by decide⟩
  · rcases hb with rfl | rfl <;> exact ⟨by decide, by decide, by decide⟩
end Go.Proofs.YtoodiledcphclaaGreatDoor.Thr

namespace Go.Proofs.YtoodiledcphclaaGreatDoor.Thr
open Go.RowKit Go.Lib
open Go.Proofs.YtoodiledcphclaaGreatDoor.Rul (Ru zero Row Own ruC ruL rga chk can cn)
open Go.Proofs.YtoodiledcphclaaGreatDoor.Ren (Pw)

/-- What the code's calls answer. -/
def CkP : Prop := ∀ (L : List Ru) (v : Value) (W : World), Row W v L → L.length ≤ 5000 → Mod L → Ev W →
  Calls Tryz.prog 6 #[v] W fun e w' => e = .returned (.tuple #[.string (sck L).1, .int .i64 (sck L).2]) ∧ Below W.heap.size W w'
def CnP : Prop := ∀ (L : List Ru) (v : Value) (W : World), Row W v L → L.length ≤ 5000 → Mod L → Ev W →
  Calls Tryz.prog 8 #[v] W fun e w' => ∃ v', e = .returned (.tuple #[v', .string (sck L).1, .int .i64 (sck L).2]) ∧ Row w' v' (scn L) ∧ Below W.heap.size W w'
def IsP : Prop := ∀ (L : List Ru) (v : Value) (W : World), Row W v L → L.length ≤ 5000 → Mod L → Ev W →
  Calls Tryz.prog 13 #[v] W fun e w' => e = .returned (.bool (isC L)) ∧ Below W.heap.size W w'
def FdP : Prop := ∀ (L : List Ru) (v : Value) (s : ByteArray) (W : World), Row W v L → L.length ≤ 9223372036854775807 →
  Calls Tryz.prog 10 #[v, .string s] W fun e w' => e = .returned (.tuple #[.int .i64 (fd L s), .bool (fk L s)]) ∧ Below W.heap.size W w'
def SmP : Prop := ∀ (L M : List Ru) (v u : Value) (W : World), Row W v L → Row W u M → L.length ≤ 9223372036854775807 → M.length ≤ 9223372036854775807 →
  Calls Tryz.prog 26 #[v, u] W fun e w' => e = .returned (.bool (sm L M)) ∧ Below W.heap.size W w'
def AwP : Prop := ∀ (W : World), Ev W → Calls Tryz.prog 5 #[] W fun e w' => e = .returned (.bool true) ∧ Below W.heap.size W w'

theorem scn_size {L : List Ru} (h : L.length ≤ 5000) : (scn L).length ≤ 5000 := by
  by_cases hz : (sck L).2 = 0
  · rw [scn_len ((sck_zero L).1 hz)]; exact h
  · rw [scn_no hz]; exact Nat.zero_le _
theorem mod_of {L : List Ru} (h : lgS L = true) : Mod L := fun r hr => by
  have := (lgS_iff h).2.2 r hr
  omega

set_option maxHeartbeats 8000000 in
set_option maxRecDepth 100000 in
theorem says_of (HCK : CkP) (HCN : CnP) (HIS : IsP) (HFD : FdP) (HAW : AwP) (L : List Ru) (v : Value) (s : ByteArray) (w : World) (hr : Row w v L) (hl : L.length ≤ 9223372036854775807) (hs : Fit L) (hE : Ev w) :
    Calls Tryz.prog 3 #[v, .string s] w fun e w' => e = .returned (.bool true) ∧ Below w.heap.size w w' := by
  have HLG := Lib.hid (light_any L v w hr hl hs)
  have HR := Lib.hid hr
  have HE := Lib.hid hE
  have HAWh := Lib.hid fun W (k : Ev W) => HAW W k
  cases hlg : lgS L with
  | false =>
    rw [hlg] at HLG
    clear hr hs hE hlg HAW HCK HCN HIS HFD
    go_enter Tryz.func3, Tryz.ntmps3
    go_wp2_with (first
      | (go_at_call 4; (with_reducible refine HLG.out.mono ?_); rintro e w1 ⟨rfl, rfl⟩)
      | (go_at_call 5; (with_reducible refine (HAWh.out _ HE.out).mono ?_); rintro e w1 ⟨rfl, hb1⟩))
    go_ret
    exact ⟨rfl, hb1⟩
  | true =>
    rw [hlg] at HLG
    have h5 := (lgS_iff hlg).1
    have hmod := mod_of hlg
    have H1 := Lib.hid fun W (h : Row W v L) (k : Ev W) => HCK L v W h h5 hmod k
    have H2 := Lib.hid fun W (h : Row W v L) (k : Ev W) => rcheck_any L v W h hl hmod k.pow
    have H3 := Lib.hid fun W (h : Row W v L) (k : Ev W) => HCN L v W h h5 hmod k
    have H4 := Lib.hid fun W (h : Row W v L) (k : Ev W) => rcanon_any L v W h hl hmod k.pow
    have H5 := Lib.hid fun W (h : Row W v L) => HFD L v s W h hl
    have H6 := Lib.hid fun W (h : Row W v L) => rfind_any L v s W h hl
    have H7 := Lib.hid fun W (h : Row W v L) (k : Ev W) => HIS L v W h h5 hmod k
    have H8 := Lib.hid fun W (h : Row W v L) (k : Ev W) => ris_any L v W h hl hmod k.pow
    have h6 := scn_size h5
    have H9 := Lib.hid fun u1 u2 W (h : Row W u1 (scn L)) (k : Row W u2 (scn L)) => rsame_any (scn L) (scn L) u1 u2 W h k (by omega) (by omega)
    rw [sm_self] at H9
    clear hr hs hE hlg HAW HCK HCN HIS HFD h6
    generalize sck L = x at *
    obtain ⟨p, E⟩ := x
    dsimp only at H1 H2 H3 H4
    generalize scn L = C at *
    generalize isC L = b at *
    generalize fd L s = n at *
    generalize fk L s = f at *
    have q1 : (p.toList == p.toList) = true := beq_self_eq_true _
    have q2 : (b == b) = true := beq_self_eq_true _
    have q3 : (f == f) = true := beq_self_eq_true _
    go_enter Tryz.func3, Tryz.ntmps3
    go_wp2_with (first
      | (go_at_call 4; (with_reducible refine HLG.out.mono ?_); rintro e w1 ⟨rfl, rfl⟩)
      | (go_at_call 6; (with_reducible refine (H1.out _ HR.out HE.out).mono ?_); rintro e w1 ⟨rfl, hb1⟩; have B1 := Lib.hid hb1; clear hb1)
      | (go_at_call 7; (with_reducible refine (H2.out _ (HR.out.next B1.out) (HE.out.next B1.out)).mono ?_); rintro e w2 ⟨rfl, hb2⟩; have B2 := Lib.hid (B1.out.trans (hb2.mono B1.out.size)); clear hb2)
      | (go_at_call 8; (with_reducible refine (H3.out _ (HR.out.next B2.out) (HE.out.next B2.out)).mono ?_); rintro e w3 ⟨v3, rfl, hr3, hb3⟩; have R3 := Lib.hid hr3; have B3 := Lib.hid (B2.out.trans (hb3.mono B2.out.size)); clear hb3 hr3)
      | (go_at_call 9; (with_reducible refine (H4.out _ (HR.out.next B3.out) (HE.out.next B3.out)).mono ?_); rintro e w4 ⟨v4, rfl, hr4, hb4⟩; have R4 := Lib.hid hr4; have R34 := Lib.hid (R3.out.next hb4); have B4 := Lib.hid (B3.out.trans (hb4.mono B3.out.size)); clear hb4 hr4)
      | (go_at_call 10; (with_reducible refine (H5.out _ (HR.out.next B4.out)).mono ?_); rintro e w5 ⟨rfl, hb5⟩; have R45 := Lib.hid (R4.out.next hb5); have R35 := Lib.hid (R34.out.next hb5); have B5 := Lib.hid (B4.out.trans (hb5.mono B4.out.size)); clear hb5)
      | (go_at_call 11; (with_reducible refine (H6.out _ (HR.out.next B5.out)).mono ?_); rintro e w6 ⟨rfl, rfl⟩)
      | (go_at_call 12; (with_reducible refine (H9.out _ _ _ R35.out R45.out).mono ?_); rintro e w7 ⟨rfl, hb7⟩; have B7 := Lib.hid (B5.out.trans (hb7.mono B5.out.size)); clear hb7)
      | (go_at_call 13; (with_reducible refine (H7.out _ (HR.out.next B7.out) (HE.out.next B7.out)).mono ?_); rintro e w8 ⟨rfl, hb8⟩; have B8 := Lib.hid (B7.out.trans (hb8.mono B7.out.size)); clear hb8)
      | (go_at_call 14; (with_reducible refine (H8.out _ (HR.out.next B8.out) (HE.out.next B8.out)).mono ?_); rintro e w9 ⟨rfl, hb9⟩; have B9 := Lib.hid (B8.out.trans (hb9.mono B8.out.size)); clear hb9)
      | (go_at_call 5; (with_reducible refine (HAWh.out _ (HE.out.next B9.out)).mono ?_); rintro e wx ⟨rfl, hbx⟩))
    go_ret
    exact ⟨by simp, B9.out.trans (hbx.mono B9.out.size)⟩

end Go.Proofs.YtoodiledcphclaaGreatDoor.Thr
