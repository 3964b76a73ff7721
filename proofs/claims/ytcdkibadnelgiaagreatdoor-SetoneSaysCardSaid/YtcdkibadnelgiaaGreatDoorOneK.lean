/- Laws of sets of rules of version 1: awake, out of what the code's calls answer. Conditions: as each theorem states. -/
import Derived.Test.YtcdkibadnelgiaaGreatDoorOneP3
namespace Go.Proofs.YtcdkibadnelgiaaGreatDoor.One
open Go.RowKit Go.Lib
open Go.Proofs.YtcdkibadnelgiaaGreatDoor.Ren (Pw)

theorem th_1 : thB 1 = 4562254508917369340 := by decide +kernel
theorem th_0 : thB 0 = 0 := by decide +kernel
theorem mn_a : Real.mn 4564099183324740295 = 1 ∧ Real.me 4564099183324740295 = 0 := by decide +kernel
theorem mn_b : Real.mn 9223372036854775808 = 0 ∧ Real.me 9223372036854775808 = 0 := by decide +kernel
theorem neg_0 : Op.negFloat .f64 0 = 9223372036854775808 := by decide +kernel
def rA : Ro := ⟨⟨#[97]⟩, ⟨#[47, 120]⟩, 4564099183324740295, 2⟩
def rB : Ro := ⟨⟨#[98]⟩, ⟨#[47]⟩, 9223372036854775808, 1⟩
def cA : Ro := ⟨⟨#[97]⟩, ⟨#[47, 120]⟩, 4562254508917369340, 2⟩
def cB : Ro := ⟨⟨#[98]⟩, ⟨#[47]⟩, 0, 1⟩
def rN (z : Nat) : Ro := ⟨⟨#[98]⟩, ⟨#[47]⟩, z, 1⟩
theorem isN_a : isN ⟨#[97]⟩ = true := by decide +kernel
theorem isN_b : isN ⟨#[98]⟩ = true := by decide +kernel
theorem isP_1 : isP ⟨#[47]⟩ = true := by decide +kernel
theorem isP_2 : isP ⟨#[47, 120]⟩ = true := by decide +kernel
theorem rt_A : Rt rA := ⟨isN_a, isP_2, mn_a.2, by decide⟩
theorem rt_B : Rt rB := ⟨isN_b, isP_1, mn_b.2, by decide⟩
theorem can_A : can rA = cA := by
  show (⟨_, _, thB (Real.mn 4564099183324740295), _⟩ : Ro) = _
  rw [mn_a.1, th_1]; rfl
theorem can_B : can rB = cB := by
  show (⟨_, _, thB (Real.mn 9223372036854775808), _⟩ : Ro) = _
  rw [mn_b.1, th_0]; rfl
theorem rs_BA : Rs [rB, rA] := ⟨by decide, fun r hr => by
  simp only [List.mem_cons, List.not_mem_nil, or_false] at hr
  rcases hr with rfl | rfl
  · exact rt_B
  · exact rt_A, by decide⟩
theorem scn_BA : scn [rB, rA] = [cA, cB] := by
  rw [scn_ok rs_BA]
  show srt [can rB, can rA] = _
  rw [can_A, can_B]
  show ins cA [cB] = _
  unfold ins
  rw [if_neg (by rw [Ide.lt_is]; decide)]
theorem sck_BA : sck [rB, rA] = (⟨#[]⟩, 0) := sck_ok rs_BA
theorem itoa_0 : Lib.itoa ((0 : Nat) : Int) = [48] := by
  unfold Lib.itoa
  rw [if_neg (by decide)]
  exact Lib.decDigits_one (by decide)
/-- A single rule that is wrong. -/
theorem sck_one {r : Ro} (h : (chk r).2 ≠ 0) : sck [r] = (⟨#[47, 48]⟩ ++ (chk r).1, (chk r).2) := by
  rw [sck_few (by show ¬ 4096 < 1; decide)]
  have h0 : nx [r] 0 = (pre 0 (chk r).1, (chk r).2) := nx_bad (L := [r]) (i := 0) h
  show Rul.fst [nx [r] 0] = _
  rw [h0, Rul.fst_yes _ h]
  unfold pre
  rw [itoa_0]
  rfl
theorem rs_one {r : Ro} (h : Rt r) : Rs [r] := ⟨by show 1 ≤ 4096; decide, fun q hq => by rw [List.mem_singleton.1 hq]; exact h, by simp⟩
theorem sck_N {z : Nat} (h : Real.nan z = true) : sck [rN z] = (⟨#[47, 48, 47, 112, 101, 114, 83, 101, 99, 111, 110, 100]⟩, 18) := by
  have hm : Real.me z = 18 := Real.me_bad (by unfold Real.mbad; rw [h]; rfl)
  have hc : chk (rN z) = (f3, 18) := by
    have := chk_3 (r := rN z) isN_b isP_1 (by show ((Real.me z : Nat) : Int) ≠ 0; rw [hm]; decide)
    rw [this]
    show (f3, ((Real.me z : Nat) : Int)) = _
    rw [hm]; rfl
  rw [sck_one (by rw [hc]; decide), hc]
  rfl
theorem isC_nil : isC [] = true := by
  have h : Rs [] := ⟨by decide, fun r hr => absurd hr List.not_mem_nil, List.nodup_nil⟩
  rw [isC_ok h, scn_ok h]
  rfl
theorem row_BA (W : World) (g : Nat) (hg : g = W.heap.size) : Row (W.alloc (.cells #[.string ⟨#[98]⟩, .string ⟨#[47]⟩, .float .f64 9223372036854775808, .int .i64 1, .string ⟨#[97]⟩, .string ⟨#[47, 120]⟩, .float .f64 4564099183324740295, .int .i64 2] 33)) (.slice (some ⟨g, 0, none⟩) 2 2) [rB, rA] := by
  subst hg
  exact (own_lit W 0 (Nat.zero_le _) [rB, rA] (by show 2 ≤ 1000000; decide)).row
theorem row_N (W : World) (g z : Nat) (hg : g = W.heap.size) : Row (W.alloc (.cells #[.string ⟨#[98]⟩, .string ⟨#[47]⟩, .float .f64 z, .int .i64 1] 33)) (.slice (some ⟨g, 0, none⟩) 1 1) [rN z] := by
  subst hg
  exact row_one W (rN z)

set_option maxHeartbeats 8000000 in
set_option maxRecDepth 100000 in
theorem awake_of (HCK : CkP) (HCN : CnP) (HIS : IsP) : AwP := by
  intro w hE
  have H1 := Lib.hid fun u W (h : Row W u [rB, rA]) (k : Pw W) => HCN [rB, rA] u W h (by show 2 ≤ 5000; decide) (fun r hr => by
    simp only [List.mem_cons, List.not_mem_nil, or_false] at hr
    rcases hr with rfl | rfl <;> exact ⟨by decide, by decide, by decide⟩) k
  rw [sck_BA, scn_BA] at H1
  have H2 := Lib.hid fun z (hz : Real.nan z = true) (hz2 : z < 18446744073709551616) u W (h : Row W u [rN z]) (k : Pw W) => (by
    have := HCK [rN z] u W h (by show 1 ≤ 5000; decide) (fun r hr => by
      rw [List.mem_singleton.1 hr]
      exact ⟨hz2, by show (1 : Nat) ≤ 140737488355328; decide, by show (1 : Nat) ≤ 140737488355328; decide⟩) k
    rw [sck_N hz] at this
    exact this : Calls Tryz.prog 6 #[u] W fun e w' => e = .returned (.tuple #[.string ⟨#[47, 48, 47, 112, 101, 114, 83, 101, 99, 111, 110, 100]⟩, .int .i64 18]) ∧ Below W.heap.size W w')
  have H6 := Lib.hid fun W (k : Pw W) => HIS [] (.slice none 0 0) W (Row.nil W) (by show 0 ≤ 5000; decide) (fun r hr => absurd hr List.not_mem_nil) k
  rw [isC_nil] at H6
  have HS := Lib.hid fun W => Real.Same_is 0 0 (by decide) (by decide) W
  rw [sameB_self] at HS
  have hn := neg_0
  have hq := fun t W => Real.quo00_run t W
  have HE := Lib.hid hE
  have hb0 := Lib.hid ((Below.refl w.heap.size w).alloc (Nat.le_refl _) (.cells #[.string ⟨#[98]⟩, .string ⟨#[47]⟩, .float .f64 9223372036854775808, .int .i64 1, .string ⟨#[97]⟩, .string ⟨#[47, 120]⟩, .float .f64 4564099183324740295, .int .i64 2] 33))
  clear HCK HCN HIS hE
  go_enter Tryz.func5, Tryz.ntmps5
  go_wp2_with (first
    | (go_at_call 8; (with_reducible refine (H1.out _ _ (row_BA _ _ (by simp)) (HE.out.next hb0.out)).mono ?_); rintro e w1 ⟨v3, rfl, hr3, hb1⟩; obtain ⟨a3, c3, e3, -, hc3⟩ := hr3.open_; obtain ⟨g, o, e4, hx0⟩ := hc3 0 (by decide); obtain ⟨g', o', e5, hx1⟩ := hc3 1 (by decide); rw [e4] at e5; injection e5 with e5; injection e5 with e6 e7; subst e6 e7; rw [e4] at e3; replace e3 : v3 = .slice (some ⟨g, o, none⟩) 2 c3 := e3; subst e3; have B1 := Lib.hid (hb0.out.trans (hb1.mono hb0.out.size)); have y0 : w1.cell? ⟨g, o, none⟩ = some (.string ⟨#[97]⟩) := hx0 0 _ rfl; have y2 : w1.cell? ⟨g, o + 2, none⟩ = some (.float .f64 4562254508917369340) := hx0 2 _ rfl; have y6 : w1.cell? ⟨g, o + 4 + 2, none⟩ = some (.float .f64 0) := hx1 2 _ rfl; clear hb1 hr3 hc3 hx0 hx1 e4)
    | (go_at_call 6; (with_reducible refine (H2.out _ (Real.someNan_nan 0 w1) (Real.someNan_lt 0 w1) _ _ ((row_N w1 _ _ (by simp)).next (Below.refl _ _).drew) (HE.out.next (B1.out.alloc B1.out.size _).drew)).mono ?_); rintro e w2 ⟨rfl, hb2⟩; have hbz := (((Below.refl w1.heap.size w1).alloc (Nat.le_refl _) (.cells #[.string ⟨#[98]⟩, .string ⟨#[47]⟩, .float .f64 (Real.someNan 0 w1), .int .i64 1] 33)).drew).trans (hb2.mono (by simp [World.drew])); have z0 := (hbz.cell (lt_of_cell y0)).trans y0; have z2 := (hbz.cell (lt_of_cell y2)).trans y2; have z6 := (hbz.cell (lt_of_cell y6)).trans y6; have B2 := Lib.hid (B1.out.trans (hbz.mono B1.out.size)); clear hb2 hbz)
    | (go_at_call 14; (with_reducible refine (HS.out _).mono ?_); rintro e w3 ⟨rfl, rfl⟩)
    | (go_at_call 11; (with_reducible refine (H6.out _ (HE.out.next B2.out)).mono ?_); rintro e w4 ⟨rfl, hb4⟩; have B4 := Lib.hid (B2.out.trans (hb4.mono B2.out.size)); clear hb4))
  go_ret
  exact ⟨rfl, B4.out⟩
end Go.Proofs.YtcdkibadnelgiaaGreatDoor.One
