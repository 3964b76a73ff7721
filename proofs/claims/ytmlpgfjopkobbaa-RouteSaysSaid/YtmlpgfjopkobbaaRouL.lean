/- The statements' example of routes; the law RouteBack. Conditions: as each theorem states. -/
import Derived.Test.YtmlpgfjopkobbaaRouG
import Derived.Deep.RegionHeld3
namespace Go.Proofs.Ytmlpgfjopkobbaa.Rou
open Go.RowKit Go.Lib Go.Proofs.Ytmlpgfjopkobbaa.Byt

theorem split_at (s : ByteArray) (L : List ByteArray) (r : Bool) (hL : spB s = L) (hr : rowB s = r) (hs : s.size ≤ 140737488355328) (w : World) :
    Calls Try.prog 7 #[.string s] w fun e w' => ∃ a c, e = .returned (.tuple #[.slice a L.length c, .bool r]) ∧ Strs.Row w' (.slice a L.length c) L ∧ L.length ≤ c ∧ Below w.heap.size w w' := by
  subst hL hr
  refine (split_any s w hs).mono ?_
  rintro e w' ⟨v, rfl, h1, h2, h3⟩
  obtain ⟨a, c, rfl, _⟩ := h1.open_
  refine ⟨a, c, rfl, h1, ?_, h3⟩
  obtain ⟨a', n, c', e, h⟩ := h2
  injection e with e1 e2 e3
  omega
theorem is_at (s : ByteArray) (b : Bool) (h : isB s = b) (hs : s.size ≤ 140737488355328) (w : World) : Calls Try.prog 10 #[.string s] w fun e w' => e = .returned (.bool b) ∧ Below w.heap.size w w' := by
  rw [← h]; exact is_any s w hs
theorem pat_at (s : ByteArray) (b : Bool) (h : patB s = b) (hs : s.size ≤ 140737488355328) (w : World) : Calls Try.prog 12 #[.string s] w fun e w' => e = .returned (.bool b) ∧ Below w.heap.size w w' := by
  rw [← h]; exact pat_any s w hs
theorem pre_at (p s : ByteArray) (b : Bool) (h : preB p s = b) (hp : p.size ≤ 140737488355328) (hs : s.size ≤ 140737488355328) (w : World) : Calls Try.prog 16 #[.string p, .string s] w fun e w' => e = .returned (.bool b) ∧ Below w.heap.size w w' := by
  rw [← h]; exact pre_any p s w hp hs
theorem join_at (l : List ByteArray) (R : ByteArray) (h : joB l = R) (hR : R.size ≤ 8000000) (a : Option Addr) (c : Nat) (hc : l.length ≤ c) (w : World) (hr : Strs.Row w (.slice a l.length c) l) :
    Calls Try.prog 14 #[.slice a l.length c] w fun e w' => e = .returned (.string R) ∧ Below w.heap.size w w' := by
  subst h
  exact join_any l _ w hr ⟨_, _, _, rfl, hc⟩ hR

/-! ### the example -/
def awL : List ByteArray := [⟨#[97]⟩, ⟨#[98]⟩]
theorem aw1 (W : World) : Calls Try.prog 7 #[.string ⟨#[47, 97, 47, 98]⟩] W fun e w' => ∃ a c, e = .returned (.tuple #[.slice a 2 c, .bool true]) ∧ Strs.Row w' (.slice a 2 c) awL ∧ 2 ≤ c ∧ Below W.heap.size W w' :=
  split_at ⟨#[47, 97, 47, 98]⟩ awL true (by decide) (by decide) (by decide) W
theorem aw2 (W : World) : Calls Try.prog 7 #[.string ⟨#[47]⟩] W fun e w' => ∃ a c, e = .returned (.tuple #[.slice a 0 c, .bool true]) ∧ Strs.Row w' (.slice a 0 c) [] ∧ 0 ≤ c ∧ Below W.heap.size W w' :=
  split_at ⟨#[47]⟩ [] true (by decide) (by decide) (by decide) W
theorem aw3 (a : Option Addr) (c : Nat) (hc : 2 ≤ c) (W : World) (h : Strs.Row W (.slice a 2 c) awL) : Calls Try.prog 14 #[.slice a 2 c] W fun e w' => e = .returned (.string ⟨#[47, 97, 47, 98]⟩) ∧ Below W.heap.size W w' :=
  join_at awL ⟨#[47, 97, 47, 98]⟩ (by decide) (by decide) a c hc W h
set_option maxHeartbeats 4000000 in
set_option maxRecDepth 100000 in
theorem awake_any (w : World) : Calls Try.prog 6 #[] w fun e w' => e = .returned (.bool true) ∧ Below w.heap.size w w' := by
  have H1 := Lib.hid aw1
  have H2 := Lib.hid aw2
  have H3 := Lib.hid aw3
  have I1 := Lib.hid (is_at ⟨#[47, 97, 47, 98]⟩ true (by decide) (by decide))
  have I2 := Lib.hid (is_at ⟨#[47, 97, 47]⟩ false (by decide) (by decide))
  have I3 := Lib.hid (is_at ⟨#[97]⟩ false (by decide) (by decide))
  have P1 := Lib.hid (pat_at ⟨#[47, 97, 47, 42, 47, 42, 42]⟩ true (by decide) (by decide))
  have P2 := Lib.hid (pat_at ⟨#[47, 42, 42, 47, 97]⟩ false (by decide) (by decide))
  have X1 := Lib.hid (pre_at ⟨#[47, 97]⟩ ⟨#[47, 97, 47, 98]⟩ true (by decide) (by decide) (by decide))
  have X2 := Lib.hid (pre_at ⟨#[47, 97]⟩ ⟨#[47, 97, 98]⟩ false (by decide) (by decide) (by decide))
  have q1 : ([98] == [98] : Bool) = true := rfl
  go_enter Try.func6, Try.ntmps6
  go_wp2_with (first
    | (go_at_call 7; first
    | ((with_reducible refine (H1.out _).mono ?_); rintro e w1 ⟨a1, c1, rfl, hr1, hc1, hb1⟩)
    | ((with_reducible refine (H2.out _).mono ?_); rintro e w2 ⟨a2, c2, rfl, _, _, hb2⟩; have HR := Lib.hid (hr1.next hb2); have HB := Lib.hid (hb1.trans (hb2.mono hb1.size)); have HL := Lib.hid (Below.refl w2.heap.size w2); obtain ⟨b, off, ea, hcl⟩ : ∃ b off, a1 = some ⟨b, off, none⟩ ∧ w2.cell? ⟨b, off + 1, none⟩ = some (.string ⟨#[98]⟩) := (by obtain ⟨a', c', e, h⟩ := HR.out.open_; injection e with q1 _ q3; subst q1 q3; exact h 1 (by decide)); subst ea; clear hr1 hb1 hb2 H1 H2))
    | (go_at_call 10; first
      | ((with_reducible refine (I1.out _).mono ?_); rintro e wx ⟨rfl, hbx⟩; have HL := Lib.hid (HL.out.trans (hbx.mono HL.out.size)); clear hbx)
      | ((with_reducible refine (I2.out _).mono ?_); rintro e wx ⟨rfl, hbx⟩; have HL := Lib.hid (HL.out.trans (hbx.mono HL.out.size)); clear hbx)
      | ((with_reducible refine (I3.out _).mono ?_); rintro e wx ⟨rfl, hbx⟩; have HL := Lib.hid (HL.out.trans (hbx.mono HL.out.size)); clear hbx)
      )
    | (go_at_call 12; first
      | ((with_reducible refine (P1.out _).mono ?_); rintro e wx ⟨rfl, hbx⟩; have HL := Lib.hid (HL.out.trans (hbx.mono HL.out.size)); clear hbx)
      | ((with_reducible refine (P2.out _).mono ?_); rintro e wx ⟨rfl, hbx⟩; have HL := Lib.hid (HL.out.trans (hbx.mono HL.out.size)); clear hbx)
      )
    | (go_at_call 16; first
      | ((with_reducible refine (X1.out _).mono ?_); rintro e wx ⟨rfl, hbx⟩; have HL := Lib.hid (HL.out.trans (hbx.mono HL.out.size)); clear hbx)
      | ((with_reducible refine (X2.out _).mono ?_); rintro e wx ⟨rfl, hbx⟩; have HL := Lib.hid (HL.out.trans (hbx.mono HL.out.size)); clear hbx)
      )
    | (go_at_call 14; first
      | ((with_reducible refine (H3.out _ _ hc1 _ (HR.out.next HL.out)).mono ?_); rintro e wx ⟨rfl, hbx⟩; have HL := Lib.hid (HL.out.trans (hbx.mono HL.out.size)); clear hbx)
      ))
  go_ret
  exact ⟨rfl, HB.out.trans (HL.out.mono HB.out.size)⟩

/-! ### RouteBack -/
theorem joB_sp {s : ByteArray} (h : rowB s = true) : joB (spB s) = s := by
  unfold joB spB
  rw [if_pos h]
  have : dts (prB s) = prt s.data.toList := by
    unfold dts prB
    rw [List.map_map]
    exact (List.map_congr_left fun x _ => dt_mk x).trans (List.map_id _)
  rw [this, back h, mk_data]
theorem no_rowB {s : ByteArray} (h : rowB s = false) : spB s = [] ∧ isB s = false ∧ patB s = false ∧ preB s s = false := by
  have := no_row h
  refine ⟨?_, this⟩
  unfold spB; rw [h]; rfl
theorem yes_rowB {s : ByteArray} (h : rowB s = true) : preB s s = true ∧ preB ⟨#[47]⟩ s = true ∧ (isB s = true → patB s = true) := ⟨pre_own h, pre_root h, is_pat⟩
set_option maxHeartbeats 8000000 in
set_option maxRecDepth 100000 in
theorem back_any (s : ByteArray) (w : World) (hs0 : s.size ≤ 9223372036854775807) :
    Calls Try.prog 4 #[.string s] w fun e w' => e = .returned (.bool true) ∧ Below w.heap.size w w' := by
  have HAW := Lib.hid awake_any
  by_cases hl : 400 < s.size
  · have g : decide ((400 : Int) < (s.size : Int)) = true := decide_eq_true (by omega)
    have gn : decide (400 < s.size) = true := decide_eq_true hl
    go_enter Try.func4, Try.ntmps4
    go_wp2_with (go_at_call 6; (with_reducible refine (HAW.out _).mono ?_); rintro e w1 ⟨rfl, hb1⟩)
    go_ret
    exact ⟨rfl, hb1⟩
  · have g : decide ((400 : Int) < (s.size : Int)) = false := decide_eq_false (by omega)
    have gn : decide (400 < s.size) = false := decide_eq_false hl
    have hs : s.size ≤ 140737488355328 := by omega
    clear hs0
    cases hr : rowB s with
    | false =>
      obtain ⟨h1, h2, h3, h4⟩ := no_rowB hr
      have HS := Lib.hid (split_at s [] false h1 hr hs)
      change Hid (∀ w, Calls Try.prog 7 #[.string s] w fun e w' => ∃ a c, e = .returned (.tuple #[.slice a 0 c, .bool false]) ∧ Strs.Row w' (.slice a 0 c) [] ∧ 0 ≤ c ∧ Below w.heap.size w w') at HS
      have HI := Lib.hid (is_at s false h2 hs)
      have HP := Lib.hid (pat_at s false h3 hs)
      have HX := Lib.hid (pre_at s s false h4 hs hs)
      clear h1 h2 h3 h4 hr
      go_enter Try.func4, Try.ntmps4
      go_wp2_with (first
        | (go_at_call 7; (with_reducible refine (HS.out _).mono ?_); rintro e w1 ⟨a1, c1, rfl, _, _, hb1⟩; have HB := Lib.hid hb1; clear hb1)
        | (go_at_call 10; (with_reducible refine (HI.out _).mono ?_); rintro e wx ⟨rfl, hbx⟩; have HB := Lib.hid (HB.out.trans (hbx.mono HB.out.size)); clear hbx)
        | (go_at_call 12; (with_reducible refine (HP.out _).mono ?_); rintro e wx ⟨rfl, hbx⟩; have HB := Lib.hid (HB.out.trans (hbx.mono HB.out.size)); clear hbx)
        | (go_at_call 16; (with_reducible refine (HX.out _).mono ?_); rintro e wx ⟨rfl, hbx⟩; have HB := Lib.hid (HB.out.trans (hbx.mono HB.out.size)); clear hbx)
        | (go_at_call 6; (with_reducible refine (HAW.out _).mono ?_); rintro e wx ⟨rfl, hbx⟩; have HB := Lib.hid (HB.out.trans (hbx.mono HB.out.size)); clear hbx))
      go_ret
      exact ⟨rfl, HB.out⟩
    | true =>
      obtain ⟨h1, h2, h3⟩ := yes_rowB hr
      have hn := (spB_size s).1
      have hj := joB_sp hr
      obtain ⟨L, hL⟩ : ∃ L, spB s = L := ⟨_, rfl⟩
      rw [hL] at hn hj
      have HS := Lib.hid (split_at s L true hL hr hs)
      have HJ := Lib.hid (join_at L s hj (by omega))
      have HX := Lib.hid (pre_at s s true h1 hs hs)
      have HX2 := Lib.hid (pre_at ⟨#[47]⟩ s true h2 (by decide) hs)
      have g2 : decide ((L.length : Int) ≤ 32) = true := decide_eq_true (by omega)
      have g2n : decide (L.length ≤ 32) = true := decide_eq_true hn
      have q1 : (s.toList == s.toList) = true := beq_self_eq_true _
      have HI := Lib.hid (is_at s (isB s) rfl hs)
      have HP := Lib.hid (pat_at s (patB s) rfl hs)
      cases hi : isB s with
      | false =>
        rw [hi] at HI
        clear h1 h2 h3 hr hi hL hj HP
        go_enter Try.func4, Try.ntmps4
        go_wp2_with (first
          | (go_at_call 7; (with_reducible refine (HS.out _).mono ?_); rintro e w1 ⟨a1, c1, rfl, hrw, hcp, hb1⟩; have HB := Lib.hid hb1; clear hb1)
          | (go_at_call 14; (with_reducible refine (HJ.out _ _ hcp _ hrw).mono ?_); rintro e wx ⟨rfl, hbx⟩; have HB := Lib.hid (HB.out.trans (hbx.mono HB.out.size)); clear hbx)
          | (go_at_call 10; (with_reducible refine (HI.out _).mono ?_); rintro e wx ⟨rfl, hbx⟩; have HB := Lib.hid (HB.out.trans (hbx.mono HB.out.size)); clear hbx)
          | (go_at_call 16; first
            | ((with_reducible refine (HX.out _).mono ?_); rintro e wx ⟨rfl, hbx⟩; have HB := Lib.hid (HB.out.trans (hbx.mono HB.out.size)); clear hbx)
            | ((with_reducible refine (HX2.out _).mono ?_); rintro e wx ⟨rfl, hbx⟩; have HB := Lib.hid (HB.out.trans (hbx.mono HB.out.size)); clear hbx))
          | (go_at_call 6; (with_reducible refine (HAW.out _).mono ?_); rintro e wx ⟨rfl, hbx⟩; have HB := Lib.hid (HB.out.trans (hbx.mono HB.out.size)); clear hbx))
        go_ret
        exact ⟨rfl, HB.out⟩
      | true =>
        rw [hi] at HI
        rw [h3 hi] at HP
        clear h1 h2 h3 hr hi hL hj
        go_enter Try.func4, Try.ntmps4
        go_wp2_with (first
          | (go_at_call 7; (with_reducible refine (HS.out _).mono ?_); rintro e w1 ⟨a1, c1, rfl, hrw, hcp, hb1⟩; have HB := Lib.hid hb1; clear hb1)
          | (go_at_call 14; (with_reducible refine (HJ.out _ _ hcp _ hrw).mono ?_); rintro e wx ⟨rfl, hbx⟩; have HB := Lib.hid (HB.out.trans (hbx.mono HB.out.size)); clear hbx)
          | (go_at_call 10; (with_reducible refine (HI.out _).mono ?_); rintro e wx ⟨rfl, hbx⟩; have HB := Lib.hid (HB.out.trans (hbx.mono HB.out.size)); clear hbx)
          | (go_at_call 12; (with_reducible refine (HP.out _).mono ?_); rintro e wx ⟨rfl, hbx⟩; have HB := Lib.hid (HB.out.trans (hbx.mono HB.out.size)); clear hbx)
          | (go_at_call 16; first
            | ((with_reducible refine (HX.out _).mono ?_); rintro e wx ⟨rfl, hbx⟩; have HB := Lib.hid (HB.out.trans (hbx.mono HB.out.size)); clear hbx)
            | ((with_reducible refine (HX2.out _).mono ?_); rintro e wx ⟨rfl, hbx⟩; have HB := Lib.hid (HB.out.trans (hbx.mono HB.out.size)); clear hbx))
          | (go_at_call 6; (with_reducible refine (HAW.out _).mono ?_); rintro e wx ⟨rfl, hbx⟩; have HB := Lib.hid (HB.out.trans (hbx.mono HB.out.size)); clear hbx))
        go_ret
        exact ⟨rfl, HB.out⟩
end Go.Proofs.Ytmlpgfjopkobbaa.Rou
