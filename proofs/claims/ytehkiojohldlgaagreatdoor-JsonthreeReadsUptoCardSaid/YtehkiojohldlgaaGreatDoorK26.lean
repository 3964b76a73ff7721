/- Texts of my own, packed: JsnB. Conditions: as each theorem states. -/
import Derived.Test.YtehkiojohldlgaaGreatDoorK02
import Derived.Test.YtehkiojohldlgaaGreatDoorK08
import Derived.Test.YtehkiojohldlgaaGreatDoorK25
namespace Go.Proofs.YtehkiojohldlgaaGreatDoor.Jsn
open Go.RowKit Go.Lib
open Go.Proofs.YtehkiojohldlgaaGreatDoor.Rul (Ru ruC)

theorem lit_row (w : World) (xs : List ByteArray) (cs : Array Value) (n : Nat) (hc : cs = (xs.map Value.string).toArray) (hn : xs.length = n) : Strs.Row (w.alloc (.cells cs 9)) (.slice (some ⟨w.heap.size, 0, none⟩) n n) xs := by
  subst hc hn
  refine .inr ⟨w.heap.size, 0, xs.length, rfl, fun j hj => ?_⟩
  rw [Lib.cell_of_heap (heap_alloc_new w _)]
  simp [List.getD_eq_getElem?_getD, List.getElem?_eq_getElem hj]
theorem rall_any (w : World) : Calls Tryz.prog 71 #[] w fun e w' => e = .returned (.slice (some ⟨w.heap.size, 0, none⟩) 13 13) ∧ Strs.Row w' (.slice (some ⟨w.heap.size, 0, none⟩) 13 13) all ∧ Below w.heap.size w w' := by
  have HR := Lib.hid (lit_row w all _ 13 rfl rfl)
  have hA := Lib.hid fun o => (Below.refl w.heap.size w).alloc (Nat.le_refl _) o
  go_enter Tryz.func71, Tryz.ntmps71
  go_wp2_with fail
  go_ret
  exact ⟨rfl, HR.out, hA.out _⟩
/-- The names of the numbers of a kind. -/
def nn (k : Int) : List ByteArray := if k = 1 then [nm 5, nm 6, nm 7, nm 8] else if k = 2 then [nm 9] else [nm 10, nm 11, nm 12]
theorem rnumbers_any (k : Int) (w : World) : Calls Tryz.prog 63 #[.int .i64 k] w fun e w' => ∃ a, e = .returned (.slice a (nn k).length (nn k).length) ∧ Strs.Row w' (.slice a (nn k).length (nn k).length) (nn k) ∧ Below w.heap.size w w' := by
  have HR := Lib.hid fun xs cs n => lit_row w xs cs n
  have hA := Lib.hid fun o => (Below.refl w.heap.size w).alloc (Nat.le_refl _) o
  by_cases h1 : k = 1
  · subst h1
    go_enter Tryz.func63, Tryz.ntmps63
    go_wp2_with fail
    go_ret
    exact ⟨_, rfl, HR.out (nn 1) _ 4 rfl rfl, hA.out _⟩
  by_cases h2 : k = 2
  · subst h2
    go_enter Tryz.func63, Tryz.ntmps63
    go_wp2_with fail
    go_ret
    exact ⟨_, rfl, HR.out (nn 2) _ 1 rfl rfl, hA.out _⟩
  have e : nn k = [nm 10, nm 11, nm 12] := by unfold nn; rw [if_neg h1, if_neg h2]
  rw [e]
  have q1 : (k == 1) = false := by simpa using h1
  have q2 : (k == 2) = false := by simpa using h2
  clear h1 h2
  go_enter Tryz.func63, Tryz.ntmps63
  go_wp2_with fail
  go_ret
  exact ⟨_, rfl, HR.out [nm 10, nm 11, nm 12] _ 3 rfl rfl, hA.out _⟩
/-! ### wanted -/
def nz (i : Nat) : Bool := !decide (nm i = nm 8) && !decide (nm i = nm 12)
theorem w_fin : ∀ k : Fin 4, ∀ i : Fin 13, 5 ≤ i.val → (∀ j : Fin 4, j.val < (nn (k.val : Int)).length → (nn (k.val : Int)).getD j.val ⟨#[]⟩ = nm i.val → (decide (k.val ≠ 0) && nz i.val) = wan (k.val : Int) i.val) ∧ ((∀ j : Fin 4, j.val < (nn (k.val : Int)).length → (nn (k.val : Int)).getD j.val ⟨#[]⟩ ≠ nm i.val) → wan (k.val : Int) i.val = false) := by decide +kernel
theorem nn_len (k : Int) : (nn k).length ≤ 4 := by
  unfold nn
  split
  · exact (by decide : 4 ≤ 4)
  · split
    · exact (by decide : 1 ≤ 4)
    · exact (by decide : 3 ≤ 4)
theorem w_yes {k : Int} (k0 : 0 ≤ k) (k3 : k ≤ 3) {i j : Nat} (h5 : 5 ≤ i) (hi : i < 13) (hj : j < (nn k).length) (h : (nn k).getD j ⟨#[]⟩ = nm i) : (decide (k ≠ 0) && nz i) = wan k i := by
  obtain ⟨n, rfl⟩ := Int.eq_ofNat_of_zero_le k0
  have := (w_fin ⟨n, by omega⟩ ⟨i, hi⟩ h5).1 ⟨j, by have := nn_len (n : Int); omega⟩ hj h
  rw [← this]
  congr 1
  simp
theorem w_no {k : Int} (k0 : 0 ≤ k) (k3 : k ≤ 3) {i : Nat} (h5 : 5 ≤ i) (hi : i < 13) (h : ∀ j, j < (nn k).length → (nn k).getD j ⟨#[]⟩ ≠ nm i) : wan k i = false := by
  obtain ⟨n, rfl⟩ := Int.eq_ofNat_of_zero_le k0
  exact (w_fin ⟨n, by omega⟩ ⟨i, hi⟩ h5).2 fun j hj => h j.val hj
set_option maxHeartbeats 4000000 in
set_option maxRecDepth 100000 in
theorem rwanted_any (k : Int) (i : Nat) (w : World) (k0 : 0 ≤ k) (k3 : k ≤ 3) (h5 : 5 ≤ i) (hi : i < 13) :
    Calls Tryz.prog 74 #[.int .i64 k, .string (nm i)] w fun e w' => e = .returned (.bool (wan k i)) ∧ Below w.heap.size w w' := by
  have HN := Lib.hid fun W => rnumbers_any k W
  have HY := Lib.hid fun j => @w_yes k k0 k3 i j h5 hi
  have HZ := Lib.hid (@w_no k k0 k3 i h5 hi)
  have hnl := nn_len k
  have hk : (k != 0) = decide (k ≠ 0) := by by_cases h : k = 0 <;> simp [h]
  have hn : nz i = (!((nm i).toList == [99, 111, 115, 116]) && !((nm i).toList == [112, 114, 111, 98, 101, 115])) := by
    have e8 : ([99, 111, 115, 116] : List UInt8) = (nm 8).toList := by rw [Byt.toList_data]; rfl
    have e12 : ([112, 114, 111, 98, 101, 115] : List UInt8) = (nm 12).toList := by rw [Byt.toList_data]; rfl
    rw [e8, e12]
    unfold nz
    congr 1
    · by_cases h : nm i = nm 8
      · rw [h]; simp
      · rw [decide_eq_false h, Byt.str_neq h]
    · by_cases h : nm i = nm 12
      · rw [h]; simp
      · rw [decide_eq_false h, Byt.str_neq h]
  rw [hn] at HY
  clear hn
  generalize nn k = l at *
  generalize nm i = s at *
  generalize wan k i = y at *
  clear h5 hi
  go_enter Tryz.func74, Tryz.ntmps74
  go_wp2_with (first
    | (go_at_call 63; (with_reducible refine (HN.out _).mono ?_); rintro e w1 ⟨a, rfl, hr1, hb1⟩; obtain ⟨a', c', he, hc⟩ := hr1.open_; injection he with e1 e2 e3; subst e1; have HC := Lib.hid hc; have B1 := Lib.hid hb1; clear hr1 hb1 hc e2 e3))
  go_loopw [11] (fun i wr => ∃ j : Nat, i = .int .i64 (j : Int) ∧ j ≤ l.length ∧ Hid (Below w1.heap.size w1 wr) ∧ Hid (∀ q, q < j → l.getD q ⟨#[]⟩ ≠ s)) (fun i _ => l.length - (RowKit.intOf i).toNat)
  case atStart => exact ⟨0, rfl, Nat.zero_le _, Lib.hid (Below.refl _ _), Lib.hid fun q hq => absurd hq (Nat.not_lt_zero _)⟩
  case round =>
    obtain ⟨j, rfl, hj, HB, HA⟩ := hrel
    have HW := Lib.hid (B1.out.trans (HB.out.mono B1.out.size))
    by_cases hlt : j < l.length
    · obtain ⟨b, o, rfl, hc⟩ := HC.out j hlt
      have c := (HB.out.cell (Strs.cell_lt hc)).trans hc
      have HY2 := Lib.hid (HY.out j hlt)
      have HX := Lib.hid fun (h : l.getD j ⟨#[]⟩ ≠ s) q (hq : q < j + 1) => by
        by_cases e : q < j
        · exact HA.out q e
        · obtain rfl : q = j := by omega
          exact h
      clear hc
      generalize l.getD j ⟨#[]⟩ = z at *
      by_cases hz : z = s
      · subst hz
        have q1 : (z.toList == z.toList) = true := beq_self_eq_true _
        have e := HY2.out rfl
        clear HY2 HX HY HZ
        cases hk0 : decide (k ≠ 0) with
        | false =>
          have ey := Lib.hid (show y = false by rw [← e, hk0]; rfl)
          rw [hk0] at hk
          clear hk0 e
          go_wp2_with fail
          go_ret
          rw [ey.out]
          exact ⟨rfl, HW.out⟩
        | true =>
          rw [hk0, Bool.true_and] at e
          rw [hk0] at hk
          clear hk0
          cases h8 : (z.toList == [99, 111, 115, 116]) with
          | true =>
            have ey := Lib.hid (show y = false by rw [← e, h8]; rfl)
            clear e
            go_wp2_with fail
            go_ret
            rw [ey.out]
            exact ⟨rfl, HW.out⟩
          | false =>
            rw [h8, Bool.not_false, Bool.true_and] at e
            cases h12 : (z.toList == [112, 114, 111, 98, 101, 115]) with
            | true =>
              have ey := Lib.hid (show y = false by rw [← e, h12]; rfl)
              clear e
              go_wp2_with fail
              go_ret
              rw [ey.out]
              exact ⟨rfl, HW.out⟩
            | false =>
              have ey := Lib.hid (show y = true by rw [← e, h12]; rfl)
              clear e
              go_wp2_with fail
              go_ret
              rw [ey.out]
              exact ⟨rfl, HW.out⟩
      · have q1 : (z.toList == s.toList) = false := Byt.str_neq hz
        have HX2 := Lib.hid (HX.out hz)
        clear hz
        go_wp2_with fail
        go_roundw
        case rel => exact ⟨j + 1, by go_num, by omega, HB, HX2⟩
        case measure => simp [RowKit.intOf]; omega
    · obtain rfl : j = l.length := by omega
      have e := Lib.hid (HZ.out HA.out)
      go_wp2_with fail
      go_ret
      rw [e.out]
      exact ⟨rfl, HW.out⟩

/-! ### a number by its name -/
set_option maxHeartbeats 4000000 in
set_option maxRecDepth 100000 in
theorem rat_any (r : Ru) (i : Nat) (h5 : 5 ≤ i) (hi : i < 13) (w : World) :
    Calls Tryz.prog 64 #[.agg (ruC r), .string (nm i)] w fun e w' => e = .returned (.int .i64 (num r i)) ∧ Below w.heap.size w w' := by
  have hA := Lib.hid fun o => (Below.refl w.heap.size w).alloc (Nat.le_refl _) o
  obtain ⟨id, no, ro, pr, ki, ra, pe, bu, co, mx, fa, wa, pb⟩ := r
  dsimp only [ruC]
  rcases (show i = 5 ∨ i = 6 ∨ i = 7 ∨ i = 8 ∨ i = 9 ∨ i = 10 ∨ i = 11 ∨ i = 12 by omega) with rfl | rfl | rfl | rfl | rfl | rfl | rfl | rfl
  all_goals
    dsimp only [nm, all, List.getD_cons_succ, List.getD_cons_zero]
    go_enter Tryz.func64, Tryz.ntmps64
    go_wp2_with fail
    go_ret
    exact ⟨rfl, hA.out _⟩
/-- A rule with another number. -/
def setN (r : Ru) (i : Nat) (n : Int) : Ru :=
  if i = 5 then { r with ra := n } else if i = 6 then { r with pe := n } else if i = 7 then { r with bu := n } else if i = 8 then { r with co := n } else if i = 9 then { r with mx := n } else if i = 10 then { r with fa := n } else if i = 11 then { r with wa := n } else { r with pb := n }
set_option maxHeartbeats 8000000 in
set_option maxRecDepth 100000 in
theorem rwith_any (r : Ru) (i : Nat) (n : Int) (h5 : 5 ≤ i) (hi : i < 13) (w : World) :
    Calls Tryz.prog 75 #[.agg (ruC r), .string (nm i), .int .i64 n] w fun e w' => e = .returned (.agg (ruC (setN r i n))) ∧ Below w.heap.size w w' := by
  rcases (show i = 5 ∨ i = 6 ∨ i = 7 ∨ i = 8 ∨ i = 9 ∨ i = 10 ∨ i = 11 ∨ i = 12 by omega) with rfl | rfl | rfl | rfl | rfl | rfl | rfl | rfl
  · obtain ⟨id, no, ro, pr, ki, ra, pe, bu, co, mx, fa, wa, pb⟩ := r
    dsimp only [ruC]
    rw [show nm 5 = all.getD 5 ⟨#[]⟩ from rfl]
    dsimp only [all, List.getD_cons_succ, List.getD_cons_zero]
    go_enter Tryz.func75, Tryz.ntmps75
    go_wp2_with fail
    refine bodyPost_ret (Rul.results_one rfl _ _ _ _ rfl (Rul.two_new w _ _) rfl) rfl ?_
    exact ⟨rfl, Rul.two_below w _ _⟩
  · obtain ⟨id, no, ro, pr, ki, ra, pe, bu, co, mx, fa, wa, pb⟩ := r
    dsimp only [ruC]
    rw [show nm 6 = all.getD 6 ⟨#[]⟩ from rfl]
    dsimp only [all, List.getD_cons_succ, List.getD_cons_zero]
    go_enter Tryz.func75, Tryz.ntmps75
    go_wp2_with fail
    refine bodyPost_ret (Rul.results_one rfl _ _ _ _ rfl (Rul.two_new w _ _) rfl) rfl ?_
    exact ⟨rfl, Rul.two_below w _ _⟩
  · obtain ⟨id, no, ro, pr, ki, ra, pe, bu, co, mx, fa, wa, pb⟩ := r
    dsimp only [ruC]
    rw [show nm 7 = all.getD 7 ⟨#[]⟩ from rfl]
    dsimp only [all, List.getD_cons_succ, List.getD_cons_zero]
    go_enter Tryz.func75, Tryz.ntmps75
    go_wp2_with fail
    refine bodyPost_ret (Rul.results_one rfl _ _ _ _ rfl (Rul.two_new w _ _) rfl) rfl ?_
    exact ⟨rfl, Rul.two_below w _ _⟩
  · obtain ⟨id, no, ro, pr, ki, ra, pe, bu, co, mx, fa, wa, pb⟩ := r
    dsimp only [ruC]
    rw [show nm 8 = all.getD 8 ⟨#[]⟩ from rfl]
    dsimp only [all, List.getD_cons_succ, List.getD_cons_zero]
    go_enter Tryz.func75, Tryz.ntmps75
    go_wp2_with fail
    refine bodyPost_ret (Rul.results_one rfl _ _ _ _ rfl (Rul.two_new w _ _) rfl) rfl ?_
    exact ⟨rfl, Rul.two_below w _ _⟩
  · obtain ⟨id, no, ro, pr, ki, ra, pe, bu, co, mx, fa, wa, pb⟩ := r
    dsimp only [ruC]
    rw [show nm 9 = all.getD 9 ⟨#[]⟩ from rfl]
    dsimp only [all, List.getD_cons_succ, List.getD_cons_zero]
    go_enter Tryz.func75, Tryz.ntmps75
    go_wp2_with fail
    refine bodyPost_ret (Rul.results_one rfl _ _ _ _ rfl (Rul.two_new w _ _) rfl) rfl ?_
    exact ⟨rfl, Rul.two_below w _ _⟩
  · obtain ⟨id, no, ro, pr, ki, ra, pe, bu, co, mx, fa, wa, pb⟩ := r
    dsimp only [ruC]
    rw [show nm 10 = all.getD 10 ⟨#[]⟩ from rfl]
    dsimp only [all, List.getD_cons_succ, List.getD_cons_zero]
    go_enter Tryz.func75, Tryz.ntmps75
    go_wp2_with fail
    refine bodyPost_ret (Rul.results_one rfl _ _ _ _ rfl (Rul.two_new w _ _) rfl) rfl ?_
    exact ⟨rfl, Rul.two_below w _ _⟩
  · obtain ⟨id, no, ro, pr, ki, ra, pe, bu, co, mx, fa, wa, pb⟩ := r
    dsimp only [ruC]
    rw [show nm 11 = all.getD 11 ⟨#[]⟩ from rfl]
    dsimp only [all, List.getD_cons_succ, List.getD_cons_zero]
    go_enter Tryz.func75, Tryz.ntmps75
    go_wp2_with fail
    refine bodyPost_ret (Rul.results_one rfl _ _ _ _ rfl (Rul.two_new w _ _) rfl) rfl ?_
    exact ⟨rfl, Rul.two_below w _ _⟩
  · obtain ⟨id, no, ro, pr, ki, ra, pe, bu, co, mx, fa, wa, pb⟩ := r
    dsimp only [ruC]
    rw [show nm 12 = all.getD 12 ⟨#[]⟩ from rfl]
    dsimp only [all, List.getD_cons_succ, List.getD_cons_zero]
    go_enter Tryz.func75, Tryz.ntmps75
    go_wp2_with fail
    refine bodyPost_ret (Rul.results_one rfl _ _ _ _ rfl (Rul.two_new w _ _) rfl) rfl ?_
    exact ⟨rfl, Rul.two_below w _ _⟩
end Go.Proofs.YtehkiojohldlgaaGreatDoor.Jsn
