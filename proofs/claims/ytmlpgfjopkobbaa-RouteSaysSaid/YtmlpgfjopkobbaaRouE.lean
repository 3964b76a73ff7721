/- Contract of route's Prefix. Conditions: as each theorem states. -/
import Derived.Test.YtmlpgfjopkobbaaRouD
namespace Go.Proofs.Ytmlpgfjopkobbaa.Rou
open Go.RowKit Go.Lib Go.Proofs.Ytmlpgfjopkobbaa.Byt

/-! ### Prefix -/
theorem cut_at (s : ByteArray) (w : World) (hrow : rowB s = true) :
    Calls Try.prog 19 #[.string s] w fun e w' => ∃ a c, e = .returned (.slice a (prB s).length c) ∧ Strs.Row w' (.slice a (prB s).length c) (prB s) ∧ (prB s).length ≤ c ∧ Below w.heap.size w w' := by
  refine (cut_any s w hrow).mono ?_
  rintro e w' ⟨v, rfl, h1, h2, h3⟩
  obtain ⟨a, c, rfl, _⟩ := h1.open_
  refine ⟨a, c, rfl, h1, ?_, h3⟩
  obtain ⟨a', n, c', e, h⟩ := h2
  injection e with e1 e2 e3
  omega
set_option maxRecDepth 100000 in
set_option maxHeartbeats 2000000 in
theorem pre_any (p s : ByteArray) (w : World) (hp : p.size ≤ 140737488355328) (hs : s.size ≤ 140737488355328) :
    Calls Try.prog 16 #[.string p, .string s] w fun e w' => e = .returned (.bool (preB p s)) ∧ Below w.heap.size w w' := by
  rw [preB_is]
  have HP := Lib.hid fun W => row_any p W hp
  have HS := Lib.hid fun W => row_any s W hs
  cases hrp : rowB p with
  | false =>
    rw [hrp] at HP
    rw [Bool.false_and, Bool.false_and]
    clear hrp HS
    go_enter Try.func16, Try.ntmps16
    go_wp2_with (go_at_call 18; (with_reducible refine (HP.out _).mono ?_); rintro e w1 ⟨rfl, rfl⟩)
    go_ret
    exact ⟨rfl, Below.refl _ _⟩
  | true =>
    cases hrs : rowB s with
    | false =>
      rw [hrp] at HP
      rw [hrs] at HS
      rw [Bool.true_and, Bool.false_and]
      clear hrp hrs
      go_enter Try.func16, Try.ntmps16
      go_wp2_with (go_at_call 18; first
        | ((with_reducible refine (HP.out _).mono ?_); rintro e w1 ⟨rfl, rfl⟩; clear HP)
        | ((with_reducible refine (HS.out _).mono ?_); rintro e w1 ⟨rfl, rfl⟩))
      go_ret
      exact ⟨rfl, Below.refl _ _⟩
    | true =>
      have HCP := Lib.hid fun W => cut_at p W hrp
      have HCS := Lib.hid fun W => cut_at s W hrs
      have n1 := prB_len hrp
      have n2 := prB_len hrs
      rw [hrp] at HP
      rw [hrs] at HS
      rw [Bool.true_and, Bool.true_and]
      generalize prB p = X at *
      generalize prB s = Y at *
      have HE := Lib.hid fun (W : World) (u v : Value) (h1 : Strs.Row W u X) (h2 : Strs.Row W v (Y.take X.length)) => equal_any X (Y.take X.length) u v W h1 h2 (by omega)
      clear hrp hrs
      by_cases hle : X.length ≤ Y.length
      · have g1 : decide ((X.length : Int) ≤ (Y.length : Int)) = true := decide_eq_true (by omega)
        have g2 : decide (X.length ≤ Y.length) = true := decide_eq_true hle
        rw [g2, Bool.true_and]
        generalize decide (X = Y.take X.length) = R at *
        go_enter Try.func16, Try.ntmps16
        go_wp2_with (first
          | (go_at_call 18; first
            | ((with_reducible refine (HP.out _).mono ?_); rintro e w1 ⟨rfl, rfl⟩; clear HP)
            | ((with_reducible refine (HS.out _).mono ?_); rintro e w1 ⟨rfl, rfl⟩; clear HS))
          | (go_at_call 19; first
            | ((with_reducible refine (HCP.out _).mono ?_); rintro e w3 ⟨a1, c1, rfl, hrw, _, hb3⟩; clear HCP)
            | ((with_reducible refine (HCS.out _).mono ?_); rintro e w4 ⟨a2, c2, rfl, hru, hcap, hb4⟩; have hrw2 := Lib.hid (hrw.next hb4); have hb := Lib.hid (hb3.trans (hb4.mono hb3.size)); have HT := Lib.hid fun h => Row_take hru X.length h; clear hru hrw hb3 hb4))
          | (go_at_call 27; (with_reducible refine (HE.out _ _ _ hrw2.out (HT.out hle)).mono ?_); rintro e w5 ⟨rfl, n5, rfl⟩))
        go_ret
        exact ⟨rfl, below_drewN hb.out⟩
      · have g1 : decide ((X.length : Int) ≤ (Y.length : Int)) = false := decide_eq_false (by omega)
        have g2 : decide (X.length ≤ Y.length) = false := decide_eq_false hle
        rw [g2, Bool.false_and]
        clear HE
        go_enter Try.func16, Try.ntmps16
        go_wp2_with (first
          | (go_at_call 18; first
            | ((with_reducible refine (HP.out _).mono ?_); rintro e w1 ⟨rfl, rfl⟩; clear HP)
            | ((with_reducible refine (HS.out _).mono ?_); rintro e w1 ⟨rfl, rfl⟩; clear HS))
          | (go_at_call 19; first
            | ((with_reducible refine (HCP.out _).mono ?_); rintro e w3 ⟨a1, c1, rfl, hrw, _, hb3⟩; clear HCP)
            | ((with_reducible refine (HCS.out _).mono ?_); rintro e w4 ⟨a2, c2, rfl, hru, hcap, hb4⟩; have hrw2 := Lib.hid (hrw.next hb4); have hb := Lib.hid (hb3.trans (hb4.mono hb3.size)); have HT := Lib.hid fun h => Row_take hru X.length h; clear hru hrw hb3 hb4)))
        go_ret
        exact ⟨rfl, hb.out⟩
end Go.Proofs.Ytmlpgfjopkobbaa.Rou
