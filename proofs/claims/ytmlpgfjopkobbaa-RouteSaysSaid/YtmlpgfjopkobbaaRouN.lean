/- The law RouteSays; the three laws as their proofs ask for them. Conditions: as each theorem states. -/
import Derived.Test.YtmlpgfjopkobbaaRouM
import Derived.Test.YtmlpgfjopkobbaaOpn
import Derived.Test.YtmlpgfjopkobbaaOpenStrsC
namespace Go.Proofs.Ytmlpgfjopkobbaa.Rou
open Go.RowKit Go.Lib Go.Proofs.Ytmlpgfjopkobbaa.Byt

theorem jn_small : ∀ (l : List ByteArray), (∀ x ∈ l, x.size ≤ 60) → (jn (dts l)).length ≤ 61 * l.length
  | [], _ => Nat.le_refl _
  | x :: l, h => by
    have ih := jn_small l fun y hy => h y (List.mem_cons_of_mem _ hy)
    have hx := h x List.mem_cons_self
    show (jn (x.data.toList :: dts l)).length ≤ _
    rw [jn_cons, List.length_cons, List.length_append, len_dt, List.length_cons]
    omega
theorem joB_small {l : List ByteArray} (h : ∀ x ∈ l, x.size ≤ 60) (hl : l.length ≤ 60) : (joB l).size ≤ 8000000 := by
  unfold joB
  rw [sz_mk]
  unfold jP
  split
  · show 1 ≤ _; omega
  · have := jn_small l h; omega
theorem mem_all {l : List ByteArray} (h : ∀ j, j < l.length → (l.getD j ⟨#[]⟩).size ≤ 60) : ∀ x ∈ l, x.size ≤ 60 := by
  intro x hx
  obtain ⟨j, hj, rfl⟩ := List.getElem_of_mem hx
  have := h j hj
  rwa [List.getD_eq_getElem?_getD, List.getElem?_eq_getElem hj] at this
set_option maxHeartbeats 8000000 in
set_option maxRecDepth 100000 in
theorem says_any (s t : ByteArray) (l : List ByteArray) (v : Value) (w : World) (hs0 : s.size ≤ 9223372036854775807) (ht0 : t.size ≤ 9223372036854775807) (hr : Strs.Row w v l) (hcp : Cp v) (hl : l.length ≤ 9223372036854775807) :
    Calls Try.prog 3 #[.string s, .string t, v] w fun e w' => e = .returned (.bool true) ∧ Below w.heap.size w w' := by
  have HAW := Lib.hid awake_any
  by_cases hls : 400 < s.size
  · have g : decide ((400 : Int) < (s.size : Int)) = true := decide_eq_true (by omega)
    have gn : decide (400 < s.size) = true := decide_eq_true hls
    go_enter Try.func3, Try.ntmps3
    go_wp2_with (go_at_call 6; (with_reducible refine (HAW.out _).mono ?_); rintro e w1 ⟨rfl, hb1⟩)
    go_ret
    exact ⟨rfl, hb1⟩
  · have g : decide ((400 : Int) < (s.size : Int)) = false := decide_eq_false (by omega)
    have gn : decide (400 < s.size) = false := decide_eq_false hls
    have hs : s.size ≤ 140737488355328 := by omega
    clear hs0
    by_cases hlt : 400 < t.size
    · have g1 : decide ((400 : Int) < (t.size : Int)) = true := decide_eq_true (by omega)
      have gn1 : decide (400 < t.size) = true := decide_eq_true hlt
      go_enter Try.func3, Try.ntmps3
      go_wp2_with (go_at_call 6; (with_reducible refine (HAW.out _).mono ?_); rintro e w1 ⟨rfl, hb1⟩)
      go_ret
      exact ⟨rfl, hb1⟩
    · have g1 : decide ((400 : Int) < (t.size : Int)) = false := decide_eq_false (by omega)
      have gn1 : decide (400 < t.size) = false := decide_eq_false hlt
      have ht : t.size ≤ 140737488355328 := by omega
      clear ht0
      have HR := Lib.hid hr
      have HCP := Lib.hid hcp
      obtain ⟨a, cap, rfl, hc⟩ := hr.open_
      have HC := Lib.hid hc
      clear hc hr hcp
      by_cases hll : 60 < l.length
      · have g2 : decide ((60 : Int) < (l.length : Int)) = true := decide_eq_true (by omega)
        have gn2 : decide (60 < l.length) = true := decide_eq_true hll
        go_enter Try.func3, Try.ntmps3
        go_wp2_with (go_at_call 6; (with_reducible refine (HAW.out _).mono ?_); rintro e w1 ⟨rfl, hb1⟩)
        go_ret
        exact ⟨rfl, hb1⟩
      · have g2 : decide ((60 : Int) < (l.length : Int)) = false := decide_eq_false (by omega)
        have gn2 : decide (60 < l.length) = false := decide_eq_false hll
        have HS := Lib.hid (split_at s (spB s) (rowB s) rfl rfl hs)
        have HRS := Lib.hid fun W => rsplit_any s W hs
        have hsn := (spB_size s).1
        have HSM := Lib.hid fun (W : World) (u v : Value) (h1 : Strs.Row W u (spB s)) (h2 : Strs.Row W v (spB s)) => same_any (spB s) (spB s) u v W h1 h2 (by omega)
        have HI := Lib.hid (is_at s (isB s) rfl hs)
        have HRI := Lib.hid fun W => ris_any s W hs
        have HP := Lib.hid (pat_at s (patB s) rfl hs)
        have HRP := Lib.hid fun W => rpat_any s W hs
        have HX := Lib.hid (pre_at s t (preB s t) rfl hs ht)
        have HRX := Lib.hid fun W => rpre_any s t W hs ht
        have HJ := Lib.hid fun (W : World) (h1 : Strs.Row W (.slice a l.length cap) l) (h2 : Cp (.slice a l.length cap)) (h3 : (joB l).size ≤ 8000000) => join_any l _ W h1 h2 h3
        have HRJ := Lib.hid fun (W : World) (h1 : Strs.Row W (.slice a l.length cap) l) (h3 : (joB l).size ≤ 8000000) => rjoin_any l _ W h1 (by omega) h3
        have HJS := Lib.hid fun (h : ∀ j, j < l.length → (l.getD j ⟨#[]⟩).size ≤ 60) => joB_small (mem_all h) (by omega)
        have hd : decide (spB s = spB s) = true := decide_eq_true rfl
        rw [hd] at HSM
        have q1 : ((joB l).toList == (joB l).toList) = true := beq_self_eq_true _
        generalize spB s = S at *
        generalize rowB s = b1 at *
        generalize isB s = b2 at *
        generalize patB s = b3 at *
        generalize preB s t = b4 at *
        generalize joB l = J at *
        have q2 : (b1 == b1) = true := beq_self_eq_true _
        have q3 : (b2 == b2) = true := beq_self_eq_true _
        have q4 : (b3 == b3) = true := beq_self_eq_true _
        have q5 : (b4 == b4) = true := beq_self_eq_true _
        clear hd
        go_enter Try.func3, Try.ntmps3
        go_wp2_with fail
        go_loop [28] (fun i => ∃ k : Nat, i = .int .i64 (k : Int) ∧ k ≤ l.length ∧ Hid (∀ j, j < k → (l.getD j ⟨#[]⟩).size ≤ 60)) (fun i => l.length - (RowKit.intOf i).toNat)
        case atStart => exact ⟨0, rfl, Nat.zero_le _, Lib.hid fun j hj => absurd hj (Nat.not_lt_zero _)⟩
        case round =>
          obtain ⟨k, rfl, hk, HA⟩ := hrel
          by_cases hlk : k < l.length
          · obtain ⟨b, off, rfl, hcl⟩ := HC.out k hlk
            have HA2 := Lib.hid (show (l.getD k ⟨#[]⟩).size ≤ 60 → ∀ j, j < k + 1 → (l.getD j ⟨#[]⟩).size ≤ 60 from fun h j hj => by
              by_cases q : j < k
              · exact HA.out j q
              · obtain rfl : j = k := by omega
                exact h)
            generalize l.getD k ⟨#[]⟩ = x at *
            by_cases hw : 60 < x.size
            · have q : decide ((60 : Int) < (x.size : Int)) = true := decide_eq_true (by omega)
              have qn : decide (60 < x.size) = true := decide_eq_true hw
              go_wp2_with (go_at_call 6; (with_reducible refine (HAW.out _).mono ?_); rintro e w1 ⟨rfl, hb1⟩)
              go_ret
              exact ⟨rfl, hb1⟩
            · have q : decide ((60 : Int) < (x.size : Int)) = false := decide_eq_false (by omega)
              have qn : decide (60 < x.size) = false := decide_eq_false hw
              have HA3 := Lib.hid (HA2.out (by omega))
              clear HA2
              go_wp2_with fail
              go_round
              case rel => exact ⟨k + 1, by go_num, by omega, HA3⟩
              case measure => simp [RowKit.intOf]; omega
          · obtain rfl : k = l.length := by omega
            have HJ8 := Lib.hid (HJS.out HA.out)
            clear HA HC HJS
            go_wp2_with (first
              | (go_at_call 7; (with_reducible refine (HS.out _).mono ?_); rintro e w1 ⟨a1, c1, rfl, hr1, _, hb1⟩; have HB := Lib.hid hb1; clear hb1)
              | (go_at_call 8; (with_reducible refine (HRS.out _).mono ?_); rintro e w2 ⟨a2, c2, rfl, hr2, hb2⟩; have hr1 := hr1.next hb2; have HB := Lib.hid (HB.out.trans (hb2.mono HB.out.size)); clear hb2)
              | (go_at_call 9; (with_reducible refine (HSM.out _ _ _ hr1 hr2).mono ?_); rintro e w3 ⟨rfl, n3, rfl⟩; have HB := Lib.hid (below_drewN (n := n3) HB.out); clear hr1 hr2)
              | (go_at_call 10; (with_reducible refine (HI.out _).mono ?_); rintro e wx ⟨rfl, hbx⟩; have HB := Lib.hid (HB.out.trans (hbx.mono HB.out.size)); clear hbx)
              | (go_at_call 11; (with_reducible refine (HRI.out _).mono ?_); rintro e wx ⟨rfl, hbx⟩; have HB := Lib.hid (HB.out.trans (hbx.mono HB.out.size)); clear hbx)
              | (go_at_call 12; (with_reducible refine (HP.out _).mono ?_); rintro e wx ⟨rfl, hbx⟩; have HB := Lib.hid (HB.out.trans (hbx.mono HB.out.size)); clear hbx)
              | (go_at_call 13; (with_reducible refine (HRP.out _).mono ?_); rintro e wx ⟨rfl, hbx⟩; have HB := Lib.hid (HB.out.trans (hbx.mono HB.out.size)); clear hbx)
              | (go_at_call 14; (with_reducible refine (HJ.out _ (HR.out.next HB.out) HCP.out HJ8.out).mono ?_); rintro e wx ⟨rfl, hbx⟩; have HB := Lib.hid (HB.out.trans (hbx.mono HB.out.size)); clear hbx)
              | (go_at_call 15; (with_reducible refine (HRJ.out _ (HR.out.next HB.out) HJ8.out).mono ?_); rintro e wx ⟨rfl, rfl⟩)
              | (go_at_call 16; (with_reducible refine (HX.out _).mono ?_); rintro e wx ⟨rfl, hbx⟩; have HB := Lib.hid (HB.out.trans (hbx.mono HB.out.size)); clear hbx)
              | (go_at_call 17; (with_reducible refine (HRX.out _).mono ?_); rintro e wx ⟨rfl, hbx⟩; have HB := Lib.hid (HB.out.trans (hbx.mono HB.out.size)); clear hbx)
              | (go_at_call 6; (with_reducible refine (HAW.out _).mono ?_); rintro e wx ⟨rfl, hbx⟩; have HB := Lib.hid (HB.out.trans (hbx.mono HB.out.size)); clear hbx))
            go_ret
            exact ⟨rfl, HB.out⟩

theorem says_law (s t : ByteArray) (l : List ByteArray) {v : Value} {Q : Prop} (ws : s.size ≤ maxLen) (wt : t.size ≤ maxLen) {W : World} (hr : Strs.Row W v l) (hcp : ∃ a n c, v = .slice a n c ∧ n ≤ c) (hl : l.length ≤ 9223372036854775807) (_ : Q) (_ : World) :
    Calls Try.prog 3 #[.string s, .string t, v] W fun e W' => e = .returned (.bool true) ∧ Below W.heap.size W W' :=
  says_any s t l v W (by unfold maxLen at ws; omega) (by unfold maxLen at wt; omega) hr hcp hl
theorem back_law (s : ByteArray) (ws : s.size ≤ maxLen) (W : World) :
    Calls Try.prog 4 #[.string s] W fun e W' => e = .returned (.bool true) ∧ Below W.heap.size W W' :=
  back_any s W (by unfold maxLen at ws; omega)
theorem goes_law (s t : ByteArray) (ws : s.size ≤ maxLen) (wt : t.size ≤ maxLen) (W : World) :
    Calls Try.prog 5 #[.string s, .string t] W fun e W' => e = .returned (.bool true) ∧ Below W.heap.size W W' :=
  goes_any s t W (by unfold maxLen at ws; omega) (by unfold maxLen at wt; omega)
end Go.Proofs.Ytmlpgfjopkobbaa.Rou
