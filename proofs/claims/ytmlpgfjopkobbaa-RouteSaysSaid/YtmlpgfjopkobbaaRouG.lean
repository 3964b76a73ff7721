/- The document's Is, Pattern and Prefix of routes. Conditions: as each theorem states. -/
import Derived.Test.YtmlpgfjopkobbaaRouF
namespace Go.Proofs.Ytmlpgfjopkobbaa.Rou
open Go.RowKit Go.Lib Go.Proofs.Ytmlpgfjopkobbaa.Byt

theorem ret_b {a b : Bool} (h : a = b) : Ending.returned (.bool a) = .returned (.bool b) := by rw [h]
/-- So far all right. -/
def okN (r : Bool) (L : List ByteArray) (f : Nat → ByteArray → Bool) : Nat → Bool
  | 0 => r
  | k + 1 => okN r L f k && f k (L.getD k ⟨#[]⟩)
theorem okN_iff (r : Bool) (L : List ByteArray) (f : Nat → ByteArray → Bool) (k : Nat) : okN r L f k = true ↔ r = true ∧ ∀ j, j < k → f j (L.getD j ⟨#[]⟩) = true := by
  induction k with
  | zero => exact ⟨fun h => ⟨h, fun j hj => absurd hj (Nat.not_lt_zero _)⟩, fun h => h.1⟩
  | succ k ih =>
    rw [okN, Bool.and_eq_true, ih]
    constructor
    · rintro ⟨⟨h1, h2⟩, h3⟩
      refine ⟨h1, fun j hj => ?_⟩
      by_cases q : j < k
      · exact h2 j q
      · obtain rfl : j = k := by omega
        exact h3
    · rintro ⟨h1, h2⟩
      exact ⟨⟨h1, fun j hj => h2 j (by omega)⟩, h2 k (by omega)⟩
theorem all_iff (L : List ByteArray) (f : ByteArray → Bool) : L.all f = true ↔ ∀ j, j < L.length → f (L.getD j ⟨#[]⟩) = true := ⟨fun h j hj => by rw [List.all_eq_true] at h; exact h _ (mem_at hj), all_yes⟩
theorem sp_row (s : ByteArray) (f : List ByteArray → Bool) : (rowB s && f (spB s)) = (rowB s && f (prB s)) := by
  unfold spB
  cases rowB s with
  | false => rfl
  | true => rfl
theorem ok_is (s : ByteArray) : okN (rowB s) (spB s) (fun _ => wdB) (spB s).length = isB s := by
  rw [isB_is, ← sp_row s fun L => L.all wdB, Bool.eq_iff_iff, okN_iff, Bool.and_eq_true, all_iff]
/-- May x stand at place i of n? -/
def pf (n i : Nat) (x : ByteArray) : Bool := wdB x || (decide (x = ⟨#[42]⟩) || (decide (x = ⟨#[42, 42]⟩) && decide (i + 1 = n)))
theorem ok_pat (s : ByteArray) : okN (rowB s) (spB s) (pf (spB s).length) (spB s).length = patB s := by
  rw [patB_is, ← sp_row s fun L => (innB L).all sgB, Bool.eq_iff_iff, okN_iff, Bool.and_eq_true, all_iff]
  generalize spB s = L
  refine and_congr_right fun _ => ?_
  have sgw : ∀ x, sgB x = true ↔ (wdB x = true ∨ x = ⟨#[42]⟩) := fun x => by
    unfold sgB
    rw [Bool.or_eq_true, decide_eq_true_eq, or_comm]
  have pfw : ∀ i x, pf L.length i x = true ↔ (sgB x = true ∨ (x = ⟨#[42, 42]⟩ ∧ i + 1 = L.length)) := fun i x => by
    rw [sgw]
    unfold pf
    rw [Bool.or_eq_true, Bool.or_eq_true, Bool.and_eq_true, decide_eq_true_eq, decide_eq_true_eq, decide_eq_true_eq, or_assoc]
  by_cases h0 : L = []
  · subst h0; exact ⟨fun _ j hj => absurd hj (Nat.not_lt_zero _), fun _ j hj => absurd hj (Nat.not_lt_zero _)⟩
  · have hp : 0 < L.length := List.length_pos_iff.2 h0
    have hla := last_at hp
    by_cases hs : L.getD (L.length - 1) ⟨#[]⟩ = ⟨#[42, 42]⟩
    · have hq : innB L = L.dropLast := by unfold innB; rw [hla, hs, if_pos rfl]
      have hg : ∀ j, j < L.length - 1 → L.dropLast.getD j ⟨#[]⟩ = L.getD j ⟨#[]⟩ := fun j hj => by
        rw [List.dropLast_eq_take, List.getD_eq_getElem?_getD, List.getD_eq_getElem?_getD, List.getElem?_take_of_lt hj]
      rw [hq, List.length_dropLast]
      constructor
      · intro h j hj
        rw [hg j hj]
        rcases (pfw _ _).1 (h j (by omega)) with q | ⟨_, q⟩
        · exact q
        · omega
      · intro h j hj
        rw [pfw]
        by_cases q : j < L.length - 1
        · left; have := h j q; rwa [hg j q] at this
        · right
          obtain rfl : j = L.length - 1 := by omega
          exact ⟨hs, by omega⟩
    · have hq : innB L = L := by
        unfold innB
        rw [hla, if_neg]
        intro q
        exact hs (Option.some.inj q)
      rw [hq]
      constructor
      · intro h j hj
        rcases (pfw _ _).1 (h j hj) with q | ⟨q1, q2⟩
        · exact q
        · obtain rfl : j = L.length - 1 := by omega
          exact absurd q1 hs
      · intro h j hj
        rw [pfw]; left; exact h j hj
theorem spB_size (s : ByteArray) : (spB s).length ≤ 32 ∧ ∀ x ∈ spB s, x.size ≤ 255 := by
  unfold spB
  split
  · rename_i h; exact ⟨prB_len h, prB_size h⟩
  · exact ⟨Nat.zero_le _, fun x hx => by cases hx⟩
set_option maxHeartbeats 2000000 in
theorem ris_any (s : ByteArray) (w : World) (hs : s.size ≤ 140737488355328) :
    Calls Try.prog 11 #[.string s] w fun e w' => e = .returned (.bool (isB s)) ∧ Below w.heap.size w w' := by
  have HSP := Lib.hid (rsplit_any s w hs)
  rw [← ok_is]
  obtain ⟨hn, hm⟩ := spB_size s
  have HM := Lib.hid fun k (h : k < (spB s).length) => hm _ (mem_at h)
  generalize spB s = L at *
  generalize rowB s = r at *
  clear hm
  go_enter Try.func11, Try.ntmps11
  go_wp2_with (go_at_call 8; (with_reducible refine HSP.out.mono ?_); rintro e w1 ⟨a, c, rfl, hrw, hb1⟩)
  obtain ⟨a', c', e, hc⟩ := hrw.open_
  injection e with q1 _ q3
  subst q1 q3
  have HC := Lib.hid hc
  have HB := Lib.hid hb1
  clear hc hrw hb1 HSP
  go_loop [4, 13] (fun b i => ∃ k : Nat, k ≤ L.length ∧ i = .int .i64 (k : Int) ∧ b = .bool (okN r L (fun _ => wdB) k)) (fun _ i => L.length - (RowKit.intOf i).toNat)
  case atStart => exact ⟨0, Nat.zero_le _, rfl, rfl⟩
  case round =>
    obtain ⟨k, hk, rfl, rfl⟩ := hrel
    by_cases hlt : k < L.length
    · obtain ⟨b, off, rfl, hcl⟩ := HC.out k hlt
      have hx := HM.out k hlt
      have HW := Lib.hid fun W => rword_any (L.getD k ⟨#[]⟩) W (by omega)
      have hst : okN r L (fun _ => wdB) (k + 1) = (okN r L (fun _ => wdB) k && wdB (L.getD k ⟨#[]⟩)) := rfl
      generalize hO : okN r L (fun _ => wdB) (k + 1) = o1 at *
      have HO := Lib.hid hO
      generalize okN r L (fun _ => wdB) k = o0 at *
      generalize wdB (L.getD k ⟨#[]⟩) = q at *
      generalize L.getD k ⟨#[]⟩ = x at *
      clear hO hx
      subst hst
      cases o0
      all_goals
        go_wp2_with (go_at_call 23; (with_reducible refine (HW.out _).mono ?_); rintro e w2 ⟨rfl, rfl⟩)
        go_round
        case rel => exact ⟨k + 1, by omega, by go_num, by rw [HO.out]; simp⟩
        case measure => simp [RowKit.intOf]; omega
    · obtain rfl : k = L.length := by omega
      generalize hO : okN r L (fun _ => wdB) L.length = o at *
      have HO := Lib.hid (ret_b hO.symm)
      clear hO
      go_wp2_with fail
      go_ret
      exact ⟨HO.out, HB.out⟩
set_option maxHeartbeats 8000000 in
set_option maxRecDepth 100000 in
theorem rpat_any (s : ByteArray) (w : World) (hs : s.size ≤ 140737488355328) :
    Calls Try.prog 13 #[.string s] w fun e w' => e = .returned (.bool (patB s)) ∧ Below w.heap.size w w' := by
  have HSP := Lib.hid (rsplit_any s w hs)
  rw [← ok_pat]
  obtain ⟨hn, hm⟩ := spB_size s
  have HM := Lib.hid fun k (h : k < (spB s).length) => hm _ (mem_at h)
  generalize spB s = L at *
  generalize rowB s = r at *
  clear hm
  go_enter Try.func13, Try.ntmps13
  go_wp2_with (go_at_call 8; (with_reducible refine HSP.out.mono ?_); rintro e w1 ⟨a, c, rfl, hrw, hb1⟩)
  obtain ⟨a', c', e, hc⟩ := hrw.open_
  injection e with q1 _ q3
  subst q1 q3
  have HC := Lib.hid hc
  have HB := Lib.hid hb1
  clear hc hrw hb1 HSP
  go_loop [4, 13] (fun b i => ∃ k : Nat, k ≤ L.length ∧ i = .int .i64 (k : Int) ∧ b = .bool (okN r L (pf L.length) k)) (fun _ i => L.length - (RowKit.intOf i).toNat)
  case atStart => exact ⟨0, Nat.zero_le _, rfl, rfl⟩
  case round =>
    obtain ⟨k, hk, rfl, rfl⟩ := hrel
    by_cases hlt : k < L.length
    · obtain ⟨b, off, rfl, hcl⟩ := HC.out k hlt
      have hx := HM.out k hlt
      have HW := Lib.hid fun W => rword_any (L.getD k ⟨#[]⟩) W (by omega)
      have hst : okN r L (pf L.length) (k + 1) = (okN r L (pf L.length) k && pf L.length k (L.getD k ⟨#[]⟩)) := rfl
      generalize hO : okN r L (pf L.length) (k + 1) = o1 at *
      have HO := Lib.hid hO
      generalize okN r L (pf L.length) k = o0 at *
      unfold pf at hst
      have f1 : ((L.getD k ⟨#[]⟩).toList == [42]) = decide (L.getD k ⟨#[]⟩ = ⟨#[42]⟩) := by
        have := sb_eq (x := L.getD k ⟨#[]⟩) (y := ⟨#[42]⟩)
        rwa [Byt.toList_data ⟨#[42]⟩] at this
      have f2 : ((L.getD k ⟨#[]⟩).toList == [42, 42]) = decide (L.getD k ⟨#[]⟩ = ⟨#[42, 42]⟩) := by
        have := sb_eq (x := L.getD k ⟨#[]⟩) (y := ⟨#[42, 42]⟩)
        rwa [Byt.toList_data ⟨#[42, 42]⟩] at this
      have f3 : ((k : Int) == (L.length : Int) - 1) = decide (k + 1 = L.length) := by rw [Bool.eq_iff_iff, beq_iff_eq, decide_eq_true_eq]; omega
      generalize decide (L.getD k ⟨#[]⟩ = ⟨#[42]⟩) = b1 at *
      generalize decide (L.getD k ⟨#[]⟩ = ⟨#[42, 42]⟩) = b2 at *
      generalize decide (k + 1 = L.length) = b3 at *
      generalize wdB (L.getD k ⟨#[]⟩) = q at *
      generalize L.getD k ⟨#[]⟩ = x at *
      clear hO hx
      subst hst
      cases o0 <;> cases q <;> cases b1 <;> cases b2 <;> cases b3
      all_goals
        go_wp2_with (go_at_call 23; (with_reducible refine (HW.out _).mono ?_); rintro e w2 ⟨rfl, rfl⟩)
        go_round
        case rel => exact ⟨k + 1, by omega, by go_num, by rw [HO.out]; rfl⟩
        case measure => simp [RowKit.intOf]; omega
    · obtain rfl : k = L.length := by omega
      generalize hO : okN r L (pf L.length) L.length = o at *
      have HO := Lib.hid (ret_b hO.symm)
      clear hO
      go_wp2_with fail
      go_ret
      exact ⟨HO.out, HB.out⟩

/-! ### Prefix -/
theorem take_no {x y : List ByteArray} {k : Nat} (hk : k < x.length) (h : x.getD k ⟨#[]⟩ ≠ y.getD k ⟨#[]⟩) : decide (x = y.take x.length) = false := decide_eq_false fun e => h (by
  have : (y.take x.length).getD k ⟨#[]⟩ = y.getD k ⟨#[]⟩ := by rw [List.getD_eq_getElem?_getD, List.getD_eq_getElem?_getD, List.getElem?_take_of_lt hk]
  rw [← this, ← e])
theorem take_yes {x y : List ByteArray} (hl : x.length ≤ y.length) (h : ∀ j, j < x.length → x.getD j ⟨#[]⟩ = y.getD j ⟨#[]⟩) : decide (x = y.take x.length) = true := by
  have := eq_yes (x := x) (y := y.take x.length) (by rw [List.length_take]; omega) (fun j hj => by
    have : (y.take x.length).getD j ⟨#[]⟩ = y.getD j ⟨#[]⟩ := by rw [List.getD_eq_getElem?_getD, List.getD_eq_getElem?_getD, List.getElem?_take_of_lt hj]
    rw [this]; exact h j hj)
  exact this
theorem pre_sp (p s : ByteArray) : preB p s = (rowB p && rowB s && (decide ((spB p).length ≤ (spB s).length) && decide (spB p = (spB s).take (spB p).length))) := by
  rw [preB_is]
  unfold spB
  cases rowB p with
  | false => rfl
  | true =>
    cases rowB s with
    | false => rfl
    | true => rfl
set_option maxHeartbeats 8000000 in
set_option maxRecDepth 100000 in
theorem rpre_any (p s : ByteArray) (w : World) (hp : p.size ≤ 140737488355328) (hs : s.size ≤ 140737488355328) :
    Calls Try.prog 17 #[.string p, .string s] w fun e w' => e = .returned (.bool (preB p s)) ∧ Below w.heap.size w w' := by
  rw [pre_sp]
  have HP := Lib.hid fun W => rsplit_any p W hp
  have HS := Lib.hid fun W => rsplit_any s W hs
  obtain ⟨n1, _⟩ := spB_size p
  obtain ⟨n2, _⟩ := spB_size s
  generalize spB p = X at *
  generalize spB s = Y at *
  generalize rowB p = rp at *
  generalize rowB s = rs at *
  by_cases hbad : (rp && rs && decide (X.length ≤ Y.length)) = false
  · have hR : (rp && rs && (decide (X.length ≤ Y.length) && decide (X = Y.take X.length))) = false := by rw [← Bool.and_assoc, hbad, Bool.false_and]
    rw [hR]
    clear hR
    have g1 : decide ((Y.length : Int) < (X.length : Int)) = !decide (X.length ≤ Y.length) := by rw [Bool.eq_iff_iff]; simp only [decide_eq_true_eq, Bool.not_eq_true', decide_eq_false_iff_not]; omega
    have g2 : decide (Y.length < X.length) = !decide (X.length ≤ Y.length) := by rw [Bool.eq_iff_iff]; simp only [decide_eq_true_eq, Bool.not_eq_true', decide_eq_false_iff_not]; omega
    generalize decide (X.length ≤ Y.length) = d at *
    cases rp <;> cases rs <;> cases d
    all_goals first
      | (exact absurd hbad (by decide))
      | (clear hbad
         change _ = true at g1
         change _ = true at g2
         go_enter Try.func17, Try.ntmps17
         go_wp2_with (go_at_call 8; first
           | ((with_reducible refine (HP.out _).mono ?_); rintro e w1 ⟨a1, c1, rfl, hr1, hb1⟩; clear HP)
           | ((with_reducible refine (HS.out _).mono ?_); rintro e w2 ⟨a2, c2, rfl, hr2, hb2⟩))
         go_ret
         exact ⟨rfl, hb1.trans (hb2.mono hb1.size)⟩)
      | (clear hbad
         change _ = false at g1
         change _ = false at g2
         go_enter Try.func17, Try.ntmps17
         go_wp2_with (go_at_call 8; first
           | ((with_reducible refine (HP.out _).mono ?_); rintro e w1 ⟨a1, c1, rfl, hr1, hb1⟩; clear HP)
           | ((with_reducible refine (HS.out _).mono ?_); rintro e w2 ⟨a2, c2, rfl, hr2, hb2⟩))
         go_ret
         exact ⟨rfl, hb1.trans (hb2.mono hb1.size)⟩)
  · obtain ⟨rfl, rfl, hle⟩ : rp = true ∧ rs = true ∧ X.length ≤ Y.length := by
      rw [Bool.not_eq_false, Bool.and_eq_true, Bool.and_eq_true, decide_eq_true_eq] at hbad
      exact ⟨hbad.1.1, hbad.1.2, hbad.2⟩
    have hR : (true && true && (decide (X.length ≤ Y.length) && decide (X = Y.take X.length))) = decide (X = Y.take X.length) := by rw [decide_eq_true hle]; rfl
    rw [hR]
    have HN := Lib.hid fun k => take_no (x := X) (y := Y) (k := k)
    have HY := Lib.hid (take_yes (x := X) (y := Y) hle)
    generalize decide (X = Y.take X.length) = R at *
    have g1 : decide ((Y.length : Int) < (X.length : Int)) = false := decide_eq_false (by omega)
    have g2 : decide (Y.length < X.length) = false := decide_eq_false (by omega)
    clear hbad hR
    go_enter Try.func17, Try.ntmps17
    go_wp2_with (go_at_call 8; first
      | ((with_reducible refine (HP.out _).mono ?_); rintro e w1 ⟨a1, c1, rfl, hr1, hb1⟩; clear HP)
      | ((with_reducible refine (HS.out _).mono ?_); rintro e w2 ⟨a2, c2, rfl, hr2, hb2⟩; have hr1' := hr1.next hb2; have HB := Lib.hid (hb1.trans (hb2.mono hb1.size)); clear hr1 hb1 hb2 HS))
    obtain ⟨a1', c1', e1, hc1⟩ := hr1'.open_
    injection e1 with q1 _ q3
    subst q1 q3
    obtain ⟨a2', c2', e2, hc2⟩ := hr2.open_
    injection e2 with q1 _ q3
    subst q1 q3
    have HC1 := Lib.hid hc1
    have HC2 := Lib.hid hc2
    clear hc1 hc2 hr1' hr2
    go_loopw [35] (fun i wr => ∃ k n : Nat, i = .int .i64 (k : Int) ∧ wr = w2.drewN n ∧ k ≤ X.length ∧ Hid (∀ j, j < k → X.getD j ⟨#[]⟩ = Y.getD j ⟨#[]⟩)) (fun i _ => X.length - (RowKit.intOf i).toNat)
    case atStart => exact ⟨0, 0, rfl, rfl, Nat.zero_le _, Lib.hid fun j hj => absurd hj (Nat.not_lt_zero _)⟩
    case round =>
      obtain ⟨k, nd, rfl, rfl, hk, HA⟩ := hrel
      by_cases hlt : k < X.length
      · have hlt2 : k < Y.length := by omega
        obtain ⟨b, off, rfl, h1⟩ := HC1.out k hlt
        obtain ⟨b2, off2, rfl, h2⟩ := HC2.out k hlt2
        have c1 : ∀ n, (w2.drewN n).cell? ⟨b, off + k, none⟩ = some (.string (X.getD k ⟨#[]⟩)) := fun n => h1
        have c2 : ∀ n, (w2.drewN n).cell? ⟨b2, off2 + k, none⟩ = some (.string (Y.getD k ⟨#[]⟩)) := fun n => h2
        clear h1 h2
        by_cases hq : X.getD k ⟨#[]⟩ = Y.getD k ⟨#[]⟩
        · have HA2 := Lib.hid (show ∀ j, j < k + 1 → X.getD j ⟨#[]⟩ = Y.getD j ⟨#[]⟩ from fun j hj => by
            by_cases q : j < k
            · exact HA.out j q
            · obtain rfl : j = k := by omega
              exact hq)
          rw [← hq] at c2
          have hb : ((X.getD k ⟨#[]⟩).toList == (X.getD k ⟨#[]⟩).toList) = true := beq_self_eq_true _
          clear hq HA
          generalize X.getD k ⟨#[]⟩ = x at *
          generalize X.length = n at *
          generalize Y.length = n' at *
          go_wp2_with fail
          go_region
          go_wp2_with fail
          go_roundw
          case rel => exact ⟨k + 1, _, by go_num, rfl, by omega, HA2⟩
          case measure => simp [RowKit.intOf]; omega
        · obtain rfl : R = false := HN.out k hlt hq
          have hb : ((X.getD k ⟨#[]⟩).toList == (Y.getD k ⟨#[]⟩).toList) = false := Byt.str_neq hq
          clear hq HA HN HY
          generalize X.getD k ⟨#[]⟩ = x at *
          generalize Y.getD k ⟨#[]⟩ = y at *
          generalize X.length = n at *
          generalize Y.length = n' at *
          go_wp2_with fail
          go_region
          go_wp2_with fail
          go_ret
          exact ⟨rfl, below_drewN HB.out⟩
      · obtain rfl : k = X.length := by omega
        obtain rfl : R = true := HY.out HA.out
        clear HN HY HA
        go_wp2_with fail
        go_ret
        exact ⟨rfl, below_drewN HB.out⟩
end Go.Proofs.Ytmlpgfjopkobbaa.Rou
