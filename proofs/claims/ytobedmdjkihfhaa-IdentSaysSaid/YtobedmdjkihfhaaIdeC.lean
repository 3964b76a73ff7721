/- Contracts of ident's Twice, of the document's, and of the statements' light. Conditions: as each theorem states. -/
import Derived.Test.YtobedmdjkihfhaaIdeMath
import Derived.Test.YtobedmdjkihfhaaRowsA
import Derived.Test.YtobedmdjkihfhaaSeen
import Derived.Deep.QuietTactic
import Derived.BigQuiet
import Derived.Handy
namespace Go.Proofs.Ytobedmdjkihfhaa.Ide
open Go.RowKit Go.Lib Go.Proofs.Ytobedmdjkihfhaa.Byt Go.Proofs.Ytobedmdjkihfhaa.Sn

/-! ### light -/
/-- Few and short. -/
def lgt (l : List ByteArray) : Bool := decide (l.length ≤ 60) && l.all fun x => decide (x.size ≤ 100)
theorem lgt_yes {l : List ByteArray} (h : lgt l = true) : l.length ≤ 60 ∧ ∀ x ∈ l, x.size ≤ 100 := by
  unfold lgt at h
  rw [Bool.and_eq_true, decide_eq_true_eq, List.all_eq_true] at h
  exact ⟨h.1, fun x hx => by simpa using h.2 x hx⟩
theorem lgt_long {l : List ByteArray} (h : 60 < l.length) : lgt l = false := by
  unfold lgt
  rw [decide_eq_false (by omega)]; rfl
theorem lgt_wide {l : List ByteArray} {k : Nat} (hk : k < l.length) (h : 100 < (l.getD k ⟨#[]⟩).size) : lgt l = false := by
  cases hg : lgt l with
  | false => rfl
  | true =>
    have := (lgt_yes hg).2 (l.getD k ⟨#[]⟩) (by rw [List.getD_eq_getElem?_getD, List.getElem?_eq_getElem hk]; exact List.getElem_mem hk)
    omega
theorem lgt_all {l : List ByteArray} (h : l.length ≤ 60) (h2 : ∀ j, j < l.length → (l.getD j ⟨#[]⟩).size ≤ 100) : lgt l = true := by
  unfold lgt
  rw [Bool.and_eq_true, decide_eq_true_eq, List.all_eq_true]
  refine ⟨h, fun x hx => ?_⟩
  obtain ⟨j, hj, rfl⟩ := List.getElem_of_mem hx
  have := h2 j hj
  rw [List.getD_eq_getElem?_getD, List.getElem?_eq_getElem hj] at this
  simpa using this
theorem light_any (v : Value) (l : List ByteArray) (w : World) (hr : Strs.Row w v l) (hl : l.length ≤ 9223372036854775807) :
    Calls Try.prog 6 #[v] w fun e w' => e = .returned (.bool (lgt l)) ∧ w = w' := by
  obtain ⟨a, cap, rfl, hc⟩ := hr.open_
  have HC := Lib.hid hc
  obtain ⟨R, hR⟩ : ∃ R, lgt l = R := ⟨_, rfl⟩
  have HR := Lib.hid hR
  rw [hR]
  clear hc hr hR
  by_cases h60 : 60 < l.length
  · obtain rfl : R = false := by rw [← HR.out]; exact lgt_long h60
    have g : decide ((60 : Int) < (l.length : Int)) = true := decide_eq_true (by omega)
    have gn : decide (60 < l.length) = true := decide_eq_true h60
    go_enter Try.func6, Try.ntmps6
    go_wp2_with fail
    go_ret
    exact ⟨rfl, rfl⟩
  · have g : decide ((60 : Int) < (l.length : Int)) = false := decide_eq_false (by omega)
    have gn : decide (60 < l.length) = false := decide_eq_false h60
    go_enter Try.func6, Try.ntmps6
    go_wp2_with fail
    go_loop [9] (fun i => ∃ k : Nat, i = .int .i64 (k : Int) ∧ k ≤ l.length ∧ Hid (∀ j, j < k → (l.getD j ⟨#[]⟩).size ≤ 100)) (fun i => l.length - (RowKit.intOf i).toNat)
    case atStart => exact ⟨0, rfl, Nat.zero_le _, Lib.hid fun j hj => absurd hj (Nat.not_lt_zero _)⟩
    case round =>
      obtain ⟨k, rfl, hk, HA⟩ := hrel
      by_cases hlt : k < l.length
      · obtain ⟨b, off, rfl, hcl⟩ := HC.out k hlt
        have HW := Lib.hid (@lgt_wide l k hlt)
        have HA2 := Lib.hid (show (l.getD k ⟨#[]⟩).size ≤ 100 → ∀ j, j < k + 1 → (l.getD j ⟨#[]⟩).size ≤ 100 from fun h j hj => by
          by_cases q : j < k
          · exact HA.out j q
          · obtain rfl : j = k := by omega
            exact h)
        have hz : (l.getD k ⟨#[]⟩).size = (l.getD k ⟨#[]⟩).size := rfl
        generalize l.getD k ⟨#[]⟩ = x at *
        by_cases hw : 100 < x.size
        · obtain rfl : R = false := by rw [← HR.out]; exact HW.out hw
          have q : decide ((100 : Int) < (x.size : Int)) = true := decide_eq_true (by omega)
          have qn : decide (100 < x.size) = true := decide_eq_true hw
          clear hz
          go_wp2_with fail
          go_ret
          exact ⟨rfl, rfl⟩
        · have q : decide ((100 : Int) < (x.size : Int)) = false := decide_eq_false (by omega)
          have qn : decide (100 < x.size) = false := decide_eq_false hw
          have HA3 := Lib.hid (HA2.out (by omega))
          clear hz HA2
          go_wp2_with fail
          go_round
          case rel => exact ⟨k + 1, by go_num, by omega, HA3⟩
          case measure => simp [RowKit.intOf]; omega
      · obtain rfl : k = l.length := by omega
        obtain rfl : R = true := by rw [← HR.out]; exact lgt_all (by omega) HA.out
        go_wp2_with fail
        go_ret
        exact ⟨rfl, rfl⟩

/-! ### Twice -/
theorem tw_end {l : List ByteArray} (h : ∀ j, j < l.length → twAt l j = false) : tw l = -1 := fst_none h
theorem tw_at {l : List ByteArray} {k : Nat} (hk : k < l.length) (h : ∀ j, j < k → twAt l j = false) (hn : twAt l k = true) : tw l = k := fst_at hk hn h
theorem take_next (l : List ByteArray) (i : Nat) (h : i < l.length) : l.take (i + 1) = l.take i ++ [ga l i] := by
  rw [List.take_add_one, List.getElem?_eq_getElem h, Option.toList_some]
  unfold ga
  rw [List.getD_eq_getElem?_getD, List.getElem?_eq_getElem h]
  rfl
set_option maxHeartbeats 4000000 in
set_option maxRecDepth 100000 in
theorem twice_any (l : List ByteArray) (v : Value) (w : World) (hr : Strs.Row w v l) (hl : l.length ≤ 140737488355328) (hm : ∀ x ∈ l, x.size ≤ 140737488351232) :
    Calls Try.prog 10 #[v] w fun e w' => e = .returned (.int .i64 (tw l)) ∧ Below w.heap.size w w' := by
  obtain ⟨a, cap, rfl, hc⟩ := hr.open_
  have HC := Lib.hid hc
  have HM := Lib.hid fun i h => hm (ga l i) (ga_mem h)
  obtain ⟨R, hR⟩ : ∃ R, tw l = R := ⟨_, rfl⟩
  have HE := Lib.hid (tw_end (l := l))
  have HA := Lib.hid fun k => tw_at (l := l) (k := k)
  rw [hR] at HE HA
  rw [hR]
  clear hc hr hR hm
  have hmm := run_map0
  go_enter Try.func10, Try.ntmps10
  go_wp2_with fail
  go_loopw [9] (fun x wr => ∃ i : Nat, x = .int .i64 (i : Int) ∧ i ≤ l.length ∧ Below w.heap.size w wr ∧ Seen wr w.heap.size i (l.take i) ∧ Hid (∀ j, j < i → twAt l j = false)) (fun x _ => l.length - (RowKit.intOf x).toNat)
  case atStart => exact ⟨0, by go_num, Nat.zero_le _, (Below.refl _ _).alloc (Nat.le_refl _) _, by rw [List.take_zero]; exact seen_made _, Lib.hid fun j h => by omega⟩
  case round =>
    obtain ⟨i, rfl, hi, hb, hS, HI⟩ := hrel
    by_cases hlt : i < l.length
    · obtain ⟨b, off, rfl, hcell⟩ := HC.out i hlt
      have hcell2 := (hb.cell (Strs.cell_lt hcell)).trans hcell
      change _ = some (Value.string (ga l i)) at hcell2
      have htk := Lib.hid (take_next l i hlt)
      have hsm := HM.out i hlt
      have HQ := Lib.hid (show hasB (l.take i) (ga l i) = true → R = i from fun h => HA.out i hlt HI.out h)
      have HN := Lib.hid (show hasB (l.take i) (ga l i) = false → ∀ j, j < i + 1 → twAt l j = false from fun h j hj => by
        by_cases q : j < i
        · exact HI.out j q
        · obtain rfl : j = i := by omega
          exact h)
      clear hcell HE HA HI HM
      generalize ga l i = s at *
      have hlook := hS.look s hsm
      cases hh : hasB (l.take i) s with
      | true =>
        rw [hh] at hlook
        obtain rfl := HQ.out hh
        clear HN HQ htk hh
        go_wp2_with fail
        go_ret
        exact ⟨rfl, by first | exact hb | exact hb.drew⟩
      | false =>
        rw [hh] at hlook
        have HN2 := Lib.hid (HN.out hh)
        clear HN HQ hh
        go_wp2_with (refine wpList_put _ rfl _ _ _ rfl w.heap.size i (l.take i) rfl s rfl rfl hS hsm (by omega) w w.heap.size (Nat.le_refl _) hb ?_; intro w3 hS3 hb3)
        go_roundw
        case rel => exact ⟨i + 1, by go_num, by omega, hb3, by rw [htk.out]; exact hS3, HN2⟩
        case measure => simp [RowKit.intOf]; omega
    · obtain rfl : R = -1 := HE.out fun j h => HI.out j (by omega)
      go_wp2_with fail
      go_ret
      exact ⟨rfl, hb⟩

theorem tw_no {l : List ByteArray} {i : Nat} (hi : i < l.length) (h : ∀ j, j < i → ga l j ≠ ga l i) : twAt l i = false := by
  unfold twAt
  rw [List.any_eq_false]
  intro x hx
  obtain ⟨k, hk, rfl⟩ := List.getElem_of_mem hx
  have hk2 : k < i := by rw [List.length_take] at hk; omega
  rw [List.getElem_take]
  intro q
  refine h k hk2 ?_
  rw [← of_decide_eq_true q]
  unfold ga
  rw [List.getD_eq_getElem?_getD, List.getElem?_eq_getElem (by omega)]
  rfl
theorem tw_yes {l : List ByteArray} {i k : Nat} (hi : i < l.length) (hk : k < i) (h : ga l k = ga l i) : twAt l i = true := by
  unfold twAt
  rw [List.any_eq_true]
  refine ⟨ga l k, ?_, decide_eq_true h⟩
  rw [List.mem_iff_getElem]
  refine ⟨k, by rw [List.length_take]; omega, ?_⟩
  rw [List.getElem_take]
  unfold ga
  rw [List.getD_eq_getElem?_getD, List.getElem?_eq_getElem (by omega)]
  rfl
set_option maxHeartbeats 4000000 in
set_option maxRecDepth 100000 in
theorem rtwice_any (l : List ByteArray) (v : Value) (w : World) (hr : Strs.Row w v l) (hl : l.length ≤ 140737488355328) :
    Calls Try.prog 11 #[v] w fun e w' => e = .returned (.int .i64 (tw l)) ∧ Below w.heap.size w w' := by
  obtain ⟨a, cap, rfl, hc⟩ := hr.open_
  have HC := Lib.hid hc
  obtain ⟨R, hR⟩ : ∃ R, tw l = R := ⟨_, rfl⟩
  have HE := Lib.hid (tw_end (l := l))
  have HA := Lib.hid fun k => tw_at (l := l) (k := k)
  rw [hR] at HE HA
  rw [hR]
  clear hc hr hR
  go_enter Try.func11, Try.ntmps11
  go_wp2_with fail
  go_loopw [7] (fun x wr => ∃ i : Nat, x = .int .i64 (i : Int) ∧ i ≤ l.length ∧ Hid (Below w.heap.size w wr) ∧ Hid (∀ j, j < i → twAt l j = false)) (fun x _ => l.length - (RowKit.intOf x).toNat)
  case atStart => exact ⟨0, by go_num, Nat.zero_le _, Lib.hid (Below.refl _ _), Lib.hid fun j h => by omega⟩
  case round =>
    obtain ⟨i, rfl, hi, HB, HI⟩ := hrel
    by_cases hlt : i < l.length
    · obtain ⟨b, off, rfl, f1⟩ := HC.out i hlt
      change w.cell? _ = some (Value.string (ga l i)) at f1
      have HF1 := Lib.hid f1
      clear f1
      have hlti : (i : Int) < (l.length : Int) := by omega
      go_wp2_with fail
      go_loopw [11] (fun x wr => ∃ k : Nat, x = .int .i64 (k : Int) ∧ k ≤ i ∧ Hid (Below w.heap.size w wr) ∧ Hid (∀ j, j < k → ga l j ≠ ga l i)) (fun x _ => i - (RowKit.intOf x).toNat)
      case atStart => exact ⟨0, by go_num, Nat.zero_le _, HB, Lib.hid fun j h => by omega⟩
      case round =>
        obtain ⟨k, rfl, hk, HB2, HK⟩ := hrel
        by_cases hlt2 : k < i
        · obtain ⟨b', off', e', f2⟩ := HC.out k (by omega)
          obtain ⟨rfl, rfl⟩ : b = b' ∧ off = off' := by injection e' with e'; injection e' with q1 q2; exact ⟨q1, q2⟩
          change w.cell? _ = some (Value.string (ga l k)) at f2
          have h1 := (HB2.out.cell (Strs.cell_lt HF1.out)).trans HF1.out
          have h2 := (HB2.out.cell (Strs.cell_lt f2)).trans f2
          have i2 : (k : Int) < (l.length : Int) := by omega
          have HY := Lib.hid (show ga l k = ga l i → R = i from fun h => HA.out i hlt HI.out (tw_yes hlt hlt2 h))
          have HN := Lib.hid (show ga l k ≠ ga l i → ∀ j, j < k + 1 → ga l j ≠ ga l i from fun h j hj => by
            by_cases q : j < k
            · exact HK.out j q
            · obtain rfl : j = k := by omega
              exact h)
          by_cases hx : ga l k = ga l i
          · obtain rfl := HY.out hx
            rw [hx] at h2
            generalize ga l i = x at *
            have e1 : (x.toList == x.toList) = true := beq_self_eq_true _
            clear HN HY HK hx f2 HF1 HA HE HI
            go_wp2_with fail
            go_region
            go_wp2_with fail
            go_ret
            exact ⟨rfl, by first | exact HB2.out | exact HB2.out.drew⟩
          · have HN2 := Lib.hid (HN.out hx)
            clear HN HY HK f2 HF1 HA HE HI
            generalize ga l k = y at *
            generalize hxx : ga l i = x at *
            have e1 : (y.toList == x.toList) = false := Byt.str_neq hx
            go_wp2_with fail
            go_region
            go_wp2_with fail
            go_roundw
            case rel => exact ⟨k + 1, by go_num, by omega, Lib.hid (by first | exact HB2.out | exact HB2.out.drew), HN2⟩
            case measure => simp [RowKit.intOf]; omega
        · obtain rfl : k = i := by omega
          have HT := Lib.hid (show ∀ j, j < k + 1 → twAt l j = false from fun j hj => by
            by_cases q : j < k
            · exact HI.out j q
            · obtain rfl : j = k := by omega
              exact tw_no hlt HK.out)
          clear HF1 HK HI
          go_wp2_with fail
          go_roundw
          case rel => exact ⟨k + 1, by go_num, by omega, HB2, HT⟩
          case measure => simp [RowKit.intOf]; omega
    · obtain rfl : R = -1 := HE.out fun j h => HI.out j (by omega)
      go_wp2_with fail
      go_ret
      exact ⟨rfl, HB.out⟩
end Go.Proofs.Ytobedmdjkihfhaa.Ide
