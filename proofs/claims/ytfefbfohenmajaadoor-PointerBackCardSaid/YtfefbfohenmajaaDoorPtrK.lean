/- The statements' light and same. Conditions: as each theorem states. -/
import Derived.Test.YtfefbfohenmajaaDoorRowsA
import Derived.Deep.QuietTactic
import Derived.BigQuiet
namespace Go.Proofs.YtfefbfohenmajaaDoor.Ptr
open Go.RowKit Go.Lib Go.Proofs.YtfefbfohenmajaaDoor.Byt

/-- Few and short. -/
def lgt (l : List ByteArray) : Bool := decide (l.length ≤ 40) && l.all fun x => decide (x.size ≤ 60)
theorem lgt_yes {l : List ByteArray} (h : lgt l = true) : l.length ≤ 40 ∧ ∀ x ∈ l, x.size ≤ 60 := by
  unfold lgt at h
  rw [Bool.and_eq_true, decide_eq_true_eq, List.all_eq_true] at h
  exact ⟨h.1, fun x hx => by simpa using h.2 x hx⟩
theorem lgt_long {l : List ByteArray} (h : 40 < l.length) : lgt l = false := by
  unfold lgt
  rw [decide_eq_false (by omega)]; rfl
theorem lgt_wide {l : List ByteArray} {k : Nat} (hk : k < l.length) (h : 60 < (l.getD k ⟨#[]⟩).size) : lgt l = false := by
  cases hg : lgt l with
  | false => rfl
  | true =>
    have := (lgt_yes hg).2 (l.getD k ⟨#[]⟩) (by rw [List.getD_eq_getElem?_getD, List.getElem?_eq_getElem hk]; exact List.getElem_mem hk)
    omega
theorem lgt_all {l : List ByteArray} (h : l.length ≤ 40) (h2 : ∀ j, j < l.length → (l.getD j ⟨#[]⟩).size ≤ 60) : lgt l = true := by
  unfold lgt
  rw [Bool.and_eq_true, decide_eq_true_eq, List.all_eq_true]
  refine ⟨h, fun x hx => ?_⟩
  obtain ⟨j, hj, rfl⟩ := List.getElem_of_mem hx
  have := h2 j hj
  rw [List.getD_eq_getElem?_getD, List.getElem?_eq_getElem hj] at this
  simpa using this
theorem light_any (v : Value) (l : List ByteArray) (w : World) (hr : Strs.Row w v l) (hl : l.length ≤ 9223372036854775807) :
    Calls Tryd.prog 6 #[v] w fun e w' => e = .returned (.bool (lgt l)) ∧ w' = w := by
  obtain ⟨a, cap, rfl, hc⟩ := hr.open_
  have HC := Lib.hid hc
  obtain ⟨R, hR⟩ : ∃ R, lgt l = R := ⟨_, rfl⟩
  have HR := Lib.hid hR
  rw [hR]
  clear hc hr hR
  by_cases h40 : 40 < l.length
  · obtain rfl : R = false := by rw [← HR.out]; exact lgt_long h40
    have g : decide ((40 : Int) < (l.length : Int)) = true := decide_eq_true (by omega)
    have gn : decide (40 < l.length) = true := decide_eq_true h40
    go_enter Tryd.func6, Tryd.ntmps6
    go_wp2_with fail
    go_ret
    exact ⟨rfl, rfl⟩
  · have g : decide ((40 : Int) < (l.length : Int)) = false := decide_eq_false (by omega)
    have gn : decide (40 < l.length) = false := decide_eq_false h40
    go_enter Tryd.func6, Tryd.ntmps6
    go_wp2_with fail
    go_loop [9] (fun i => ∃ k : Nat, i = .int .i64 (k : Int) ∧ k ≤ l.length ∧ Hid (∀ j, j < k → (l.getD j ⟨#[]⟩).size ≤ 60)) (fun i => l.length - (RowKit.intOf i).toNat)
    case atStart => exact ⟨0, rfl, Nat.zero_le _, Lib.hid fun j hj => absurd hj (Nat.not_lt_zero _)⟩
    case round =>
      obtain ⟨k, rfl, hk, HA⟩ := hrel
      by_cases hlt : k < l.length
      · obtain ⟨b, off, rfl, hcl⟩ := HC.out k hlt
        have HW := Lib.hid (@lgt_wide l k hlt)
        have HA2 := Lib.hid (show (l.getD k ⟨#[]⟩).size ≤ 60 → ∀ j, j < k + 1 → (l.getD j ⟨#[]⟩).size ≤ 60 from fun h j hj => by
          by_cases q : j < k
          · exact HA.out j q
          · obtain rfl : j = k := by omega
            exact h)
        have hz : (l.getD k ⟨#[]⟩).size = (l.getD k ⟨#[]⟩).size := rfl
        generalize l.getD k ⟨#[]⟩ = x at *
        by_cases h60 : 60 < x.size
        · obtain rfl : R = false := by rw [← HR.out]; exact HW.out h60
          have q : decide ((60 : Int) < (x.size : Int)) = true := decide_eq_true (by omega)
          have qn : decide (60 < x.size) = true := decide_eq_true h60
          clear hz
          go_wp2_with fail
          go_ret
          exact ⟨rfl, rfl⟩
        · have q : decide ((60 : Int) < (x.size : Int)) = false := decide_eq_false (by omega)
          have qn : decide (60 < x.size) = false := decide_eq_false h60
          have HA3 := Lib.hid (HA2.out (by omega))
          clear hz HA2
          go_wp2_with fail
          go_round
          case rel => exact ⟨k + 1, by go_num, by omega, HA3⟩
          case measure => simp [RowKit.intOf]; omega
      · obtain rfl : k = l.length := by omega
        obtain rfl : R = true := by rw [← HR.out]; exact lgt_all (by omega) HA.out
        go_wp2_with fail
        go_ret
        exact ⟨rfl, rfl⟩
theorem list_ext {a b : List ByteArray} (h : a.length = b.length) (k : ∀ j, j < a.length → a.getD j ⟨#[]⟩ = b.getD j ⟨#[]⟩) : a = b := by
  refine List.ext_getElem h fun j h1 h2 => ?_
  have := k j h1
  rwa [List.getD_eq_getElem?_getD, List.getD_eq_getElem?_getD, List.getElem?_eq_getElem h1, List.getElem?_eq_getElem h2] at this
set_option maxHeartbeats 1000000 in
theorem same_any (va vb : Value) (a b : List ByteArray) (w : World) (ha : Strs.Row w va a) (hb : Strs.Row w vb b) (hla : a.length ≤ 9223372036854775807) (hlb : b.length ≤ 9223372036854775807) :
    Calls Tryd.prog 17 #[va, vb] w fun e w' => e = .returned (.bool (decide (a = b))) ∧ Below w.heap.size w w' := by
  obtain ⟨a1, cap1, rfl, hc1⟩ := ha.open_
  obtain ⟨a2, cap2, rfl, hc2⟩ := hb.open_
  have HC1 := Lib.hid hc1
  have HC2 := Lib.hid hc2
  obtain ⟨R, hR⟩ : ∃ R, decide (a = b) = R := ⟨_, rfl⟩
  have HR := Lib.hid hR
  rw [hR]
  clear hc1 hc2 ha hb hR
  by_cases hl : a.length = b.length
  · have g : ((a.length : Int) != (b.length : Int)) = false := by rw [bne_eq_false_iff_eq]; omega
    have HL := Lib.hid hl
    generalize hn : a.length = n at *
    have HN := Lib.hid hn
    clear hl hn
    go_enter Tryd.func17, Tryd.ntmps17
    go_wp2_with fail
    go_loopw [13] (fun i wr => ∃ k : Nat, i = .int .i64 (k : Int) ∧ k ≤ n ∧ Hid (∀ j, j < k → a.getD j ⟨#[]⟩ = b.getD j ⟨#[]⟩) ∧ Hid (Below w.heap.size w wr)) (fun i _ => n - (RowKit.intOf i).toNat)
    case atStart => exact ⟨0, rfl, Nat.zero_le _, Lib.hid fun j hj => absurd hj (Nat.not_lt_zero _), Lib.hid (Below.refl _ _)⟩
    case round =>
      obtain ⟨k, rfl, hk, HA, HB⟩ := hrel
      by_cases hlt : k < n
      · obtain ⟨b1, off1, rfl, f1⟩ := HC1.out k hlt
        obtain ⟨b2, off2, rfl, f2⟩ := HC2.out k (by rw [← HL.out]; exact hlt)
        have h1 := (HB.out.cell (Strs.cell_lt f1)).trans f1
        have h2 := (HB.out.cell (Strs.cell_lt f2)).trans f2
        have hltb : k < b.length := by rw [← HL.out]; exact hlt
        have HA2 := Lib.hid (show a.getD k ⟨#[]⟩ = b.getD k ⟨#[]⟩ → ∀ j, j < k + 1 → a.getD j ⟨#[]⟩ = b.getD j ⟨#[]⟩ from fun h j hj => by
          by_cases q : j < k
          · exact HA.out j q
          · obtain rfl : j = k := by omega
            exact h)
        have HNE := Lib.hid (show a.getD k ⟨#[]⟩ ≠ b.getD k ⟨#[]⟩ → R = false from fun h => by rw [← HR.out]; exact decide_eq_false fun q => h (by rw [q]))
        clear f1 f2
        generalize a.getD k ⟨#[]⟩ = x at *
        generalize b.getD k ⟨#[]⟩ = y at *
        have i1 : (k : Int) < (n : Int) := by omega
        have i2 : (k : Int) < (b.length : Int) := by omega
        by_cases hxy : x = y
        · have HA3 := Lib.hid (HA2.out hxy)
          subst hxy
          have e1 : (x.toList == x.toList) = true := beq_self_eq_true _
          clear HA2 HNE
          go_wp2_with fail
          go_region
          go_wp2_with fail
          go_roundw
          case rel => exact ⟨k + 1, by go_num, by omega, HA3, Lib.hid HB.out.drew⟩
          case measure => simp [RowKit.intOf]; omega
        · obtain rfl := HNE.out hxy
          have e1 : (x.toList == y.toList) = false := str_neq hxy
          clear HA2 HNE
          go_wp2_with fail
          go_region
          go_wp2_with fail
          go_ret
          exact ⟨rfl, HB.out.drew⟩
      · obtain rfl : k = n := by omega
        obtain rfl : R = true := by rw [← HR.out]; exact decide_eq_true (list_ext (by rw [HN.out]; exact HL.out) (by rw [HN.out]; exact HA.out))
        go_wp2_with fail
        go_ret
        exact ⟨rfl, HB.out⟩
  · obtain rfl : R = false := by rw [← HR.out]; exact decide_eq_false fun q => hl (by rw [q])
    have g : ((a.length : Int) != (b.length : Int)) = true := by rw [bne_iff_ne]; omega
    clear hl
    go_enter Tryd.func17, Tryd.ntmps17
    go_wp2_with fail
    go_ret
    exact ⟨rfl, Below.refl _ _⟩
end Go.Proofs.YtfefbfohenmajaaDoor.Ptr
