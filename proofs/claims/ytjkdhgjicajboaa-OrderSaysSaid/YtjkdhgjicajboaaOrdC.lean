/- The statements' light and example of order; the laws OrderSays, OrderTotal. Conditions: as each theorem states. -/
import Derived.Test.YtjkdhgjicajboaaOrdB
import Derived.Test.YtjkdhgjicajboaaSeen
namespace Go.Proofs.Ytjkdhgjicajboaa.Ord
open Go.RowKit Go.Lib Go.Proofs.Ytjkdhgjicajboaa.Byt Go.Proofs.Ytjkdhgjicajboaa.Rou Go.Proofs.Ytjkdhgjicajboaa.Mat

/-! ### light -/
/-- Few and short. -/
def lgt (l : List ByteArray) : Bool := decide (l.length ≤ 40) && l.all fun x => decide (x.size ≤ 400)
theorem lgt_yes {l : List ByteArray} (h : lgt l = true) : l.length ≤ 40 ∧ ∀ x ∈ l, x.size ≤ 400 := by
  unfold lgt at h
  rw [Bool.and_eq_true, decide_eq_true_eq, List.all_eq_true] at h
  exact ⟨h.1, fun x hx => by simpa using h.2 x hx⟩
theorem lgt_long {l : List ByteArray} (h : 40 < l.length) : lgt l = false := by
  unfold lgt
  rw [decide_eq_false (by omega)]; rfl
theorem lgt_wide {l : List ByteArray} {k : Nat} (hk : k < l.length) (h : 400 < (l.getD k ⟨#[]⟩).size) : lgt l = false := by
  cases hg : lgt l with
  | false => rfl
  | true =>
    have := (lgt_yes hg).2 (l.getD k ⟨#[]⟩) (by rw [List.getD_eq_getElem?_getD, List.getElem?_eq_getElem hk]; exact List.getElem_mem hk)
    omega
theorem lgt_all {l : List ByteArray} (h : l.length ≤ 40) (h2 : ∀ j, j < l.length → (l.getD j ⟨#[]⟩).size ≤ 400) : lgt l = true := by
  unfold lgt
  rw [Bool.and_eq_true, decide_eq_true_eq, List.all_eq_true]
  refine ⟨h, fun x hx => ?_⟩
  obtain ⟨j, hj, rfl⟩ := List.getElem_of_mem hx
  have := h2 j hj
  rw [List.getD_eq_getElem?_getD, List.getElem?_eq_getElem hj] at this
  simpa using this
theorem light_any (v : Value) (l : List ByteArray) (w : World) (hr : Strs.Row w v l) (hl : l.length ≤ 9223372036854775807) :
    Calls Try.prog 6 #[v] w fun e w' => e = .returned (.bool (lgt l)) ∧ w = w' := by
  obtain ⟨a, cap, rfl, hc⟩ := hr.open_
  have HC := Lib.hid hc
  obtain ⟨R, hR⟩ : ∃ R, lgt l = R := ⟨_, rfl⟩
  have HR := Lib.hid hR
  rw [hR]
  clear hc hr hR
  by_cases h60 : 40 < l.length
  · obtain rfl : R = false := by rw [← HR.out]; exact lgt_long h60
    have g : decide ((40 : Int) < (l.length : Int)) = true := decide_eq_true (by omega)
    have gn : decide (40 < l.length) = true := decide_eq_true h60
    go_enter Try.func6, Try.ntmps6
    go_wp2_with fail
    go_ret
    exact ⟨rfl, rfl⟩
  · have g : decide ((40 : Int) < (l.length : Int)) = false := decide_eq_false (by omega)
    have gn : decide (40 < l.length) = false := decide_eq_false h60
    go_enter Try.func6, Try.ntmps6
    go_wp2_with fail
    go_loop [9] (fun i => ∃ k : Nat, i = .int .i64 (k : Int) ∧ k ≤ l.length ∧ Hid (∀ j, j < k → (l.getD j ⟨#[]⟩).size ≤ 400)) (fun i => l.length - (RowKit.intOf i).toNat)
    case atStart => exact ⟨0, rfl, Nat.zero_le _, Lib.hid fun j hj => absurd hj (Nat.not_lt_zero _)⟩
    case round =>
      obtain ⟨k, rfl, hk, HA⟩ := hrel
      by_cases hlt : k < l.length
      · obtain ⟨b, off, rfl, hcl⟩ := HC.out k hlt
        have HW := Lib.hid (@lgt_wide l k hlt)
        have HA2 := Lib.hid (show (l.getD k ⟨#[]⟩).size ≤ 400 → ∀ j, j < k + 1 → (l.getD j ⟨#[]⟩).size ≤ 400 from fun h j hj => by
          by_cases q : j < k
          · exact HA.out j q
          · obtain rfl : j = k := by omega
            exact h)
        have hz : (l.getD k ⟨#[]⟩).size = (l.getD k ⟨#[]⟩).size := rfl
        generalize l.getD k ⟨#[]⟩ = x at *
        by_cases hw : 400 < x.size
        · obtain rfl : R = false := by rw [← HR.out]; exact HW.out hw
          have q : decide ((400 : Int) < (x.size : Int)) = true := decide_eq_true (by omega)
          have qn : decide (400 < x.size) = true := decide_eq_true hw
          clear hz
          go_wp2_with fail
          go_ret
          exact ⟨rfl, rfl⟩
        · have q : decide ((400 : Int) < (x.size : Int)) = false := decide_eq_false (by omega)
          have qn : decide (400 < x.size) = false := decide_eq_false hw
          have HA3 := Lib.hid (HA2.out (by omega))
          clear hz HA2
          go_wp2_with fail
          go_round
          case rel => exact ⟨k + 1, by go_num, by omega, HA3⟩
          case measure => simp [RowKit.intOf]; omega
      · obtain rfl : k = l.length := by omega
        obtain rfl : R = true := by rw [← HR.out]; exact lgt_all (by omega) HA.out
        go_wp2_with fail
        go_ret
        exact ⟨rfl, rfl⟩

/-! ### calls told by their answers -/
theorem key_at (p t : ByteArray) (h : kyB p = t) (hp : p.size ≤ 140737488355328) (w : World) :
    Calls Try.prog 8 #[.string p] w fun e w' => e = .returned (.string t) ∧ Below w.heap.size w w' := by
  rw [← h]; exact key_any p w hp
theorem less_at (p q : ByteArray) (b : Bool) (h : ls p q = b) (hp : p.size ≤ 140737488355328) (hq : q.size ≤ 140737488355328) (w : World) :
    Calls Try.prog 10 #[.string p, .string q] w fun e w' => e = .returned (.bool b) ∧ Below w.heap.size w w' := by
  rw [← h]; exact less_any p q w hp hq
theorem best_at (l : List ByteArray) (s : ByteArray) (m : Int) (h : beI l s l.length = m) (v : Value) (w : World) (hr : Strs.Row w v l) (hl : l.length ≤ 140737488355328) (hm : ∀ x ∈ l, x.size ≤ 140737488355328) (hs : s.size ≤ 140737488355328) :
    Calls Try.prog 12 #[v, .string s] w fun e w' => e = .returned (.int .i64 m) ∧ Below w.heap.size w w' := by
  rw [← h]; exact best_any l s v w hr hl hm hs

/-! ### the example -/
theorem row3 (w : World) (s t u : ByteArray) : Strs.Row (w.alloc (.cells #[.string s, .string t, .string u] 9)) (.slice (some ⟨w.heap.size, 0, none⟩) 3 3) [s, t, u] := .inr ⟨w.heap.size, 0, 3, rfl, fun j hj => by
  rw [Lib.cell_of_heap (heap_alloc_new w _)]
  match j, hj with
  | 0, _ => rfl
  | 1, _ => rfl
  | 2, _ => rfl⟩
def awL : List ByteArray := [⟨#[47, 42, 42]⟩, ⟨#[47, 97, 47, 42]⟩, ⟨#[47, 98]⟩]
theorem ls1 : ls ⟨#[47, 97, 47, 98]⟩ ⟨#[47, 97, 47, 42]⟩ = true := by unfold ls; rw [Ide.lt_is, Ide.lt_is]; decide
theorem ls2 : ls ⟨#[47, 97]⟩ ⟨#[47, 97, 47, 42, 42]⟩ = true := by unfold ls; rw [Ide.lt_is, Ide.lt_is]; decide
theorem ls3 : ls ⟨#[47, 97, 47, 42]⟩ ⟨#[47, 97, 47, 42, 42]⟩ = true := by unfold ls; rw [Ide.lt_is, Ide.lt_is]; decide
theorem ls4 : ls ⟨#[47, 97]⟩ ⟨#[47, 97]⟩ = false := ls_irrefl _
theorem ls5 : ls ⟨#[47, 42, 42]⟩ ⟨#[47, 97, 47, 42]⟩ = false := by unfold ls; rw [Ide.lt_is, Ide.lt_is]; decide
theorem aw_bs : beI awL ⟨#[47, 97, 47, 98]⟩ 3 = 1 := by
  refine bst_one (bst_bs (fun p => matB p ⟨#[47, 97, 47, 98]⟩) awL 3) (.inr ⟨1, rfl, by omega, by decide, fun j hj hf => ?_, fun j hj _ => ?_⟩)
  · obtain rfl | rfl | rfl : j = 0 ∨ j = 1 ∨ j = 2 := by omega
    · exact ls5
    · exact ls_irrefl _
    · exact absurd hf (by decide)
  · obtain rfl : j = 0 := by omega
    decide
theorem aw1 (W : World) : Calls Try.prog 12 #[.slice (some ⟨W.heap.size, 0, none⟩) 3 3, .string ⟨#[47, 97, 47, 98]⟩] (W.alloc (.cells #[.string ⟨#[47, 42, 42]⟩, .string ⟨#[47, 97, 47, 42]⟩, .string ⟨#[47, 98]⟩] 9)) fun e w' => e = .returned (.int .i64 1) ∧ Below W.heap.size W w' := by
  have hb : Below W.heap.size W (W.alloc (.cells #[.string ⟨#[47, 42, 42]⟩, .string ⟨#[47, 97, 47, 42]⟩, .string ⟨#[47, 98]⟩] 9)) := (Below.refl _ _).alloc (Nat.le_refl _) _
  refine (best_at awL ⟨#[47, 97, 47, 98]⟩ 1 aw_bs _ _ (row3 W _ _ _) (by decide) (by intro x hx; simp only [awL, List.mem_cons, List.not_mem_nil, or_false] at hx; rcases hx with rfl | rfl | rfl <;> decide) (by decide)).mono ?_
  rintro e w' ⟨rfl, hb2⟩
  exact ⟨rfl, hb.trans (hb2.mono hb.size)⟩
theorem aw2 (W : World) : Calls Try.prog 12 #[.slice none 0 0, .string ⟨#[47]⟩] W fun e w' => e = .returned (.int .i64 (-1)) ∧ Below W.heap.size W w' :=
  best_at [] ⟨#[47]⟩ (-1) rfl _ W (Strs.Row.nil W) (by decide) (by simp) (by decide)
set_option maxHeartbeats 4000000 in
set_option maxRecDepth 100000 in
theorem awake_any (w : World) : Calls Try.prog 7 #[] w fun e w' => e = .returned (.bool true) ∧ Below w.heap.size w w' := by
  have K1 := Lib.hid (key_at ⟨#[47, 97, 47, 42, 47, 42, 42]⟩ ⟨#[48, 49, 51, 50]⟩ (by decide) (by decide))
  have L1 := Lib.hid (less_at ⟨#[47, 97, 47, 98]⟩ ⟨#[47, 97, 47, 42]⟩ true ls1 (by decide) (by decide))
  have L2 := Lib.hid (less_at ⟨#[47, 97]⟩ ⟨#[47, 97, 47, 42, 42]⟩ true ls2 (by decide) (by decide))
  have L3 := Lib.hid (less_at ⟨#[47, 97, 47, 42]⟩ ⟨#[47, 97, 47, 42, 42]⟩ true ls3 (by decide) (by decide))
  have L4 := Lib.hid (less_at ⟨#[47, 97]⟩ ⟨#[47, 97]⟩ false ls4 (by decide) (by decide))
  have B1 := Lib.hid aw1
  have B2 := Lib.hid aw2
  have q1 : ([48, 49, 51, 50] == [48, 49, 51, 50] : Bool) = true := rfl
  have HB := Lib.hid (Below.refl w.heap.size w)
  go_enter Try.func7, Try.ntmps7
  go_wp2_with (first
    | (go_at_call 8; (with_reducible refine (K1.out _).mono ?_); rintro e wx ⟨rfl, hbx⟩; have HB := Lib.hid (HB.out.trans (hbx.mono HB.out.size)); clear hbx)
    | (go_at_call 10; first
      | ((with_reducible refine (L1.out _).mono ?_); rintro e wx ⟨rfl, hbx⟩; have HB := Lib.hid (HB.out.trans (hbx.mono HB.out.size)); clear hbx)
      | ((with_reducible refine (L2.out _).mono ?_); rintro e wx ⟨rfl, hbx⟩; have HB := Lib.hid (HB.out.trans (hbx.mono HB.out.size)); clear hbx)
      | ((with_reducible refine (L3.out _).mono ?_); rintro e wx ⟨rfl, hbx⟩; have HB := Lib.hid (HB.out.trans (hbx.mono HB.out.size)); clear hbx)
      | ((with_reducible refine (L4.out _).mono ?_); rintro e wx ⟨rfl, hbx⟩; have HB := Lib.hid (HB.out.trans (hbx.mono HB.out.size)); clear hbx))
    | (go_at_call 12; first
      | ((with_reducible refine (B1.out _).mono ?_); rintro e wx ⟨rfl, hbx⟩; have HB := Lib.hid (HB.out.trans (hbx.mono HB.out.size)); clear hbx)
      | ((with_reducible refine (B2.out _).mono ?_); rintro e wx ⟨rfl, hbx⟩; have HB := Lib.hid (HB.out.trans (hbx.mono HB.out.size)); clear hbx)))
  go_ret
  exact ⟨rfl, HB.out⟩

/-! ### OrderSays -/
set_option maxHeartbeats 8000000 in
set_option maxRecDepth 100000 in
theorem says_any (p q : ByteArray) (l : List ByteArray) (v : Value) (w : World) (hr : Strs.Row w v l) (hp0 : p.size ≤ 9223372036854775807) (hq0 : q.size ≤ 9223372036854775807) (hl : l.length ≤ 9223372036854775807) :
    Calls Try.prog 3 #[.string p, .string q, v] w fun e w' => e = .returned (.bool true) ∧ Below w.heap.size w w' := by
  have HAW := Lib.hid awake_any
  have HLT := Lib.hid (light_any v l w hr hl)
  have HR := Lib.hid hr
  clear hr
  cases hlg : lgt l with
  | false =>
    rw [hlg] at HLT
    clear HR
    go_enter Try.func3, Try.ntmps3
    go_wp2_with (first
      | (go_at_call 6; (with_reducible refine HLT.out.mono ?_); rintro e w1 ⟨rfl, rfl⟩)
      | (go_at_call 7; (with_reducible refine (HAW.out _).mono ?_); rintro e w1 ⟨rfl, hb1⟩))
    go_ret
    exact ⟨rfl, hb1⟩
  | true =>
    rw [hlg] at HLT
    obtain ⟨hl60, hl100⟩ := lgt_yes hlg
    clear hlg
    by_cases hlp : 400 < p.size
    · have g0 : decide ((400 : Int) < (p.size : Int)) = true := decide_eq_true (by omega)
      have gn0 : decide (400 < p.size) = true := decide_eq_true hlp
      go_enter Try.func3, Try.ntmps3
      go_wp2_with (first
        | (go_at_call 6; (with_reducible refine HLT.out.mono ?_); rintro e w1 ⟨rfl, rfl⟩)
        | (go_at_call 7; (with_reducible refine (HAW.out _).mono ?_); rintro e w1 ⟨rfl, hb1⟩))
      go_ret
      exact ⟨rfl, hb1⟩
    have g0 : decide ((400 : Int) < (p.size : Int)) = false := decide_eq_false (by omega)
    have gn0 : decide (400 < p.size) = false := decide_eq_false hlp
    have hp : p.size ≤ 140737488355328 := by omega
    clear hp0
    by_cases hlq : 400 < q.size
    · have g1 : decide ((400 : Int) < (q.size : Int)) = true := decide_eq_true (by omega)
      have gn1 : decide (400 < q.size) = true := decide_eq_true hlq
      go_enter Try.func3, Try.ntmps3
      go_wp2_with (first
        | (go_at_call 6; (with_reducible refine HLT.out.mono ?_); rintro e w1 ⟨rfl, rfl⟩)
        | (go_at_call 7; (with_reducible refine (HAW.out _).mono ?_); rintro e w1 ⟨rfl, hb1⟩))
      go_ret
      exact ⟨rfl, hb1⟩
    have g1 : decide ((400 : Int) < (q.size : Int)) = false := decide_eq_false (by omega)
    have gn1 : decide (400 < q.size) = false := decide_eq_false hlq
    have hq : q.size ≤ 140737488355328 := by omega
    clear hq0
    have hll : l.length ≤ 140737488355328 := by omega
    have hlm : ∀ x ∈ l, x.size ≤ 140737488355328 := fun x hx => by have := hl100 x hx; omega
    have K1 := Lib.hid fun W => key_any p W hp
    have K2 := Lib.hid fun W => rkey_any p W hp
    have L1 := Lib.hid fun W => less_any p q W hp hq
    have L2 := Lib.hid fun W => rless_any p q W hp hq
    have B1 := Lib.hid fun W hr => best_any l p v W hr hll hlm hp
    have B2 := Lib.hid fun W hr => rbest_any l p v W hr hll hlm hp
    have B3 := Lib.hid fun W hr => best_any l q v W hr hll hlm hq
    have B4 := Lib.hid fun W hr => rbest_any l q v W hr hll hlm hq
    generalize kyB p = t at *
    generalize ls p q = b at *
    generalize beI l p l.length = m1 at *
    generalize beI l q l.length = m2 at *
    have e0 : (t.toList == t.toList) = true := beq_self_eq_true _
    have e1 : (b == b) = true := beq_self_eq_true _
    have e2 : (m1 == m1) = true := beq_self_eq_true _
    have e3 : (m2 == m2) = true := beq_self_eq_true _
    have HB := Lib.hid (Below.refl w.heap.size w)
    clear hll hlm hl60 hl100 hlp hlq hl
    go_enter Try.func3, Try.ntmps3
    go_wp2_with (first
      | (go_at_call 6; (with_reducible refine HLT.out.mono ?_); rintro e w1 ⟨rfl, rfl⟩)
      | (go_at_call 8; first
        | ((with_reducible refine (K1.out _).mono ?_); rintro e wx ⟨rfl, hbx⟩; have HB := Lib.hid (HB.out.trans (hbx.mono HB.out.size)); clear hbx))
      | (go_at_call 9; first
        | ((with_reducible refine (K2.out _).mono ?_); rintro e wx ⟨rfl, hbx⟩; have HB := Lib.hid (HB.out.trans (hbx.mono HB.out.size)); clear hbx))
      | (go_at_call 10; first
        | ((with_reducible refine (L1.out _).mono ?_); rintro e wx ⟨rfl, hbx⟩; have HB := Lib.hid (HB.out.trans (hbx.mono HB.out.size)); clear hbx))
      | (go_at_call 11; first
        | ((with_reducible refine (L2.out _).mono ?_); rintro e wx ⟨rfl, hbx⟩; have HB := Lib.hid (HB.out.trans (hbx.mono HB.out.size)); clear hbx))
      | (go_at_call 12; first
        | ((with_reducible refine (B1.out _ (HR.out.next HB.out)).mono ?_); rintro e wx ⟨rfl, hbx⟩; have HB := Lib.hid (HB.out.trans (hbx.mono HB.out.size)); clear hbx)
        | ((with_reducible refine (B3.out _ (HR.out.next HB.out)).mono ?_); rintro e wx ⟨rfl, hbx⟩; have HB := Lib.hid (HB.out.trans (hbx.mono HB.out.size)); clear hbx))
      | (go_at_call 13; first
        | ((with_reducible refine (B2.out _ (HR.out.next HB.out)).mono ?_); rintro e wx ⟨rfl, hbx⟩; have HB := Lib.hid (HB.out.trans (hbx.mono HB.out.size)); clear hbx)
        | ((with_reducible refine (B4.out _ (HR.out.next HB.out)).mono ?_); rintro e wx ⟨rfl, hbx⟩; have HB := Lib.hid (HB.out.trans (hbx.mono HB.out.size)); clear hbx))
      | (go_at_call 7; first
        | ((with_reducible refine (HAW.out _).mono ?_); rintro e wx ⟨rfl, hbx⟩; have HB := Lib.hid (HB.out.trans (hbx.mono HB.out.size)); clear hbx)))
    go_ret
    exact ⟨rfl, HB.out⟩

/-! ### OrderTotal -/
theorem cov_key {p q : ByteArray} (h : covB p q = true) : Ide.lt (kyB p) (kyB q) = false := by
  unfold covB at h
  rw [Bool.and_eq_true, Bool.and_eq_true] at h
  obtain ⟨⟨h1, h2⟩, h3⟩ := h
  refine key_cv h1 h2 ?_
  rw [← dts_sp (pat_row h1), ← dts_sp (pat_row h2)]
  exact h3
set_option maxHeartbeats 8000000 in
set_option maxRecDepth 100000 in
theorem total_law0 (p q s : ByteArray) (w : World) (hp0 : p.size ≤ 9223372036854775807) (hq0 : q.size ≤ 9223372036854775807) (hs0 : s.size ≤ 9223372036854775807) :
    Calls Try.prog 4 #[.string p, .string q, .string s] w fun e w' => e = .returned (.bool true) ∧ Below w.heap.size w w' := by
  have HAW := Lib.hid awake_any
  by_cases hlp : 400 < p.size
  · have g0 : decide ((400 : Int) < (p.size : Int)) = true := decide_eq_true (by omega)
    have gn0 : decide (400 < p.size) = true := decide_eq_true hlp
    go_enter Try.func4, Try.ntmps4
    go_wp2_with (first
      | (go_at_call 7; (with_reducible refine (HAW.out _).mono ?_); rintro e w1 ⟨rfl, hb1⟩))
    go_ret
    exact ⟨rfl, hb1⟩
  have g0 : decide ((400 : Int) < (p.size : Int)) = false := decide_eq_false (by omega)
  have gn0 : decide (400 < p.size) = false := decide_eq_false hlp
  have hp : p.size ≤ 140737488355328 := by omega
  clear hp0
  by_cases hlq : 400 < q.size
  · have g1 : decide ((400 : Int) < (q.size : Int)) = true := decide_eq_true (by omega)
    have gn1 : decide (400 < q.size) = true := decide_eq_true hlq
    go_enter Try.func4, Try.ntmps4
    go_wp2_with (first
      | (go_at_call 7; (with_reducible refine (HAW.out _).mono ?_); rintro e w1 ⟨rfl, hb1⟩))
    go_ret
    exact ⟨rfl, hb1⟩
  have g1 : decide ((400 : Int) < (q.size : Int)) = false := decide_eq_false (by omega)
  have gn1 : decide (400 < q.size) = false := decide_eq_false hlq
  have hq : q.size ≤ 140737488355328 := by omega
  clear hq0
  by_cases hls : 400 < s.size
  · have g2 : decide ((400 : Int) < (s.size : Int)) = true := decide_eq_true (by omega)
    have gn2 : decide (400 < s.size) = true := decide_eq_true hls
    go_enter Try.func4, Try.ntmps4
    go_wp2_with (first
      | (go_at_call 7; (with_reducible refine (HAW.out _).mono ?_); rintro e w1 ⟨rfl, hb1⟩))
    go_ret
    exact ⟨rfl, hb1⟩
  have g2 : decide ((400 : Int) < (s.size : Int)) = false := decide_eq_false (by omega)
  have gn2 : decide (400 < s.size) = false := decide_eq_false hls
  have hs : s.size ≤ 140737488355328 := by omega
  clear hs0
  have a1 := ls_one p q
  have a2 := ls_asymm (p := p) (q := q)
  have a3 := ls_trans (p := p) (q := q) (s := s)
  have a4 := cov_key (p := p) (q := q)
  have a5 := sb_eq (x := p) (y := q)
  have a6 : Op.bytesLess (kyB p).toList (kyB q).toList = Ide.lt (kyB p) (kyB q) := rfl
  have L1 := Lib.hid fun W => less_any p q W hp hq
  have L2 := Lib.hid fun W => less_any q p W hq hp
  have L3 := Lib.hid fun W => less_any q s W hq hs
  have L4 := Lib.hid fun W => less_any p s W hp hs
  have C1 := Lib.hid fun W => cov_any p q W hp hq
  have K1 := Lib.hid fun W => key_any p W hp
  have K2 := Lib.hid fun W => key_any q W hq
  rw [decide_not] at a1
  generalize decide (p = q) = d at *
  generalize ls p q = r1 at *
  generalize ls q p = r2 at *
  generalize ls q s = r3 at *
  generalize ls p s = r4 at *
  generalize covB p q = cv at *
  generalize Ide.lt (kyB p) (kyB q) = kl at *
  generalize kyB p = kp at *
  generalize kyB q = kq at *
  clear hlp hlq hls hp hq hs
  have HB := Lib.hid (Below.refl w.heap.size w)
  cases r1 <;> cases r2 <;> cases d
  all_goals first
    | (exact absurd a1 (by decide))
    | (exact absurd (a2 rfl) (by decide))
    | skip
  all_goals clear a1 a2
  all_goals cases r3
  all_goals (try obtain rfl := a3 rfl rfl)
  all_goals clear a3
  all_goals cases cv
  all_goals (try obtain rfl := a4 rfl)
  all_goals clear a4
  all_goals
    go_enter Try.func4, Try.ntmps4
    go_wp2_with (first
      | (go_at_call 8; first
        | ((with_reducible refine (K1.out _).mono ?_); rintro e wx ⟨rfl, hbx⟩; have HB := Lib.hid (HB.out.trans (hbx.mono HB.out.size)); clear hbx)
        | ((with_reducible refine (K2.out _).mono ?_); rintro e wx ⟨rfl, hbx⟩; have HB := Lib.hid (HB.out.trans (hbx.mono HB.out.size)); clear hbx))
      | (go_at_call 10; first
        | ((with_reducible refine (L1.out _).mono ?_); rintro e wx ⟨rfl, hbx⟩; have HB := Lib.hid (HB.out.trans (hbx.mono HB.out.size)); clear hbx)
        | ((with_reducible refine (L2.out _).mono ?_); rintro e wx ⟨rfl, hbx⟩; have HB := Lib.hid (HB.out.trans (hbx.mono HB.out.size)); clear hbx)
        | ((with_reducible refine (L3.out _).mono ?_); rintro e wx ⟨rfl, hbx⟩; have HB := Lib.hid (HB.out.trans (hbx.mono HB.out.size)); clear hbx)
        | ((with_reducible refine (L4.out _).mono ?_); rintro e wx ⟨rfl, hbx⟩; have HB := Lib.hid (HB.out.trans (hbx.mono HB.out.size)); clear hbx))
      | (go_at_call 14; first
        | ((with_reducible refine (C1.out _).mono ?_); rintro e wx ⟨rfl, hbx⟩; have HB := Lib.hid (HB.out.trans (hbx.mono HB.out.size)); clear hbx))
      | (go_at_call 7; first
        | ((with_reducible refine (HAW.out _).mono ?_); rintro e wx ⟨rfl, hbx⟩; have HB := Lib.hid (HB.out.trans (hbx.mono HB.out.size)); clear hbx)))
    go_ret
    exact ⟨rfl, HB.out⟩

theorem says_law (p q : ByteArray) (l : List ByteArray) {v : Value} {Q : Prop} (wp : p.size ≤ maxLen) (wq : q.size ≤ maxLen) {W : World} (hr : Strs.Row W v l) (hl : l.length ≤ 9223372036854775807) (_ : Q) (_ : World) :
    Calls Try.prog 3 #[.string p, .string q, v] W fun e W' => e = .returned (.bool true) ∧ Below W.heap.size W W' :=
  says_any p q l v W hr (by unfold maxLen at wp; omega) (by unfold maxLen at wq; omega) hl
theorem total_law (p q s : ByteArray) (wp : p.size ≤ maxLen) (wq : q.size ≤ maxLen) (ws : s.size ≤ maxLen) (W : World) :
    Calls Try.prog 4 #[.string p, .string q, .string s] W fun e W' => e = .returned (.bool true) ∧ Below W.heap.size W W' :=
  total_law0 p q s W (by unfold maxLen at wp; omega) (by unfold maxLen at wq; omega) (by unfold maxLen at ws; omega)
end Go.Proofs.Ytjkdhgjicajboaa.Ord
