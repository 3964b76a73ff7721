/- Contracts of route's all, single and inner; of slices.Equal at rows of strings and the statements' same. Conditions: as each theorem states. -/
import Derived.Test.YtmlpgfjopkobbaaRouA
import Derived.Test.YtmlpgfjopkobbaaRowsA
namespace Go.Proofs.Ytmlpgfjopkobbaa.Rou
open Go.RowKit Go.Lib Go.Proofs.Ytmlpgfjopkobbaa.Byt

theorem all_no {l : List ByteArray} {f : ByteArray → Bool} {k : Nat} (hk : k < l.length) (h : f (l.getD k ⟨#[]⟩) = false) : l.all f = false := by
  cases q : l.all f with
  | false => rfl
  | true =>
    rw [List.all_eq_true] at q
    have := q (l.getD k ⟨#[]⟩) (by rw [List.getD_eq_getElem?_getD, List.getElem?_eq_getElem hk]; exact List.getElem_mem hk)
    rw [h] at this
    cases this
theorem all_yes {l : List ByteArray} {f : ByteArray → Bool} (h : ∀ j, j < l.length → f (l.getD j ⟨#[]⟩) = true) : l.all f = true := by
  rw [List.all_eq_true]
  intro x hx
  obtain ⟨j, hj, rfl⟩ := List.getElem_of_mem hx
  have := h j hj
  rwa [List.getD_eq_getElem?_getD, List.getElem?_eq_getElem hj] at this
theorem mem_at {l : List ByteArray} {k : Nat} (hk : k < l.length) : l.getD k ⟨#[]⟩ ∈ l := by
  rw [List.getD_eq_getElem?_getD, List.getElem?_eq_getElem hk]; exact List.getElem_mem hk
theorem sb_eq {x y : ByteArray} : (x.toList == y.toList) = decide (x = y) := by
  by_cases h : x = y
  · subst h; rw [beq_self_eq_true, decide_eq_true rfl]
  · rw [Byt.str_neq h, decide_eq_false h]

/-! ### single -/
/-- A word or a star. -/
def sgB (s : ByteArray) : Bool := decide (s = ⟨#[42]⟩) || wdB s
theorem single_any (s : ByteArray) (w : World) (hs : s.size ≤ 140737488355328) : Calls Try.prog 25 #[.string s] w fun e w' => e = .returned (.bool (sgB s)) ∧ w = w' := by
  by_cases h : s = ⟨#[42]⟩
  · subst h
    have hq : sgB ⟨#[42]⟩ = true := by unfold sgB; rw [decide_eq_true rfl, Bool.true_or]
    rw [hq]
    clear hq hs
    go_enter Try.func25, Try.ntmps25
    go_wp2_with fail
    go_ret
    exact ⟨rfl, rfl⟩
  · have hq : sgB s = wdB s := by unfold sgB; rw [decide_eq_false h, Bool.false_or]
    rw [hq]
    have HW := Lib.hid fun W => word_any s W hs
    have hn := Byt.str_neq h
    rw [Byt.toList_data ⟨#[42]⟩] at hn
    change (s.toList == [42]) = false at hn
    generalize wdB s = R at *
    clear hq h
    go_enter Try.func25, Try.ntmps25
    go_wp2_with (go_at_call 22; (with_reducible refine (HW.out _).mono ?_); rintro e w1 ⟨rfl, rfl⟩)
    go_ret
    exact ⟨rfl, rfl⟩

/-! ### all -/
theorem all_word (l : List ByteArray) (v : Value) (w : World) (hr : Strs.Row w v l) (hl : l.length ≤ 140737488355328) (hm : ∀ x ∈ l, x.size ≤ 140737488355328) :
    Calls Try.prog 21 #[v, .func (.func 22) #[] #[]] w fun e w' => e = .returned (.bool (l.all wdB)) ∧ w = w' := by
  obtain ⟨a, cap, rfl, hc⟩ := hr.open_
  have HC := Lib.hid hc
  have HM := Lib.hid fun k (h : k < l.length) => hm _ (mem_at h)
  obtain ⟨R, hR⟩ : ∃ R, l.all wdB = R := ⟨_, rfl⟩
  have HN := Lib.hid fun k => all_no (l := l) (f := wdB) (k := k)
  have HY := Lib.hid (all_yes (l := l) (f := wdB))
  rw [hR] at HN HY ⊢
  clear hc hr hR hm
  go_enter Try.func21, Try.ntmps21
  go_wp2_with fail
  go_loop [9] (fun i => ∃ k : Nat, i = .int .i64 (k : Int) ∧ k ≤ l.length ∧ Hid (∀ j, j < k → wdB (l.getD j ⟨#[]⟩) = true)) (fun i => l.length - (RowKit.intOf i).toNat)
  case atStart => exact ⟨0, rfl, Nat.zero_le _, Lib.hid fun j hj => absurd hj (Nat.not_lt_zero _)⟩
  case round =>
    obtain ⟨k, rfl, hk, HA⟩ := hrel
    by_cases hlt : k < l.length
    · obtain ⟨b, off, rfl, hcl⟩ := HC.out k hlt
      have hsz := HM.out k hlt
      have HW := Lib.hid fun W => word_any (l.getD k ⟨#[]⟩) W hsz
      cases hf : wdB (l.getD k ⟨#[]⟩) with
      | false =>
        obtain rfl : R = false := HN.out k hlt hf
        rw [hf] at HW
        clear hf HN HY HA HM hsz
        generalize l.getD k ⟨#[]⟩ = x at *
        go_wp2_with (go_at_call 22; (with_reducible refine (HW.out _).mono ?_); rintro e w1 ⟨rfl, rfl⟩)
        go_ret
        exact ⟨rfl, rfl⟩
      | true =>
        have HA2 := Lib.hid (show ∀ j, j < k + 1 → wdB (l.getD j ⟨#[]⟩) = true from fun j hj => by
          by_cases q : j < k
          · exact HA.out j q
          · obtain rfl : j = k := by omega
            exact hf)
        rw [hf] at HW
        clear hf HA hsz
        generalize l.getD k ⟨#[]⟩ = x at *
        go_wp2_with (go_at_call 22; (with_reducible refine (HW.out _).mono ?_); rintro e w1 ⟨rfl, rfl⟩)
        go_round
        case rel => exact ⟨k + 1, by go_num, by omega, HA2⟩
        case measure => simp [RowKit.intOf]; omega
    · obtain rfl : k = l.length := by omega
      obtain rfl : R = true := HY.out HA.out
      clear HN HY HA HM
      go_wp2_with fail
      go_ret
      exact ⟨rfl, rfl⟩
theorem all_single (l : List ByteArray) (v : Value) (w : World) (hr : Strs.Row w v l) (hl : l.length ≤ 140737488355328) (hm : ∀ x ∈ l, x.size ≤ 140737488355328) :
    Calls Try.prog 21 #[v, .func (.func 25) #[] #[]] w fun e w' => e = .returned (.bool (l.all sgB)) ∧ w = w' := by
  obtain ⟨a, cap, rfl, hc⟩ := hr.open_
  have HC := Lib.hid hc
  have HM := Lib.hid fun k (h : k < l.length) => hm _ (mem_at h)
  obtain ⟨R, hR⟩ : ∃ R, l.all sgB = R := ⟨_, rfl⟩
  have HN := Lib.hid fun k => all_no (l := l) (f := sgB) (k := k)
  have HY := Lib.hid (all_yes (l := l) (f := sgB))
  rw [hR] at HN HY ⊢
  clear hc hr hR hm
  go_enter Try.func21, Try.ntmps21
  go_wp2_with fail
  go_loop [9] (fun i => ∃ k : Nat, i = .int .i64 (k : Int) ∧ k ≤ l.length ∧ Hid (∀ j, j < k → sgB (l.getD j ⟨#[]⟩) = true)) (fun i => l.length - (RowKit.intOf i).toNat)
  case atStart => exact ⟨0, rfl, Nat.zero_le _, Lib.hid fun j hj => absurd hj (Nat.not_lt_zero _)⟩
  case round =>
    obtain ⟨k, rfl, hk, HA⟩ := hrel
    by_cases hlt : k < l.length
    · obtain ⟨b, off, rfl, hcl⟩ := HC.out k hlt
      have hsz := HM.out k hlt
      have HW := Lib.hid fun W => single_any (l.getD k ⟨#[]⟩) W hsz
      cases hf : sgB (l.getD k ⟨#[]⟩) with
      | false =>
        obtain rfl : R = false := HN.out k hlt hf
        rw [hf] at HW
        clear hf HN HY HA HM hsz
        generalize l.getD k ⟨#[]⟩ = x at *
        go_wp2_with (go_at_call 25; (with_reducible refine (HW.out _).mono ?_); rintro e w1 ⟨rfl, rfl⟩)
        go_ret
        exact ⟨rfl, rfl⟩
      | true =>
        have HA2 := Lib.hid (show ∀ j, j < k + 1 → sgB (l.getD j ⟨#[]⟩) = true from fun j hj => by
          by_cases q : j < k
          · exact HA.out j q
          · obtain rfl : j = k := by omega
            exact hf)
        rw [hf] at HW
        clear hf HA hsz
        generalize l.getD k ⟨#[]⟩ = x at *
        go_wp2_with (go_at_call 25; (with_reducible refine (HW.out _).mono ?_); rintro e w1 ⟨rfl, rfl⟩)
        go_round
        case rel => exact ⟨k + 1, by go_num, by omega, HA2⟩
        case measure => simp [RowKit.intOf]; omega
    · obtain rfl : k = l.length := by omega
      obtain rfl : R = true := HY.out HA.out
      clear HN HY HA HM
      go_wp2_with fail
      go_ret
      exact ⟨rfl, rfl⟩

/-! ### inner -/
/-- All parts but two stars at the end. -/
def innB (l : List ByteArray) : List ByteArray := if l.getLast? = some ⟨#[42, 42]⟩ then l.dropLast else l
/-- A row that begins as v does, of k strings. -/
theorem Row_take {w : World} {a : Option Addr} {n cap : Nat} {l : List ByteArray} (h : Strs.Row w (.slice a n cap) l) (k : Nat) (hk : k ≤ n) : Strs.Row w (.slice a k cap) (l.take k) := by
  rcases h with ⟨rfl, a', cap', e⟩ | ⟨b, off, cap', e, hc⟩
  · injection e with e1 e2 e3
    subst e1 e2 e3
    obtain rfl : k = 0 := by omega
    exact .inl ⟨List.take_nil, _, _, rfl⟩
  · injection e with e1 e2 e3
    subst e1 e2 e3
    have hl : (l.take k).length = k := by rw [List.length_take]; omega
    refine .inr ⟨b, off, cap, by rw [hl], fun j hj => ?_⟩
    have hj2 : j < k := by omega
    rw [hc j (by omega)]
    have : (l.take k).getD j ⟨#[]⟩ = l.getD j ⟨#[]⟩ := by
      rw [List.getD_eq_getElem?_getD, List.getD_eq_getElem?_getD, List.getElem?_take_of_lt hj2]
    rw [this]
/-- v's room is as great as its length, or greater. -/
def Cp (v : Value) : Prop := ∃ a n c, v = .slice a n c ∧ n ≤ c
theorem last_at {l : List ByteArray} (h : 0 < l.length) : l.getLast? = some (l.getD (l.length - 1) ⟨#[]⟩) := by
  rw [List.getLast?_eq_getElem?, List.getD_eq_getElem?_getD, List.getElem?_eq_getElem (by omega)]
  rfl
theorem inner_any (l : List ByteArray) (v : Value) (w : World) (hr : Strs.Row w v l) (hcp : Cp v) (hl : l.length ≤ 140737488355328) :
    Calls Try.prog 24 #[v] w fun e w' => ∃ u, e = .returned u ∧ Strs.Row w u (innB l) ∧ Cp u ∧ w = w' := by
  have HR := Lib.hid hr
  obtain ⟨a, cap, rfl, hc⟩ := hr.open_
  have hcap : l.length ≤ cap := by
    obtain ⟨a', n, c, e, h⟩ := hcp
    injection e with e1 e2 e3
    omega
  have HC := Lib.hid hc
  clear hc hr
  by_cases h0 : l.length = 0
  · have hq : innB l = l := by
      obtain rfl : l = [] := List.eq_nil_of_length_eq_zero h0
      rfl
    rw [hq]
    generalize l.length = n at *
    subst h0
    have e1 : decide ((0 : Int) ≤ -1) = false := by decide
    go_enter Try.func24, Try.ntmps24
    go_wp2_with fail
    go_ret
    exact ⟨_, rfl, HR.out, ⟨_, _, _, rfl, hcap⟩, rfl⟩
  · have hla := last_at (l := l) (by omega)
    obtain ⟨b, off, rfl, hcl⟩ := HC.out (l.length - 1) (by omega)
    have HT := Lib.hid (Row_take HR.out (l.length - 1) (by omega))
    obtain ⟨m, hm⟩ : ∃ m, l.length - 1 = m := ⟨_, rfl⟩
    rw [hm] at hla hcl HT
    have hm1 : (l.length : Int) - 1 = (m : Int) := by omega
    have hm2 : m < l.length := by omega
    have hdl : l.dropLast = l.take m := by rw [List.dropLast_eq_take, hm]
    by_cases hs : l.getD m ⟨#[]⟩ = ⟨#[42, 42]⟩
    · have hq : innB l = l.take m := by
        unfold innB
        rw [hla, hs, if_pos rfl, hdl]
      rw [hq]
      rw [hs] at hcl
      have HL := Lib.hid hm
      clear hs hq hdl hla hm
      generalize l.length = n at *
      go_enter Try.func24, Try.ntmps24
      go_wp2_with fail
      go_ret
      exact ⟨_, rfl, HT.out, ⟨_, _, _, rfl, by omega⟩, rfl⟩
    · have hq : innB l = l := by
        unfold innB
        rw [hla, if_neg]
        intro q
        exact hs (Option.some.inj q)
      rw [hq]
      have hn := Byt.str_neq hs
      rw [Byt.toList_data ⟨#[42, 42]⟩] at hn
      change (_ == [42, 42]) = false at hn
      clear hs hq hdl hla hm
      generalize l.getD m ⟨#[]⟩ = x at *
      generalize l.length = n at *
      go_enter Try.func24, Try.ntmps24
      go_wp2_with fail
      go_ret
      exact ⟨_, rfl, HR.out, ⟨_, _, _, rfl, hcap⟩, rfl⟩

/-! ### two rows alike -/
theorem eq_len {x y : List ByteArray} (h : x.length ≠ y.length) : decide (x = y) = false := decide_eq_false fun e => h (by rw [e])
theorem eq_no {x y : List ByteArray} {k : Nat} (h : x.getD k ⟨#[]⟩ ≠ y.getD k ⟨#[]⟩) : decide (x = y) = false := decide_eq_false fun e => h (by rw [e])
theorem eq_yes {x y : List ByteArray} (hl : x.length = y.length) (h : ∀ j, j < x.length → x.getD j ⟨#[]⟩ = y.getD j ⟨#[]⟩) : decide (x = y) = true := by
  refine decide_eq_true (List.ext_getElem hl fun j h1 h2 => ?_)
  have := h j h1
  rwa [List.getD_eq_getElem?_getD, List.getD_eq_getElem?_getD, List.getElem?_eq_getElem h1, List.getElem?_eq_getElem h2] at this
set_option maxHeartbeats 2000000 in
theorem equal_any (x y : List ByteArray) (u v : Value) (w : World) (hx : Strs.Row w u x) (hy : Strs.Row w v y) (hl : x.length ≤ 140737488355328) :
    Calls Try.prog 27 #[u, v] w fun e w' => e = .returned (.bool (decide (x = y))) ∧ ∃ n, w' = w.drewN n := by
  obtain ⟨a, cap, rfl, hc⟩ := hx.open_
  obtain ⟨a2, cap2, rfl, hc2⟩ := hy.open_
  have HC := Lib.hid hc
  have HC2 := Lib.hid hc2
  obtain ⟨R, hR⟩ : ∃ R, decide (x = y) = R := ⟨_, rfl⟩
  have HN := Lib.hid fun k => eq_no (x := x) (y := y) (k := k)
  have HL := Lib.hid (eq_len (x := x) (y := y))
  have HY := Lib.hid (eq_yes (x := x) (y := y))
  rw [hR] at HN HL HY
  rw [hR]
  clear hc hc2 hx hy hR
  by_cases hne : x.length = y.length
  · have e1 : ((x.length : Int) != (y.length : Int)) = false := by rw [bne_eq_false_iff_eq]; omega
    have HE := Lib.hid hne
    clear hne
    go_enter Try.func27, Try.ntmps27
    go_wp2_with fail
    go_loopw [13] (fun i wr => ∃ k n : Nat, i = .int .i64 (k : Int) ∧ wr = w.drewN n ∧ k ≤ x.length ∧ Hid (∀ j, j < k → x.getD j ⟨#[]⟩ = y.getD j ⟨#[]⟩)) (fun i _ => x.length - (RowKit.intOf i).toNat)
    case atStart => exact ⟨0, 0, rfl, rfl, Nat.zero_le _, Lib.hid fun j hj => absurd hj (Nat.not_lt_zero _)⟩
    case round =>
      obtain ⟨k, nd, rfl, rfl, hk, HA⟩ := hrel
      by_cases hlt : k < x.length
      · have hlt2 : k < y.length := by have := HE.out; omega
        obtain ⟨b, off, rfl, h1⟩ := HC.out k hlt
        obtain ⟨b2, off2, rfl, h2⟩ := HC2.out k hlt2
        have c1 : ∀ n, (w.drewN n).cell? ⟨b, off + k, none⟩ = some (.string (x.getD k ⟨#[]⟩)) := fun n => h1
        have c2 : ∀ n, (w.drewN n).cell? ⟨b2, off2 + k, none⟩ = some (.string (y.getD k ⟨#[]⟩)) := fun n => h2
        clear h1 h2
        by_cases hq : x.getD k ⟨#[]⟩ = y.getD k ⟨#[]⟩
        · have HA2 := Lib.hid (show ∀ j, j < k + 1 → x.getD j ⟨#[]⟩ = y.getD j ⟨#[]⟩ from fun j hj => by
            by_cases q : j < k
            · exact HA.out j q
            · obtain rfl : j = k := by omega
              exact hq)
          rw [← hq] at c2
          have hb : ((x.getD k ⟨#[]⟩).toList == (x.getD k ⟨#[]⟩).toList) = true := beq_self_eq_true _
          clear hq HA
          generalize x.getD k ⟨#[]⟩ = p at *
          generalize x.length = n at *
          generalize y.length = n2 at *
          go_wp2_with fail
          go_region
          go_wp2_with fail
          go_roundw
          case rel => exact ⟨k + 1, _, by go_num, rfl, by omega, HA2⟩
          case measure => simp [RowKit.intOf]; omega
        · obtain rfl : R = false := HN.out k hq
          have hb : ((x.getD k ⟨#[]⟩).toList == (y.getD k ⟨#[]⟩).toList) = false := Byt.str_neq hq
          clear hq HA HN HL HY
          generalize x.getD k ⟨#[]⟩ = p at *
          generalize y.getD k ⟨#[]⟩ = q at *
          generalize x.length = n at *
          generalize y.length = n2 at *
          go_wp2_with fail
          go_region
          go_wp2_with fail
          go_ret
          exact ⟨rfl, _, rfl⟩
      · obtain rfl : k = x.length := by omega
        obtain rfl : R = true := HY.out HE.out HA.out
        clear HN HL HY HA
        go_wp2_with fail
        go_ret
        exact ⟨rfl, _, rfl⟩
  · obtain rfl : R = false := HL.out hne
    have e1 : ((x.length : Int) != (y.length : Int)) = true := by rw [bne_iff_ne]; omega
    clear HN HL HY hne
    generalize x.length = n at *
    generalize y.length = n2 at *
    go_enter Try.func27, Try.ntmps27
    go_wp2_with fail
    go_ret
    exact ⟨rfl, 0, rfl⟩
set_option maxHeartbeats 2000000 in
theorem same_any (x y : List ByteArray) (u v : Value) (w : World) (hx : Strs.Row w u x) (hy : Strs.Row w v y) (hl : x.length ≤ 140737488355328) :
    Calls Try.prog 9 #[u, v] w fun e w' => e = .returned (.bool (decide (x = y))) ∧ ∃ n, w' = w.drewN n := by
  obtain ⟨a, cap, rfl, hc⟩ := hx.open_
  obtain ⟨a2, cap2, rfl, hc2⟩ := hy.open_
  have HC := Lib.hid hc
  have HC2 := Lib.hid hc2
  obtain ⟨R, hR⟩ : ∃ R, decide (x = y) = R := ⟨_, rfl⟩
  have HN := Lib.hid fun k => eq_no (x := x) (y := y) (k := k)
  have HL := Lib.hid (eq_len (x := x) (y := y))
  have HY := Lib.hid (eq_yes (x := x) (y := y))
  rw [hR] at HN HL HY
  rw [hR]
  clear hc hc2 hx hy hR
  by_cases hne : x.length = y.length
  · have e1 : ((x.length : Int) != (y.length : Int)) = false := by rw [bne_eq_false_iff_eq]; omega
    have HE := Lib.hid hne
    clear hne
    go_enter Try.func9, Try.ntmps9
    go_wp2_with fail
    go_loopw [13] (fun i wr => ∃ k n : Nat, i = .int .i64 (k : Int) ∧ wr = w.drewN n ∧ k ≤ x.length ∧ Hid (∀ j, j < k → x.getD j ⟨#[]⟩ = y.getD j ⟨#[]⟩)) (fun i _ => x.length - (RowKit.intOf i).toNat)
    case atStart => exact ⟨0, 0, rfl, rfl, Nat.zero_le _, Lib.hid fun j hj => absurd hj (Nat.not_lt_zero _)⟩
    case round =>
      obtain ⟨k, nd, rfl, rfl, hk, HA⟩ := hrel
      by_cases hlt : k < x.length
      · have hlt2 : k < y.length := by have := HE.out; omega
        obtain ⟨b, off, rfl, h1⟩ := HC.out k hlt
        obtain ⟨b2, off2, rfl, h2⟩ := HC2.out k hlt2
        have c1 : ∀ n, (w.drewN n).cell? ⟨b, off + k, none⟩ = some (.string (x.getD k ⟨#[]⟩)) := fun n => h1
        have c2 : ∀ n, (w.drewN n).cell? ⟨b2, off2 + k, none⟩ = some (.string (y.getD k ⟨#[]⟩)) := fun n => h2
        clear h1 h2
        by_cases hq : x.getD k ⟨#[]⟩ = y.getD k ⟨#[]⟩
        · have HA2 := Lib.hid (show ∀ j, j < k + 1 → x.getD j ⟨#[]⟩ = y.getD j ⟨#[]⟩ from fun j hj => by
            by_cases q : j < k
            · exact HA.out j q
            · obtain rfl : j = k := by omega
              exact hq)
          rw [← hq] at c2
          have hb : ((x.getD k ⟨#[]⟩).toList == (x.getD k ⟨#[]⟩).toList) = true := beq_self_eq_true _
          clear hq HA
          generalize x.getD k ⟨#[]⟩ = p at *
          generalize x.length = n at *
          generalize y.length = n2 at *
          go_wp2_with fail
          go_region
          go_wp2_with fail
          go_roundw
          case rel => exact ⟨k + 1, _, by go_num, rfl, by omega, HA2⟩
          case measure => simp [RowKit.intOf]; omega
        · obtain rfl : R = false := HN.out k hq
          have hb : ((x.getD k ⟨#[]⟩).toList == (y.getD k ⟨#[]⟩).toList) = false := Byt.str_neq hq
          clear hq HA HN HL HY
          generalize x.getD k ⟨#[]⟩ = p at *
          generalize y.getD k ⟨#[]⟩ = q at *
          generalize x.length = n at *
          generalize y.length = n2 at *
          go_wp2_with fail
          go_region
          go_wp2_with fail
          go_ret
          exact ⟨rfl, _, rfl⟩
      · obtain rfl : k = x.length := by omega
        obtain rfl : R = true := HY.out HE.out HA.out
        clear HN HL HY HA
        go_wp2_with fail
        go_ret
        exact ⟨rfl, _, rfl⟩
  · obtain rfl : R = false := HL.out hne
    have e1 : ((x.length : Int) != (y.length : Int)) = true := by rw [bne_iff_ne]; omega
    clear HN HL HY hne
    generalize x.length = n at *
    generalize y.length = n2 at *
    go_enter Try.func9, Try.ntmps9
    go_wp2_with fail
    go_ret
    exact ⟨rfl, 0, rfl⟩
end Go.Proofs.Ytmlpgfjopkobbaa.Rou
