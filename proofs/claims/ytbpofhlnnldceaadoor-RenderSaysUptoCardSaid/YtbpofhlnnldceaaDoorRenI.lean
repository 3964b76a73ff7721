/- Contracts of the document's whole, scalar, brackets and name. Conditions: as each theorem states. -/
import Derived.Test.YtbpofhlnnldceaaDoorRenBk
import Derived.Test.YtbpofhlnnldceaaDoorQuoG2
import Derived.Test.YtbpofhlnnldceaaDoorTreG1
namespace Go.Proofs.YtbpofhlnnldceaaDoor.Ren
open Go.RowKit Go.Lib Go.Proofs.YtbpofhlnnldceaaDoor.Byt Go.Proofs.YtbpofhlnnldceaaDoor.Utf Go.Proofs.YtbpofhlnnldceaaDoor.Quo Go.Proofs.YtbpofhlnnldceaaDoor.Lx
open Go.Proofs.YtbpofhlnnldceaaDoor.Tre (Vt V0 wi hdB textB nmB noneB scal OkT okV InV InV_iff InV_next Box Box.lt Box.cell Box.next box_new box_after wpList_fetch)

theorem bytes_back (x : UInt8) (W : World) (g : Nat) (h0 : W.cell? ⟨g, 0, none⟩ = some (.int .u8 (x.toNat : Int))) :
    (convert 40 9 (.slice (some ⟨g, 0, none⟩) 1 1)).run Tryd.prog W = .ok (.string ⟨#[x]⟩) W :=
  run_convert_bytes_back W 40 9 5 ⟨g, 0, none⟩ 1 [x] Tryd.underlying40 Tryd.underlying5 Tryd.underlying9 (fun j hj => by
    have hj2 : j < 1 := hj
    obtain rfl : j = 0 := by omega
    rw [add_at]
    exact h0)
theorem lists_cat (a b : List UInt8) : (ByteArray.mk a.toArray) ++ (ByteArray.mk b.toArray) = ⟨(a ++ b).toArray⟩ := by
  apply ByteArray.ext
  apply Array.toList_inj.1
  simp [ByteArray.data_append]
theorem size_list (l : List UInt8) : (⟨l.toArray⟩ : ByteArray).size = l.length := by show (List.toArray _).size = _; simp
theorem cell_new (W : World) (v : Value) (T : TypeId) : (W.alloc (.cells #[v] T)).cell? ⟨W.heap.size, 0, none⟩ = some v := by
  have h := heap_alloc_new W (.cells #[v] T)
  simp only [World.cell?, h]
  rfl
theorem digit_new (W : World) (k : Nat) (hk : k < 10) (C : Int) (hC : C = 48 + (k : Int)) :
    (convert 40 9 (.slice (some ⟨W.heap.size, 0, none⟩) 1 1)).run Tryd.prog (W.alloc (.cells #[.int .u8 C] 5)) = .ok (.string ⟨#[d8 k]⟩) (W.alloc (.cells #[.int .u8 C] 5)) := by
  refine bytes_back (d8 k) _ _ ?_
  rw [cell_new, d8_nat hk, hC]
  congr 2

attribute [local irreducible] dcL d8
set_option maxRecDepth 100000 in
set_option maxHeartbeats 4000000 in
theorem whole_any (n : Int) (h1 : -9223372036854775808 ≤ n) (h2 : n ≤ 9223372036854775807) (w : World) :
    Calls Tryd.prog 33 #[.int .i64 n] w fun e w' => e = .returned (.string ⟨(nL2 n).toArray⟩) ∧ Below w.heap.size w w' := by
  obtain ⟨U, hU⟩ : ∃ U : Nat, U = n.natAbs := ⟨_, rfl⟩
  have hUm : U ≤ 9223372036854775808 := by omega
  have hdl := dcL_len U
  have hnl : nL2 n = (if n < 0 then [45] else []) ++ dcL U := by unfold nL2 sL; rw [← hU]
  rw [hnl]
  by_cases hn : n < 0
  · rw [if_pos hn]
    have d0 : decide (n < 0) = true := decide_eq_true hn
    have hw1 : IntKind.u64.wrap n = 18446744073709551616 - (U : Int) := by rw [IntKind.wrap_u64]; omega
    have hw2 : IntKind.u64.wrap (-(18446744073709551616 - (U : Int))) = (U : Int) := by rw [IntKind.wrap_u64]; omega
    clear hU hn hnl
    go_enter Tryd.func33, Tryd.ntmps33
    go_wp2_with fail
    go_loopw [3, 4] (fun u t wr => ∃ (m : Nat) (l : List UInt8) (T : ByteArray), u = .int .u64 (m : Int) ∧ t = .string T ∧ m ≤ 9223372036854775808 ∧ T.size ≤ 100 ∧ Below w.heap.size w wr ∧ Hid (T = ⟨l.toArray⟩) ∧ Hid (dcL U = dcL m ++ l))
      (fun u _ _ => (RowKit.intOf u).toNat)
    case atStart => exact ⟨U, [], ⟨#[]⟩, by go_num, rfl, hUm, by decide, Below.refl _ _, Lib.hid rfl, Lib.hid (by simp)⟩
    case round =>
      obtain ⟨m, l, T, rfl, rfl, hm, hTz, hb, hT, hD⟩ := hrel
      have hsz := hb.size
      have hcv := digit_new wr (m % 10) (by omega) (48 + (m : Int) % 10) (by omega)
      have hcat : (⟨#[d8 (m % 10)]⟩ : ByteArray) ++ T = ⟨([d8 (m % 10)] ++ l).toArray⟩ := by rw [hT.out]; exact lists_cat [d8 (m % 10)] l
      have hcz : (⟨#[d8 (m % 10)]⟩ : ByteArray).size = 1 := rfl
      have hb1 := hb.alloc hsz (.cells #[.int .u8 (48 + (m : Int) % 10)] 5)
      by_cases h10 : m < 10
      · have he : ((m : Int) / 10 == 0) = true := by rw [beq_iff_eq]; omega
        have hS : (⟨#[d8 (m % 10)]⟩ : ByteArray) ++ T = ⟨(dcL U).toArray⟩ := by
          rw [hcat, hD.out, dcL_low h10, Nat.mod_eq_of_lt h10]
        have hSz : ((⟨#[d8 (m % 10)]⟩ : ByteArray) ++ T).size ≤ 20 := by rw [hS, size_list]; exact hdl
        have HS := Lib.hid hS
        clear hT hD hcat hS
        generalize hS0 : ((⟨#[d8 (m % 10)]⟩ : ByteArray) ++ T) = S0 at *
        have hS1 : (⟨#[45]⟩ : ByteArray) ++ S0 = ⟨([45] ++ dcL U).toArray⟩ := by rw [HS.out]; exact lists_cat [45] (dcL U)
        have HS1 := Lib.hid hS1
        have h45 : (⟨#[45]⟩ : ByteArray).size = 1 := rfl
        clear hS1
        go_wp2_with fail
        go_ret
        exact ⟨by first | (rw [HS1.out]; rfl) | (rw [HS.out]; rfl), hb1⟩
      · have he : ((m : Int) / 10 == 0) = false := by rw [beq_eq_false_iff_ne]; omega
        have hl2 : ([d8 (m % 10)] ++ l).length ≤ 20 := by
          have := congrArg List.length hD.out
          rw [dcL_high h10 (by omega), List.length_append, List.length_append, List.length_singleton] at this
          rw [List.length_append, List.length_singleton]
          omega
        have hz2 : ((⟨#[d8 (m % 10)]⟩ : ByteArray) ++ T).size ≤ 100 := by rw [hcat, size_list]; omega
        have hD2 : dcL U = dcL (m / 10) ++ ([d8 (m % 10)] ++ l) := by rw [hD.out, dcL_high h10 (by omega), List.append_assoc]
        have HCAT := Lib.hid hcat
        have HD2 := Lib.hid hD2
        clear hcat hD2 hT hD
        go_wp2_with fail
        go_roundw
        case rel => exact ⟨m / 10, [d8 (m % 10)] ++ l, _, by go_num, rfl, by omega, hz2, hb1, Lib.hid HCAT.out, Lib.hid HD2.out⟩
        case measure => simp [RowKit.intOf]; omega
  · rw [if_neg hn]
    have d0 : decide (n < 0) = false := decide_eq_false hn
    have hw1 : IntKind.u64.wrap n = (U : Int) := by rw [IntKind.wrap_u64]; omega
    clear hU hn hnl
    go_enter Tryd.func33, Tryd.ntmps33
    go_wp2_with fail
    go_loopw [3, 4] (fun u t wr => ∃ (m : Nat) (l : List UInt8) (T : ByteArray), u = .int .u64 (m : Int) ∧ t = .string T ∧ m ≤ 9223372036854775808 ∧ T.size ≤ 100 ∧ Below w.heap.size w wr ∧ Hid (T = ⟨l.toArray⟩) ∧ Hid (dcL U = dcL m ++ l))
      (fun u _ _ => (RowKit.intOf u).toNat)
    case atStart => exact ⟨U, [], ⟨#[]⟩, by go_num, rfl, hUm, by decide, Below.refl _ _, Lib.hid rfl, Lib.hid (by simp)⟩
    case round =>
      obtain ⟨m, l, T, rfl, rfl, hm, hTz, hb, hT, hD⟩ := hrel
      have hsz := hb.size
      have hcv := digit_new wr (m % 10) (by omega) (48 + (m : Int) % 10) (by omega)
      have hcat : (⟨#[d8 (m % 10)]⟩ : ByteArray) ++ T = ⟨([d8 (m % 10)] ++ l).toArray⟩ := by rw [hT.out]; exact lists_cat [d8 (m % 10)] l
      have hcz : (⟨#[d8 (m % 10)]⟩ : ByteArray).size = 1 := rfl
      have hb1 := hb.alloc hsz (.cells #[.int .u8 (48 + (m : Int) % 10)] 5)
      by_cases h10 : m < 10
      · have he : ((m : Int) / 10 == 0) = true := by rw [beq_iff_eq]; omega
        have hS : (⟨#[d8 (m % 10)]⟩ : ByteArray) ++ T = ⟨(dcL U).toArray⟩ := by
          rw [hcat, hD.out, dcL_low h10, Nat.mod_eq_of_lt h10]
        have hSz : ((⟨#[d8 (m % 10)]⟩ : ByteArray) ++ T).size ≤ 20 := by rw [hS, size_list]; exact hdl
        have HS := Lib.hid hS
        clear hT hD hcat hS
        generalize hS0 : ((⟨#[d8 (m % 10)]⟩ : ByteArray) ++ T) = S0 at *
        have hS1 : (⟨#[45]⟩ : ByteArray) ++ S0 = ⟨([45] ++ dcL U).toArray⟩ := by rw [HS.out]; exact lists_cat [45] (dcL U)
        have HS1 := Lib.hid hS1
        have h45 : (⟨#[45]⟩ : ByteArray).size = 1 := rfl
        clear hS1
        go_wp2_with fail
        go_ret
        exact ⟨by first | (rw [HS1.out]; rfl) | (rw [HS.out]; rfl), hb1⟩
      · have he : ((m : Int) / 10 == 0) = false := by rw [beq_eq_false_iff_ne]; omega
        have hl2 : ([d8 (m % 10)] ++ l).length ≤ 20 := by
          have := congrArg List.length hD.out
          rw [dcL_high h10 (by omega), List.length_append, List.length_append, List.length_singleton] at this
          rw [List.length_append, List.length_singleton]
          omega
        have hz2 : ((⟨#[d8 (m % 10)]⟩ : ByteArray) ++ T).size ≤ 100 := by rw [hcat, size_list]; omega
        have hD2 : dcL U = dcL (m / 10) ++ ([d8 (m % 10)] ++ l) := by rw [hD.out, dcL_high h10 (by omega), List.append_assoc]
        have HCAT := Lib.hid hcat
        have HD2 := Lib.hid hD2
        clear hcat hD2 hT hD
        go_wp2_with fail
        go_roundw
        case rel => exact ⟨m / 10, [d8 (m % 10)] ++ l, _, by go_num, rfl, by omega, hz2, hb1, Lib.hid HCAT.out, Lib.hid HD2.out⟩
        case measure => simp [RowKit.intOf]; omega
theorem rquoted (s : ByteArray) (W : World) (hs : s.size ≤ 8000000) (ht : textB s = true) :
    Calls Tryd.prog 34 #[.string s] W fun e w' => e = .returned (.tuple #[.string ⟨(qQ s.data.toList).toArray⟩, .int .i64 0]) ∧ Below W.heap.size W w' := by
  have H := rqput_any s W hs
  unfold textB at ht
  rw [decide_eq_true_eq] at ht
  unfold rP pT pE at H
  rw [if_pos ht, if_pos ht] at H
  exact H
/-- A value of no parts that is right. -/
def Sc (v : Vt) : Prop := okV v ∧ v.s.size ≤ 8000000 ∧ ∃ m, hdB v.k v.n v.s v.l v.ns m = true
set_option maxRecDepth 100000 in
set_option maxHeartbeats 1000000 in
theorem scalar_any (st co ln : List UInt8) (v : Vt) (hv : Sc v) (h4 : v.k ≠ 4) (h5 : v.k ≠ 5) (cs : List Value) (W : World) (h : InV W v cs) :
    Calls Tryd.prog 21 #[.agg cs.toArray] W fun e w' => e = .returned (.string ⟨(tv st co v ln).toArray⟩) ∧ Below W.heap.size W w' := by
  cases v with
  | mk k n s l ns =>
    obtain ⟨hok, hsz, m, hd⟩ := hv
    replace hd : hdB k n s l ns m = true := hd
    replace hsz : s.size ≤ 8000000 := hsz
    replace h4 : k ≠ 4 := h4
    replace h5 : k ≠ 5 := h5
    obtain ⟨a, cap, c4, hcs, _, _⟩ := (InV_iff W _ cs).1 h
    replace hcs : cs = [.int .i64 k, .int .i64 n, .string s, .slice a l.length cap, c4] := hcs
    subst hcs
    have hnb : -9223372036854775808 ≤ n ∧ n ≤ 9223372036854775807 := hok.2.1
    have B0 := Lib.hid fun o : Obj => (Below.refl W.heap.size W).alloc (Nat.le_refl _) o
    clear h hok
    unfold hdB at hd
    rw [tv]
    by_cases h0 : k = 0
    · rw [if_pos h0]
      subst h0
      clear hd
      go_enter Tryd.func21, Tryd.ntmps21
      go_wp2_with fail
      go_ret
      exact ⟨rfl, B0.out _⟩
    rw [if_neg h0] at hd ⊢
    by_cases h1 : k = 1
    · rw [if_pos h1] at hd ⊢
      have hn : n = 0 ∨ n = 1 := by
        simp only [Bool.and_eq_true, decide_eq_true_eq] at hd
        exact hd.1.1
      subst h1
      clear hd h0 hnb
      rcases hn with rfl | rfl
      · rw [if_neg (by decide)]
        go_enter Tryd.func21, Tryd.ntmps21
        go_wp2_with fail
        go_ret
        exact ⟨rfl, B0.out _⟩
      · rw [if_pos rfl]
        go_enter Tryd.func21, Tryd.ntmps21
        go_wp2_with fail
        go_ret
        exact ⟨rfl, B0.out _⟩
    rw [if_neg h1] at hd ⊢
    have e1 : (k == 1) = false := by rw [beq_eq_false_iff_ne]; exact h1
    by_cases h2 : k = 2
    · rw [if_pos h2]
      subst h2
      have HW := Lib.hid (whole_any n hnb.1 hnb.2)
      clear hd h0 h1 e1
      generalize nL2 n = L at *
      go_enter Tryd.func21, Tryd.ntmps21
      go_wp2_with (go_at_call 33; (with_reducible refine (HW.out _).mono ?_); rintro e w2 ⟨rfl, hb2⟩)
      go_ret
      exact ⟨rfl, (box_after hb2).2⟩
    rw [if_neg h2] at hd ⊢
    have e2 : (k == 2) = false := by rw [beq_eq_false_iff_ne]; exact h2
    by_cases h3 : k = 3
    · rw [if_pos h3] at hd ⊢
      have ht : textB s = true := by
        simp only [Bool.and_eq_true] at hd
        exact hd.1.2
      subst h3
      have HW := Lib.hid (fun W' => rquoted s W' hsz ht)
      clear hd h0 h1 h2 e1 e2 ht hsz
      generalize qQ s.data.toList = L at *
      go_enter Tryd.func21, Tryd.ntmps21
      go_wp2_with (go_at_call 34; (with_reducible refine (HW.out _).mono ?_); rintro e w2 ⟨rfl, hb2⟩)
      go_ret
      exact ⟨rfl, (box_after hb2).2⟩
    rw [if_neg h3, if_neg h4, if_neg h5] at hd
    cases hd
theorem bra_list (n : Int) (s : ByteArray) (c3 c4 : Value) (W : World) :
    Calls Tryd.prog 22 #[.agg #[.int .i64 4, .int .i64 n, .string s, c3, c4]] W fun e w' => e = .returned (.tuple #[.string ⟨#[91]⟩, .string ⟨#[93]⟩]) ∧ Below W.heap.size W w' := by
  have B0 := Lib.hid fun o : Obj => (Below.refl W.heap.size W).alloc (Nat.le_refl _) o
  go_enter Tryd.func22, Tryd.ntmps22
  go_wp2_with fail
  go_ret2
  exact ⟨rfl, B0.out _⟩
theorem bra_obj (n : Int) (s : ByteArray) (c3 c4 : Value) (W : World) :
    Calls Tryd.prog 22 #[.agg #[.int .i64 5, .int .i64 n, .string s, c3, c4]] W fun e w' => e = .returned (.tuple #[.string ⟨#[123]⟩, .string ⟨#[125]⟩]) ∧ Below W.heap.size W w' := by
  have B0 := Lib.hid fun o : Obj => (Below.refl W.heap.size W).alloc (Nat.le_refl _) o
  go_enter Tryd.func22, Tryd.ntmps22
  go_wp2_with fail
  go_ret2
  exact ⟨rfl, B0.out _⟩
theorem name_list (n : Int) (s : ByteArray) (c3 c4 : Value) (i : Int) (co : ByteArray) (W : World) :
    Calls Tryd.prog 23 #[.agg #[.int .i64 4, .int .i64 n, .string s, c3, c4], .int .i64 i, .string co] W fun e w' => e = .returned (.string ⟨#[]⟩) ∧ Below W.heap.size W w' := by
  have B0 := Lib.hid fun o : Obj => (Below.refl W.heap.size W).alloc (Nat.le_refl _) o
  go_enter Tryd.func23, Tryd.ntmps23
  go_wp2_with fail
  go_ret
  exact ⟨rfl, B0.out _⟩
theorem name_obj (n : Int) (s : ByteArray) (c3 : Value) (nb noff ln ncap : Nat) (j : Nat) (hj : j < ln) (x : ByteArray) (hx : textB x = true) (hxs : x.size ≤ 8000000) (co : ByteArray) (hco : co.size ≤ 10) (W : World) (hc : W.cell? ⟨nb, noff + j, none⟩ = some (.string x)) :
    Calls Tryd.prog 23 #[.agg #[.int .i64 5, .int .i64 n, .string s, c3, .slice (some ⟨nb, noff, none⟩) ln ncap], .int .i64 (j : Int), .string co] W fun e w' => e = .returned (.string ⟨(qQ x.data.toList ++ co.data.toList).toArray⟩) ∧ Below W.heap.size W w' := by
  have hq : (⟨(qQ x.data.toList).toArray⟩ : ByteArray) ++ co = ⟨(qQ x.data.toList ++ co.data.toList).toArray⟩ := by
    have := lists_cat (qQ x.data.toList) co.data.toList
    have e : (⟨co.data.toList.toArray⟩ : ByteArray) = co := by cases co; simp
    rwa [e] at this
  have hqs : (⟨(qQ x.data.toList).toArray⟩ : ByteArray).size ≤ 48000002 := by
    have := qQ_len x.data.toList
    have e : x.data.toList.length = x.size := by simp
    rw [size_list]
    omega
  rw [← hq]
  have HW := Lib.hid (fun W' => rquoted x W' hxs hx)
  have hjn : (j : Int) < (ln : Int) := by omega
  have hc0 : ∀ o, (W.alloc o).cell? ⟨nb, noff + j, none⟩ = some (.string x) := fun o => ((Below.refl W.heap.size W).alloc (Nat.le_refl _) o).cell (Strs.cell_lt hc) |>.trans hc
  have hc1 := hc0 (.cells #[.int .i64 5, .int .i64 n, .string s, c3, .slice (some ⟨nb, noff, none⟩) ln ncap] 25)
  clear hq hx hc hc0
  generalize (⟨(qQ x.data.toList).toArray⟩ : ByteArray) = Q at *
  go_enter Tryd.func23, Tryd.ntmps23
  go_wp2_with (go_at_call 34; (with_reducible refine (HW.out _).mono ?_); rintro e w2 ⟨rfl, hb2⟩)
  go_ret
  exact ⟨rfl, (box_after hb2).2⟩
end Go.Proofs.YtbpofhlnnldceaaDoor.Ren
