/- Contracts of the document's blank, digit, fault, sign, whole. Conditions: as each theorem states. -/
import Derived.Test.YtbikbniaoceodaaDoorLexC
namespace Go.Proofs.YtbikbniaoceodaaDoor.Lx
open Go.RowKit Go.Lib Go.Proofs.YtbikbniaoceodaaDoor.Byt Go.Proofs.YtbikbniaoceodaaDoor.Quo

theorem blank_any (c : Nat) (w : World) :
    Calls Tryd.prog 19 #[.int .u8 (c : Int)] w fun e w' => e = .returned (.bool (bl c)) ∧ w = w' := by
  by_cases h : c = 32 ∨ c = 9 ∨ c = 10 ∨ c = 13
  · rw [show bl c = true by unfold bl; simpa using h]
    rcases h with rfl | rfl | rfl | rfl
    all_goals
      go_enter Tryd.func19, Tryd.ntmps19
      go_wp2_with fail
      go_ret
      exact ⟨rfl, rfl⟩
  · rw [show bl c = false by unfold bl; simpa using h]
    have h1 : ((c : Int) == 32) = false := by rw [beq_eq_false_iff_ne]; omega
    have h2 : ((c : Int) == 9) = false := by rw [beq_eq_false_iff_ne]; omega
    have h3 : ((c : Int) == 10) = false := by rw [beq_eq_false_iff_ne]; omega
    have h4 : ((c : Int) == 13) = false := by rw [beq_eq_false_iff_ne]; omega
    clear h
    go_enter Tryd.func19, Tryd.ntmps19
    go_wp2_with fail
    go_ret
    exact ⟨by first | rfl | (rw [h4]; rfl), rfl⟩
theorem digit_any (s : ByteArray) (i : Nat) (x : Int) (hx : x = (i : Int)) (w : World) :
    Calls Tryd.prog 23 #[.string s, .int .i64 x] w fun e w' => e = .returned (.bool (dg (by8 s i))) ∧ w = w' := by
  subst hx
  by_cases h0 : i < s.size
  · have hix := fun w => index_of s i (i : Int) rfl h0 w
    have hb := by8_lt s i
    generalize by8 s i = c at *
    by_cases h1 : 48 ≤ c
    · by_cases h2 : c ≤ 57
      · rw [show dg c = true by unfold dg; simp; omega]
        go_enter Tryd.func23, Tryd.ntmps23
        go_wp2_with fail
        go_ret
        exact ⟨ret_d (decide_eq_true (by omega)), rfl⟩
      · rw [show dg c = false by unfold dg; simp; omega]
        go_enter Tryd.func23, Tryd.ntmps23
        go_wp2_with fail
        go_ret
        exact ⟨ret_d (decide_eq_false (by omega)), rfl⟩
    · rw [show dg c = false by unfold dg; simp; omega]
      go_enter Tryd.func23, Tryd.ntmps23
      go_wp2_with fail
      go_ret
      exact ⟨rfl, rfl⟩
  · rw [by8_end s i (by omega), show dg 0 = false from rfl]
    go_enter Tryd.func23, Tryd.ntmps23
    go_wp2_with fail
    go_ret
    exact ⟨rfl, rfl⟩
theorem fault_any (x e : Int) (w : World) :
    Calls Tryd.prog 22 #[.int .i64 x, .int .i64 e] w fun r w' => r = .returned (.tuple #[.agg #[.int .i64 0, .int .i64 x, .int .i64 0, .string ⟨#[]⟩, .int .i64 0], .int .i64 e]) ∧ Below w.heap.size w w' := by
  go_enter Tryd.func22, Tryd.ntmps22
  go_wp2_with fail
  go_returns
  exact ⟨rfl, (Below.refl _ _).alloc (Nat.le_refl _) _⟩
theorem sign_any (c : Nat) (w : World) :
    Calls Tryd.prog 20 #[.int .u8 (c : Int)] w fun e w' => e = .returned (.int .i64 (sg c : Int)) ∧ w = w' := by
  by_cases h : c = 123 ∨ c = 125 ∨ c = 91 ∨ c = 93 ∨ c = 58 ∨ c = 44
  · rcases h with rfl | rfl | rfl | rfl | rfl | rfl
    all_goals
      go_enter Tryd.func20, Tryd.ntmps20
      go_wp2_with fail
      go_ret
      exact ⟨rfl, rfl⟩
  · have hs : sg c = 0 := by
      unfold sg
      rw [if_neg (by omega), if_neg (by omega), if_neg (by omega), if_neg (by omega), if_neg (by omega), if_neg (by omega)]
    rw [hs]
    have h1 : ((c : Int) == 123) = false := by rw [beq_eq_false_iff_ne]; omega
    have h2 : ((c : Int) == 125) = false := by rw [beq_eq_false_iff_ne]; omega
    have h3 : ((c : Int) == 91) = false := by rw [beq_eq_false_iff_ne]; omega
    have h4 : ((c : Int) == 93) = false := by rw [beq_eq_false_iff_ne]; omega
    have h5 : ((c : Int) == 58) = false := by rw [beq_eq_false_iff_ne]; omega
    have h6 : ((c : Int) == 44) = false := by rw [beq_eq_false_iff_ne]; omega
    clear h
    go_enter Tryd.func20, Tryd.ntmps20
    go_wp2_with fail
    go_ret
    exact ⟨rfl, rfl⟩

/-! ### whole -/
theorem vl_take (D : List UInt8) (j : Nat) (h : j < D.length) : vl (D.take (j + 1)) = 10 * vl (D.take j) + ((D.getD j 0).toNat - 48) := by
  rw [List.take_add_one, List.getElem?_eq_getElem h, Option.toList_some, vl_snoc, List.getD_eq_getElem?_getD, List.getElem?_eq_getElem h]
  rfl
theorem vl_ge (D : List UInt8) (j : Nat) : vl (D.take j) ≤ vl D := by
  have e : vl D = vlA (vl (D.take j)) (D.drop j) := by
    conv => lhs; rw [← List.take_append_drop j D]
    unfold vl vlA
    rw [List.foldl_append]
  rw [e]
  exact vlA_ge _ _
set_option maxRecDepth 100000 in
theorem whole_pos (t : ByteArray) (D : List UInt8) (ht : t.data.toList = D) (hD : D ≠ []) (ha : allD D) (hs : t.size ≤ 140737488355328) (w : World) :
    Calls Tryd.prog 33 #[.string t] w fun e w' => e = .returned (if vl D ≤ 9223372036854775807 then .tuple #[.int .i64 (vl D : Int), .bool true] else .tuple #[.int .i64 0, .bool false]) ∧ Below w.heap.size w w' := by
  have hl : t.size = D.length := by rw [← ht]; simp
  have hlp := List.length_pos_iff.2 hD
  have hget : ∀ j, by8 t j = (D.getD j 0).toNat := fun j => by unfold by8; rw [ht]
  have hdig : ∀ j, j < D.length → 48 ≤ by8 t j ∧ by8 t j ≤ 57 := fun j hj => by
    have := ha (D[j]'hj) (List.getElem_mem hj)
    rw [hget, List.getD_eq_getElem?_getD, List.getElem?_eq_getElem hj]
    unfold dg at this
    simpa using this
  have HG := Lib.hid hget
  have HDg := Lib.hid hdig
  have hst := Lib.hid (fun j (h : j < D.length) => vl_take D j h)
  have hge := Lib.hid (fun j => vl_ge D j)
  have h0 := hdig 0 hlp
  have hix := fun w => index_of t 0 0 rfl (by omega) w
  have h45 : ((by8 t 0 : Int) == 45) = false := by rw [beq_eq_false_iff_ne]; omega
  generalize hR : (if vl D ≤ 9223372036854775807 then Value.tuple #[.int .i64 (vl D : Int), .bool true] else .tuple #[.int .i64 0, .bool false]) = R
  have HR := Lib.hid hR.symm
  clear hget hdig h0 ht hR ha hD
  go_enter Tryd.func33, Tryd.ntmps33
  go_wp2_with fail
  clear hix
  go_loop [5, 17] (fun u x => ∃ (j : Nat) (a : Int), x = .int .i64 (j : Int) ∧ u = .int .u64 a ∧ j ≤ D.length ∧ 0 ≤ a ∧ a ≤ 9223372036854775807 ∧ Hid (a = (vl (D.take j) : Int))) (fun _ x => D.length - (RowKit.intOf x).toNat)
  case atStart => exact ⟨0, 0, rfl, rfl, by omega, by omega, by omega, Lib.hid rfl⟩
  case round =>
    obtain ⟨j, a, rfl, rfl, hj, ha0, ha1, hh⟩ := hrel
    by_cases hlt : j < D.length
    · have hix := fun w => index_of t j (j : Int) rfl (by omega) w
      obtain ⟨d1, d2⟩ := HDg.out j (by omega)
      have hs1 := hst.out j (by omega)
      have hg := hge.out (j + 1)
      rw [← HG.out] at hs1
      generalize by8 t j = c at *
      have hstep : 10 * a + ((c : Int) - 48) = (vl (D.take (j + 1)) : Int) := by rw [hs1, hh.out]; omega
      by_cases hover : (9223372036854775807 - ((c : Int) - 48)) / 10 < a
      · have HN := Lib.hid (HR.out.trans (if_neg (show ¬ vl D ≤ 9223372036854775807 by omega)))
        clear hh hs1 hg hstep
        go_wp2_with fail
        go_ret2
        exact ⟨by rw [HN.out]; rfl, Below.refl _ _⟩
      · have HS := Lib.hid hstep
        have hb : 10 * a + ((c : Int) - 48) ≤ 9223372036854775807 := by omega
        clear hh hs1 hg hstep
        go_wp2_with fail
        go_round
        case rel => exact ⟨j + 1, 10 * a + ((c : Int) - 48), by go_num, rfl, by omega, by omega, hb, HS⟩
        case measure => simp [RowKit.intOf]; omega
    · obtain rfl : j = D.length := by omega
      have hv : a = (vl D : Int) := by have := hh.out; rwa [List.take_length] at this
      have HN := HR.out.trans (if_pos (show vl D ≤ 9223372036854775807 by omega))
      have HN2 := Lib.hid HN
      have HV := Lib.hid hv
      clear hv hh HN
      go_wp2_with fail
      go_ret2
      exact ⟨by rw [HN2.out, ← HV.out]; rfl, Below.refl _ _⟩

set_option maxRecDepth 100000 in
theorem whole_neg (t : ByteArray) (D : List UInt8) (ht : t.data.toList = 45 :: D) (hD : D ≠ []) (ha : allD D) (hs : t.size ≤ 140737488355328) (w : World) :
    Calls Tryd.prog 33 #[.string t] w fun e w' => e = .returned (if vl D ≤ 9223372036854775808 then .tuple #[.int .i64 (-(vl D : Int)), .bool true] else .tuple #[.int .i64 0, .bool false]) ∧ Below w.heap.size w w' := by
  have hl : t.size = D.length + 1 := by
    have : t.size = t.data.toList.length := by simp
    rw [this, ht, List.length_cons]
  have hlp := List.length_pos_iff.2 hD
  have hex : t.extract 1 (D.length + 1) = cutB t 1 D.length := by have := extract_cut t 1 D.length; rwa [Nat.add_comm 1 D.length] at this
  have hS : (cutB t 1 D.length).data.toList = D := by
    show (t.data.toList.drop 1).take D.length = D
    rw [ht]
    simp
  have hSz : (cutB t 1 D.length).size = D.length := cutB_size t 1 _ (by omega)
  have hix := fun w => index_of t 0 0 rfl (by omega) w
  have h45 : by8 t 0 = 45 := by unfold by8; rw [ht]; rfl
  rw [h45] at hix
  generalize cutB t 1 D.length = S at *
  have hget : ∀ j, by8 S j = (D.getD j 0).toNat := fun j => by unfold by8; rw [hS]
  have hdig : ∀ j, j < D.length → 48 ≤ by8 S j ∧ by8 S j ≤ 57 := fun j hj => by
    have := ha (D[j]'hj) (List.getElem_mem hj)
    rw [hget, List.getD_eq_getElem?_getD, List.getElem?_eq_getElem hj]
    unfold dg at this
    simpa using this
  have HG := Lib.hid hget
  have HDg := Lib.hid hdig
  have hst := Lib.hid (fun j (h : j < D.length) => vl_take D j h)
  have hge := Lib.hid (fun j => vl_ge D j)
  generalize hR : (if vl D ≤ 9223372036854775808 then Value.tuple #[.int .i64 (-(vl D : Int)), .bool true] else .tuple #[.int .i64 0, .bool false]) = R
  have HR := Lib.hid hR.symm
  clear hget hdig ht hR hS ha hD h45
  go_enter Tryd.func33, Tryd.ntmps33
  go_wp2_with fail
  have HX := Lib.hid hex
  clear hex
  go_region
  all_goals
    rw [HX.out]
    go_wp2_with fail
    clear hix HX
    go_loop [5, 17] (fun u x => ∃ (j : Nat) (a : Int), x = .int .i64 (j : Int) ∧ u = .int .u64 a ∧ j ≤ D.length ∧ 0 ≤ a ∧ a ≤ 9223372036854775808 ∧ Hid (a = (vl (D.take j) : Int))) (fun _ x => D.length - (RowKit.intOf x).toNat)
    case atStart => exact ⟨0, 0, rfl, rfl, by omega, by omega, by omega, Lib.hid rfl⟩
    case round =>
      obtain ⟨j, a, rfl, rfl, hj, ha0, ha1, hh⟩ := hrel
      by_cases hlt : j < D.length
      · have hix := fun w => index_of S j (j : Int) rfl (by omega) w
        obtain ⟨d1, d2⟩ := HDg.out j (by omega)
        have hs1 := hst.out j (by omega)
        have hg := hge.out (j + 1)
        rw [← HG.out] at hs1
        generalize by8 S j = c at *
        have hstep : 10 * a + ((c : Int) - 48) = (vl (D.take (j + 1)) : Int) := by rw [hs1, hh.out]; omega
        by_cases hover : (9223372036854775808 - ((c : Int) - 48)) / 10 < a
        · have HN := Lib.hid (HR.out.trans (if_neg (show ¬ vl D ≤ 9223372036854775808 by omega)))
          clear hh hs1 hg hstep
          go_wp2_with fail
          go_ret2
          exact ⟨by rw [HN.out]; rfl, (Below.refl _ _).drew⟩
        · have HS := Lib.hid hstep
          have hb : 10 * a + ((c : Int) - 48) ≤ 9223372036854775808 := by omega
          clear hh hs1 hg hstep
          go_wp2_with fail
          go_round
          case rel => exact ⟨j + 1, 10 * a + ((c : Int) - 48), by go_num, rfl, by omega, by omega, hb, HS⟩
          case measure => simp [RowKit.intOf]; omega
      · obtain rfl : j = D.length := by omega
        have hv : a = (vl D : Int) := by have := hh.out; rwa [List.take_length] at this
        have HN := HR.out.trans (if_pos (show vl D ≤ 9223372036854775808 by omega))
        have HN2 := Lib.hid HN
        have HV := Lib.hid hv
        clear hv hh HN
        by_cases h63 : a = 9223372036854775808
        · subst h63
          have hw1 : IntKind.i64.wrap 9223372036854775808 = -9223372036854775808 := by rw [IntKind.wrap_i64]; decide
          have hw2 : IntKind.i64.wrap (-(-9223372036854775808)) = -9223372036854775808 := by rw [IntKind.wrap_i64]; decide
          go_wp2_with fail
          go_ret2
          exact ⟨by rw [HN2.out, ← HV.out]; rfl, (Below.refl _ _).drew⟩
        · have hlt63 : a ≤ 9223372036854775807 := by omega
          go_wp2_with fail
          go_ret2
          exact ⟨by rw [HN2.out, ← HV.out]; rfl, (Below.refl _ _).drew⟩
end Go.Proofs.YtbikbniaoceodaaDoor.Lx
