/- Contracts of the document's blank, digit, fault, sign, whole. Conditions: as each theorem states. · Contracts of the document's word. Conditions: as each theorem states. -/
import Derived.Test.YteinaclkpickaaaGreatDoorLexG1
import Derived.Test.YteinaclkpickaaaGreatDoorOctG1
namespace Go.Proofs.YteinaclkpickaaaGreatDoor.Lx
open Go.RowKit Go.Lib Go.Proofs.YteinaclkpickaaaGreatDoor.Byt Go.Proofs.YteinaclkpickaaaGreatDoor.Quo

theorem blank_any (c : Nat) (w : World) :
    Calls Tryz.prog 50 #[.int .u8 (c : Int)] w fun e w' => e = .returned (.bool (bl c)) ∧ w = w' := by
  by_cases h : c = 32 ∨ c = 9 ∨ c = 10 ∨ c = 13
  · rw [show bl c = true by unfold bl; simpa using h]
    rcases h with rfl | rfl | rfl | rfl
    all_goals
      go_enter Tryz.func50, Tryz.ntmps50
      go_wp2_with fail
      go_ret
      exact ⟨rfl, rfl⟩
  · rw [show bl c = false by unfold bl; simpa using h]
    have h1 : ((c : Int) == 32) = false := by rw [beq_eq_false_iff_ne]; omega
    have h2 : ((c : Int) == 9) = false := by rw [beq_eq_false_iff_ne]; omega
    have h3 : ((c : Int) == 10) = false := by rw [beq_eq_false_iff_ne]; omega
    have h4 : ((c : Int) == 13) = false := by rw [beq_eq_false_iff_ne]; omega
    clear h
    go_enter Tryz.func50, Tryz.ntmps50
    go_wp2_with fail
    go_ret
    exact ⟨by first | rfl | (rw [h4]; rfl), rfl⟩
theorem digit_any (s : ByteArray) (i : Nat) (x : Int) (hx : x = (i : Int)) (w : World) :
    Calls Tryz.prog 54 #[.string s, .int .i64 x] w fun e w' => e = .returned (.bool (dg (by8 s i))) ∧ w = w' := by
  subst hx
  by_cases h0 : i < s.size
  · have hix := fun w => index_of s i (i : Int) rfl h0 w
    have hb := by8_lt s i
    generalize by8 s i = c at *
    by_cases h1 : 48 ≤ c
    · by_cases h2 : c ≤ 57
      · rw [show dg c = true by unfold dg; simp; omega]
        go_enter Tryz.func54, Tryz.ntmps54
        go_wp2_with fail
        go_ret
        exact ⟨ret_d (decide_eq_true (by omega)), rfl⟩
      · rw [show dg c = false by unfold dg; simp; omega]
        go_enter Tryz.func54, Tryz.ntmps54
        go_wp2_with fail
        go_ret
        exact ⟨ret_d (decide_eq_false (by omega)), rfl⟩
    · rw [show dg c = false by unfold dg; simp; omega]
      go_enter Tryz.func54, Tryz.ntmps54
      go_wp2_with fail
      go_ret
      exact ⟨rfl, rfl⟩
  · rw [by8_end s i (by omega), show dg 0 = false from rfl]
    go_enter Tryz.func54, Tryz.ntmps54
    go_wp2_with fail
    go_ret
    exact ⟨rfl, rfl⟩
theorem fault_any (x e : Int) (w : World) :
    Calls Tryz.prog 53 #[.int .i64 x, .int .i64 e] w fun r w' => r = .returned (.tuple #[.agg #[.int .i64 0, .int .i64 x, .int .i64 0, .string ⟨#[]⟩, .int .i64 0], .int .i64 e]) ∧ Below w.heap.size w w' := by
  go_enter Tryz.func53, Tryz.ntmps53
  go_wp2_with fail
  go_returns
  exact ⟨rfl, (Below.refl _ _).alloc (Nat.le_refl _) _⟩
theorem sign_any (c : Nat) (w : World) :
    Calls Tryz.prog 51 #[.int .u8 (c : Int)] w fun e w' => e = .returned (.int .i64 (sg c : Int)) ∧ w = w' := by
  by_cases h : c = 123 ∨ c = 125 ∨ c = 91 ∨ c = 93 ∨ c = 58 ∨ c = 44
  · rcases h with rfl | rfl | rfl | rfl | rfl | rfl
    all_goals
      go_enter Tryz.func51, Tryz.ntmps51
      go_wp2_with fail
      go_ret
      exact ⟨rfl, rfl⟩
  · have hs : sg c = 0 := by
      unfold sg
      rw [if_neg (by omega), if_neg (by omega), if_neg (by omega), if_neg (by omega), if_neg (by omega), if_neg (by omega)]
    rw [hs]
    have h1 : ((c : Int) == 123) = false := by rw [beq_eq_false_iff_ne]; omega
    have h2 : ((c : Int) == 125) = false := by rw [beq_eq_false_iff_ne]; omega
    have h3 : ((c : Int) == 91) = false := by rw [beq_eq_false_iff_ne]; omega
    have h4 : ((c : Int) == 93) = false := by rw [beq_eq_false_iff_ne]; omega
    have h5 : ((c : Int) == 58) = false := by rw [beq_eq_false_iff_ne]; omega
    have h6 : ((c : Int) == 44) = false := by rw [beq_eq_false_iff_ne]; omega
    clear h
    go_enter Tryz.func51, Tryz.ntmps51
    go_wp2_with fail
    go_ret
    exact ⟨rfl, rfl⟩

/-! ### whole -/
theorem vl_take (D : List UInt8) (j : Nat) (h : j < D.length) : vl (D.take (j + 1)) = 10 * vl (D.take j) + ((D.getD j 0).toNat - 48) := by
  rw [List.take_add_one, List.getElem?_eq_getElem h, Option.toList_some, vl_snoc, List.getD_eq_getElem?_getD, List.getElem?_eq_getElem h]
  rfl
theorem vl_ge (D : List UInt8) (j : Nat) : vl (D.take j) ≤ vl D := by
  have e : vl D = vlA (vl (D.take j)) (D.drop j) := by
    conv => lhs; rw [← List.take_append_drop j D]
    unfold vl vlA
    rw [List.foldl_append]
  rw [e]
  exact vlA_ge _ _
set_option maxRecDepth 100000 in
theorem whole_pos (t : ByteArray) (D : List UInt8) (ht : t.data.toList = D) (hD : D ≠ []) (ha : allD D) (hs : t.size ≤ 140737488355328) (w : World) :
    Calls Tryz.prog 69 #[.string t] w fun e w' => e = .returned (if vl D ≤ 9223372036854775807 then .tuple #[.int .i64 (vl D : Int), .bool true] else .tuple #[.int .i64 0, .bool false]) ∧ Below w.heap.size w w' := by
  have hl : t.size = D.length := by rw [← ht]; simp
  have hlp := List.length_pos_iff.2 hD
  have hget : ∀ j, by8 t j = (D.getD j 0).toNat := fun j => by unfold by8; rw [ht]
  have hdig : ∀ j, j < D.length → 48 ≤ by8 t j ∧ by8 t j ≤ 57 := fun j hj => by
    have := ha (D[j]'hj) (List.getElem_mem hj)
    rw [hget, List.getD_eq_getElem?_getD, List.getElem?_eq_getElem hj]
    unfold dg at this
    simpa using this
  have HG := Lib.hid hget
  have HDg := Lib.hid hdig
  have hst := Lib.hid (fun j (h : j < D.length) => vl_take D j h)
  have hge := Lib.hid (fun j => vl_ge D j)
  have h0 := hdig 0 hlp
  have hix := fun w => index_of t 0 0 rfl (by omega) w
  have h45 : ((by8 t 0 : Int) == 45) = false := by rw [beq_eq_false_iff_ne]; omega
  generalize hR : (if vl D ≤ 9223372036854775807 then Value.tuple #[.int .i64 (vl D : Int), .bool true] else .tuple #[.int .i64 0, .bool false]) = R
  have HR := Lib.hid hR.symm
  clear hget hdig h0 ht hR ha hD
  go_enter Tryz.func69, Tryz.ntmps69
  go_wp2_with fail
  clear hix
  go_loop [5, 17] (fun u x => ∃ (j : Nat) (a : Int), x = .int .i64 (j : Int) ∧ u = .int .u64 a ∧ j ≤ D.length ∧ 0 ≤ a ∧ a ≤ 9223372036854775807 ∧ Hid (a = (vl (D.take j) : Int))) (fun _ x => D.length - (RowKit.intOf x).toNat)
  case atStart => exact ⟨0, 0, rfl, rfl, by omega, by omega, by omega, Lib.hid rfl⟩
  case round =>
    obtain ⟨j, a, rfl, rfl, hj, ha0, ha1, hh⟩ := hrel
    by_cases hlt : j < D.length
    · have hix := fun w => index_of t j (j : Int) rfl (by omega) w
      obtain ⟨d1, d2⟩ := HDg.out j (by omega)
      have hs1 := hst.out j (by omega)
      have hg := hge.out (j + 1)
      rw [← HG.out] at hs1
      generalize by8 t j = c at *
      have hstep : 10 * a + ((c : Int) - 48) = (vl (D.take (j + 1)) : Int) := by rw [hs1, hh.out]; omega
      by_cases hover : (9223372036854775807 - ((c : Int) - 48)) / 10 < a
      · have HN := Lib.hid (HR.out.trans (if_neg (show ¬ vl D ≤ 9223372036854775807 by omega)))
        clear hh hs1 hg hstep
        go_wp2_with fail
        go_ret2
        exact ⟨by rw [HN.out]; rfl, Below.refl _ _⟩
      · have HS := Lib.hid hstep
        have hb : 10 * a + ((c : Int) - 48) ≤ 9223372036854775807 := by omega
        clear hh hs1 hg hstep
        go_wp2_with fail
        go_round
        case rel => exact ⟨j + 1, 10 * a + ((c : Int) - 48), by go_num, rfl, by omega, by omega, hb, HS⟩
        case measure => simp [RowKit.intOf]; omega
    · obtain rfl : j = D.length := by omega
      have hv : a = (vl D : Int) := by have := hh.out; rwa [List.take_length] at this
      have HN := HR.out.trans (if_pos (show vl D ≤ 9223372036854775807 by omega))
      have HN2 := Lib.hid HN
      have HV := Lib.hid hv
      clear hv hh HN
      go_wp2_with fail
      go_ret2
      exact ⟨by rw [HN2.out, ← HV.out]; rfl, Below.refl _ _⟩

set_option maxRecDepth 100000 in
theorem whole_neg (t : ByteArray) (D : List UInt8) (ht : t.data.toList = 45 :: D) (hD : D ≠ []) (ha : allD D) (hs : t.size ≤ 140737488355328) (w : World) :
    Calls Tryz.prog 69 #[.string t] w fun e w' => e = .returned (if vl D ≤ 9223372036854775808 then .tuple #[.int .i64 (-(vl D : Int)), .bool true] else .tuple #[.int .i64 0, .bool false]) ∧ Below w.heap.size w w' := by
  have hl : t.size = D.length + 1 := by
    have : t.size = t.data.toList.length := by simp
    rw [this, ht, List.length_cons]
  have hlp := List.length_pos_iff.2 hD
  have hex : t.extract 1 (D.length + 1) = cutB t 1 D.length := by have := extract_cut t 1 D.length; rwa [Nat.add_comm 1 D.length] at this
  have hS : (cutB t 1 D.length).data.toList = D := by
    show (t.data.toList.drop 1).take D.length = D
    rw [ht]
    simp
  have hSz : (cutB t 1 D.length).size = D.length := cutB_size t 1 _ (by omega)
  have hix := fun w => index_of t 0 0 rfl (by omega) w
  have h45 : by8 t 0 = 45 := by unfold by8; rw [ht]; rfl
  rw [h45] at hix
  generalize cutB t 1 D.length = S at *
  have hget : ∀ j, by8 S j = (D.getD j 0).toNat := fun j => by unfold by8; rw [hS]
  have hdig : ∀ j, j < D.length → 48 ≤ by8 S j ∧ by8 S j ≤ 57 := fun j hj => by
    have := ha (D[j]'hj) (List.getElem_mem hj)
    rw [hget, List.getD_eq_getElem?_getD, List.getElem?_eq_getElem hj]
    unfold dg at this
    simpa using this
  have HG := Lib.hid hget
  have HDg := Lib.hid hdig
  have hst := Lib.hid (fun j (h : j < D.length) => vl_take D j h)
  have hge := Lib.hid (fun j => vl_ge D j)
  generalize hR : (if vl D ≤ 9223372036854775808 then Value.tuple #[.int .i64 (-(vl D : Int)), .bool true] else .tuple #[.int .i64 0, .bool false]) = R
  have HR := Lib.hid hR.symm
  clear hget hdig ht hR hS ha hD h45
  go_enter Tryz.func69, Tryz.ntmps69
  go_wp2_with fail
  have HX := Lib.hid hex
  clear hex
  go_region
  all_goals
    rw [HX.out]
    go_wp2_with fail
    clear hix HX
    go_loop [5, 17] (fun u x => ∃ (j : Nat) (a : Int), x = .int .i64 (j : Int) ∧ u = .int .u64 a ∧ j ≤ D.length ∧ 0 ≤ a ∧ a ≤ 9223372036854775808 ∧ Hid (a = (vl (D.take j) : Int))) (fun _ x => D.length - (RowKit.intOf x).toNat)
    case atStart => exact ⟨0, 0, rfl, rfl, by omega, by omega, by omega, Lib.hid rfl⟩
    case round =>
      obtain ⟨j, a, rfl, rfl, hj, ha0, ha1, hh⟩ := hrel
      by_cases hlt : j < D.length
      · have hix := fun w => index_of S j (j : Int) rfl (by omega) w
        obtain ⟨d1, d2⟩ := HDg.out j (by omega)
        have hs1 := hst.out j (by omega)
        have hg := hge.out (j + 1)
        rw [← HG.out] at hs1
        generalize by8 S j = c at *
        have hstep : 10 * a + ((c : Int) - 48) = (vl (D.take (j + 1)) : Int) := by rw [hs1, hh.out]; omega
        by_cases hover : (9223372036854775808 - ((c : Int) - 48)) / 10 < a
        · have HN := Lib.hid (HR.out.trans (if_neg (show ¬ vl D ≤ 9223372036854775808 by omega)))
          clear hh hs1 hg hstep
          go_wp2_with fail
          go_ret2
          exact ⟨by rw [HN.out]; rfl, (Below.refl _ _).drew⟩
        · have HS := Lib.hid hstep
          have hb : 10 * a + ((c : Int) - 48) ≤ 9223372036854775808 := by omega
          clear hh hs1 hg hstep
          go_wp2_with fail
          go_round
          case rel => exact ⟨j + 1, 10 * a + ((c : Int) - 48), by go_num, rfl, by omega, by omega, hb, HS⟩
          case measure => simp [RowKit.intOf]; omega
      · obtain rfl : j = D.length := by omega
        have hv : a = (vl D : Int) := by have := hh.out; rwa [List.take_length] at this
        have HN := HR.out.trans (if_pos (show vl D ≤ 9223372036854775808 by omega))
        have HN2 := Lib.hid HN
        have HV := Lib.hid hv
        clear hv hh HN
        by_cases h63 : a = 9223372036854775808
        · subst h63
          have hw1 : IntKind.i64.wrap 9223372036854775808 = -9223372036854775808 := by rw [IntKind.wrap_i64]; decide
          have hw2 : IntKind.i64.wrap (-(-9223372036854775808)) = -9223372036854775808 := by rw [IntKind.wrap_i64]; decide
          go_wp2_with fail
          go_ret2
          exact ⟨by rw [HN2.out, ← HV.out]; rfl, (Below.refl _ _).drew⟩
        · have hlt63 : a ≤ 9223372036854775807 := by omega
          go_wp2_with fail
          go_ret2
          exact ⟨by rw [HN2.out, ← HV.out]; rfl, (Below.refl _ _).drew⟩
end Go.Proofs.YteinaclkpickaaaGreatDoor.Lx

namespace Go.Proofs.YteinaclkpickaaaGreatDoor.Lx
open Go.RowKit Go.Lib Go.Proofs.YteinaclkpickaaaGreatDoor.Byt Go.Proofs.YteinaclkpickaaaGreatDoor.Quo

/-- A word that is there. -/
theorem cut_yes_word (s : ByteArray) (i : Nat) (hi : i ≤ s.size) (p : ByteArray) (h : (sf s i).take p.size = p.data.toList) : Oct.cutS s (i : Int) (p.size : Int) = p := by
  have hl := congrArg List.length h
  have e : p.size = p.data.toList.length := by simp
  rw [List.length_take, sf_len, ← e] at hl
  unfold Oct.cutS Oct.has
  rw [if_pos (by simp; omega)]
  apply ByteArray.ext
  apply Array.toList_inj.1
  rw [Int.toNat_natCast, Int.toNat_natCast, cut_take, h]
theorem cut_no_word (s : ByteArray) (i : Nat) (p : ByteArray) (hp : 0 < p.size) (h : (sf s i).take p.size ≠ p.data.toList) : Oct.cutS s (i : Int) (p.size : Int) ≠ p := by
  intro e
  unfold Oct.cutS Oct.has at e
  split at e
  · apply h
    have := congrArg (fun b : ByteArray => b.data.toList) e
    simp only [Int.toNat_natCast] at this
    rwa [cut_take] at this
  · have := congrArg ByteArray.size e
    rw [show (⟨#[]⟩ : ByteArray).size = 0 from rfl] at this
    omega
theorem word_run (s : ByteArray) (i : Nat) (hi : i ≤ s.size) (hs : s.size ≤ 140737488355328) (n : Nat) :
    ∃ b, ∀ w, Calls Tryz.prog 70 #[.string s, .int .i64 (i : Int), .int .i64 (n : Int)] w fun e w' => e = .returned (.tuple #[.string (Oct.cutS s (i : Int) (n : Int)), .bool b]) ∧ w = w' :=
  ⟨_, fun w => Oct.rcut_any s (i : Int) (n : Int) w hs (by omega) (by omega)⟩
set_option maxRecDepth 100000 in
set_option maxHeartbeats 2000000 in
theorem word_any (s : ByteArray) (i : Nat) (x : Int) (hx : x = (i : Int)) (hi : i ≤ s.size) (hs : s.size ≤ 140737488355328) (w : World) :
    Calls Tryz.prog 56 #[.string s, .int .i64 x] w fun e w' => e = .returned (nR (atR i (wrd (sf s i)))) ∧ Below w.heap.size w w' := by
  subst hx
  obtain ⟨b4, H4⟩ := word_run s i hi hs 4
  obtain ⟨b5, H5⟩ := word_run s i hi hs 5
  have y0 := cut_yes_word s i hi ⟨#[116, 114, 117, 101]⟩
  have n0 := cut_no_word s i ⟨#[116, 114, 117, 101]⟩ (by decide)
  have y1 := cut_yes_word s i hi ⟨#[102, 97, 108, 115, 101]⟩
  have n1 := cut_no_word s i ⟨#[102, 97, 108, 115, 101]⟩ (by decide)
  have y2 := cut_yes_word s i hi ⟨#[110, 117, 108, 108]⟩
  have n2 := cut_no_word s i ⟨#[110, 117, 108, 108]⟩ (by decide)
  change (sf s i).take 4 = [116, 114, 117, 101] → Oct.cutS s (i : Int) ((4 : Nat) : Int) = ⟨#[116, 114, 117, 101]⟩ at y0
  change (sf s i).take 4 ≠ [116, 114, 117, 101] → Oct.cutS s (i : Int) ((4 : Nat) : Int) ≠ ⟨#[116, 114, 117, 101]⟩ at n0
  change (sf s i).take 5 = [102, 97, 108, 115, 101] → Oct.cutS s (i : Int) ((5 : Nat) : Int) = ⟨#[102, 97, 108, 115, 101]⟩ at y1
  change (sf s i).take 5 ≠ [102, 97, 108, 115, 101] → Oct.cutS s (i : Int) ((5 : Nat) : Int) ≠ ⟨#[102, 97, 108, 115, 101]⟩ at n1
  change (sf s i).take 4 = [110, 117, 108, 108] → Oct.cutS s (i : Int) ((4 : Nat) : Int) = ⟨#[110, 117, 108, 108]⟩ at y2
  change (sf s i).take 4 ≠ [110, 117, 108, 108] → Oct.cutS s (i : Int) ((4 : Nat) : Int) ≠ ⟨#[110, 117, 108, 108]⟩ at n2
  generalize Oct.cutS s (i : Int) ((4 : Nat) : Int) = c4 at *
  generalize Oct.cutS s (i : Int) ((5 : Nat) : Int) = c5 at *
  have Y0 := Lib.hid y0
  have Y1 := Lib.hid y1
  have Y2 := Lib.hid y2
  have N0 := Lib.hid n0
  have N1 := Lib.hid n1
  have N2 := Lib.hid n2
  have HC4 : Hid (∀ w, Calls Tryz.prog 70 #[.string s, .int .i64 (i : Int), .int .i64 4] w fun e w' => e = .returned (.tuple #[.string c4, .bool b4]) ∧ w = w') := Lib.hid H4
  have HC5 : Hid (∀ w, Calls Tryz.prog 70 #[.string s, .int .i64 (i : Int), .int .i64 5] w fun e w' => e = .returned (.tuple #[.string c5, .bool b5]) ∧ w = w') := Lib.hid H5
  clear y0 n0 y1 n1 y2 n2 H4 H5
  generalize hW : wrd (sf s i) = R
  have HR0 : R = wF 0 (sf s i) := by rw [wF_zero]; exact hW.symm
  have HR := Lib.hid HR0
  clear hW HR0
  go_enter Tryz.func56, Tryz.ntmps56
  go_wp2_with fail
  go_loopw [6] (fun x wr => ∃ (k : Nat) (a : Int), x = .int .i64 a ∧ a = 9 + (k : Int) ∧ k ≤ 3 ∧ Box wr w.heap.size #[.int .i64 0, .int .i64 0, .int .i64 0, .string ⟨#[]⟩, .int .i64 0] ∧ Below w.heap.size w wr ∧ Hid (R = wF k (sf s i))) (fun x _ => 12 - (RowKit.intOf x).toNat)
  case atStart => exact ⟨0, 9, rfl, rfl, by omega, box_new w _, (Below.refl _ _).alloc (Nat.le_refl _) _, HR⟩
  case round =>
    obtain ⟨k, a, rfl, ha, hk, hbx, hb, hh⟩ := hrel
    have hsz := hb.size
    have hk4 : k = 0 ∨ k = 1 ∨ k = 2 ∨ k = 3 := by omega
    rcases hk4 with rfl | rfl | rfl | rfl
    · obtain rfl : a = 9 := by omega
      clear ha hk
      by_cases h : (sf s i).take 4 = [116, 114, 117, 101]
      · have hc := Y0.out h
        have HN := Lib.hid (hh.out.trans (wF_0 h))
        clear Y0 Y1 Y2 N0 N1 N2
        subst hc
        clear h hh
        go_wp2_with (first
          | (go_at_call 70; (with_reducible refine (HC4.out _).mono ?_); rintro e w1 ⟨rfl, rfl⟩)
          | (refine wpList_keep _ rfl _ _ rfl w.heap.size w (hb.alloc hsz _) w.heap.size (Nat.le_refl _) _ _ _ _ _ _ rfl rfl (box_old hbx _) rfl ?_; intro w2 hk5 hb5 _))
        try simp only [Exit.inBlock, Exit.then]
        refine bodyPost_ret (results_tok rfl _ _ _ _ rfl hk5 rfl) rfl ?_
        exact ⟨by rw [HN.out]; rfl, hb5⟩
      · have hc : (c4.toList == [116, 114, 117, 101]) = false := by have := str_neq (N0.out h); rw [Byt.toList_data ⟨#[116, 114, 117, 101]⟩] at this; exact this
        have HN := Lib.hid (hh.out.trans (wF_n0 h))
        clear h hh Y0 Y1 Y2 N0 N1 N2
        go_wp2_with (go_at_call 70; (with_reducible refine (HC4.out _).mono ?_); rintro e w1 ⟨rfl, rfl⟩)
        go_roundw
        case rel => exact ⟨1, _, rfl, by omega, by omega, box_old hbx _, hb.alloc hsz _, HN⟩
        case measure => simp [RowKit.intOf]
    · obtain rfl : a = 10 := by omega
      clear ha hk
      by_cases h : (sf s i).take 5 = [102, 97, 108, 115, 101]
      · have hc := Y1.out h
        have HN := Lib.hid (hh.out.trans (wF_1 h))
        clear Y0 Y1 Y2 N0 N1 N2
        subst hc
        clear h hh
        go_wp2_with (first
          | (go_at_call 70; (with_reducible refine (HC5.out _).mono ?_); rintro e w1 ⟨rfl, rfl⟩)
          | (refine wpList_keep _ rfl _ _ rfl w.heap.size w (hb.alloc hsz _) w.heap.size (Nat.le_refl _) _ _ _ _ _ _ rfl rfl (box_old hbx _) rfl ?_; intro w2 hk5 hb5 _))
        try simp only [Exit.inBlock, Exit.then]
        refine bodyPost_ret (results_tok rfl _ _ _ _ rfl hk5 rfl) rfl ?_
        exact ⟨by rw [HN.out]; rfl, hb5⟩
      · have hc : (c5.toList == [102, 97, 108, 115, 101]) = false := by have := str_neq (N1.out h); rw [Byt.toList_data ⟨#[102, 97, 108, 115, 101]⟩] at this; exact this
        have HN := Lib.hid (hh.out.trans (wF_n1 h))
        clear h hh Y0 Y1 Y2 N0 N1 N2
        go_wp2_with (go_at_call 70; (with_reducible refine (HC5.out _).mono ?_); rintro e w1 ⟨rfl, rfl⟩)
        go_roundw
        case rel => exact ⟨2, _, rfl, by omega, by omega, box_old hbx _, hb.alloc hsz _, HN⟩
        case measure => simp [RowKit.intOf]
    · obtain rfl : a = 11 := by omega
      clear ha hk
      by_cases h : (sf s i).take 4 = [110, 117, 108, 108]
      · have hc := Y2.out h
        have HN := Lib.hid (hh.out.trans (wF_2 h))
        clear Y0 Y1 Y2 N0 N1 N2
        subst hc
        clear h hh
        go_wp2_with (first
          | (go_at_call 70; (with_reducible refine (HC4.out _).mono ?_); rintro e w1 ⟨rfl, rfl⟩)
          | (refine wpList_keep _ rfl _ _ rfl w.heap.size w (hb.alloc hsz _) w.heap.size (Nat.le_refl _) _ _ _ _ _ _ rfl rfl (box_old hbx _) rfl ?_; intro w2 hk5 hb5 _))
        try simp only [Exit.inBlock, Exit.then]
        refine bodyPost_ret (results_tok rfl _ _ _ _ rfl hk5 rfl) rfl ?_
        exact ⟨by rw [HN.out]; rfl, hb5⟩
      · have hc : (c4.toList == [110, 117, 108, 108]) = false := by have := str_neq (N2.out h); rw [Byt.toList_data ⟨#[110, 117, 108, 108]⟩] at this; exact this
        have HN := Lib.hid (hh.out.trans (wF_n2 h))
        clear h hh Y0 Y1 Y2 N0 N1 N2
        go_wp2_with (go_at_call 70; (with_reducible refine (HC4.out _).mono ?_); rintro e w1 ⟨rfl, rfl⟩)
        go_roundw
        case rel => exact ⟨3, _, rfl, by omega, by omega, box_old hbx _, hb.alloc hsz _, HN⟩
        case measure => simp [RowKit.intOf]
    · obtain rfl : a = 12 := by omega
      clear ha hk
      have HN := Lib.hid (hh.out.trans (show wF 3 (sf s i) = (4, bad 0) by unfold wF; simp))
      clear hh Y0 Y1 Y2 N0 N1 N2
      go_wp2_with fail
      refine (fault_any _ _ _).mono ?_
      rintro e w1 ⟨rfl, hb1⟩
      have hb0 : Below w.heap.size w w1 := hb.trans (hb1.mono hsz)
      have hk4 := hbx.next hb1 hbx.lt
      clear hb1
      go_wp2_with (refine wpList_keep _ rfl _ _ rfl w.heap.size w hb0 w.heap.size (Nat.le_refl _) _ _ _ _ _ _ rfl rfl hk4 rfl ?_; intro w2 hk5 hb5 _)
      try simp only [Exit.inBlock, Exit.then]
      refine bodyPost_ret (results_tok rfl _ _ _ _ rfl hk5 rfl) rfl ?_
      exact ⟨by rw [HN.out]; rfl, hb5⟩
end Go.Proofs.YteinaclkpickaaaGreatDoor.Lx
