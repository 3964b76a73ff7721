/- Contracts of the document's short, Hexes, letter, number, escape, Put and Take. Conditions: as each theorem states. -/
import Derived.Test.YtggahjhjapnfeaaDoorQuoD
import Derived.Test.YtggahjhjapnfeaaDoorUtfD
import Derived.Test.YtggahjhjapnfeaaDoorOctF
import Derived.Laws.OwnMore
namespace Go.Proofs.YtggahjhjapnfeaaDoor.Quo
open Go.RowKit Go.Lib Go.Proofs.YtggahjhjapnfeaaDoor.Byt Go.Proofs.YtggahjhjapnfeaaDoor.Oct Go.Proofs.YtggahjhjapnfeaaDoor.Utf

section
variable {ops : Array Oper} {rest : List Oper} {o : Oper} {a : Act} {Q : Exit → Act → World → Prop}
/-- 'append(row, text...)'. -/
theorem wpList_text (W : World) (hg : o.guard = none) (sl x : Operand) (ho : o.op = .call { callee := .builtin .append, args := #[sl, x], argTypes := #[34, 9] })
    (B : Nat) (w0 : World) (v : Value) (l : List UInt8) (hs : a.eval sl = v) (hown : Own W B v l) (hb : Below B w0 W) (hB : B ≤ w0.heap.size) (s : ByteArray) (hx : a.eval x = .string s) (hlim : l.length + s.size ≤ 140737488355328)
    (h : ∀ v' w', Own w' B v' (l ++ s.data.toList) → Below B w0 w' → wpList Tryd.prog ops Q rest (a.put o.dst v') w') : wpList Tryd.prog ops Q (o :: rest) a W := by
  obtain ⟨i0, hi, hz0, hz1, hz2⟩ := info_parts info8
  have hsz := hb.size
  refine Lib.wpList_append_own_string W hg sl x 34 9 ho B 5 i0 Tryd.underlying34 Tryd.underlying9 hi hz0 hz1 hz2 v _ _ hs hown s hx (by unfold maxLen; omega) (by omega) (by omega) ?_
  intro v' w' h1 h2 _
  refine h v' w' ?_ (hb.grown h2 (by omega) (fun k hk => (hown.lt k hk).1))
  unfold Own
  rw [List.length_append, byteCells_append, Lib.size_eq] at *
  exact h1
end
/-- A row that is written out. -/
theorem Own.lit (w : World) (B : Nat) (l : List UInt8) (cs : Array Value) (n : Nat) (hB : B ≤ w.heap.size) (hn : l.length = n) (hcs : cs.toList = byteCells l) (hm : l.length ≤ maxLen) : Own (w.alloc (.cells cs 5)) B (.slice (some ⟨w.heap.size, 0, none⟩) n n) l := by
  subst hn
  unfold Own
  rw [← hcs]
  refine World.ownsRow_lit w cs l.length hB hm ?_
  have := congrArg List.length hcs
  simpa [byteCells] using this

theorem rletter_any (c : Nat) (w : World) : Calls Tryd.prog 43 #[.int .u8 (c : Int)] w fun e w' => e = .returned (if ltN c < 256 then .tuple #[.int .u8 (ltN c : Int), .bool true] else .tuple #[.int .u8 0, .bool false]) ∧ w = w' := by
  by_cases hc : c = 34 ∨ c = 92 ∨ c = 47 ∨ c = 98 ∨ c = 116 ∨ c = 110 ∨ c = 102 ∨ c = 114
  · rcases hc with rfl | rfl | rfl | rfl | rfl | rfl | rfl | rfl
    all_goals
      go_enter Tryd.func43, Tryd.ntmps43
      go_wp2_with fail
      go_ret2
      exact ⟨rfl, rfl⟩
  · have n := fun (m : Nat) (h : c ≠ m) => (show ((c : Int) == (m : Int)) = false by rw [beq_eq_false_iff_ne]; omega)
    have n34 : ((c : Int) == 34) = false := n 34 (by omega)
    have n92 : ((c : Int) == 92) = false := n 92 (by omega)
    have n47 : ((c : Int) == 47) = false := n 47 (by omega)
    have n98 : ((c : Int) == 98) = false := n 98 (by omega)
    have n116 : ((c : Int) == 116) = false := n 116 (by omega)
    have n110 : ((c : Int) == 110) = false := n 110 (by omega)
    have n102 : ((c : Int) == 102) = false := n 102 (by omega)
    have n114 : ((c : Int) == 114) = false := n 114 (by omega)
    have e : ltN c = 256 := by unfold ltN; rw [if_neg (by omega), if_neg (by omega), if_neg (by omega), if_neg (by omega), if_neg (by omega), if_neg (by omega), if_neg (by omega), if_neg (by omega)]
    rw [e, if_neg (by decide)]
    clear e
    clear n hc
    go_enter Tryd.func43, Tryd.ntmps43
    go_wp2_with fail
    go_ret2
    exact ⟨rfl, rfl⟩

/-! ### Hexes -/
theorem hx_at (q : ByteArray) (k : Nat) (n : Nat) (h : k < q.size) : hxF n (q.data.toList.drop k) = if dgA (bt q k) < 16 then hxF (16 * n + dgA (bt q k)) (q.data.toList.drop (k + 1)) else none := by
  have hl : q.data.toList.length = q.size := by simp
  rw [List.drop_eq_getElem_cons (by omega), hxF_cons]
  have e : bt q k = (q.data.toList[k]'(by omega)).toNat := by
    unfold bt
    rw [List.getD_eq_getElem?_getD, List.getElem?_eq_getElem (by omega)]
    rfl
  rw [e]
set_option maxHeartbeats 1000000 in
theorem rhexes_any (s : ByteArray) (a : Int) (w : World) (hs : s.size ≤ 140737488355328) (hi : -9223372036854775808 ≤ a) (hi' : a ≤ 9223372036854775807) :
    Calls Tryd.prog 53 #[.string s, .int .i64 a] w fun e w' => e = .returned (.tuple #[.int .i64 (hN s a : Nat), .bool (hB s a)]) ∧ w = w' := by
  unfold hN hB
  cases h : has s a 4 with
  | false =>
    rw [hO_no s a h]
    have HN2 := Lib.hid (fun w => rcut_no s a 4 w h hs hi hi')
    clear h
    go_enter Tryd.func53, Tryd.ntmps53
    go_wp2_with (go_at_call 54; refine (HN2.out _).mono ?_; rintro e w1 ⟨rfl, rfl⟩)
    go_ret2
    exact ⟨rfl, rfl⟩
  | true =>
    obtain ⟨k, m, rfl, hm, hkm⟩ := has_nat h
    obtain rfl : m = 4 := by omega
    rw [hO_yes s k hkm]
    have HY : Hid (∀ w, Calls Tryd.prog 54 #[.string s, .int .i64 (k : Int), .int .i64 4] w fun e w' => e = .returned (.tuple #[.string (cutB s k 4), .bool true]) ∧ w = w') := Lib.hid (fun w => rcut_yes s k 4 w hkm hs)
    have hz : (cutB s k 4).size = 4 := cutB_size s k 4 hkm
    generalize cutB s k 4 = q at *
    obtain ⟨R, hR⟩ : ∃ R, R = hxF 0 q.data.toList := ⟨_, rfl⟩
    rw [← hR]
    have HR := Lib.hid hR
    have hzi : (q.size : Int) = 4 := by omega
    clear h hm hR
    go_enter Tryd.func53, Tryd.ntmps53
    go_wp2_with (go_at_call 54; refine (HY.out _).mono ?_; rintro e w1 ⟨rfl, rfl⟩)
    go_loop [8, 21] (fun n i => ∃ j acc : Nat, i = .int .i64 (j : Int) ∧ n = .int .i64 (acc : Int) ∧ j ≤ 4 ∧ Hid (acc < 16 ^ j ∧ R = hxF acc (q.data.toList.drop j))) (fun _ i => 4 - (RowKit.intOf i).toNat)
    case atStart => exact ⟨0, 0, rfl, rfl, by omega, Lib.hid ⟨by decide, HR.out⟩⟩
    case round =>
      obtain ⟨j, acc, rfl, rfl, hj, hh⟩ := hrel
      obtain ⟨hacc, hdec⟩ := hh.out
      have ha : acc < 65536 := by
        have := Nat.pow_le_pow_right (n := 16) (by decide) hj
        omega
      clear hh
      by_cases hlt : j < 4
      · have hix := fun w => index_at q j (j : Int) rfl (by omega) w
        have hb := bt_lt q j
        rw [hx_at q j acc (by omega)] at hdec
        generalize bt q j = c at *
        have hcs : (48 ≤ c ∧ c ≤ 57) ∨ (57 < c ∧ c < 65) ∨ (65 ≤ c ∧ c ≤ 70) ∨ (70 < c ∧ c < 97) ∨ (97 ≤ c ∧ c ≤ 102) ∨ 102 < c ∨ c < 48 := by omega
        have hP : dgA c < 16 → 16 * acc + dgA c < 16 ^ (j + 1) := fun h => by rw [Nat.pow_succ]; omega
        rcases hcs with ⟨c0, c1⟩ | ⟨c0, c1⟩ | ⟨c0, c1⟩ | ⟨c0, c1⟩ | ⟨c0, c1⟩ | c0 | c0
        · have e : dgA c = c - 48 := by unfold dgA; rw [if_pos (by omega)]
          rw [if_pos (by omega)] at hdec
          have HH := Lib.hid (And.intro (hP (by omega)) hdec)
          rw [e] at HH
          clear hdec hP hacc e
          go_wp2_with fail
          go_round
          case rel => exact ⟨j + 1, 16 * acc + (c - 48), by go_num, by congr 1; omega, by omega, HH⟩
          case measure => simp [RowKit.intOf]; omega
        · have e : dgA c = 16 := by unfold dgA; rw [if_neg (by omega), if_neg (by omega), if_neg (by omega)]
          rw [if_neg (by omega)] at hdec
          have HH := Lib.hid hdec
          clear hdec hP hacc e
          go_wp2_with fail
          go_ret2
          exact ⟨by rw [HH.out]; rfl, rfl⟩
        · have e : dgA c = c - 55 := by unfold dgA; rw [if_neg (by omega), if_neg (by omega), if_pos (by omega)]
          rw [if_pos (by omega)] at hdec
          have HH := Lib.hid (And.intro (hP (by omega)) hdec)
          rw [e] at HH
          clear hdec hP hacc e
          go_wp2_with fail
          go_round
          case rel => exact ⟨j + 1, 16 * acc + (c - 55), by go_num, by congr 1; omega, by omega, HH⟩
          case measure => simp [RowKit.intOf]; omega
        · have e : dgA c = 16 := by unfold dgA; rw [if_neg (by omega), if_neg (by omega), if_neg (by omega)]
          rw [if_neg (by omega)] at hdec
          have HH := Lib.hid hdec
          clear hdec hP hacc e
          go_wp2_with fail
          go_ret2
          exact ⟨by rw [HH.out]; rfl, rfl⟩
        · have e : dgA c = c - 87 := by unfold dgA; rw [if_neg (by omega), if_pos (by omega)]
          rw [if_pos (by omega)] at hdec
          have HH := Lib.hid (And.intro (hP (by omega)) hdec)
          rw [e] at HH
          clear hdec hP hacc e
          go_wp2_with fail
          go_round
          case rel => exact ⟨j + 1, 16 * acc + (c - 87), by go_num, by congr 1; omega, by omega, HH⟩
          case measure => simp [RowKit.intOf]; omega
        · have e : dgA c = 16 := by unfold dgA; rw [if_neg (by omega), if_neg (by omega), if_neg (by omega)]
          rw [if_neg (by omega)] at hdec
          have HH := Lib.hid hdec
          clear hdec hP hacc e
          go_wp2_with fail
          go_ret2
          exact ⟨by rw [HH.out]; rfl, rfl⟩
        · have e : dgA c = 16 := by unfold dgA; rw [if_neg (by omega), if_neg (by omega), if_neg (by omega)]
          rw [if_neg (by omega)] at hdec
          have HH := Lib.hid hdec
          clear hdec hP hacc e
          go_wp2_with fail
          go_ret2
          exact ⟨by rw [HH.out]; rfl, rfl⟩
      · obtain rfl : j = 4 := by omega
        have HH := Lib.hid (show R = some acc by rw [hdec, List.drop_eq_nil_of_le (by rw [Array.length_toList]; exact Nat.le_of_eq hz)]; rfl)
        clear hdec hacc
        go_wp2_with fail
        go_ret2
        exact ⟨by rw [HH.out]; rfl, rfl⟩
end Go.Proofs.YtggahjhjapnfeaaDoor.Quo
