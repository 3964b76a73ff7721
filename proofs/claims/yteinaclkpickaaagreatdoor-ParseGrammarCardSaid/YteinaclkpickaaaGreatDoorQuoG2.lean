/- Contracts of the document's short, Hexes, letter, number, escape, Put and Take. Conditions: as each theorem states. · Contracts of the document's number and escape. Conditions: as each theorem states. · Contracts of the document's Put and Take. Conditions: as each theorem states. -/
import Derived.Test.YteinaclkpickaaaGreatDoorQuoG1
import Derived.Test.YteinaclkpickaaaGreatDoorUtfD
import Derived.Test.YteinaclkpickaaaGreatDoorOctG1
import Derived.Laws.OwnMore
namespace Go.Proofs.YteinaclkpickaaaGreatDoor.Quo
open Go.RowKit Go.Lib Go.Proofs.YteinaclkpickaaaGreatDoor.Byt Go.Proofs.YteinaclkpickaaaGreatDoor.Oct Go.Proofs.YteinaclkpickaaaGreatDoor.Utf

section
variable {ops : Array Oper} {rest : List Oper} {o : Oper} {a : Act} {Q : Exit → Act → World → Prop}
/-- 'append(row, text...)'. -/
theorem wpList_text (W : World) (hg : o.guard = none) (sl x : Operand) (ho : o.op = .call { callee := .builtin .append, args := #[sl, x], argTypes := #[86, 9] })
    (B : Nat) (w0 : World) (v : Value) (l : List UInt8) (hs : a.eval sl = v) (hown : Own W B v l) (hb : Below B w0 W) (hB : B ≤ w0.heap.size) (s : ByteArray) (hx : a.eval x = .string s) (hlim : l.length + s.size ≤ 140737488355328)
    (h : ∀ v' w', Own w' B v' (l ++ s.data.toList) → Below B w0 w' → wpList Tryz.prog ops Q rest (a.put o.dst v') w') : wpList Tryz.prog ops Q (o :: rest) a W := by
  obtain ⟨i0, hi, hz0, hz1, hz2⟩ := info_parts info8
  have hsz := hb.size
  refine Lib.wpList_append_own_string W hg sl x 86 9 ho B 5 i0 Tryz.underlying86 Tryz.underlying9 hi hz0 hz1 hz2 v _ _ hs hown s hx (by unfold maxLen; omega) (by omega) (by omega) ?_
  intro v' w' h1 h2 _
  refine h v' w' ?_ (hb.grown h2 (by omega) (fun k hk => (hown.lt k hk).1))
  unfold Own
  rw [List.length_append, byteCells_append, Lib.size_eq] at *
  exact h1
end
/-- A row that is written out. -/
theorem Own.lit (w : World) (B : Nat) (l : List UInt8) (cs : Array Value) (n : Nat) (hB : B ≤ w.heap.size) (hn : l.length = n) (hcs : cs.toList = byteCells l) (hm : l.length ≤ maxLen) : Own (w.alloc (.cells cs 5)) B (.slice (some ⟨w.heap.size, 0, none⟩) n n) l := by
  subst hn
  unfold Own
  rw [← hcs]
  refine World.ownsRow_lit w cs l.length hB hm ?_
  have := congrArg List.length hcs
  simpa [byteCells] using this

theorem rletter_any (c : Nat) (w : World) : Calls Tryz.prog 79 #[.int .u8 (c : Int)] w fun e w' => e = .returned (if ltN c < 256 then .tuple #[.int .u8 (ltN c : Int), .bool true] else .tuple #[.int .u8 0, .bool false]) ∧ w = w' := by
  by_cases hc : c = 34 ∨ c = 92 ∨ c = 47 ∨ c = 98 ∨ c = 116 ∨ c = 110 ∨ c = 102 ∨ c = 114
  · rcases hc with rfl | rfl | rfl | rfl | rfl | rfl | rfl | rfl
    all_goals
      go_enter Tryz.func79, Tryz.ntmps79
      go_wp2_with fail
      go_ret2
      exact ⟨rfl, rfl⟩
  · have n := fun (m : Nat) (h : c ≠ m) => (show ((c : Int) == (m : Int)) = false by rw [beq_eq_false_iff_ne]; omega)
    have n34 : ((c : Int) == 34) = false := n 34 (by omega)
    have n92 : ((c : Int) == 92) = false := n 92 (by omega)
    have n47 : ((c : Int) == 47) = false := n 47 (by omega)
    have n98 : ((c : Int) == 98) = false := n 98 (by omega)
    have n116 : ((c : Int) == 116) = false := n 116 (by omega)
    have n110 : ((c : Int) == 110) = false := n 110 (by omega)
    have n102 : ((c : Int) == 102) = false := n 102 (by omega)
    have n114 : ((c : Int) == 114) = false := n 114 (by omega)
    have e : ltN c = 256 := by unfold ltN; rw [if_neg (by omega), if_neg (by omega), if_neg (by omega), if_neg (by omega), if_neg (by omega), if_neg (by omega), if_neg (by omega), if_neg (by omega)]
    rw [e, if_neg (by decide)]
    clear e
    clear n hc
    go_enter Tryz.func79, Tryz.ntmps79
    go_wp2_with fail
    go_ret2
    exact ⟨rfl, rfl⟩

/-! ### Hexes -/
theorem hx_at (q : ByteArray) (k : Nat) (n : Nat) (h : k < q.size) : hxF n (q.data.toList.drop k) = if dgA (bt q k) < 16 then hxF (16 * n + dgA (bt q k)) (q.data.toList.drop (k + 1)) else none := by
  have hl : q.data.toList.length = q.size := by simp
  rw [List.drop_eq_getElem_cons (by omega), hxF_cons]
  have e : bt q k = (q.data.toList[k]'(by omega)).toNat := by
    unfold bt
    rw [List.getD_eq_getElem?_getD, List.getElem?_eq_getElem (by omega)]
    rfl
  rw [e]
set_option maxHeartbeats 1000000 in
theorem rhexes_any (s : ByteArray) (a : Int) (w : World) (hs : s.size ≤ 140737488355328) (hi : -9223372036854775808 ≤ a) (hi' : a ≤ 9223372036854775807) :
    Calls Tryz.prog 94 #[.string s, .int .i64 a] w fun e w' => e = .returned (.tuple #[.int .i64 (hN s a : Nat), .bool (hB s a)]) ∧ w = w' := by
  unfold hN hB
  cases h : has s a 4 with
  | false =>
    rw [hO_no s a h]
    have HN2 := Lib.hid (fun w => rcut_no s a 4 w h hs hi hi')
    clear h
    go_enter Tryz.func94, Tryz.ntmps94
    go_wp2_with (go_at_call 70; refine (HN2.out _).mono ?_; rintro e w1 ⟨rfl, rfl⟩)
    go_ret2
    exact ⟨rfl, rfl⟩
  | true =>
    obtain ⟨k, m, rfl, hm, hkm⟩ := has_nat h
    obtain rfl : m = 4 := by omega
    rw [hO_yes s k hkm]
    have HY : Hid (∀ w, Calls Tryz.prog 70 #[.string s, .int .i64 (k : Int), .int .i64 4] w fun e w' => e = .returned (.tuple #[.string (cutB s k 4), .bool true]) ∧ w = w') := Lib.hid (fun w => rcut_yes s k 4 w hkm hs)
    have hz : (cutB s k 4).size = 4 := cutB_size s k 4 hkm
    generalize cutB s k 4 = q at *
    obtain ⟨R, hR⟩ : ∃ R, R = hxF 0 q.data.toList := ⟨_, rfl⟩
    rw [← hR]
    have HR := Lib.hid hR
    have hzi : (q.size : Int) = 4 := by omega
    clear h hm hR
    go_enter Tryz.func94, Tryz.ntmps94
    go_wp2_with (go_at_call 70; refine (HY.out _).mono ?_; rintro e w1 ⟨rfl, rfl⟩)
    go_loop [8, 21] (fun n i => ∃ j acc : Nat, i = .int .i64 (j : Int) ∧ n = .int .i64 (acc : Int) ∧ j ≤ 4 ∧ Hid (acc < 16 ^ j ∧ R = hxF acc (q.data.toList.drop j))) (fun _ i => 4 - (RowKit.intOf i).toNat)
    case atStart => exact ⟨0, 0, rfl, rfl, by omega, Lib.hid ⟨by decide, HR.out⟩⟩
    case round =>
      obtain ⟨j, acc, rfl, rfl, hj, hh⟩ := hrel
      obtain ⟨hacc, hdec⟩ := hh.out
      have ha : acc < 65536 := by
        have := Nat.pow_le_pow_right (n := 16) (by decide) hj
        omega
      clear hh
      by_cases hlt : j < 4
      · have hix := fun w => index_at q j (j : Int) rfl (by omega) w
        have hb := bt_lt q j
        rw [hx_at q j acc (by omega)] at hdec
        generalize bt q j = c at *
        have hcs : (48 ≤ c ∧ c ≤ 57) ∨ (57 < c ∧ c < 65) ∨ (65 ≤ c ∧ c ≤ 70) ∨ (70 < c ∧ c < 97) ∨ (97 ≤ c ∧ c ≤ 102) ∨ 102 < c ∨ c < 48 := by omega
        have hP : dgA c < 16 → 16 * acc + dgA c < 16 ^ (j + 1) := fun h => by rw [Nat.pow_succ]; omega
        rcases hcs with ⟨c0, c1⟩ | ⟨c0, c1⟩ | ⟨c0, c1⟩ | ⟨c0, c1⟩ | ⟨c0, c1⟩ | c0 | c0
        · have e : dgA c = c - 48 := by unfold dgA; rw [if_pos (by omega)]
          rw [if_pos (by omega)] at hdec
          have HH := Lib.hid (And.intro (hP (by omega)) hdec)
          rw [e] at HH
          clear hdec hP hacc e
          go_wp2_with fail
          go_round
          case rel => exact ⟨j + 1, 16 * acc + (c - 48), by go_num, by congr 1; omega, by omega, HH⟩
          case measure => simp [RowKit.intOf]; omega
        · have e : dgA c = 16 := by unfold dgA; rw [if_neg (by omega), if_neg (by omega), if_neg (by omega)]
          rw [if_neg (by omega)] at hdec
          have HH := Lib.hid hdec
          clear hdec hP hacc e
          go_wp2_with fail
          go_ret2
          exact ⟨by rw [HH.out]; rfl, rfl⟩
        · have e : dgA c = c - 55 := by unfold dgA; rw [if_neg (by omega), if_neg (by omega), if_pos (by omega)]
          rw [if_pos (by omega)] at hdec
          have HH := Lib.hid (And.intro (hP (by omega)) hdec)
          rw [e] at HH
          clear hdec hP hacc e
          go_wp2_with fail
          go_round
          case rel => exact ⟨j + 1, 16 * acc + (c - 55), by go_num, by congr 1; omega, by omega, HH⟩
          case measure => simp [RowKit.intOf]; omega
        · have e : dgA c = 16 := by unfold dgA; rw [if_neg (by omega), if_neg (by omega), if_neg (by omega)]
          rw [if_neg (by omega)] at hdec
          have HH := Lib.hid hdec
          clear hdec hP hacc e
          go_wp2_with fail
          go_ret2
          exact ⟨by rw [HH.out]; rfl, rfl⟩
        · have e : dgA c = c - 87 := by unfold dgA; rw [if_neg (by omega), if_pos (by omega)]
          rw [if_pos (by omega)] at hdec
          have HH := Lib.hid (And.intro (hP (by omega)) hdec)
          rw [e] at HH
          clear hdec hP hacc e
          go_wp2_with fail
          go_round
          case rel => exact ⟨j + 1, 16 * acc + (c - 87), by go_num, by congr 1; omega, by omega, HH⟩
          case measure => simp [RowKit.intOf]; omega
        · have e : dgA c = 16 := by unfold dgA; rw [if_neg (by omega), if_neg (by omega), if_neg (by omega)]
          rw [if_neg (by omega)] at hdec
          have HH := Lib.hid hdec
          clear hdec hP hacc e
          go_wp2_with fail
          go_ret2
          exact ⟨by rw [HH.out]; rfl, rfl⟩
        · have e : dgA c = 16 := by unfold dgA; rw [if_neg (by omega), if_neg (by omega), if_neg (by omega)]
          rw [if_neg (by omega)] at hdec
          have HH := Lib.hid hdec
          clear hdec hP hacc e
          go_wp2_with fail
          go_ret2
          exact ⟨by rw [HH.out]; rfl, rfl⟩
      · obtain rfl : j = 4 := by omega
        have HH := Lib.hid (show R = some acc by rw [hdec, List.drop_eq_nil_of_le (by rw [Array.length_toList]; exact Nat.le_of_eq hz)]; rfl)
        clear hdec hacc
        go_wp2_with fail
        go_ret2
        exact ⟨by rw [HH.out]; rfl, rfl⟩
end Go.Proofs.YteinaclkpickaaaGreatDoor.Quo

namespace Go.Proofs.YteinaclkpickaaaGreatDoor.Quo
open Go.RowKit Go.Lib Go.Proofs.YteinaclkpickaaaGreatDoor.Byt Go.Proofs.YteinaclkpickaaaGreatDoor.Oct Go.Proofs.YteinaclkpickaaaGreatDoor.Utf

theorem nO_cut (s : ByteArray) (i : Nat) : nO (dr s i) = if cutS s (i : Int) 2 = ⟨#[92, 117]⟩ then hO s ((i : Int) + 2) else none := by
  unfold cutS
  cases h : has s (i : Int) 2 with
  | false =>
    rw [nO_short s i h, if_neg]
    simp only [Bool.false_eq_true, if_false]
    intro h2
    have := congrArg ByteArray.size h2
    exact absurd this (by decide)
  | true =>
    simp only [if_true]
    rw [show ((i : Int)).toNat = i from rfl, show ((2 : Int)).toNat = 2 from rfl]
    by_cases hc : cutB s i 2 = ⟨#[92, 117]⟩
    · rw [if_pos hc, nO_mark s i hc]
    · rw [if_neg hc, nO_other s i hc]

/-- What the document's number hands back. -/
def rN (n : Nat) (o : Option Nat) : Value := if vB (nP n o).1 = true then .tuple #[.int .i64 ((nP n o).1 : Int), .int .i64 ((nP n o).2 - 1 : Nat), .int .i64 0] else .tuple #[.int .i64 0, .int .i64 0, .int .i64 8]
theorem rN_yes {n r k : Nat} {o : Option Nat} (h : nP n o = (r, k + 1)) (hv : vB r = true) : rN n o = .tuple #[.int .i64 (r : Int), .int .i64 (k : Int), .int .i64 0] := by
  unfold rN; rw [h]; simp only; rw [if_pos hv]; rfl
theorem rN_no {n : Nat} {o : Option Nat} (h : nP n o = (n, 6)) (hv : vB n = false) : rN n o = .tuple #[.int .i64 0, .int .i64 0, .int .i64 8] := by
  unfold rN; rw [h]; simp only; rw [if_neg (by rw [hv]; simp)]
theorem nP_no {n m : Nat} (h : ¬ ((55296 ≤ n ∧ n ≤ 56319) ∧ 56320 ≤ m ∧ m ≤ 57343)) : nP n (some m) = (n, 6) := by
  unfold nP; simp only; rw [show pr n m = false from decide_eq_false h, if_neg (by simp)]
theorem nP_yes {n m : Nat} (h : (55296 ≤ n ∧ n ≤ 56319) ∧ 56320 ≤ m ∧ m ≤ 57343) : nP n (some m) = (65536 + (n - 55296) * 1024 + (m - 56320), 12) := by
  unfold nP; simp only; rw [show pr n m = true from decide_eq_true h, if_pos rfl]
theorem isSome_getD {o : Option Nat} (h : o.isSome = true) : o = some (o.getD 0) := by cases o with
  | none => cases h
  | some m => rfl
theorem isSome_none {o : Option Nat} (h : o.isSome = false) : o = none := by cases o with
  | none => rfl
  | some m => cases h

set_option maxRecDepth 100000 in
set_option maxHeartbeats 1000000 in
theorem rnumber_at (s : ByteArray) (i : Nat) (y : Int) (hy : y = (i : Int) + 1) (w : World) (hs : s.size ≤ 1000000) (hi : i ≤ 1000000) :
    Calls Tryz.prog 80 #[.string s, .int .i64 y] w fun e w' => e = .returned (match hO s ((i : Int) + 2) with | none => .tuple #[.int .i64 0, .int .i64 0, .int .i64 4] | some n => rN n (nO (dr s (i + 6)))) ∧ w = w' := by
  have y0 : 0 ≤ y := by omega
  have y1 : y ≤ 2000000 := by omega
  have HX2 := Lib.hid (fun w => rhexes_any s (y + 1) w (by omega) (by omega) (by omega))
  have HX8 := Lib.hid (fun w => rhexes_any s (y + 7) w (by omega) (by omega) (by omega))
  have HC := Lib.hid (fun w => rcut_any s (y + 5) 2 w (by omega) (by omega) (by omega))
  have HO := nO_cut s (i + 6)
  rw [show ((i + 6 : Nat) : Int) = y + 5 by omega, show y + 5 + 2 = y + 7 by omega] at HO
  rw [show (i : Int) + 2 = y + 1 by omega]
  unfold hN hB at HX2 HX8
  clear hy
  cases h1 : hO s (y + 1) with
  | none =>
    rw [h1] at HX2
    clear HO h1
    simp only
    go_enter Tryz.func80, Tryz.ntmps80
    go_wp2_with (go_at_call 94; (with_reducible refine (HX2.out _).mono ?_); rintro e w1 ⟨rfl, rfl⟩)
    go_ret3
    exact ⟨rfl, rfl⟩
  | some n =>
    have hn : n < 65536 := by
      unfold hO at h1
      rw [if_pos (by omega)] at h1
      exact (h4_lt h1).1
    have HX2b : Hid (∀ w, Calls Tryz.prog 94 #[.string s, .int .i64 (y + 1)] w fun e w' => e = .returned (.tuple #[.int .i64 (n : Int), .bool true]) ∧ w = w') := Lib.hid (by
      have := HX2.out; rw [h1] at this; exact this)
    simp only
    clear HX2 h1
    by_cases c0 : n < 55296 ∨ 57343 < n
    · have hv : vB n = true := by unfold vB; simp only [decide_eq_true_eq]; omega
      rw [rN_yes (k := 5) (nP_low (by omega) _) hv]
      clear HO hv
      rcases c0 with c0 | c0
      · go_enter Tryz.func80, Tryz.ntmps80
        go_wp2_with (go_at_call 94; (with_reducible refine (HX2b.out _).mono ?_); rintro e w1 ⟨rfl, rfl⟩)
        go_ret3
        exact ⟨rfl, rfl⟩
      · have c1 : 55296 ≤ n := by omega
        go_enter Tryz.func80, Tryz.ntmps80
        go_wp2_with (go_at_call 94; (with_reducible refine (HX2b.out _).mono ?_); rintro e w1 ⟨rfl, rfl⟩)
        go_ret3
        exact ⟨rfl, rfl⟩
    · have b0 : 55296 ≤ n := by omega
      have b1 : n ≤ 57343 := by omega
      have hv : vB n = false := by unfold vB; simp only [decide_eq_false_iff_not]; omega
      clear c0
      generalize nO (dr s (i + 6)) = o at *
      generalize hO s (y + 7) = p at *
      generalize cutS s (y + 5) 2 = q at *
      generalize has s (y + 5) 2 = hb at *
      by_cases c1 : 56319 < n
      · rw [rN_no (nP_low (by omega) _) hv]
        clear HO hv
        generalize p.getD 0 = m at *
        generalize p.isSome = pb at *
        go_enter Tryz.func80, Tryz.ntmps80
        go_wp2_with (first
          | (go_at_call 94; first | ((with_reducible refine (HX2b.out _).mono ?_); rintro e w1 ⟨rfl, rfl⟩) | ((with_reducible refine (HX8.out _).mono ?_); rintro e w1 ⟨rfl, rfl⟩))
          | (go_at_call 70; refine (HC.out _).mono ?_; rintro e w1 ⟨rfl, rfl⟩))
        go_ret3
        exact ⟨rfl, rfl⟩
      · have c2 : n ≤ 56319 := by omega
        by_cases hq : q = ⟨#[92, 117]⟩
        · subst hq
          rw [if_pos rfl] at HO
          subst HO
          cases hp : o.isSome with
          | false =>
            obtain rfl := isSome_none hp
            rw [rN_no rfl hv]
            clear hv hp
            go_enter Tryz.func80, Tryz.ntmps80
            go_wp2_with (first
              | (go_at_call 94; first | ((with_reducible refine (HX2b.out _).mono ?_); rintro e w1 ⟨rfl, rfl⟩) | ((with_reducible refine (HX8.out _).mono ?_); rintro e w1 ⟨rfl, rfl⟩))
              | (go_at_call 70; refine (HC.out _).mono ?_; rintro e w1 ⟨rfl, rfl⟩))
            go_ret3
            exact ⟨rfl, rfl⟩
          | true =>
            have ho := isSome_getD hp
            rw [hp] at HX8
            generalize o.getD 0 = m at *
            subst ho
            clear hp
            have cm : m < 56320 ∨ (56320 ≤ m ∧ 57343 < m) ∨ (56320 ≤ m ∧ m ≤ 57343) := by omega
            rcases cm with m0 | ⟨m0, m1⟩ | ⟨m0, m1⟩
            · rw [rN_no (nP_no (by omega)) hv]
              clear hv
              go_enter Tryz.func80, Tryz.ntmps80
              go_wp2_with (first
                | (go_at_call 94; first | ((with_reducible refine (HX2b.out _).mono ?_); rintro e w1 ⟨rfl, rfl⟩) | ((with_reducible refine (HX8.out _).mono ?_); rintro e w1 ⟨rfl, rfl⟩))
                | (go_at_call 70; refine (HC.out _).mono ?_; rintro e w1 ⟨rfl, rfl⟩))
              go_ret3
              exact ⟨rfl, rfl⟩
            · rw [rN_no (nP_no (by omega)) hv]
              clear hv
              go_enter Tryz.func80, Tryz.ntmps80
              go_wp2_with (first
                | (go_at_call 94; first | ((with_reducible refine (HX2b.out _).mono ?_); rintro e w1 ⟨rfl, rfl⟩) | ((with_reducible refine (HX8.out _).mono ?_); rintro e w1 ⟨rfl, rfl⟩))
                | (go_at_call 70; refine (HC.out _).mono ?_; rintro e w1 ⟨rfl, rfl⟩))
              go_ret3
              exact ⟨rfl, rfl⟩
            · obtain ⟨r, hr⟩ : ∃ r, r = 65536 + (n - 55296) * 1024 + (m - 56320) := ⟨_, rfl⟩
              rw [rN_yes (k := 11) (r := r) (by rw [hr]; exact nP_yes (by omega)) (by unfold vB; simp only [decide_eq_true_eq]; omega)]
              have HR := Lib.hid (show 65536 + ((n : Int) - 55296) * 1024 + (m : Int) - 56320 = (r : Int) by omega)
              have hm : m < 65536 := by omega
              clear hv hr
              go_enter Tryz.func80, Tryz.ntmps80
              go_wp2_with (first
                | (go_at_call 94; first | ((with_reducible refine (HX2b.out _).mono ?_); rintro e w1 ⟨rfl, rfl⟩) | ((with_reducible refine (HX8.out _).mono ?_); rintro e w1 ⟨rfl, rfl⟩))
                | (go_at_call 70; refine (HC.out _).mono ?_; rintro e w1 ⟨rfl, rfl⟩))
              go_ret3
              exact ⟨by rw [← HR.out]; rfl, rfl⟩
        · rw [if_neg hq] at HO
          subst HO
          rw [rN_no rfl hv]
          have hne : (q.toList == [92, 117]) = false := by
            have h2 := str_neq hq
            rwa [Byt.toList_data ⟨#[92, 117]⟩] at h2
          clear hv hq
          generalize p.getD 0 = m at *
          generalize p.isSome = pb at *
          go_enter Tryz.func80, Tryz.ntmps80
          go_wp2_with (first
            | (go_at_call 94; first | ((with_reducible refine (HX2b.out _).mono ?_); rintro e w1 ⟨rfl, rfl⟩) | ((with_reducible refine (HX8.out _).mono ?_); rintro e w1 ⟨rfl, rfl⟩))
            | (go_at_call 70; refine (HC.out _).mono ?_; rintro e w1 ⟨rfl, rfl⟩))
          go_ret3
          exact ⟨rfl, rfl⟩

/-! ### escape -/
theorem nO_not (s : ByteArray) (i : Nat) (h : bt s (i + 1) ≠ 117) : nO (dr s i) = none := by
  unfold nO
  refine if_neg fun h2 => h ?_
  rw [← dr_get s i 1]
  have h3 : ((dr s i).take 2).getD 1 0 = 117 := by rw [h2]; rfl
  rw [List.getD_eq_getElem?_getD, List.getElem?_take, if_pos (by decide), ← List.getD_eq_getElem?_getD] at h3
  rw [h3]; rfl
theorem nO_is (s : ByteArray) (i : Nat) (h0 : bt s i = 92) (h : bt s (i + 1) = 117) (hs : i + 2 ≤ s.size) : nO (dr s i) = hO s ((i : Int) + 2) := by
  unfold nO hO
  have g0 := dr_get s i 0
  have g1 := dr_get s i 1
  have hl := dr_len s i
  rw [show i + 0 = i from rfl, h0] at g0
  rw [h] at g1
  rw [if_pos (show (0 : Int) ≤ (i : Int) + 2 by omega), show ((i : Int) + 2).toNat = i + 2 by omega]
  change _ = h4 (dr s (i + 2))
  rw [← dr_drop]
  cases hd : dr s i with
  | nil => rw [hd, List.length_nil] at hl; omega
  | cons a t =>
    cases t with
    | nil => rw [hd, List.length_cons, List.length_nil] at hl; omega
    | cons b t =>
      rw [hd] at g0 g1
      simp only [List.getD_cons_zero, List.getD_cons_succ] at g0 g1
      have ea : a = 92 := UInt8.toNat_inj.1 (by rw [g0]; rfl)
      have eb : b = 117 := UInt8.toNat_inj.1 (by rw [g1]; rfl)
      subst ea eb
      rw [if_pos (by simp)]
theorem rput_one (n : Nat) (hn : n ≤ 2000000) (hv : vB n = true) (T : TypeId) (w : World) :
    Calls Tryz.prog 81 #[.slice (some ⟨w.heap.size, 0, none⟩) 1 1] (w.alloc (.cells #[.int .i64 (n : Int)] T)) fun e w' =>
      e = .returned (.tuple #[.string ⟨(encodeRune (n : Int)).toArray⟩, .bool true]) ∧ Below w.heap.size w w' := by
  refine (rput_any _ [(n : Int)] _ (row_one w n T) (by simp) (by intro m hm; rw [List.mem_singleton] at hm; omega)).mono ?_
  rintro e w' ⟨rfl, hb⟩
  refine ⟨?_, ((Below.refl _ w).alloc (Nat.le_refl _) _).trans (hb.mono (by simp))⟩
  have e1 : pB [(n : Int)] = true := by unfold pB; simp [vI_vB, hv]
  rw [e1, pS_yes e1]
  simp [encZ]
/-- What the document's escape hands back. -/
def rE (p : Nat × Nat × List UInt8) : Value := .tuple #[.string ⟨p.2.2.toArray⟩, .int .i64 ((p.2.1 - 1 : Nat) : Int), .int .i64 (p.1 : Int)]
theorem one_u8 (m : Nat) (x : Int) (hm : m < 256) (h : x = (m : Int)) : (#[Value.int .u8 x]).toList = byteCells [UInt8.ofNat m] := by
  subst h
  have := ofNat_toNat m hm
  simp [byteCells, this]
set_option maxRecDepth 100000 in
set_option maxHeartbeats 1000000 in
theorem rescape_at (s : ByteArray) (i : Nat) (y : Int) (hy : y = (i : Int) + 1) (w : World) (hs : s.size ≤ 1000000) (hi : i < s.size) (h92 : bt s i = 92) :
    Calls Tryz.prog 67 #[.string s, .int .i64 y] w fun e w' => e = .returned (rE (escL (dr s i))) ∧ Below w.heap.size w w' := by
  unfold escL
  rw [dr_get]
  have HN := Lib.hid (fun w => rnumber_at s i y hy w hs (by omega))
  by_cases hlt : i + 1 < s.size
  · have hix := fun w => index_at s (i + 1) y (by omega) hlt w
    have hb := bt_lt s (i + 1)
    have HL := Lib.hid (fun w => rletter_any (bt s (i + 1)) w)
    have y1 : y < (s.size : Int) := by omega
    have y0 : 0 ≤ y := by omega
    clear hy
    by_cases hl : ltN (bt s (i + 1)) < 256
    · rw [if_pos hl] at HL ⊢
      have HLT := Lib.hid hl
      generalize ltN (bt s (i + 1)) = m at *
      generalize bt s (i + 1) = c at *
      have HO := Lib.hid (Own.lit w w.heap.size [UInt8.ofNat m] #[.int .u8 (m : Int)] 1 (Nat.le_refl _) rfl (one_u8 m _ hl rfl) (by unfold maxLen; simp))
      have hstr : (⟨[UInt8.ofNat m].toArray⟩ : ByteArray) = ⟨#[UInt8.ofNat m]⟩ := rfl
      unfold rE
      simp only
      clear hl HN HLT
      go_enter Tryz.func67, Tryz.ntmps67
      go_wp2_with (first
        | (go_at_call 79; (with_reducible refine (HL.out _).mono ?_); rintro e w1 ⟨rfl, rfl⟩)
        | (with_reducible refine wpList_string _ rfl _ rfl _ _ _ rfl HO.out ?_))
      go_ret3
      exact ⟨rfl, (Below.refl _ w).alloc (Nat.le_refl _) _⟩
    · rw [if_neg hl] at HL ⊢
      by_cases hu : bt s (i + 1) = 117
      · rw [nO_is s i h92 hu (by omega), dr_drop]
        rw [hu] at hix HL
        clear hl hb hu
        cases hn : hO s ((i : Int) + 2) with
        | none =>
          rw [hn] at HN
          unfold rE
          simp only at HN ⊢
          clear hn
          go_enter Tryz.func67, Tryz.ntmps67
          go_wp2_with (first
            | (go_at_call 79; refine (HL.out _).mono ?_; rintro e w1 ⟨rfl, rfl⟩)
            | (go_at_call 80; refine (HN.out _).mono ?_; rintro e w1 ⟨rfl, rfl⟩))
          go_ret3
          exact ⟨rfl, Below.refl _ _⟩
        | some n =>
          rw [hn] at HN
          simp only at HN ⊢
          clear hn
          cases hv : vB (nP n (nO (dr s (i + 6)))).1 with
          | false =>
            unfold rN at HN
            rw [hv, if_neg (by simp)] at HN
            rw [if_neg (by simp)]
            unfold rE
            simp only
            clear hv
            go_enter Tryz.func67, Tryz.ntmps67
            go_wp2_with (first
              | (go_at_call 79; refine (HL.out _).mono ?_; rintro e w1 ⟨rfl, rfl⟩)
              | (go_at_call 80; refine (HN.out _).mono ?_; rintro e w1 ⟨rfl, rfl⟩))
            go_ret3
            exact ⟨rfl, Below.refl _ _⟩
          | true =>
            unfold rN at HN
            rw [hv, if_pos rfl] at HN
            rw [if_pos rfl]
            unfold rE
            simp only
            have hr : (nP n (nO (dr s (i + 6)))).1 ≤ 2000000 := by unfold vB at hv; simp only [decide_eq_true_eq] at hv; omega
            generalize nP n (nO (dr s (i + 6))) = p at *
            obtain ⟨r, k⟩ := p
            simp only at *
            have HP := Lib.hid (fun T w => rput_one r hr hv T w)
            generalize (⟨(encodeRune ((r : Nat) : Int)).toArray⟩ : ByteArray) = q at *
            generalize k - 1 = j at *
            clear hv
            go_enter Tryz.func67, Tryz.ntmps67
            go_wp2_with (first
              | (go_at_call 79; refine (HL.out _).mono ?_; rintro e w1 ⟨rfl, rfl⟩)
              | (go_at_call 80; refine (HN.out _).mono ?_; rintro e w1 ⟨rfl, rfl⟩)
              | (go_at_call 81; refine (HP.out _ _).mono ?_; rintro e w2 ⟨rfl, hb2⟩))
            go_ret3
            exact ⟨rfl, hb2⟩
      · rw [nO_not s i hu]
        have hnu : ((bt s (i + 1) : Int) != 117) = true := by rw [bne_iff_ne]; omega
        generalize bt s (i + 1) = c at *
        unfold rE
        simp only
        clear hl hu
        go_enter Tryz.func67, Tryz.ntmps67
        go_wp2_with (go_at_call 79; refine (HL.out _).mono ?_; rintro e w1 ⟨rfl, rfl⟩)
        go_ret3
        exact ⟨rfl, Below.refl _ _⟩
  · have hz : bt s (i + 1) = 0 := bt_out s (i + 1) (by omega)
    rw [hz, if_neg (by decide), nO_not s i (by omega)]
    have y1 : (s.size : Int) ≤ y := by omega
    clear hy
    unfold rE
    simp only
    clear hz HN
    go_enter Tryz.func67, Tryz.ntmps67
    go_wp2_with fail
    go_ret3
    exact ⟨rfl, Below.refl _ _⟩
end Go.Proofs.YteinaclkpickaaaGreatDoor.Quo

namespace Go.Proofs.YteinaclkpickaaaGreatDoor.Quo
open Go.RowKit Go.Lib Go.Proofs.YteinaclkpickaaaGreatDoor.Byt Go.Proofs.YteinaclkpickaaaGreatDoor.Oct Go.Proofs.YteinaclkpickaaaGreatDoor.Utf

theorem own_next {w w' : World} {B : Nat} {v : Value} {l : List UInt8} (h : Own w B v l) (hb : Below w.heap.size w w') : Own w' B v l := by
  refine ⟨h.1, ?_⟩
  rcases h.2 with hn | ⟨g, cap, cur, hv, hbg, hg, rest⟩
  · exact .inl hn
  · have hg2 : g < w.heap.size := by
      rcases Nat.lt_or_ge g w.heap.size with h' | h'
      · exact h'
      · simp [Array.getElem?_eq_none h'] at hg
    exact .inr ⟨g, cap, cur, hv, hbg, (hb.block g hg2).trans hg, rest⟩
theorem qL_take (s : ByteArray) (k : Nat) (h : k < s.size) : qL (s.data.toList.take (k + 1)) = qL (s.data.toList.take k) ++ qB (UInt8.ofNat (bt s k)) := by
  have hl : s.data.toList.length = s.size := by simp
  have e : UInt8.ofNat (bt s k) = s.data.toList[k]'(by omega) := by
    apply UInt8.toNat_inj.1
    rw [ofNat_toNat _ (bt_lt s k)]
    unfold bt
    rw [List.getD_eq_getElem?_getD, List.getElem?_eq_getElem (by omega)]
    rfl
  rw [List.take_add_one, List.getElem?_eq_getElem (by omega), qL_append, e]
  simp [qL]
theorem qL_take_len (s : ByteArray) (k : Nat) : (qL (s.data.toList.take k)).length ≤ 6 * s.size := by
  have h1 := qL_len (s.data.toList.take k)
  have h2 : (s.data.toList.take k).length ≤ s.size := by rw [List.length_take]; have : s.data.toList.length = s.size := by simp
                                                         omega
  omega
theorem two_u8 (m : Nat) (x : Int) (hm : m < 256) (h : x = (m : Int)) : (#[Value.int .u8 92, .int .u8 x]).toList = byteCells [92, UInt8.ofNat m] := by
  subst h
  have := ofNat_toNat m hm
  simp [byteCells, this]
theorem shN_lt (c : Nat) : shN c < 256 := by unfold shN; repeat' split
                                             all_goals omega
theorem cut_one (s : ByteArray) (k : Nat) (h : k < s.size) : (cutB s k 1).data.toList = [UInt8.ofNat (bt s k)] := by
  have hl : s.data.toList.length = s.size := by simp
  have e : UInt8.ofNat (bt s k) = s.data.toList[k]'(by omega) := by
    apply UInt8.toNat_inj.1
    rw [ofNat_toNat _ (bt_lt s k)]
    unfold bt
    rw [List.getD_eq_getElem?_getD, List.getElem?_eq_getElem (by omega)]
    rfl
  show (s.data.toList.drop k).take 1 = _
  rw [List.drop_eq_getElem_cons (by omega), e]
  rfl

/-! ### Take -/
theorem bytes_of (l : List UInt8) : (⟨l.toArray⟩ : ByteArray).data.toList = l ∧ (⟨l.toArray⟩ : ByteArray).size = l.length := ⟨by simp, by show l.toArray.size = _; simp⟩
set_option maxRecDepth 100000 in
set_option maxHeartbeats 1000000 in
theorem rtake_in (s : ByteArray) (i : Nat) (w : World) (hs : s.size ≤ 1000000) (h : i < s.size) (hq : bt s i = 34) :
    Calls Tryz.prog 52 #[.string s, .int .i64 (i : Int)] w fun e w' => e = .returned (rT (fin [] (i + 1) (tkQ (dr s (i + 1))))) ∧ Below w.heap.size w w' := by
  have hix := fun w => index_at s i (i : Int) rfl h w
  rw [hq] at hix
  clear hq
  obtain ⟨R, hR⟩ : ∃ R, R = fin [] (i + 1) (tkQ (dr s (i + 1))) := ⟨_, rfl⟩
  rw [← hR]
  have HR := Lib.hid hR
  clear hR
  unfold rT
  have d0 : decide ((i : Int) < 0) = false := by simp
  have d1 : decide ((s.size : Int) ≤ (i : Int)) = false := by simp; omega
  have d2 : decide (s.size ≤ i) = false := by simp; omega
  go_enter Tryz.func52, Tryz.ntmps52
  go_wp2_with fail
  go_loopw [8, 7] (fun x v wr => ∃ (k : Nat) (acc : List UInt8), x = .int .i64 (k : Int) ∧ i + 1 ≤ k ∧ k ≤ s.size ∧ acc.length + (i + 1) ≤ k ∧ Own wr w.heap.size v acc ∧ Below w.heap.size w wr ∧ Hid (R = fin acc k (tkQ (dr s k))))
    (fun x _ _ => s.size - (RowKit.intOf x).toNat)
  case atStart => exact ⟨i + 1, [], by go_num, by omega, by omega, by simp, Own.nil _ _, Below.refl _ _, HR⟩
  case round =>
    obtain ⟨k, acc, rfl, hik, hk, hal, hown, hb, hr⟩ := hrel
    have hsz := hb.size
    clear hix d0 d1 d2
    by_cases hlt : k < s.size
    · have hix := fun w => index_at s k (k : Int) rfl hlt w
      have hbl := bt_lt s k
      have hg : ((dr s k).getD 0 0).toNat = bt s k := dr_get s k 0
      have hne := dr_ne s k hlt
      by_cases hc : bt s k = 34
      · have HR2 := Lib.hid (hr.out.trans (fin_close acc k (hg.trans hc)))
        rw [hc] at hix
        clear hr hg hne hc hbl
        go_wp2_with (with_reducible refine wpList_string _ rfl _ rfl _ _ _ rfl hown ?_)
        go_ret3
        exact ⟨by rw [HR2.out]; rfl, hb⟩
      · have hc2 : ((bt s k : Int) == 34) = false := by rw [beq_eq_false_iff_ne]; omega
        have hst : stp (dr s k) = if bt s k = 92 then escL (dr s k) else if bt s k < 32 then (4, 0, []) else if wL (dr s k) = 0 then (8, 0, []) else (0, wL (dr s k), (dr s k).take (wL (dr s k))) := by unfold stp; rw [hg]
        by_cases he : (stp (dr s k)).1 = 0
        · have HR2 := hr.out.trans (fin_step acc k hne (by omega) he)
          obtain ⟨z1, z2, z3⟩ := stp_ok hne he
          rw [dr_len] at z2
          rw [dr_drop] at HR2
          have HR3 := Lib.hid HR2
          clear hr HR2
          by_cases h92 : bt s k = 92
          · rw [if_pos h92] at hst
            rw [hst] at he z1 z2 z3 HR3
            have HE := Lib.hid (fun w => rescape_at s k ((k : Int) + 1) rfl w hs hlt h92)
            rw [h92] at hix
            unfold rE at HE
            rw [he] at HE
            generalize (escL (dr s k)).2.1 = n at *
            generalize (escL (dr s k)).2.2 = p at *
            have hn : ((n - 1 : Nat) : Int) = (n : Int) - 1 := by omega
            rw [hn] at HE
            obtain ⟨pl, pz⟩ := bytes_of p
            generalize (⟨p.toArray⟩ : ByteArray) = q at *
            have hbd : acc.length + q.size ≤ 140737488355328 := by omega
            have HPL := Lib.hid pl
            clear hst hg hne hc hc2 h92 he hn pl hbl
            go_wp2_with (first
              | (go_at_call 67; refine (HE.out _).mono ?_; rintro e w3 ⟨rfl, hb3⟩)
              | (at_builtin; refine wpList_text _ rfl _ _ rfl w.heap.size w _ _ rfl (own_next hown hb3) (hb.trans (hb3.mono hsz)) (Nat.le_refl _) q rfl hbd ?_; intro v4 w4 hown4 hb4))
            go_roundw
            case rel => exact ⟨k + n, acc ++ p, by go_num, by omega, by omega, by simp; omega, by rw [HPL.out] at hown4; exact hown4, hb4, HR3⟩
            case measure => simp [RowKit.intOf]; omega
          · rw [if_neg h92] at hst
            by_cases h32 : bt s k < 32
            · rw [if_pos h32] at hst
              rw [hst] at he
              cases he
            · rw [if_neg h32] at hst
              by_cases hw : wL (dr s k) = 0
              · rw [if_pos hw] at hst
                rw [hst] at he
                cases he
              · rw [if_neg hw] at hst
                rw [hst] at z1 z2 z3 HR3
                simp only at z1 z2 z3 HR3
                have HW := Lib.hid (fun w => rwidth_in s k w hlt (by omega))
                rw [wS_dr] at HW
                have hcut := cut_dr s k (wL (dr s k))
                have hrun := run_cut s (k : Int) ((k : Int) + (wL (dr s k) : Int)) k (wL (dr s k)) rfl rfl (by omega)
                rw [hcut] at hrun
                generalize (dr s k).take (wL (dr s k)) = p at *
                generalize wL (dr s k) = n at *
                obtain ⟨pl, pz⟩ := bytes_of p
                generalize (⟨p.toArray⟩ : ByteArray) = q at *
                have hbd : acc.length + q.size ≤ 140737488355328 := by omega
                have HPL := Lib.hid pl
                have hn0 : ((n : Int) == 0) = false := by rw [beq_eq_false_iff_ne]; omega
                have h922 : ((bt s k : Int) == 92) = false := by rw [beq_eq_false_iff_ne]; omega
                have h322 : 32 ≤ bt s k := by omega
                clear hst hg hne hc h92 he h32 hw pl hcut
                generalize bt s k = c at *
                go_wp2_with (first
                  | (go_at_call 68; refine (HW.out _).mono ?_; rintro e w3 ⟨rfl, rfl⟩)
                  | (at_builtin; refine wpList_text _ rfl _ _ rfl w.heap.size w _ _ rfl hown hb (Nat.le_refl _) q rfl hbd ?_; intro v4 w4 hown4 hb4))
                go_roundw
                case rel => exact ⟨k + n, acc ++ p, by go_num, by omega, by omega, by simp; omega, by rw [HPL.out] at hown4; exact hown4, hb4, HR3⟩
                case measure => simp [RowKit.intOf]; omega
        · have HR2 := hr.out.trans (fin_bad acc k hne (by omega) he)
          clear hr
          by_cases h92 : bt s k = 92
          · rw [if_pos h92] at hst
            rw [hst] at he HR2
            have HE := Lib.hid (fun w => rescape_at s k ((k : Int) + 1) rfl w hs hlt h92)
            rw [h92] at hix
            unfold rE at HE
            have HR3 := Lib.hid HR2
            generalize escL (dr s k) = P at *
            obtain ⟨P1, P2, P3⟩ := P
            simp only at *
            have he2 : ((P1 : Int) != 0) = true := by rw [bne_iff_ne]; omega
            clear hst hg hne hc hc2 h92 HR2 hbl
            go_wp2_with (go_at_call 67; refine (HE.out _).mono ?_; rintro e w3 ⟨rfl, hb3⟩)
            go_ret3
            exact ⟨by rw [HR3.out]; rfl, hb.trans (hb3.mono hsz)⟩
          · rw [if_neg h92] at hst
            have h922 : ((bt s k : Int) == 92) = false := by rw [beq_eq_false_iff_ne]; omega
            by_cases h32 : bt s k < 32
            · rw [if_pos h32] at hst
              rw [hst] at HR2
              have HR3 := Lib.hid HR2
              clear hst hg hne hc he HR2 h92
              generalize bt s k = c at *
              go_wp2_with fail
              go_ret3
              exact ⟨by rw [HR3.out]; rfl, hb⟩
            · rw [if_neg h32] at hst
              by_cases hw : wL (dr s k) = 0
              · rw [if_pos hw] at hst
                rw [hst] at HR2
                have HR3 := Lib.hid HR2
                have HW := Lib.hid (fun w => rwidth_in s k w hlt (by omega))
                rw [wS_dr, hw] at HW
                have h322 : 32 ≤ bt s k := by omega
                clear hst hg hne hc he HR2 h92 h32 hw
                generalize bt s k = c at *
                go_wp2_with (go_at_call 68; refine (HW.out _).mono ?_; rintro e w3 ⟨rfl, rfl⟩)
                go_ret3
                exact ⟨by rw [HR3.out]; rfl, hb⟩
              · rw [if_neg hw] at hst
                rw [hst] at he
                exact absurd rfl he
    · obtain rfl : k = s.size := by omega
      have hd := dr_nil s s.size (Nat.le_refl _)
      have HR2 := hr.out
      rw [hd, fin_short] at HR2
      have HR3 := Lib.hid HR2
      clear hr HR2 hd
      go_wp2_with fail
      go_ret3
      exact ⟨by rw [HR3.out]; rfl, hb⟩
theorem rqtake_any (s : ByteArray) (a : Int) (w : World) (hs : s.size ≤ 1000000) :
    Calls Tryz.prog 52 #[.string s, .int .i64 a] w fun e w' => e = .returned (rT (tQ s a)) ∧ Below w.heap.size w w' := by
  unfold tQ
  by_cases h : 0 ≤ a ∧ a < (s.size : Int) ∧ bt s a.toNat = 34
  · rw [if_pos h]
    obtain ⟨h0, h1, h2⟩ := h
    obtain ⟨i, rfl⟩ := Int.eq_ofNat_of_zero_le h0
    rw [Int.toNat_natCast] at h2 ⊢
    exact rtake_in s i w hs (by omega) h2
  · rw [if_neg h]
    obtain ⟨t, ht⟩ : ∃ t : Nat, min (max a 0) (s.size : Int) = (t : Int) := ⟨(min (max a 0) (s.size : Int)).toNat, by omega⟩
    rw [show (max (min a (s.size : Int)) 0).toNat = t by omega]
    unfold rT
    have h' : a < 0 ∨ (0 ≤ a ∧ (s.size : Int) ≤ a) ∨ ∃ i : Nat, a = (i : Int) ∧ i < s.size ∧ bt s i ≠ 34 := by
      rcases Int.lt_or_le a 0 with h0 | h0
      · exact .inl h0
      · rcases Int.lt_or_le a (s.size : Int) with h1 | h1
        · refine .inr (.inr ⟨a.toNat, by omega, by omega, fun h2 => h ⟨h0, h1, h2⟩⟩)
        · exact .inr (.inl ⟨h0, h1⟩)
    clear h
    rcases h' with h0 | ⟨h0, h1⟩ | ⟨i, rfl, hi, hne⟩
    · go_enter Tryz.func52, Tryz.ntmps52
      go_wp2_with fail
      go_ret3
      exact ⟨rfl, Below.refl _ _⟩
    · go_enter Tryz.func52, Tryz.ntmps52
      go_wp2_with fail
      go_ret3
      exact ⟨rfl, Below.refl _ _⟩
    · have hix := fun w => index_at s i (i : Int) rfl hi w
      have hn : ((bt s i : Int) != 34) = true := by rw [bne_iff_ne]; omega
      have ht2 : min (i : Int) (s.size : Int) = (t : Int) := by omega
      clear hne ht
      generalize bt s i = c at *
      go_enter Tryz.func52, Tryz.ntmps52
      go_wp2_with fail
      go_ret3
      exact ⟨rfl, Below.refl _ _⟩
end Go.Proofs.YteinaclkpickaaaGreatDoor.Quo
