/- Contracts of strconv.ParseUint at four letters and base 16, and of Hexes. Conditions: strconv.ErrSyntax holds an error (what the row lists); as each theorem states. · Contracts of takeNumber, takeLetter, isPair, takeEscape and takePiece. Conditions: the two tables of unicode/utf8 are as its text lays them, strconv.ErrSyntax holds an error; as each theorem states. · Contracts of strings.IndexRune over a text of seven letters below 128, of writeRune and of Put. Conditions: the two tables of unicode/utf8 are as its text lays them; as each theorem states. · Contracts of Put and Take. Conditions: the two tables of unicode/utf8 are as its text lays them, strconv.ErrSyntax holds an error; as each theorem states. -/
import Derived.Test.YtbpofhlnnldceaaGreatDoorPlainA
import Derived.Test.YtbpofhlnnldceaaGreatDoorOctG1
import Derived.Lib.ConvBytes
import Derived.Lib.AtoiAllMem
import Derived.Lib.AtoiErrMem
import Derived.Laws.Strings3
import Derived.Laws.Closers25
import Derived.Laws.Closers25b
import Derived.Lib.IfaceEq
import Derived.BigCall
import Derived.BigGuard
import Derived.Test.YtbpofhlnnldceaaGreatDoorUtfG1
import Derived.Test.YtbpofhlnnldceaaGreatDoorRowsA
import Derived.Deep.QuietTactic
import Derived.BigQuiet
import Derived.Laws.Runes
import Derived.WalkMore
namespace Go.Proofs.YtbpofhlnnldceaaGreatDoor.Quo
open Go.RowKit Go.Lib Go.Proofs.YtbpofhlnnldceaaGreatDoor.Byt Go.Proofs.YtbpofhlnnldceaaGreatDoor.Oct

/-- strconv.ErrSyntax holds an error. -/
def Syn (w : World) : Prop := ∃ tp p, w.cell? ⟨2, 0, none⟩ = some (.iface tp p)
theorem Syn.next {w w' : World} (h : Syn w) (hb : Below w.heap.size w w') : Syn w' := by
  obtain ⟨tp, p, hc⟩ := h
  exact ⟨tp, p, (hb.cell (Lib.lt_of_cell hc)).trans hc⟩

/-- 'a letter, made small': as the program spells it. -/
def low (c : Nat) : Int := bits .or .u8 (c : Int) 32
theorem low_table : ∀ n : Fin 256, 0 ≤ low n.val ∧ low n.val ≤ 255 ∧ (dgA n.val < 16 → ¬ (48 ≤ n.val ∧ n.val ≤ 57) → 97 ≤ low n.val ∧ low n.val ≤ 102 ∧ low n.val - 97 + 10 = dgA n.val ∧ 65 ≤ n.val ∧ n.val ≠ 95) ∧
    (¬ dgA n.val < 16 → ¬ (48 ≤ n.val ∧ n.val ≤ 57)) ∧ (¬ dgA n.val < 16 → 97 ≤ low n.val → 103 ≤ low n.val) := by decide +kernel
theorem dgA_digit {c : Nat} (h : 48 ≤ c ∧ c ≤ 57) : dgA c = c - 48 := by unfold dgA; rw [if_pos h]
theorem hxF_cons (n : Nat) (c : UInt8) (l : List UInt8) : hxF n (c :: l) = if dgA c.toNat < 16 then hxF (16 * n + dgA c.toNat) l else none := rfl

theorem lower_any (c : Int) (w : World) : Calls Tryz.prog 117 #[.int .u8 c] w fun e w' => e = .returned (.int .u8 (bits .or .u8 c 32)) ∧ w = w' :=
  (Tryz.internal_strconv_lower c w).mono fun _ _ ⟨h1, h2⟩ => ⟨h1, h2.symm⟩

/-- What it returns: the number and no error, or nought and ErrSyntax. -/
def puR (T : TypeId) (o : Option Nat) : Value := match o with
  | some n => .tuple #[.int .u64 (n : Int), .nilIface]
  | none => .tuple #[.int .u64 0, .iface T (.int .i64 2)]

set_option maxHeartbeats 32000000 in
set_option maxRecDepth 100000 in
theorem parse_in (t : ByteArray) (h4 : t.size = 4) (w : World) :
    Calls Tryz.prog 101 #[.string t, .int .i64 16, .int .i64 64] w fun e w' => e = .returned (puR 121 (hxF 0 t.data.toList)) ∧ Below w.heap.size w w' := by
  have hemp : t.toList.isEmpty = false := str_some (by omega)
  have hcv := Lib.run_convert_string_bytes (P := Tryz.prog) w 9 53 5 t (u := .string) Tryz.underlying9 Tryz.underlying53 Tryz.underlying5
  have hB : ∀ j, j < t.size → (Lib.bytesWorld w 5 t).cell? ⟨w.heap.size, j, none⟩ = some (.int .u8 (t.data.toList.getD j 0).toNat) := fun j hj => Lib.bytesWorld_cell w 5 t j hj
  have hbw : Below w.heap.size w (Lib.bytesWorld w 5 t) := Lib.bytesWorld_below _ _ _
  obtain ⟨W1, hW1⟩ : ∃ W1, W1 = Lib.bytesWorld w 5 t := ⟨_, rfl⟩
  rw [← hW1] at hcv hB hbw
  clear hW1
  obtain ⟨bs, hL⟩ : ∃ bs, bs = t.data.toList := ⟨_, rfl⟩
  have hLn : bs.length = t.size := by rw [hL, Lib.size_eq]
  rw [← hL] at hB ⊢
  clear hL
  have hmv : IntKind.u64.wrap (IntKind.u64.wrap 18446744073709551616 - 1) = 18446744073709551615 := by
    rw [IntKind.wrap_u64, IntKind.wrap_u64]
    decide
  go_enter Tryz.func101, Tryz.ntmps101
  go_wp2
  go_loop [12, 13, 101] (fun vu vn vi => ∃ (k acc : Nat) (a : Int), vu = .bool false ∧ vn = .int .u64 a ∧ vi = .int .i64 k ∧ k ≤ t.size ∧ Hid (a = (acc : Int) ∧ acc < 16 ^ k ∧ hxF 0 bs = hxF acc (bs.drop k)))
    (fun _ _ vi => t.size - (RowKit.intOf vi).toNat)
  case atStart => exact ⟨0, 0, 0, rfl, rfl, rfl, by omega, Lib.hid ⟨rfl, by decide, rfl⟩⟩
  case round =>
    obtain ⟨k, acc, a, rfl, rfl, rfl, hk, hh⟩ := hrel
    obtain ⟨ha, hacc, hdec⟩ := hh.out
    clear hh
    have hacc4 : acc < 65536 := by
      have := Nat.pow_le_pow_right (n := 16) (by decide) (show k ≤ 4 by omega)
      omega
    have a0 : 0 ≤ a := by omega
    have a1 : a < 65536 := by omega
    by_cases hkn : k < t.size
    · have hc := hB k hkn
      have hdrop : bs.drop k = bs[k]'(by omega) :: bs.drop (k + 1) := List.drop_eq_getElem_cons (by omega)
      have hget : bs.getD k 0 = bs[k]'(by omega) := by simp [List.getD, List.getElem?_eq_getElem (show k < bs.length by omega)]
      rw [hdrop, hxF_cons] at hdec
      rw [hget] at hc
      generalize bs[k]'(by omega) = c at hc hdec
      have hc256 : c.toNat < 256 := c.toNat_lt
      obtain ⟨l0, l1, l2, l3, l4⟩ := low_table ⟨c.toNat, hc256⟩
      simp only at l0 l1 l2 l3 l4
      unfold low at l0 l1 l2 l4
      clear hB hdrop hget
      by_cases hd : dgA c.toNat < 16
      · rw [if_pos hd] at hdec
        have hP : 16 * acc + dgA c.toNat < 16 ^ (k + 1) := by rw [Nat.pow_succ]; omega
        by_cases hdig : 48 ≤ c.toNat ∧ c.toNat ≤ 57
        · have he := dgA_digit hdig
          obtain ⟨hd0, hd1⟩ := hdig
          have HN : Hid (a * 16 + ((c.toNat : Int) - 48) = ((16 * acc + dgA c.toNat : Nat) : Int) ∧ 16 * acc + dgA c.toNat < 16 ^ (k + 1) ∧ hxF 0 bs = hxF (16 * acc + dgA c.toNat) (bs.drop (k + 1))) := Lib.hid ⟨by omega, hP, hdec⟩
          clear hacc hdec ha l0 l1 l2 l3 l4 hP he hd
          go_wp2
          refine ⟨⟨k + 1, 16 * acc + dgA c.toNat, a * 16 + ((c.toNat : Int) - 48), rfl, (by first | rfl | (congr 1; omega)), (by first | rfl | (congr 1; omega)), by omega, HN⟩, by simp [RowKit.intOf]; omega⟩
        · obtain ⟨m0, m1, m2, m3, m4⟩ := l2 hd hdig
          have hx : 57 < (c.toNat : Int) := by omega
          have hx0 : 48 ≤ (c.toNat : Int) := by omega
          have h95 : ¬ (c.toNat : Int) = 95 := by omega
          have HN : Hid (a * 16 + (bits .or .u8 (c.toNat : Int) 32 - 97 + 10) = ((16 * acc + dgA c.toNat : Nat) : Int) ∧ 16 * acc + dgA c.toNat < 16 ^ (k + 1) ∧ hxF 0 bs = hxF (16 * acc + dgA c.toNat) (bs.drop (k + 1))) := Lib.hid ⟨by omega, hP, hdec⟩
          have HLow := Lib.hid (fun w => lower_any (c.toNat : Int) w)
          have hy : bits .or .u8 (c.toNat : Int) 32 ≤ 122 := by omega
          clear hacc hdec ha l2 l3 l4 hP hd m2 hdig m3 m4
          go_wp2_with (go_at_call 117; (with_reducible refine (HLow.out _).mono ?_); rintro e w' ⟨rfl, rfl⟩)
          refine ⟨⟨k + 1, 16 * acc + dgA c.toNat, a * 16 + (bits .or .u8 (c.toNat : Int) 32 - 97 + 10), rfl, (by first | rfl | (congr 1; omega)), (by first | rfl | (congr 1; omega)), by omega, HN⟩, by simp [RowKit.intOf]; omega⟩
      · rw [if_neg hd] at hdec
        have n3 := l3 hd
        have n4 := l4 hd
        have HD := Lib.hid hdec
        by_cases h95 : c.toNat = 95
        · rw [h95] at hc
          have hl : bits .or .u8 95 32 = 127 := by decide
          have HLow := Lib.hid (fun w => lower_any 95 w)
          rw [hl] at HLow
          clear hacc hdec ha l0 l1 l2 l3 l4 hd n3 n4 hl h95
          go_wp2_with (go_at_call 117; (with_reducible refine (HLow.out _).mono ?_); rintro e w' ⟨rfl, rfl⟩)
          go_ret2
          exact ⟨by rw [HD.out]; rfl, hbw⟩
        · have hne : ¬ (c.toNat : Int) = 95 := by omega
          have hlow2 : bits .or .u8 (c.toNat : Int) 32 < 97 ∨ (103 ≤ bits .or .u8 (c.toNat : Int) 32 ∧ bits .or .u8 (c.toNat : Int) 32 ≤ 122) ∨ (97 ≤ bits .or .u8 (c.toNat : Int) 32 ∧ 122 < bits .or .u8 (c.toNat : Int) 32) := by omega
          have hdig2 : (c.toNat : Int) < 48 ∨ (48 ≤ (c.toNat : Int) ∧ 57 < (c.toNat : Int)) := by omega
          have HLow := Lib.hid (fun w => lower_any (c.toNat : Int) w)
          clear hacc hdec ha l2 l3 l4 hd n3 n4 h95
          rcases hdig2 with hx | ⟨hx, hx2⟩
          all_goals
            rcases hlow2 with hy | ⟨hy, hy2⟩ | ⟨hy, hy2⟩
            all_goals
              go_wp2_with (go_at_call 117; (with_reducible refine (HLow.out _).mono ?_); rintro e w' ⟨rfl, rfl⟩)
              go_ret2
              exact ⟨by rw [HD.out]; rfl, hbw⟩
    · obtain rfl : k = t.size := by omega
      have HD := Lib.hid (show hxF 0 bs = some acc by rw [hdec, List.drop_eq_nil_of_le (by omega)]; rfl)
      have HA := Lib.hid ha
      clear hacc hdec ha
      go_wp2
      go_ret2
      exact ⟨by rw [HD.out, HA.out]; rfl, hbw⟩

theorem pub_yes (t : ByteArray) (n : Nat) (h4 : t.size = 4) (h : hxF 0 t.data.toList = some n) (w : World) :
    Calls Tryz.prog 129 #[.string t, .int .i64 16, .int .i64 64] w fun e w' => e = .returned (.tuple #[.int .u64 (n : Int), .nilIface]) ∧ Below w.heap.size w w' := by
  have HP := Lib.hid (fun w => parse_in t h4 w)
  rw [h] at HP
  have HP2 : Hid (∀ w, Calls Tryz.prog 101 #[.string t, .int .i64 16, .int .i64 64] w fun e w' => e = .returned (.tuple #[.int .u64 (n : Int), .nilIface]) ∧ Below w.heap.size w w') := Lib.hid HP.out
  clear HP h
  go_enter Tryz.func129, Tryz.ntmps129
  go_wp2_with (go_at_call 101; refine (HP2.out _).mono ?_; rintro e w1 ⟨rfl, hb1⟩)
  go_ret2
  exact ⟨rfl, hb1⟩
theorem pub_no (t : ByteArray) (h4 : t.size = 4) (h : hxF 0 t.data.toList = none) (w : World) (hS : Syn w) :
    Calls Tryz.prog 129 #[.string t, .int .i64 16, .int .i64 64] w fun e w' => ∃ N, e = .returned (.tuple #[.int .u64 0, .iface 124 (.pointer (some ⟨N, 0, none⟩))]) ∧ Below w.heap.size w w' := by
  have HP := Lib.hid (fun w => parse_in t h4 w)
  rw [h] at HP
  have HP2 : Hid (∀ w, Calls Tryz.prog 101 #[.string t, .int .i64 16, .int .i64 64] w fun e w' => e = .returned (.tuple #[.int .u64 0, .iface 121 (.int .i64 2)]) ∧ Below w.heap.size w w') := Lib.hid HP.out
  have HS := Lib.hid hS
  clear HP h hS
  go_enter Tryz.func129, Tryz.ntmps129
  go_wp2_with (go_at_call 101; refine (HP2.out _).mono ?_; rintro e w1 ⟨rfl, hb1⟩)
  go_wp2_with fail
  obtain ⟨tp, p, hc⟩ := HS.out.next hb1
  refine (Tryz.strconv_toError_syntax _ t 16 64 (.iface tp p) w1 (by omega) hc (.inr ⟨tp, p, rfl⟩)).mono ?_
  rintro e w2 ⟨N, rfl, _, _, hb2⟩
  clear hc
  go_wp2_with fail
  go_ret2
  exact ⟨N, rfl, hb1.trans (hb2.mono hb1.size)⟩

/-! ### Hexes -/
def hO (s : ByteArray) (a : Int) : Option Nat := if 0 ≤ a then h4 (s.data.toList.drop a.toNat) else none
def hN (s : ByteArray) (a : Int) : Nat := (hO s a).getD 0
def hB (s : ByteArray) (a : Int) : Bool := (hO s a).isSome
theorem hO_no (s : ByteArray) (a : Int) (h : has s a 4 = false) : hO s a = none := by
  unfold hO
  by_cases h0 : 0 ≤ a
  · rw [if_pos h0]
    unfold h4
    refine if_neg ?_
    unfold has at h
    have hl : s.data.toList.length = s.size := Lib.size_eq s
    rw [List.length_drop]
    simp only [decide_eq_false_iff_not] at h
    omega
  · rw [if_neg h0]
theorem hO_yes (s : ByteArray) (k : Nat) (h : k + 4 ≤ s.size) : hO s (k : Int) = hxF 0 (cutB s k 4).data.toList := by
  unfold hO h4
  have hl : s.data.toList.length = s.size := Lib.size_eq s
  rw [if_pos (by omega), if_pos (by rw [List.length_drop]; omega)]
  simp [cutB]
theorem hN_lt (s : ByteArray) (a : Int) : hN s a < 65536 := by
  unfold hN hO
  split
  · cases h : h4 (s.data.toList.drop a.toNat) with
    | none => simp
    | some n => simpa using (h4_lt h).1
  · simp
theorem hexes_any (s : ByteArray) (a : Int) (w : World) (hS : Syn w) (hs : s.size ≤ 140737488355328) (hi : -9223372036854775808 ≤ a) (hi' : a ≤ 9223372036854775807) :
    Calls Tryz.prog 125 #[.string s, .int .i64 a] w fun e w' => e = .returned (.tuple #[.int .i64 (hN s a : Nat), .bool (hB s a)]) ∧ Below w.heap.size w w' := by
  unfold hN hB
  cases h : has s a 4 with
  | false =>
    rw [hO_no s a h]
    have HN2 := Lib.hid (fun w => cut_no s a 4 w h hs hi hi')
    clear h
    go_enter Tryz.func125, Tryz.ntmps125
    go_wp2_with (go_at_call 124; refine (HN2.out _).mono ?_; rintro e w1 ⟨rfl, rfl⟩)
    go_ret2
    exact ⟨rfl, Below.refl _ _⟩
  | true =>
    obtain ⟨k, m, rfl, hm, hkm⟩ := has_nat h
    obtain rfl : m = 4 := by omega
    rw [hO_yes s k hkm]
    have HY : Hid (∀ w, Calls Tryz.prog 124 #[.string s, .int .i64 (k : Int), .int .i64 4] w fun e w' => e = .returned (.tuple #[.string (cutB s k 4), .bool true]) ∧ Below w.heap.size w w') := Lib.hid (fun w => cut_yes s k 4 w hkm hs)
    have hz : (cutB s k 4).size = 4 := cutB_size s k 4 hkm
    have HS := Lib.hid hS
    cases hx : hxF 0 (cutB s k 4).data.toList with
    | some n =>
      have HP := Lib.hid (fun w => pub_yes (cutB s k 4) n hz hx w)
      have hn : n < 65536 := by
        have := hxF_lt _ 0 0 n (by decide) hx
        rw [← Lib.size_eq, hz] at this
        exact this
      generalize cutB s k 4 = c at *
      clear h hS hx hm hz
      have hwn : IntKind.i64.wrap (n : Int) = (n : Int) := by rw [IntKind.wrap_i64]; omega
      go_enter Tryz.func125, Tryz.ntmps125
      go_wp2_with (first
        | (go_at_call 124; refine (HY.out _).mono ?_; rintro e w1 ⟨rfl, hb1⟩)
        | (go_at_call 129; refine (HP.out _).mono ?_; rintro e w2 ⟨rfl, hb2⟩))
      go_ret2
      exact ⟨rfl, hb1.trans (hb2.mono hb1.size)⟩
    | none =>
      have HP := Lib.hid (fun w hS => pub_no (cutB s k 4) hz hx w hS)
      generalize cutB s k 4 = c at *
      clear h hS hx hm hz
      go_enter Tryz.func125, Tryz.ntmps125
      go_wp2_with (first
        | (go_at_call 124; refine (HY.out _).mono ?_; rintro e w1 ⟨rfl, hb1⟩)
        | (go_at_call 129; refine (HP.out _ (HS.out.next hb1)).mono ?_; rintro e w2 ⟨N, rfl, hb2⟩))
      go_ret2
      exact ⟨rfl, hb1.trans (hb2.mono hb1.size)⟩
end Go.Proofs.YtbpofhlnnldceaaGreatDoor.Quo

namespace Go.Proofs.YtbpofhlnnldceaaGreatDoor.Quo
open Go.RowKit Go.Lib Go.Proofs.YtbpofhlnnldceaaGreatDoor.Byt Go.Proofs.YtbpofhlnnldceaaGreatDoor.Oct Go.Proofs.YtbpofhlnnldceaaGreatDoor.Utf

/-- The bytes from i on. -/
def dr (s : ByteArray) (i : Nat) : List UInt8 := s.data.toList.drop i
theorem dr_len (s : ByteArray) (i : Nat) : (dr s i).length = s.size - i := by
  have hl : s.data.toList.length = s.size := Lib.size_eq s
  unfold dr; rw [List.length_drop, hl]
theorem dr_drop (s : ByteArray) (i k : Nat) : (dr s i).drop k = dr s (i + k) := by unfold dr; rw [List.drop_drop]
theorem dr_get (s : ByteArray) (i k : Nat) : ((dr s i).getD k 0).toNat = bt s (i + k) := by
  unfold dr bt
  rw [List.getD_eq_getElem?_getD, List.getElem?_drop, List.getD_eq_getElem?_getD]
theorem dr_ne (s : ByteArray) (i : Nat) (h : i < s.size) : dr s i ≠ [] := drop_some s i h
theorem dr_nil (s : ByteArray) (i : Nat) (h : s.size ≤ i) : dr s i = [] := drop_none s i h
theorem wS_dr (s : ByteArray) (i : Nat) : wS s i = wL (dr s i) := rfl
theorem bt_out (s : ByteArray) (i : Nat) (h : s.size ≤ i) : bt s i = 0 := by
  have hl : s.data.toList.length = s.size := Lib.size_eq s
  unfold bt
  rw [List.getD_eq_getElem?_getD, List.getElem?_eq_none (by omega)]
  rfl
theorem cut_dr (s : ByteArray) (i n : Nat) : cutB s i n = ⟨((dr s i).take n).toArray⟩ := rfl

/-! ### a number -/
theorem nO_short (s : ByteArray) (i : Nat) (h : has s (i : Int) 2 = false) : nO (dr s i) = none := by
  unfold nO
  refine if_neg fun h2 => ?_
  have h3 := congrArg List.length h2
  rw [List.length_take, dr_len] at h3
  unfold has at h
  simp only [decide_eq_false_iff_not] at h
  simp at h3
  omega
theorem nO_other (s : ByteArray) (i : Nat) (h : cutB s i 2 ≠ ⟨#[92, 117]⟩) : nO (dr s i) = none := by
  unfold nO
  refine if_neg fun h2 => h ?_
  rw [cut_dr, h2]
theorem nO_mark (s : ByteArray) (i : Nat) (h : cutB s i 2 = ⟨#[92, 117]⟩) : nO (dr s i) = hO s ((i : Int) + 2) := by
  unfold nO hO
  rw [cut_dr] at h
  have h2 : (dr s i).take 2 = [92, 117] := by
    have := congrArg (fun b : ByteArray => b.data.toList) h
    simpa using this
  rw [if_pos h2, if_pos (by omega), dr_drop, show ((i : Int) + 2).toNat = i + 2 by omega]
  rfl
theorem number_at (s : ByteArray) (i : Nat) (x : Int) (hx : x = (i : Int)) (w : World) (hS : Syn w) (hs : s.size ≤ 140737488355328) (hi : i ≤ 140737488355400) :
    Calls Tryz.prog 114 #[.string s, .int .i64 x] w fun e w' => e = .returned (.tuple #[.int .i64 ((nO (dr s i)).getD 0 : Nat), .bool (nO (dr s i)).isSome]) ∧ Below w.heap.size w w' := by
  subst hx
  cases h : has s (i : Int) 2 with
  | false =>
    rw [nO_short s i h]
    have HN2 := Lib.hid (fun w => cut_no s (i : Int) 2 w h hs (by omega) (by omega))
    clear h
    go_enter Tryz.func114, Tryz.ntmps114
    go_wp2_with (go_at_call 124; refine (HN2.out _).mono ?_; rintro e w1 ⟨rfl, rfl⟩)
    go_ret2
    exact ⟨rfl, Below.refl _ _⟩
  | true =>
    have hkm : i + 2 ≤ s.size := by unfold has at h; simp only [decide_eq_true_eq] at h; omega
    have HY : Hid (∀ w, Calls Tryz.prog 124 #[.string s, .int .i64 (i : Int), .int .i64 2] w fun e w' => e = .returned (.tuple #[.string (cutB s i 2), .bool true]) ∧ Below w.heap.size w w') := Lib.hid (fun w => cut_yes s i 2 w hkm hs)
    have HS := Lib.hid hS
    clear h hS
    by_cases hc : cutB s i 2 = ⟨#[92, 117]⟩
    · rw [nO_mark s i hc]
      rw [hc] at HY
      have HH : Hid (∀ w, Syn w → Calls Tryz.prog 125 #[.string s, .int .i64 ((i : Int) + 2)] w fun e w' => e = .returned (.tuple #[.int .i64 (((hO s ((i : Int) + 2)).getD 0 : Nat) : Int), .bool (hO s ((i : Int) + 2)).isSome]) ∧ Below w.heap.size w w') := Lib.hid (fun w hS => hexes_any s ((i : Int) + 2) w hS hs (by omega) (by omega))
      generalize (hO s ((i : Int) + 2)).getD 0 = n at *
      generalize (hO s ((i : Int) + 2)).isSome = b at *
      clear hc
      go_enter Tryz.func114, Tryz.ntmps114
      go_wp2_with (first
        | (go_at_call 124; refine (HY.out _).mono ?_; rintro e w1 ⟨rfl, hb1⟩)
        | (go_at_call 125; refine (HH.out _ (HS.out.next hb1)).mono ?_; rintro e w2 ⟨rfl, hb2⟩))
      go_ret2
      exact ⟨rfl, hb1.trans (hb2.mono hb1.size)⟩
    · rw [nO_other s i hc]
      have hne : ((cutB s i 2).toList == [92, 117]) = false := by
        have h2 := str_neq hc
        rwa [Byt.toList_data ⟨#[92, 117]⟩] at h2
      clear hc
      generalize cutB s i 2 = c at *
      go_enter Tryz.func114, Tryz.ntmps114
      go_wp2_with (go_at_call 124; refine (HY.out _).mono ?_; rintro e w1 ⟨rfl, hb1⟩)
      go_ret2
      exact ⟨rfl, hb1⟩

/-! ### a letter -/
def ltI (c : Nat) : Nat := if c = 34 then 0 else if c = 92 then 1 else if c = 98 then 2 else if c = 102 then 3 else if c = 110 then 4 else if c = 114 then 5 else if c = 116 then 6 else 7
theorem letter_dig : ∀ n : Fin 256, Lib.indexByte [34, 92, 98, 102, 110, 114, 116, 47] (UInt8.ofNat n.val) = if ltN n.val < 256 then (ltI n.val : Int) else -1 := by decide +kernel
theorem letter_mean : ∀ n : Fin 256, ltN n.val < 256 → cutB ⟨#[34, 92, 8, 12, 10, 13, 9, 47]⟩ (ltI n.val) 1 = ⟨#[UInt8.ofNat (ltN n.val)]⟩ ∧ ltI n.val < 8 := by decide +kernel
theorem letter_find (c : Nat) (hc : c < 256) (w : World) :
    Calls Tryz.prog 47 #[.string ⟨#[34, 92, 98, 102, 110, 114, 116, 47]⟩, .int .u8 (c : Int)] w fun e w' => e = .returned (.int .i64 (if ltN c < 256 then (ltI c : Int) else -1)) ∧ w = w' :=
  (Tryz.strings_IndexByte _ _ w).mono fun e w' ⟨h1, h2⟩ => ⟨by
    rw [h1, Int.toNat_natCast]
    exact congrArg (fun x => Ending.returned (.int .i64 x)) (letter_dig ⟨c, hc⟩), h2.symm⟩
theorem letter_at (s : ByteArray) (i : Nat) (x : Int) (hx : x = (i : Int)) (w : World) :
    Calls Tryz.prog 113 #[.string s, .int .i64 x] w fun e w' => e = .returned (if ltN (bt s i) < 256 then .tuple #[.string ⟨#[UInt8.ofNat (ltN (bt s i))]⟩, .bool true] else .tuple #[.string ⟨#[]⟩, .bool false]) ∧ w = w' := by
  subst hx
  by_cases hlt : i < s.size
  · have hix := fun w => index_at s i _ rfl hlt w
    have hb := bt_lt s i
    have HF := Lib.hid (fun w => letter_find (bt s i) hb w)
    have HM := Lib.hid (letter_mean ⟨bt s i, hb⟩)
    generalize bt s i = c at *
    by_cases hl : ltN c < 256
    · rw [if_pos hl]
      rw [if_pos hl] at HF
      obtain ⟨h1, h2⟩ := HM.out hl
      simp only at h1 h2
      have hsl := run_cut ⟨#[34, 92, 8, 12, 10, 13, 9, 47]⟩ (ltI c : Int) ((ltI c : Int) + 1) (ltI c) 1 rfl (by omega) (by show ltI c + 1 ≤ 8; omega)
      rw [h1] at hsl
      generalize ltI c = j at *
      generalize (⟨#[UInt8.ofNat (ltN c)]⟩ : ByteArray) = r at *
      clear HM h1 hl
      go_enter Tryz.func113, Tryz.ntmps113
      go_wp2_with (go_at_call 47; refine (HF.out _).mono ?_; rintro e w1 ⟨rfl, rfl⟩)
      go_ret2
      exact ⟨rfl, rfl⟩
    · rw [if_neg hl]
      rw [if_neg hl] at HF
      clear HM hl
      go_enter Tryz.func113, Tryz.ntmps113
      go_wp2_with (go_at_call 47; refine (HF.out _).mono ?_; rintro e w1 ⟨rfl, rfl⟩)
      go_ret2
      exact ⟨rfl, rfl⟩
  · rw [bt_out s i (by omega), if_neg (by decide)]
    go_enter Tryz.func113, Tryz.ntmps113
    go_wp2_with fail
    go_ret2
    exact ⟨rfl, rfl⟩

/-! ### a pair -/
theorem pair_any (n m : Nat) (w : World) : Calls Tryz.prog 115 #[.int .i64 (n : Int), .int .i64 (m : Int)] w fun e w' => e = .returned (.bool (pr n m)) ∧ w = w' := by
  by_cases h : (55296 ≤ n ∧ n ≤ 56319) ∧ 56320 ≤ m ∧ m ≤ 57343
  · have e : pr n m = true := decide_eq_true h
    rw [e]
    obtain ⟨⟨h1, h2⟩, h3, h4⟩ := h
    have hd : decide ((m : Int) ≤ 57343) = true := by simp; omega
    clear e
    go_enter Tryz.func115, Tryz.ntmps115
    go_wp2_with fail
    go_ret
    exact ⟨rfl, rfl⟩
  · have e : pr n m = false := decide_eq_false h
    rw [e]
    have h' : n < 55296 ∨ (55296 ≤ n ∧ 56319 < n) ∨ (55296 ≤ n ∧ n ≤ 56319 ∧ m < 56320) ∨ (55296 ≤ n ∧ n ≤ 56319 ∧ 56320 ≤ m ∧ 57343 < m) := by omega
    clear e h
    have hd : 57343 < m → decide ((m : Int) ≤ 57343) = false := fun h => by simp; omega
    rcases h' with h1 | ⟨h1, h2⟩ | ⟨h1, h2, h3⟩ | ⟨h1, h2, h3, h4⟩
    all_goals
      first | have hd2 := hd h4 | skip
      clear hd
      go_enter Tryz.func115, Tryz.ntmps115
      go_wp2_with fail
      go_ret
      exact ⟨rfl, rfl⟩

/-! ### an escape -/
theorem row_one (w : World) (n : Int) (T : TypeId) : Num.Row (w.alloc (.cells #[.int .i64 n] T)) (.slice (some ⟨w.heap.size, 0, none⟩) 1 1) [n] := by
  refine .inr ⟨w.heap.size, 0, 1, rfl, fun j hj => ?_⟩
  obtain rfl : j = 0 := by simp at hj; omega
  rw [World.cell?_alloc_mark]; rfl
theorem vI_vB (n : Nat) : vI (n : Int) = vB n := by
  unfold vI vB
  rw [decide_eq_decide]
  omega
theorem put_one (n : Nat) (x : Int) (hx : x = (n : Int)) (T : TypeId) (w : World) :
    Calls Tryz.prog 116 #[.slice (some ⟨w.heap.size, 0, none⟩) 1 1] (w.alloc (.cells #[.int .i64 x] T)) fun e w' =>
      e = .returned (if vB n = true then .tuple #[.string ⟨(encodeRune (n : Int)).toArray⟩, .bool true] else .tuple #[.string ⟨#[]⟩, .bool false]) ∧ Below w.heap.size w w' := by
  subst hx
  refine (put_any _ [(n : Int)] _ (row_one w n T) (by simp)).mono ?_
  rintro e w' ⟨rfl, hb⟩
  refine ⟨?_, ((Below.refl _ w).alloc (Nat.le_refl _) _).trans (hb.mono (by simp))⟩
  have e1 : pB [(n : Int)] = vB n := by unfold pB; simp [vI_vB]
  cases hv : vB n with
  | true =>
    rw [hv] at e1
    rw [if_pos rfl, e1, pS_yes e1]
    simp [encZ]
  | false =>
    rw [hv] at e1
    rw [if_neg (by simp), e1, pS_no e1]

/-- What takeEscape and takePiece hand back. -/
def rT (p : Nat × Nat × List UInt8) : Value := .tuple #[.string ⟨p.2.2.toArray⟩, .int .i64 (p.2.1 : Int), .int .i64 (p.1 : Int)]
theorem next2 {a b c : World} (h : Below a.heap.size a b) (k : Below b.heap.size b c) : Below a.heap.size a c := h.trans (k.mono h.size)

set_option maxHeartbeats 1000000 in
theorem escape_at (s : ByteArray) (i : Nat) (w : World) (hS : Syn w) (hT : Tabs w) (h : i < s.size) (hs : s.size ≤ 140737488355328) :
    Calls Tryz.prog 100 #[.string s, .int .i64 (i : Int)] w fun e w' => e = .returned (rT (escL (dr s i))) ∧ Below w.heap.size w w' := by
  have HS := Lib.hid hS
  have HT := Lib.hid hT
  clear hS hT
  unfold escL
  rw [dr_get]
  have HL := Lib.hid (fun w => letter_at s (i + 1) ((i : Int) + 1) (by omega) w)
  by_cases hl : ltN (bt s (i + 1)) < 256
  · rw [if_pos hl] at HL
    rw [if_pos hl]
    unfold rT
    generalize UInt8.ofNat (ltN (bt s (i + 1))) = c at *
    clear hl
    go_enter Tryz.func100, Tryz.ntmps100
    go_wp2_with (go_at_call 113; refine (HL.out _).mono ?_; rintro e w1 ⟨rfl, rfl⟩)
    go_ret3
    exact ⟨rfl, Below.refl _ _⟩
  · rw [if_neg hl] at HL
    rw [if_neg hl]
    have HN1 := Lib.hid (fun w hS => number_at s i (i : Int) rfl w hS hs (by omega))
    have HN6 := Lib.hid (fun w hS => number_at s (i + 6) ((i : Int) + 6) (by omega) w hS hs (by omega))
    rw [dr_drop]
    clear hl
    cases hn : nO (dr s i) with
    | none =>
      rw [hn] at HN1
      clear hn
      simp only
      unfold rT
      go_enter Tryz.func100, Tryz.ntmps100
      go_wp2_with (first
        | (go_at_call 113; refine (HL.out _).mono ?_; rintro e w1 ⟨rfl, rfl⟩)
        | (go_at_call 114; with_reducible refine (HN1.out _ HS.out).mono ?_; rintro e w2 ⟨rfl, hb2⟩))
      go_ret3
      exact ⟨rfl, hb2⟩
    | some n =>
      have hn2 := (nO_lt hn).1
      have HN1b : Hid (∀ w, Syn w → Calls Tryz.prog 114 #[.string s, .int .i64 (i : Int)] w fun e w' => e = .returned (.tuple #[.int .i64 (n : Int), .bool true]) ∧ Below w.heap.size w w') := Lib.hid (by
        have := HN1.out; rw [hn] at this; exact this)
      simp only
      clear hn HN1
      cases hm : nO (dr s (i + 6)) with
      | none =>
        have HN6b : Hid (∀ w, Syn w → Calls Tryz.prog 114 #[.string s, .int .i64 ((i : Int) + 6)] w fun e w' => e = .returned (.tuple #[.int .i64 0, .bool false]) ∧ Below w.heap.size w w') := Lib.hid (by
          have := HN6.out; rw [hm] at this; exact this)
        have e : nP n none = (n, 6) := rfl
        rw [e]
        simp only
        unfold rT
        clear HN6 hm e
        have HPr := Lib.hid (fun w => pair_any n 0 w)
        have HP := Lib.hid (fun x hx T w => put_one n x hx T w)
        cases hv : vB n with
        | true =>
          rw [if_pos rfl]
          rw [hv, if_pos rfl] at HP
          generalize (⟨(encodeRune ((n : Nat) : Int)).toArray⟩ : ByteArray) = piece at *
          clear hv
          go_enter Tryz.func100, Tryz.ntmps100
          go_wp2_with (first
            | (go_at_call 113; refine (HL.out _).mono ?_; rintro e w1 ⟨rfl, rfl⟩)
            | (go_at_call 114; first | ((with_reducible refine (HN1b.out _ HS.out).mono ?_); rintro e w2 ⟨rfl, hb2⟩) | ((with_reducible refine (HN6b.out _ (HS.out.next hb2)).mono ?_); rintro e w3 ⟨rfl, hb3⟩))
            | (go_at_call 115; refine (HPr.out _).mono ?_; rintro e w4 ⟨rfl, rfl⟩)
            | (go_at_call 116; refine (HP.out _ (by omega) _ _).mono ?_; rintro e w5 ⟨rfl, hb5⟩))
          go_ret3
          exact ⟨rfl, next2 (next2 hb2 hb3) hb5⟩
        | false =>
          rw [if_neg (by simp)]
          rw [hv, if_neg (by simp)] at HP
          clear hv
          go_enter Tryz.func100, Tryz.ntmps100
          go_wp2_with (first
            | (go_at_call 113; refine (HL.out _).mono ?_; rintro e w1 ⟨rfl, rfl⟩)
            | (go_at_call 114; first | ((with_reducible refine (HN1b.out _ HS.out).mono ?_); rintro e w2 ⟨rfl, hb2⟩) | ((with_reducible refine (HN6b.out _ (HS.out.next hb2)).mono ?_); rintro e w3 ⟨rfl, hb3⟩))
            | (go_at_call 115; refine (HPr.out _).mono ?_; rintro e w4 ⟨rfl, rfl⟩)
            | (go_at_call 116; refine (HP.out _ (by omega) _ _).mono ?_; rintro e w5 ⟨rfl, hb5⟩))
          go_ret3
          exact ⟨rfl, next2 (next2 hb2 hb3) hb5⟩
      | some m =>
        have hm2 := (nO_lt hm).1
        have HN6b : Hid (∀ w, Syn w → Calls Tryz.prog 114 #[.string s, .int .i64 ((i : Int) + 6)] w fun e w' => e = .returned (.tuple #[.int .i64 (m : Int), .bool true]) ∧ Below w.heap.size w w') := Lib.hid (by
          have := HN6.out; rw [hm] at this; exact this)
        have HPr := Lib.hid (fun w => pair_any n m w)
        clear HN6 hm
        cases hp : pr n m with
        | false =>
          rw [hp] at HPr
          have e : nP n (some m) = (n, 6) := by unfold nP; simp only; rw [hp, if_neg (by simp)]
          rw [e]
          simp only
          unfold rT
          clear e hp
          have HP := Lib.hid (fun x hx T w => put_one n x hx T w)
          cases hv : vB n with
          | true =>
            rw [if_pos rfl]
            rw [hv, if_pos rfl] at HP
            generalize (⟨(encodeRune ((n : Nat) : Int)).toArray⟩ : ByteArray) = piece at *
            clear hv
            go_enter Tryz.func100, Tryz.ntmps100
            go_wp2_with (first
              | (go_at_call 113; refine (HL.out _).mono ?_; rintro e w1 ⟨rfl, rfl⟩)
              | (go_at_call 114; first | ((with_reducible refine (HN1b.out _ HS.out).mono ?_); rintro e w2 ⟨rfl, hb2⟩) | ((with_reducible refine (HN6b.out _ (HS.out.next hb2)).mono ?_); rintro e w3 ⟨rfl, hb3⟩))
              | (go_at_call 115; refine (HPr.out _).mono ?_; rintro e w4 ⟨rfl, rfl⟩)
              | (go_at_call 116; refine (HP.out _ (by omega) _ _).mono ?_; rintro e w5 ⟨rfl, hb5⟩))
            go_ret3
            exact ⟨rfl, next2 (next2 hb2 hb3) hb5⟩
          | false =>
            rw [if_neg (by simp)]
            rw [hv, if_neg (by simp)] at HP
            clear hv
            go_enter Tryz.func100, Tryz.ntmps100
            go_wp2_with (first
              | (go_at_call 113; refine (HL.out _).mono ?_; rintro e w1 ⟨rfl, rfl⟩)
              | (go_at_call 114; first | ((with_reducible refine (HN1b.out _ HS.out).mono ?_); rintro e w2 ⟨rfl, hb2⟩) | ((with_reducible refine (HN6b.out _ (HS.out.next hb2)).mono ?_); rintro e w3 ⟨rfl, hb3⟩))
              | (go_at_call 115; refine (HPr.out _).mono ?_; rintro e w4 ⟨rfl, rfl⟩)
              | (go_at_call 116; refine (HP.out _ (by omega) _ _).mono ?_; rintro e w5 ⟨rfl, hb5⟩))
            go_ret3
            exact ⟨rfl, next2 (next2 hb2 hb3) hb5⟩
        | true =>
          rw [hp] at HPr
          obtain ⟨⟨p1, p2⟩, p3, p4⟩ := of_decide_eq_true hp
          obtain ⟨r, hr⟩ : ∃ r, r = 65536 + (n - 55296) * 1024 + (m - 56320) := ⟨_, rfl⟩
          have e : nP n (some m) = (r, 12) := by unfold nP; simp only; rw [hp, if_pos rfl, hr]
          have hr2 : (r : Int) = 65536 + ((n : Int) - 55296) * 1024 + (m : Int) - 56320 := by omega
          rw [e]
          simp only
          unfold rT
          clear e hp hr
          have HP := Lib.hid (fun x (hx : x = 65536 + ((n : Int) - 55296) * 1024 + (m : Int) - 56320) T w => put_one r x (hx.trans hr2.symm) T w)
          clear hr2
          cases hv : vB r with
          | true =>
            rw [if_pos rfl]
            rw [hv, if_pos rfl] at HP
            generalize (⟨(encodeRune ((r : Nat) : Int)).toArray⟩ : ByteArray) = piece at *
            clear hv
            go_enter Tryz.func100, Tryz.ntmps100
            go_wp2_with (first
              | (go_at_call 113; refine (HL.out _).mono ?_; rintro e w1 ⟨rfl, rfl⟩)
              | (go_at_call 114; first | ((with_reducible refine (HN1b.out _ HS.out).mono ?_); rintro e w2 ⟨rfl, hb2⟩) | ((with_reducible refine (HN6b.out _ (HS.out.next hb2)).mono ?_); rintro e w3 ⟨rfl, hb3⟩))
              | (go_at_call 115; refine (HPr.out _).mono ?_; rintro e w4 ⟨rfl, rfl⟩)
              | (go_at_call 116; refine (HP.out _ (by omega) _ _).mono ?_; rintro e w5 ⟨rfl, hb5⟩))
            go_ret3
            exact ⟨rfl, next2 (next2 hb2 hb3) hb5⟩
          | false =>
            rw [if_neg (by simp)]
            rw [hv, if_neg (by simp)] at HP
            clear hv
            go_enter Tryz.func100, Tryz.ntmps100
            go_wp2_with (first
              | (go_at_call 113; refine (HL.out _).mono ?_; rintro e w1 ⟨rfl, rfl⟩)
              | (go_at_call 114; first | ((with_reducible refine (HN1b.out _ HS.out).mono ?_); rintro e w2 ⟨rfl, hb2⟩) | ((with_reducible refine (HN6b.out _ (HS.out.next hb2)).mono ?_); rintro e w3 ⟨rfl, hb3⟩))
              | (go_at_call 115; refine (HPr.out _).mono ?_; rintro e w4 ⟨rfl, rfl⟩)
              | (go_at_call 116; refine (HP.out _ (by omega) _ _).mono ?_; rintro e w5 ⟨rfl, hb5⟩))
            go_ret3
            exact ⟨rfl, next2 (next2 hb2 hb3) hb5⟩

/-! ### a piece -/
set_option maxHeartbeats 1000000 in
theorem piece_at (s : ByteArray) (i : Nat) (w : World) (hS : Syn w) (hT : Tabs w) (h : i < s.size) (hs : s.size ≤ 140737488355328) :
    Calls Tryz.prog 87 #[.string s, .int .i64 (i : Int)] w fun e w' => e = .returned (rT (stp (dr s i))) ∧ Below w.heap.size w w' := by
  have hg : ((dr s i).getD 0 0).toNat = bt s i := dr_get s i 0
  unfold stp
  rw [hg]
  have hix := fun w => index_at s i _ rfl h w
  have HE := Lib.hid (fun w hS hT => escape_at s i w hS hT h hs)
  have HW := Lib.hid (fun w hT => width_in s i w hT h)
  rw [wS_dr] at HW
  have hle := wL_le (dr s i)
  rw [dr_len] at hle
  have hcut := fun n => cut_dr s i n
  have hrun := fun (n : Nat) hn => run_cut s (i : Int) ((i : Int) + (n : Int)) i n rfl rfl hn
  have HS := Lib.hid hS
  have HT := Lib.hid hT
  clear hS hT hg
  generalize bt s i = c at *
  by_cases h1 : c = 92
  · subst h1
    rw [if_pos rfl]
    clear hcut hrun hle HW
    generalize escL (dr s i) = p at *
    unfold rT at *
    go_enter Tryz.func87, Tryz.ntmps87
    go_wp2_with (go_at_call 100; refine (HE.out _ HS.out HT.out).mono ?_; rintro e w1 ⟨rfl, hb1⟩)
    go_ret3
    exact ⟨rfl, hb1⟩
  · rw [if_neg h1]
    by_cases h2 : c < 32
    · rw [if_pos h2]
      unfold rT
      clear hcut hrun hle HW HE
      go_enter Tryz.func87, Tryz.ntmps87
      go_wp2_with fail
      go_ret3
      exact ⟨rfl, Below.refl _ _⟩
    · rw [if_neg h2]
      by_cases h3 : wL (dr s i) = 0
      · rw [if_pos h3]
        rw [h3] at HW
        unfold rT
        clear hcut hrun hle HE h3
        go_enter Tryz.func87, Tryz.ntmps87
        go_wp2_with (go_at_call 96; refine (HW.out _ HT.out).mono ?_; rintro e w1 ⟨rfl, hb1⟩)
        go_ret3
        exact ⟨rfl, hb1⟩
      · rw [if_neg h3]
        unfold rT
        have hr := hrun (wL (dr s i)) (by omega)
        rw [hcut] at hr
        simp only
        clear hcut hrun HE
        generalize (⟨((dr s i).take (wL (dr s i))).toArray⟩ : ByteArray) = q at *
        generalize wL (dr s i) = W at *
        have hw0 : ((W : Int) == 0) = false := by rw [beq_eq_false_iff_ne]; omega
        go_enter Tryz.func87, Tryz.ntmps87
        go_wp2_with (go_at_call 96; refine (HW.out _ HT.out).mono ?_; rintro e w1 ⟨rfl, hb1⟩)
        go_ret3
        exact ⟨rfl, hb1⟩
end Go.Proofs.YtbpofhlnnldceaaGreatDoor.Quo

namespace Go.Proofs.YtbpofhlnnldceaaGreatDoor.Quo
open Go.RowKit Go.Lib Go.Proofs.YtbpofhlnnldceaaGreatDoor.Byt Go.Proofs.YtbpofhlnnldceaaGreatDoor.Oct Go.Proofs.YtbpofhlnnldceaaGreatDoor.Utf Go.Proofs.YtbpofhlnnldceaaGreatDoor.Bld

def mean : ByteArray := ⟨#[34, 92, 8, 12, 10, 13, 9]⟩
theorem mean_dec : ∀ p : Fin 7, (Utf8.decode mean p.val).1 < 128 ∧ (Utf8.decode mean p.val).2 = 1 := by decide +kernel
/-- Where a letter stands in them. -/
def shI (c : Nat) : Int := if c = 34 then 0 else if c = 92 then 1 else if c = 8 then 2 else if c = 12 then 3 else if c = 10 then 4 else if c = 13 then 5 else if c = 9 then 6 else -1
theorem mean_index : ∀ n : Fin 128, Lib.indexByte [34, 92, 8, 12, 10, 13, 9] (UInt8.ofNat n.val) = shI n.val := by decide +kernel
theorem rune_low (r : Nat) (h : r < 128) (w : World) :
    Calls Tryz.prog 97 #[.string ⟨#[34, 92, 8, 12, 10, 13, 9]⟩, .int .i32 (r : Int)] w fun e w' => e = .returned (.int .i64 (shI r)) ∧ w = w' :=
  (Tryz.strings_IndexRune_ascii _ _ w (by omega) (by omega)).mono fun e w' ⟨h1, h2⟩ => ⟨by
    rw [h1, Int.toNat_natCast]
    exact congrArg (fun x => Ending.returned (.int .i64 x)) (mean_index ⟨r, h⟩), h2.symm⟩

set_option maxHeartbeats 4000000 in
set_option maxRecDepth 100000 in
theorem rune_fffd (w : World) :
    Calls Tryz.prog 97 #[.string ⟨#[34, 92, 8, 12, 10, 13, 9]⟩, .int .i32 65533] w fun e w' => e = .returned (.int .i64 (-1)) ∧ Below w.heap.size w w' := by
  have HD := Lib.hid mean_dec
  go_enter Tryz.func97, Tryz.ntmps97
  go_wp2_with fail
  go_loopw [5, 6] (fun _ _ wr => ∃ pos : Nat, pos ≤ 7 ∧ wr.heap[w.heap.size]? = some (Obj.stringIter mean pos) ∧ Below w.heap.size w wr) (fun _ _ wr => 7 - wr.iterPos w.heap.size)
  case atStart => exact ⟨0, by omega, World.iter_heap w mean 0, (Below.refl _ w).alloc (Nat.le_refl _) _⟩
  case round =>
    obtain ⟨pos, hpos, hit, hb⟩ := hrel
    by_cases hp : pos < 7
    · have hnx := fun ty => Lib.run_next_any_at (P := Tryz.prog) wr w.heap.size mean pos ty hit hp
      obtain ⟨d1, d2⟩ := HD.out ⟨pos, hp⟩
      simp only at d1 d2
      rw [d2] at hnx
      generalize (Utf8.decode mean pos).1 = R at *
      have hne : ((R : Int) == 65533) = false := by rw [beq_eq_false_iff_ne]; omega
      have hwr : IntKind.i32.wrap (R : Int) = (R : Int) := by rw [IntKind.wrap_i32]; omega
      have hit2 := Lib.iterAt_heap wr w.heap.size mean pos (pos + 1) hit
      have hb3 := Lib.below_iterAt hb (Nat.le_refl _) mean (pos + 1)
      clear hb HD
      go_wp2_with fail
      go_roundw
      case rel => exact ⟨pos + 1, by omega, hit2, hb3⟩
      case measure => simp only [World.iterPos, hit2, hit] <;> omega
    · have hnx := fun ty => Lib.run_next_end_at (P := Tryz.prog) wr w.heap.size mean pos ty hit hp
      go_wp2_with fail
      go_ret
      exact ⟨rfl, hb⟩

theorem high_index : ∀ (k : Fin 7) (n : Fin 128), Lib.indexByte ([34, 92, 8, 12, 10, 13, 9].drop (k.val + 1)) (UInt8.ofNat (n.val + 128)) = -1 := by decide +kernel
theorem high_find (k : Nat) (hk : k < 7) (c : Nat) (h : 128 ≤ c) (h2 : c < 256) (w : World) :
    Calls Tryz.prog 47 #[.string (cutB ⟨#[34, 92, 8, 12, 10, 13, 9]⟩ (k + 1) (6 - k)), .int .u8 (c : Int)] w fun e w' => e = .returned (.int .i64 (-1)) ∧ w' = w :=
  (Tryz.strings_IndexByte _ _ w).mono fun e w' ⟨h1, h2⟩ => ⟨by
    rw [h1, Int.toNat_natCast]
    have hl : (cutB ⟨#[34, 92, 8, 12, 10, 13, 9]⟩ (k + 1) (6 - k)).data.toList = [34, 92, 8, 12, 10, 13, 9].drop (k + 1) := by
      show ([34, 92, 8, 12, 10, 13, 9].drop (k + 1)).take (6 - k) = _
      rw [List.take_of_length_le (by simp)]
    have h3 := high_index ⟨k, hk⟩ ⟨c - 128, by omega⟩
    simp only at h3
    rw [show c - 128 + 128 = c by omega] at h3
    rw [hl]
    exact congrArg (fun x => Ending.returned (.int .i64 x)) h3, h2⟩
/-- A call that changes nothing, behind a drawn region, inside another one. -/
theorem still_again {f : FuncId} {args : Array Value} {w : World} {a n : Nat} {v : Value} (h : ∀ W, Calls Tryz.prog f args W fun e w' => e = .returned v ∧ w' = W) :
    Calls Tryz.prog f args (w.drewN (a + n)) fun e w'' => e = .returned v ∧ ∃ m, w'' = w.drewN (a + m) := (h _).mono fun _ _ k => ⟨k.1, ⟨n, k.2⟩⟩
set_option maxHeartbeats 4000000 in
set_option maxRecDepth 100000 in
theorem rune_enc (r : Nat) (h0 : 128 ≤ r) (h1 : r ≠ 65533) (hv : vN r) (w : World) :
    Calls Tryz.prog 97 #[.string ⟨#[34, 92, 8, 12, 10, 13, 9]⟩, .int .i32 (r : Int)] w fun e w' => e = .returned (.int .i64 (-1)) ∧ Below w.heap.size w w' := by
  have HV : Hid (∀ w, Calls Tryz.prog 109 #[.int .i32 (r : Int)] w fun e w' => e = .returned (.bool true) ∧ w = w') := Lib.hid (fun w => (Tryz.utf8_ValidRune (r : Int) w).mono fun e w' ⟨h1, h2⟩ => ⟨by
    rw [h1]
    have : Lib.validRune (r : Int) = true := by
      unfold Lib.validRune; unfold vN at hv; simp; omega
    rw [this], h2.symm⟩)
  have hne : ((r : Int) == 65533) = false := by rw [beq_eq_false_iff_ne]; omega
  have hvu : Utf8.valid (r : Int) = true := by rw [validRune_eq]; unfold vN at hv; unfold validRune; simp; omega
  obtain ⟨e1, e2, e3⟩ := encode_facts (r : Int) hvu (by omega)
  have hcv := fun w => run_convert_int_string (P := Tryz.prog) w 21 9 .i32 (r : Int) (by rw [Tryz.underlying21]; rfl) Tryz.underlying9
  generalize Utf8.encode (r : Int) = E at *
  obtain ⟨k, hk⟩ : ∃ k, E.size = k + 1 := ⟨E.size - 1, by omega⟩
  have hkz : (k : Int) + 1 = (E.size : Int) := by omega
  obtain ⟨c, hc⟩ : ∃ c, c = bt E k := ⟨_, rfl⟩
  have hix := fun (x : Int) (hx : x = (k : Int)) w => index_at E k x hx (by omega) w
  rw [← hc] at hix
  have hc128 : 128 ≤ c := by
    have e4 := e3 (by omega)
    rw [bt_at E (E.size - 1) (by omega), show E.size - 1 = k by omega, ← hc] at e4
    exact e4
  have hc256 : c < 256 := by rw [hc]; exact bt_lt E k
  have HF := fun w => high_find k (by omega) c hc128 hc256 w
  have hk3 : k = 1 ∨ k = 2 ∨ k = 3 := by omega
  clear e1 e2 e3 hvu hk hc hv
  rcases hk3 with rfl | rfl | rfl
  · have i1 := hix 1 (by omega)
    have sz : (E.size : Int) = 2 := by omega
    have hn : ((92 : Int) != (c : Int)) = true := by rw [bne_iff_ne]; omega
    have im : ∀ w, (Instr.index 9 (.string ⟨#[34, 92, 8, 12, 10, 13, 9]⟩) (.int .i64 1)).run Tryz.prog w = .ok (.int .u8 92) w := fun w => index_at ⟨#[34, 92, 8, 12, 10, 13, 9]⟩ 1 1 rfl (by decide) w
    have sl : ∀ w, (Instr.slice 9 (.string ⟨#[34, 92, 8, 12, 10, 13, 9]⟩) (some (.int .i64 2)) none none).run Tryz.prog w = .ok (.string (cutB ⟨#[34, 92, 8, 12, 10, 13, 9]⟩ 2 5)) w := fun w => sl_from ⟨#[34, 92, 8, 12, 10, 13, 9]⟩ 2 5 rfl w
    have HF2 : Hid (∀ w, Calls Tryz.prog 47 #[.string (cutB ⟨#[34, 92, 8, 12, 10, 13, 9]⟩ 2 5), .int .u8 (c : Int)] w fun e w' => e = .returned (.int .i64 (-1)) ∧ w' = w) := Lib.hid HF
    generalize cutB ⟨#[34, 92, 8, 12, 10, 13, 9]⟩ 2 5 = q at *
    clear hix HF hkz
    go_enter Tryz.func97, Tryz.ntmps97
    go_wp2_with (go_at_call 109; refine (HV.out _).mono ?_; rintro e w1 ⟨rfl, rfl⟩)
    go_step3
    go_wp2_with fail
    go_loopw [9, 10, 12] (fun i f _ wr => i = .int .i64 1 ∧ f = .int .i64 0 ∧ wr = w) (fun _ _ _ _ => 0)
    case atStart => exact ⟨rfl, rfl, rfl⟩
    case round =>
      obtain ⟨rfl, rfl, rfl⟩ := hrel
      go_wp2_with fail
      go_step3
      go_wp2_with fail
      go_quiet (fail)
      go_wp2_with fail
      go_quiet ((go_at_call 47; exact still_again HF2.out))
      go_wp2_with fail
      rw [Exit.noGoto_ret]
      go_wp2_with fail
      rw [Exit.noGoto_ret]
      go_ret
      exact ⟨rfl, below_drewN (Below.refl _ _)⟩
  · have i1 := hix 2 (by omega)
    have sz : (E.size : Int) = 3 := by omega
    have hn : ((8 : Int) != (c : Int)) = true := by rw [bne_iff_ne]; omega
    have im : ∀ w, (Instr.index 9 (.string ⟨#[34, 92, 8, 12, 10, 13, 9]⟩) (.int .i64 2)).run Tryz.prog w = .ok (.int .u8 8) w := fun w => index_at ⟨#[34, 92, 8, 12, 10, 13, 9]⟩ 2 2 rfl (by decide) w
    have sl : ∀ w, (Instr.slice 9 (.string ⟨#[34, 92, 8, 12, 10, 13, 9]⟩) (some (.int .i64 3)) none none).run Tryz.prog w = .ok (.string (cutB ⟨#[34, 92, 8, 12, 10, 13, 9]⟩ 3 4)) w := fun w => sl_from ⟨#[34, 92, 8, 12, 10, 13, 9]⟩ 3 4 rfl w
    have HF2 : Hid (∀ w, Calls Tryz.prog 47 #[.string (cutB ⟨#[34, 92, 8, 12, 10, 13, 9]⟩ 3 4), .int .u8 (c : Int)] w fun e w' => e = .returned (.int .i64 (-1)) ∧ w' = w) := Lib.hid HF
    generalize cutB ⟨#[34, 92, 8, 12, 10, 13, 9]⟩ 3 4 = q at *
    clear hix HF hkz
    go_enter Tryz.func97, Tryz.ntmps97
    go_wp2_with (go_at_call 109; refine (HV.out _).mono ?_; rintro e w1 ⟨rfl, rfl⟩)
    go_step3
    go_wp2_with fail
    go_loopw [9, 10, 12] (fun i f _ wr => i = .int .i64 2 ∧ f = .int .i64 0 ∧ wr = w) (fun _ _ _ _ => 0)
    case atStart => exact ⟨rfl, rfl, rfl⟩
    case round =>
      obtain ⟨rfl, rfl, rfl⟩ := hrel
      go_wp2_with fail
      go_step3
      go_wp2_with fail
      go_quiet (fail)
      go_wp2_with fail
      go_quiet ((go_at_call 47; exact still_again HF2.out))
      go_wp2_with fail
      rw [Exit.noGoto_ret]
      go_wp2_with fail
      rw [Exit.noGoto_ret]
      go_ret
      exact ⟨rfl, below_drewN (Below.refl _ _)⟩
  · have i1 := hix 3 (by omega)
    have sz : (E.size : Int) = 4 := by omega
    have hn : ((12 : Int) != (c : Int)) = true := by rw [bne_iff_ne]; omega
    have im : ∀ w, (Instr.index 9 (.string ⟨#[34, 92, 8, 12, 10, 13, 9]⟩) (.int .i64 3)).run Tryz.prog w = .ok (.int .u8 12) w := fun w => index_at ⟨#[34, 92, 8, 12, 10, 13, 9]⟩ 3 3 rfl (by decide) w
    have sl : ∀ w, (Instr.slice 9 (.string ⟨#[34, 92, 8, 12, 10, 13, 9]⟩) (some (.int .i64 4)) none none).run Tryz.prog w = .ok (.string (cutB ⟨#[34, 92, 8, 12, 10, 13, 9]⟩ 4 3)) w := fun w => sl_from ⟨#[34, 92, 8, 12, 10, 13, 9]⟩ 4 3 rfl w
    have HF2 : Hid (∀ w, Calls Tryz.prog 47 #[.string (cutB ⟨#[34, 92, 8, 12, 10, 13, 9]⟩ 4 3), .int .u8 (c : Int)] w fun e w' => e = .returned (.int .i64 (-1)) ∧ w' = w) := Lib.hid HF
    generalize cutB ⟨#[34, 92, 8, 12, 10, 13, 9]⟩ 4 3 = q at *
    clear hix HF hkz
    go_enter Tryz.func97, Tryz.ntmps97
    go_wp2_with (go_at_call 109; refine (HV.out _).mono ?_; rintro e w1 ⟨rfl, rfl⟩)
    go_step3
    go_wp2_with fail
    go_loopw [9, 10, 12] (fun i f _ wr => i = .int .i64 3 ∧ f = .int .i64 0 ∧ wr = w) (fun _ _ _ _ => 0)
    case atStart => exact ⟨rfl, rfl, rfl⟩
    case round =>
      obtain ⟨rfl, rfl, rfl⟩ := hrel
      go_wp2_with fail
      go_step3
      go_wp2_with fail
      go_quiet (fail)
      go_wp2_with fail
      go_quiet ((go_at_call 47; exact still_again HF2.out))
      go_wp2_with fail
      rw [Exit.noGoto_ret]
      go_wp2_with fail
      rw [Exit.noGoto_ret]
      go_ret
      exact ⟨rfl, below_drewN (Below.refl _ _)⟩
theorem rune_high (r : Nat) (h0 : 128 ≤ r) (hv : vN r) (w : World) :
    Calls Tryz.prog 97 #[.string ⟨#[34, 92, 8, 12, 10, 13, 9]⟩, .int .i32 (r : Int)] w fun e w' => e = .returned (.int .i64 (-1)) ∧ Below w.heap.size w w' := by
  by_cases h1 : r = 65533
  · subst h1; exact rune_fffd w
  · exact rune_enc r h0 h1 hv w

/-! ### what is written for a number -/
def qR (r : Nat) : List UInt8 := if r < 128 then qB (UInt8.ofNat r) else encodeRune (r : Int)
theorem qR_len (r : Nat) : (qR r).length ≤ 6 := by
  unfold qR
  split
  · exact (qB_len _).2
  · have := enc_len r; omega
theorem qR_step {l : List UInt8} (h : 0 < wL l) : qR (nL l) = qL (l.take (wL l)) := by
  unfold qR
  by_cases hc : nL l < 128
  · have he := enc_wL h
    rw [enc_low _ hc] at he
    rw [if_pos hc, ← he, qL_cons, qL_nil, List.append_nil]
  · rw [if_neg hc, (stp_high [] h (by omega)).1, enc_wL h]
theorem qL_step {l : List UInt8} (h : 0 < wL l) : qL l = qR (nL l) ++ qL (l.drop (wL l)) := by
  rw [qR_step h, ← qL_append, List.take_append_drop]
theorem shI_at : ∀ n : Fin 128, (shN n.val ≠ 0 → 0 ≤ shI n.val ∧ shI n.val < 7 ∧ ([34, 92, 98, 102, 110, 114, 116] : List UInt8).getD (shI n.val).toNat 0 = UInt8.ofNat (shN n.val)) ∧ (shN n.val = 0 → shI n.val = -1) := by decide +kernel

theorem enc_utf (r : Nat) (h : r < 128) : Utf8.encode (r : Int) = ⟨#[UInt8.ofNat r]⟩ := by
  have hv : Utf8.valid (r : Int) = true := by rw [validRune_eq]; unfold validRune; simp; omega
  unfold Utf8.encode
  simp [hv, h]
set_option maxHeartbeats 1000000 in
theorem rune_writ (B b : Nat) (l : List UInt8) (r : Nat) (hv : vN r) (w : World) (h : Holds w B b l) (hlen : l.length + 6 ≤ 140737488355328) (hBw : B ≤ w.heap.size) :
    Calls Tryz.prog 84 #[.pointer (some ⟨b, 0, none⟩), .int .i32 (r : Int)] w fun e w' => e = .returned (.tuple #[]) ∧ Holds w' B b (l ++ qR r) ∧ Below B w w' ∧ Kept w w' := by
  have H0 := Lib.hid h
  have HB := Lib.hid hBw
  unfold qR
  by_cases hlow : r < 128
  · rw [if_pos hlow]
    unfold qB
    rw [ofNat_toNat _ (by omega)]
    have HI := Lib.hid (fun w => rune_low r hlow w)
    obtain ⟨s1, s2⟩ := shI_at ⟨r, hlow⟩
    simp only at s1 s2
    by_cases hs : shN r = 0
    · rw [if_neg (by omega)]
      rw [s2 hs] at HI
      clear s1 s2 hs
      by_cases h32 : r < 32
      · rw [if_pos h32]
        have hcv : ∀ w, (convert 21 9 (.int .i32 (r : Int))).run Tryz.prog w = .ok (.string ⟨#[UInt8.ofNat r]⟩) w := fun w => by
          rw [run_convert_int_string w 21 9 .i32 (r : Int) (by rw [Tryz.underlying21]; rfl) Tryz.underlying9, enc_utf r hlow]
        have HX : Hid (∀ w, Calls Tryz.prog 98 #[.string ⟨#[UInt8.ofNat r]⟩] w fun e w' => e = .returned (.string ⟨(hexL [UInt8.ofNat r]).toArray⟩) ∧ Below w.heap.size w w') := Lib.hid (fun w => hex_any ⟨#[UInt8.ofNat r]⟩ w (by show 1 ≤ _; omega))
        have hl2 : (hexL [UInt8.ofNat r]).length = 2 := by rw [hexL_length]; rfl
        generalize hexL [UInt8.ofNat r] = hx at *
        generalize (⟨#[UInt8.ofNat r]⟩ : ByteArray) = one at *
        have hz : (⟨hx.toArray⟩ : ByteArray).size = 2 := by show hx.toArray.size = 2; simpa using hl2
        have HW1 := Lib.hid (fun w h hB => wstring B b l ⟨#[92, 117, 48, 48]⟩ w h (by show l.length + 4 ≤ _; omega) hB)
        have HW2 := Lib.hid (fun w h hB => wstring B b (l ++ [92, 117, 48, 48]) ⟨hx.toArray⟩ w h (by rw [hz]; simp; omega) hB)
        clear h hBw hl2 hz
        go_enter Tryz.func84, Tryz.ntmps84
        go_wp2_with (go_at_call 97; refine (HI.out _).mono ?_; rintro e w1 ⟨rfl, rfl⟩)
        refine (HW1.out _ H0.out HB.out).mono ?_
        rintro e w2 ⟨rfl, h2, hb2, hk2⟩
        go_wp2_with fail
        refine (HX.out _).mono ?_
        rintro e w3 ⟨rfl, hb3⟩
        have h3 := h2.next hb3
        have hB3 : B ≤ w3.heap.size := by have := hb2.size; have := hb3.size; have := HB.out; omega
        have hB2 : B ≤ w2.heap.size := by have := hb2.size; have := HB.out; omega
        have HB3 := Lib.hid hB3
        have HB2 := Lib.hid hB2
        clear hB3 hB2
        go_wp2_with fail
        refine (HW2.out _ h3 HB3.out).mono ?_
        rintro e w4 ⟨rfl, h4, hb4, hk4⟩
        go_wp2_with fail
        go_end0
        refine ⟨rfl, by simpa using h4, (hb2.trans (hb3.mono HB2.out)).trans hb4, (hk2.trans (Kept.below hb3)).trans hk4⟩
      · rw [if_neg h32]
        have HW := Lib.hid (fun w h hB => wrune B b l (r : Int) (by omega) (by omega) w h (by omega) hB)
        rw [enc_low r hlow] at HW
        clear h hBw
        go_enter Tryz.func84, Tryz.ntmps84
        go_wp2_with (first
          | (go_at_call 97; refine (HI.out _).mono ?_; rintro e w1 ⟨rfl, rfl⟩)
          | (go_at_call 99; refine (HW.out _ H0.out HB.out).mono ?_; rintro e w2 ⟨v, rfl, h2, hb2, hk2⟩))
        go_end0
        exact ⟨rfl, h2, hb2, hk2⟩
    · rw [if_pos hs]
      obtain ⟨i0, i7, ig⟩ := s1 hs
      obtain ⟨j, hj⟩ := Int.eq_ofNat_of_zero_le i0
      rw [hj] at HI ig i7
      rw [Int.toNat_natCast] at ig
      have hix : ∀ w, (Instr.index 9 (.string ⟨#[34, 92, 98, 102, 110, 114, 116]⟩) (.int .i64 (j : Int))).run Tryz.prog w = .ok (.int .u8 ((UInt8.ofNat (shN r)).toNat : Int)) w := fun w => by
        rw [index_at ⟨#[34, 92, 98, 102, 110, 114, 116]⟩ j (j : Int) rfl (by show j < 7; omega) w]
        unfold bt
        rw [ig]
      generalize UInt8.ofNat (shN r) = c at *
      have HW1 := Lib.hid (fun w h hB => wbyte B b l 92 92 rfl w h (by omega) hB)
      have HW2 := Lib.hid (fun w h hB => wbyte B b (l ++ [92]) c (c.toNat : Int) rfl w h (by simp; omega) hB)
      clear h hBw s1 s2 hs hj ig i0
      go_enter Tryz.func84, Tryz.ntmps84
      go_wp2_with (go_at_call 97; refine (HI.out _).mono ?_; rintro e w1 ⟨rfl, rfl⟩)
      refine (HW1.out _ H0.out HB.out).mono ?_
      rintro e w2 ⟨rfl, h2, hb2, hk2⟩
      have hB2 : B ≤ w2.heap.size := by have := hb2.size; have := HB.out; omega
      have HB2 := Lib.hid hB2
      clear hB2
      go_wp2_with fail
      refine (HW2.out _ h2 HB2.out).mono ?_
      rintro e w3 ⟨rfl, h3, hb3, hk3⟩
      go_wp2_with fail
      go_end0
      exact ⟨rfl, by simpa using h3, hb2.trans hb3, hk2.trans hk3⟩
  · rw [if_neg hlow]
    have HI := Lib.hid (fun w => rune_high r (by omega) hv w)
    have hr : r ≤ 1114111 := by unfold vN at hv; omega
    have HW := Lib.hid (fun w h hB => wrune B b l (r : Int) (by omega) (by omega) w h (by omega) hB)
    generalize encodeRune (r : Int) = q at *
    clear h hBw hv
    go_enter Tryz.func84, Tryz.ntmps84
    go_wp2_with (go_at_call 97; refine (HI.out _).mono ?_; rintro e w1 ⟨rfl, hb1⟩)
    have h1 := H0.out.next hb1
    have HB1 : Hid (B ≤ w1.heap.size) := Lib.hid (by have := hb1.size; have := HB.out; omega)
    refine (HW.out _ h1 HB1.out).mono ?_
    rintro e w2 ⟨v, rfl, h2, hb2, hk2⟩
    go_wp2_with fail
    go_end0
    exact ⟨rfl, h2, (hb1.mono HB.out).trans hb2, (Kept.below hb1).trans hk2⟩
end Go.Proofs.YtbpofhlnnldceaaGreatDoor.Quo

namespace Go.Proofs.YtbpofhlnnldceaaGreatDoor.Quo
open Go.RowKit Go.Lib Go.Proofs.YtbpofhlnnldceaaGreatDoor.Byt Go.Proofs.YtbpofhlnnldceaaGreatDoor.Oct Go.Proofs.YtbpofhlnnldceaaGreatDoor.Utf Go.Proofs.YtbpofhlnnldceaaGreatDoor.Bld

/-- What Put hands back. -/
def rP (l : List UInt8) : Value := .tuple #[.string ⟨(pT l).toArray⟩, .int .i64 (pE l : Int)]

set_option maxHeartbeats 1000000 in
theorem qput_any (s : ByteArray) (w : World) (hT : Tabs w) (hs : s.size ≤ 8000000) :
    Calls Tryz.prog 64 #[.string s] w fun e w' => e = .returned (rP s.data.toList) ∧ Below w.heap.size w w' := by
  unfold rP
  have hlen : s.data.toList.length = s.size := by simp
  have HB := Lib.hid (bad_any s w hT (by omega))
  unfold pT pE
  clear hT
  cases hbd : badL s.data.toList with
  | some k =>
    rw [hbd] at HB
    have HB2 : Hid (Calls Tryz.prog 82 #[.string s] w fun e w' => e = .returned (.int .i64 (k : Int)) ∧ Below w.heap.size w w') := Lib.hid HB.out
    rw [if_neg (by simp), if_neg (by simp)]
    clear hbd HB
    go_enter Tryz.func64, Tryz.ntmps64
    go_wp2_with (go_at_call 82; refine HB2.out.mono ?_; rintro e w1 ⟨rfl, hb1⟩)
    go_ret2
    exact ⟨rfl, hb1⟩
  | none =>
    rw [hbd] at HB
    have HB2 : Hid (Calls Tryz.prog 82 #[.string s] w fun e w' => e = .returned (.int .i64 (-1)) ∧ Below w.heap.size w w') := Lib.hid HB.out
    rw [if_pos rfl, if_pos rfl]
    have HOK := Lib.hid hbd
    obtain ⟨Q, hQ⟩ : ∃ Q, Q = qL s.data.toList := ⟨_, rfl⟩
    have hql : Q.length ≤ 6 * s.size := by rw [hQ, ← hlen]; exact qL_len _
    unfold qQ
    rw [← hQ]
    have HQ := Lib.hid hQ
    clear hbd HB hQ hlen
    go_enter Tryz.func64, Tryz.ntmps64
    go_wp2_with (go_at_call 82; refine HB2.out.mono ?_; rintro e w1 ⟨rfl, hb1⟩)
    have hs1 := hb1.size
    refine (wbyte w.heap.size w1.heap.size [] 34 34 rfl _ (holds_new w1 _ hs1) (by decide) (by simp; omega)).mono ?_
    rintro e w2 ⟨rfl, hh2, hb2, _⟩
    have hb02 : Below w.heap.size w w2 := (hb1.alloc hs1 _).trans hb2
    clear hb2
    go_wp2_with fail
    go_loopw [6] (fun _ wr => ∃ (pos : Nat) (acc : List UInt8), Holds wr w.heap.size w1.heap.size (34 :: acc) ∧ wr.heap[w2.heap.size]? = some (Obj.stringIter s pos) ∧ Below w.heap.size w wr ∧ pos ≤ s.size ∧
        Hid (Q = acc ++ qL (s.data.toList.drop pos)) ∧ Hid (badL (s.data.toList.drop pos) = none))
      (fun _ wr => s.size - wr.iterPos w2.heap.size)
    case atStart =>
      refine ⟨0, [], hh2.next ((Below.refl _ w2).alloc (Nat.le_refl _) _), World.iter_heap w2 s 0, hb02.alloc hb02.size _, Nat.zero_le _, Lib.hid ?_, Lib.hid ?_⟩
      · rw [List.drop_zero]; exact HQ.out
      · rw [List.drop_zero]; exact HOK.out
    case round =>
      obtain ⟨pos, acc, hh, hit, hb, hpos, hacc, hok⟩ := hrel
      have hk2 := hb02.size
      by_cases hp : pos < s.size
      · obtain ⟨hw0, hok2⟩ := ok_step hok.out (drop_some s pos hp)
        have hd := decode_wn s pos hw0
        have hv : vN (nL (s.data.toList.drop pos)) := rnL_valid _ _ (by rw [rnL_step hw0]; exact List.mem_cons_self)
        have hR := nL_le (s.data.toList.drop pos)
        have hle := wS_le s pos hpos
        have hacc2 := hacc.out
        rw [qL_step hw0, List.drop_drop] at hacc2
        rw [List.drop_drop] at hok2
        have hnx := fun ty => Lib.run_next_any_at (P := Tryz.prog) wr w2.heap.size s pos ty hit hp
        rw [hd] at hnx
        simp only at hnx
        change Q = acc ++ (qR (nL (s.data.toList.drop pos)) ++ qL (s.data.toList.drop (pos + wS s pos))) at hacc2
        change badL (s.data.toList.drop (pos + wS s pos)) = none at hok2
        change 0 < wS s pos at hw0
        generalize nL (s.data.toList.drop pos) = R at *
        generalize wS s pos = K at *
        have hrl := qR_len R
        have hal : acc.length + (qR R).length ≤ Q.length := by rw [hacc2]; simp
        have HOK2 := Lib.hid hok2
        have HAC := Lib.hid hacc2
        have hit2 := Lib.iterAt_heap wr w2.heap.size s pos (pos + K) hit
        have hb3 := Lib.below_iterAt hb hk2 s (pos + K)
        have hh2b : Holds (wr.iterAt w2.heap.size s (pos + K)) w.heap.size w1.heap.size (34 :: acc) := hh.iterAt hit (pos + K)
        have hsz := hb3.size
        have hwr : IntKind.i32.wrap (R : Int) = (R : Int) := by rw [IntKind.wrap_i32]; omega
        have HR := Lib.hid (rune_writ w.heap.size w1.heap.size (34 :: acc) R hv _ hh2b (by simp; omega) hsz)
        clear hd hok hacc hok2 hacc2 hh hb hv
        go_wp2_with (go_at_call 84; refine HR.out.mono ?_; rintro e w3 ⟨rfl, hh3, hb4, hk3⟩)
        go_roundw
        case rel => exact ⟨pos + K, acc ++ qR R, by simpa using hh3, hk3 _ _ _ hit2, hb3.trans hb4, by omega, Lib.hid (by rw [HAC.out]; simp), HOK2⟩
        case measure => simp only [World.iterPos, hk3 _ _ _ hit2, hit] <;> omega
      · have hacc2 := hacc.out
        rw [drop_none s pos (by omega), qL_nil, List.append_nil] at hacc2
        have hnx := fun ty => Lib.run_next_end_at (P := Tryz.prog) wr w2.heap.size s pos ty hit hp
        subst hacc2
        have hsz := hb.size
        clear hacc hok
        go_wp2_with fail
        refine (wbyte w.heap.size w1.heap.size (34 :: Q) 34 34 rfl _ hh (by simp; omega) hsz).mono ?_
        rintro e w3 ⟨rfl, hh3, hb3, _⟩
        have hb13 := hb.trans hb3
        have hsz3 := hb13.size
        clear hb hb3
        go_wp2_with fail
        refine (string_any w.heap.size w1.heap.size _ _ hh3 hsz3).mono ?_
        rintro e w4 ⟨rfl, hb4⟩
        go_wp2_with fail
        go_ret2
        exact ⟨rfl, hb13.trans hb4⟩

/-! ### Take -/
/-- A value so far, the place, and what the rest says: the whole's answer. -/
def fin (acc : List UInt8) (i : Nat) (r : Nat × Nat × List UInt8) : Nat × Nat × List UInt8 := (r.1, i + r.2.1, if r.1 = 0 then acc ++ r.2.2 else [])
theorem fin_short (acc : List UInt8) (i : Nat) : fin acc i (tkQ []) = (3, i, []) := rfl
theorem fin_close (acc : List UInt8) (i : Nat) {l : List UInt8} (h : (l.getD 0 0).toNat = 34) : fin acc i (tkQ l) = (0, i + 1, acc) := by
  rw [tkQ_close h]; unfold fin; simp
theorem fin_bad (acc : List UInt8) (i : Nat) {l : List UInt8} (hl : l ≠ []) (h : (l.getD 0 0).toNat ≠ 34) (h1 : (stp l).1 ≠ 0) : fin acc i (tkQ l) = ((stp l).1, i, []) := by
  rw [tkQ_bad hl h h1]; unfold fin; simp [h1]
theorem fin_step (acc : List UInt8) (i : Nat) {l : List UInt8} (hl : l ≠ []) (h : (l.getD 0 0).toNat ≠ 34) (h1 : (stp l).1 = 0) : fin acc i (tkQ l) = fin (acc ++ (stp l).2.2) (i + (stp l).2.1) (tkQ (l.drop (stp l).2.1)) := by
  rw [tkQ_step hl h h1]
  unfold fin
  refine Prod.ext rfl (Prod.ext (by simp only; omega) ?_)
  simp only
  split
  · rw [List.append_assoc]
  · rfl
/-- What Take hands back. -/
def tQ (s : ByteArray) (a : Int) : Nat × Nat × List UInt8 := if 0 ≤ a ∧ a < (s.size : Int) ∧ bt s a.toNat = 34 then fin [] (a.toNat + 1) (tkQ (dr s (a.toNat + 1))) else (4, (max (min a (s.size : Int)) 0).toNat, [])

set_option maxHeartbeats 1000000 in
theorem take_in (s : ByteArray) (i : Nat) (w : World) (hS : Syn w) (hT : Tabs w) (hs : s.size ≤ 8000000) (h : i < s.size) (hq : bt s i = 34) :
    Calls Tryz.prog 68 #[.string s, .int .i64 (i : Int)] w fun e w' => e = .returned (rT (fin [] (i + 1) (tkQ (dr s (i + 1))))) ∧ Below w.heap.size w w' := by
  have HS := Lib.hid hS
  have HT := Lib.hid hT
  have hix := fun w => index_at s i (i : Int) rfl h w
  rw [hq] at hix
  clear hS hT hq
  obtain ⟨R, hR⟩ : ∃ R, R = fin [] (i + 1) (tkQ (dr s (i + 1))) := ⟨_, rfl⟩
  rw [← hR]
  have HR := Lib.hid hR
  clear hR
  unfold rT
  have d0 : decide ((i : Int) < 0) = false := by simp
  have d1 : decide ((s.size : Int) ≤ (i : Int)) = false := by simp; omega
  have d2 : decide (s.size ≤ i) = false := by simp; omega
  go_enter Tryz.func68, Tryz.ntmps68
  go_wp2_with fail
  go_loopw [1] (fun x wr => ∃ (k : Nat) (acc : List UInt8), x = .int .i64 (k : Int) ∧ i + 1 ≤ k ∧ k ≤ s.size ∧ acc.length + (i + 1) ≤ k ∧ Holds wr w.heap.size w.heap.size acc ∧ Below w.heap.size w wr ∧ Hid (R = fin acc k (tkQ (dr s k))))
    (fun x _ => s.size - (RowKit.intOf x).toNat)
  case atStart => exact ⟨i + 1, [], by go_num, by omega, by omega, by simp, holds_new w _ (Nat.le_refl _), (Below.refl _ w).alloc (Nat.le_refl _) _, HR⟩
  case round =>
    obtain ⟨k, acc, rfl, hik, hk, hal, hh, hb, hr⟩ := hrel
    have hsz := hb.size
    clear hix
    by_cases hlt : k < s.size
    · have hix := fun w => index_at s k (k : Int) rfl hlt w
      have hg : ((dr s k).getD 0 0).toNat = bt s k := dr_get s k 0
      have hne := dr_ne s k hlt
      by_cases hc : bt s k = 34
      · have HR2 := Lib.hid (hr.out.trans (fin_close acc k (hg.trans hc)))
        rw [hc] at hix
        clear hr hg hne hc
        go_wp2_with (go_at_call 28; refine (string_any w.heap.size w.heap.size _ _ hh hsz).mono ?_; rintro e w4 ⟨rfl, hb4⟩)
        go_ret3
        exact ⟨by rw [HR2.out]; rfl, hb.trans hb4⟩
      · have HP := Lib.hid (piece_at s k wr (HS.out.next hb) (HT.out.next hb) hlt (by omega))
        have hc2 : ((bt s k : Int) == 34) = false := by rw [beq_eq_false_iff_ne]; omega
        by_cases he : (stp (dr s k)).1 = 0
        · have HR2 := hr.out.trans (fin_step acc k hne (by omega) he)
          obtain ⟨z1, z2, z3⟩ := stp_ok hne he
          rw [dr_len] at z2
          rw [dr_drop] at HR2
          unfold rT at HP
          rw [he] at HP
          generalize (stp (dr s k)).2.1 = n at *
          generalize (stp (dr s k)).2.2 = p at *
          have HR3 := Lib.hid HR2
          have hpz : (⟨p.toArray⟩ : ByteArray).size = p.length := by show p.toArray.size = _; simp
          have hpl : (⟨p.toArray⟩ : ByteArray).data.toList = p := by simp
          have HW := Lib.hid (fun w2 h hB => wstring w.heap.size w.heap.size acc ⟨p.toArray⟩ w2 h (by rw [hpz]; omega) hB)
          rw [hpl] at HW
          generalize (⟨p.toArray⟩ : ByteArray) = q at *
          clear hr hg hne hc HR2 hpz hpl he
          generalize bt s k = c at *
          go_wp2_with (first
            | (go_at_call 87; refine HP.out.mono ?_; rintro e w3 ⟨rfl, hb3⟩)
            | (go_at_call 42; refine (HW.out _ (hh.next hb3) (by have := hb3.size; omega)).mono ?_; rintro e w4 ⟨rfl, hh4, hb4, _⟩))
          go_roundw
          case rel => exact ⟨k + n, acc ++ p, by go_num, by omega, by omega, by simp; omega, hh4, (hb.trans (hb3.mono hsz)).trans hb4, HR3⟩
          case measure => simp [RowKit.intOf]; omega
        · have HR2 := Lib.hid (hr.out.trans (fin_bad acc k hne (by omega) he))
          unfold rT at HP
          have he2 : (((stp (dr s k)).1 : Int) == 0) = false := by rw [beq_eq_false_iff_ne]; omega
          clear hr hg hne hc
          generalize stp (dr s k) = P at *
          obtain ⟨P1, P2, P3⟩ := P
          simp only at *
          generalize bt s k = c at *
          go_wp2_with (go_at_call 87; refine HP.out.mono ?_; rintro e w3 ⟨rfl, hb3⟩)
          go_ret3
          exact ⟨by rw [HR2.out]; rfl, hb.trans (hb3.mono hsz)⟩
    · obtain rfl : k = s.size := by omega
      have hd := dr_nil s s.size (Nat.le_refl _)
      have HR2 := hr.out
      rw [hd, fin_short] at HR2
      have HR3 := Lib.hid HR2
      clear hr HR2 hd
      go_wp2_with fail
      go_ret3
      exact ⟨by rw [HR3.out]; rfl, hb⟩
theorem qtake_any (s : ByteArray) (a : Int) (w : World) (hS : Syn w) (hT : Tabs w) (hs : s.size ≤ 8000000) :
    Calls Tryz.prog 68 #[.string s, .int .i64 a] w fun e w' => e = .returned (rT (tQ s a)) ∧ Below w.heap.size w w' := by
  unfold tQ
  by_cases h : 0 ≤ a ∧ a < (s.size : Int) ∧ bt s a.toNat = 34
  · rw [if_pos h]
    obtain ⟨h0, h1, h2⟩ := h
    obtain ⟨i, rfl⟩ := Int.eq_ofNat_of_zero_le h0
    rw [Int.toNat_natCast] at h2 ⊢
    exact take_in s i w hS hT hs (by omega) h2
  · rw [if_neg h]
    obtain ⟨t, ht⟩ : ∃ t : Nat, max (min a (s.size : Int)) 0 = (t : Int) := ⟨(max (min a (s.size : Int)) 0).toNat, by omega⟩
    rw [ht, Int.toNat_natCast]
    unfold rT
    have h' : a < 0 ∨ (0 ≤ a ∧ (s.size : Int) ≤ a) ∨ ∃ i : Nat, a = (i : Int) ∧ i < s.size ∧ bt s i ≠ 34 := by
      rcases Int.lt_or_le a 0 with h0 | h0
      · exact .inl h0
      · rcases Int.lt_or_le a (s.size : Int) with h1 | h1
        · refine .inr (.inr ⟨a.toNat, by omega, by omega, fun h2 => h ⟨h0, h1, h2⟩⟩)
        · exact .inr (.inl ⟨h0, h1⟩)
    clear h
    rcases h' with h0 | ⟨h0, h1⟩ | ⟨i, rfl, hi, hne⟩
    · go_enter Tryz.func68, Tryz.ntmps68
      go_wp2_with fail
      go_ret3
      exact ⟨rfl, Below.refl _ _⟩
    · go_enter Tryz.func68, Tryz.ntmps68
      go_wp2_with fail
      go_ret3
      exact ⟨rfl, Below.refl _ _⟩
    · have hix := fun w => index_at s i (i : Int) rfl hi w
      have hn : ((bt s i : Int) != 34) = true := by rw [bne_iff_ne]; omega
      clear hne
      generalize bt s i = c at *
      go_enter Tryz.func68, Tryz.ntmps68
      go_wp2_with fail
      go_ret3
      exact ⟨rfl, Below.refl _ _⟩
end Go.Proofs.YtbpofhlnnldceaaGreatDoor.Quo
