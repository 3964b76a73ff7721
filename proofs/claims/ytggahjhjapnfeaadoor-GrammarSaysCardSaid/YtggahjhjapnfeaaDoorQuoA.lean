/- Contracts of strconv.ParseUint at four letters and base 16, and of Hexes. Conditions: strconv.ErrSyntax holds an error (what the row lists); as each theorem states. -/
import Derived.Test.YtggahjhjapnfeaaDoorQuoMath
import Derived.Test.YtggahjhjapnfeaaDoorOctT
import Derived.Lib.ConvBytes
import Derived.Lib.AtoiAllMem
import Derived.Lib.AtoiErrMem
import Derived.Laws.Strings3
import Derived.Laws.Closers25
import Derived.Laws.Closers25b
import Derived.Lib.IfaceEq
import Derived.BigCall
import Derived.BigGuard
namespace Go.Proofs.YtggahjhjapnfeaaDoor.Quo
open Go.RowKit Go.Lib Go.Proofs.YtggahjhjapnfeaaDoor.Byt Go.Proofs.YtggahjhjapnfeaaDoor.Oct

/-- strconv.ErrSyntax holds an error. -/
def Syn (w : World) : Prop := ∃ tp p, w.cell? ⟨3, 0, none⟩ = some (.iface tp p)
theorem Syn.next {w w' : World} (h : Syn w) (hb : Below w.heap.size w w') : Syn w' := by
  obtain ⟨tp, p, hc⟩ := h
  exact ⟨tp, p, (hb.cell (Lib.lt_of_cell hc)).trans hc⟩

/-- 'a letter, made small': as the program spells it. -/
def low (c : Nat) : Int := bits .or .u8 (c : Int) 32
theorem low_table : ∀ n : Fin 256, 0 ≤ low n.val ∧ low n.val ≤ 255 ∧ (dgA n.val < 16 → ¬ (48 ≤ n.val ∧ n.val ≤ 57) → 97 ≤ low n.val ∧ low n.val ≤ 102 ∧ low n.val - 97 + 10 = dgA n.val ∧ 65 ≤ n.val ∧ n.val ≠ 95) ∧
    (¬ dgA n.val < 16 → ¬ (48 ≤ n.val ∧ n.val ≤ 57)) ∧ (¬ dgA n.val < 16 → 97 ≤ low n.val → 103 ≤ low n.val) := by decide +kernel
theorem dgA_digit {c : Nat} (h : 48 ≤ c ∧ c ≤ 57) : dgA c = c - 48 := by unfold dgA; rw [if_pos h]
theorem hxF_cons (n : Nat) (c : UInt8) (l : List UInt8) : hxF n (c :: l) = if dgA c.toNat < 16 then hxF (16 * n + dgA c.toNat) l else none := rfl

theorem lower_any (c : Int) (w : World) : Calls Tryd.prog 73 #[.int .u8 c] w fun e w' => e = .returned (.int .u8 (bits .or .u8 c 32)) ∧ w = w' :=
  (Tryd.internal_strconv_lower c w).mono fun _ _ ⟨h1, h2⟩ => ⟨h1, h2.symm⟩

/-- What it returns: the number and no error, or nought and ErrSyntax. -/
def puR (T : TypeId) (o : Option Nat) : Value := match o with
  | some n => .tuple #[.int .u64 (n : Int), .nilIface]
  | none => .tuple #[.int .u64 0, .iface T (.int .i64 2)]

set_option maxHeartbeats 32000000 in
set_option maxRecDepth 100000 in
theorem parse_in (t : ByteArray) (h4 : t.size = 4) (w : World) :
    Calls Tryd.prog 71 #[.string t, .int .i64 16, .int .i64 64] w fun e w' => e = .returned (puR 90 (hxF 0 t.data.toList)) ∧ Below w.heap.size w w' := by
  have hemp : t.toList.isEmpty = false := str_some (by omega)
  have hcv := Lib.run_convert_string_bytes (P := Tryd.prog) w 9 34 5 t (u := .string) Tryd.underlying9 Tryd.underlying34 Tryd.underlying5
  have hB : ∀ j, j < t.size → (Lib.bytesWorld w 5 t).cell? ⟨w.heap.size, j, none⟩ = some (.int .u8 (t.data.toList.getD j 0).toNat) := fun j hj => Lib.bytesWorld_cell w 5 t j hj
  have hbw : Below w.heap.size w (Lib.bytesWorld w 5 t) := Lib.bytesWorld_below _ _ _
  obtain ⟨W1, hW1⟩ : ∃ W1, W1 = Lib.bytesWorld w 5 t := ⟨_, rfl⟩
  rw [← hW1] at hcv hB hbw
  clear hW1
  obtain ⟨bs, hL⟩ : ∃ bs, bs = t.data.toList := ⟨_, rfl⟩
  have hLn : bs.length = t.size := by rw [hL, Lib.size_eq]
  rw [← hL] at hB ⊢
  clear hL
  have hmv : IntKind.u64.wrap (IntKind.u64.wrap 18446744073709551616 - 1) = 18446744073709551615 := by
    rw [IntKind.wrap_u64, IntKind.wrap_u64]
    decide
  go_enter Tryd.func71, Tryd.ntmps71
  go_wp2
  go_loop [12, 13, 101] (fun vu vn vi => ∃ (k acc : Nat) (a : Int), vu = .bool false ∧ vn = .int .u64 a ∧ vi = .int .i64 k ∧ k ≤ t.size ∧ Hid (a = (acc : Int) ∧ acc < 16 ^ k ∧ hxF 0 bs = hxF acc (bs.drop k)))
    (fun _ _ vi => t.size - (RowKit.intOf vi).toNat)
  case atStart => exact ⟨0, 0, 0, rfl, rfl, rfl, by omega, Lib.hid ⟨rfl, by decide, rfl⟩⟩
  case round =>
    obtain ⟨k, acc, a, rfl, rfl, rfl, hk, hh⟩ := hrel
    obtain ⟨ha, hacc, hdec⟩ := hh.out
    clear hh
    have hacc4 : acc < 65536 := by
      have := Nat.pow_le_pow_right (n := 16) (by decide) (show k ≤ 4 by omega)
      omega
    have a0 : 0 ≤ a := by omega
    have a1 : a < 65536 := by omega
    by_cases hkn : k < t.size
    · have hc := hB k hkn
      have hdrop : bs.drop k = bs[k]'(by omega) :: bs.drop (k + 1) := List.drop_eq_getElem_cons (by omega)
      have hget : bs.getD k 0 = bs[k]'(by omega) := by simp [List.getD, List.getElem?_eq_getElem (show k < bs.length by omega)]
      rw [hdrop, hxF_cons] at hdec
      rw [hget] at hc
      generalize bs[k]'(by omega) = c at hc hdec
      have hc256 : c.toNat < 256 := c.toNat_lt
      obtain ⟨l0, l1, l2, l3, l4⟩ := low_table ⟨c.toNat, hc256⟩
      simp only at l0 l1 l2 l3 l4
      unfold low at l0 l1 l2 l4
      clear hB hdrop hget
      by_cases hd : dgA c.toNat < 16
      · rw [if_pos hd] at hdec
        have hP : 16 * acc + dgA c.toNat < 16 ^ (k + 1) := by rw [Nat.pow_succ]; omega
        by_cases hdig : 48 ≤ c.toNat ∧ c.toNat ≤ 57
        · have he := dgA_digit hdig
          obtain ⟨hd0, hd1⟩ := hdig
          have HN : Hid (a * 16 + ((c.toNat : Int) - 48) = ((16 * acc + dgA c.toNat : Nat) : Int) ∧ 16 * acc + dgA c.toNat < 16 ^ (k + 1) ∧ hxF 0 bs = hxF (16 * acc + dgA c.toNat) (bs.drop (k + 1))) := Lib.hid ⟨by omega, hP, hdec⟩
          clear hacc hdec ha l0 l1 l2 l3 l4 hP he hd
          go_wp2
          refine ⟨⟨k + 1, 16 * acc + dgA c.toNat, a * 16 + ((c.toNat : Int) - 48), rfl, (by first | rfl | (congr 1; omega)), (by first | rfl | (congr 1; omega)), by omega, HN⟩, by simp [RowKit.intOf]; omega⟩
        · obtain ⟨m0, m1, m2, m3, m4⟩ := l2 hd hdig
          have hx : 57 < (c.toNat : Int) := by omega
          have hx0 : 48 ≤ (c.toNat : Int) := by omega
          have h95 : ¬ (c.toNat : Int) = 95 := by omega
          have HN : Hid (a * 16 + (bits .or .u8 (c.toNat : Int) 32 - 97 + 10) = ((16 * acc + dgA c.toNat : Nat) : Int) ∧ 16 * acc + dgA c.toNat < 16 ^ (k + 1) ∧ hxF 0 bs = hxF (16 * acc + dgA c.toNat) (bs.drop (k + 1))) := Lib.hid ⟨by omega, hP, hdec⟩
          have HLow := Lib.hid (fun w => lower_any (c.toNat : Int) w)
          have hy : bits .or .u8 (c.toNat : Int) 32 ≤ 122 := by omega
          clear hacc hdec ha l2 l3 l4 hP hd m2 hdig m3 m4
          go_wp2_with (go_at_call 73; (with_reducible refine (HLow.out _).mono ?_); rintro e w' ⟨rfl, rfl⟩)
          refine ⟨⟨k + 1, 16 * acc + dgA c.toNat, a * 16 + (bits .or .u8 (c.toNat : Int) 32 - 97 + 10), rfl, (by first | rfl | (congr 1; omega)), (by first | rfl | (congr 1; omega)), by omega, HN⟩, by simp [RowKit.intOf]; omega⟩
      · rw [if_neg hd] at hdec
        have n3 := l3 hd
        have n4 := l4 hd
        have HD := Lib.hid hdec
        by_cases h95 : c.toNat = 95
        · rw [h95] at hc
          have hl : bits .or .u8 95 32 = 127 := by decide
          have HLow := Lib.hid (fun w => lower_any 95 w)
          rw [hl] at HLow
          clear hacc hdec ha l0 l1 l2 l3 l4 hd n3 n4 hl h95
          go_wp2_with (go_at_call 73; (with_reducible refine (HLow.out _).mono ?_); rintro e w' ⟨rfl, rfl⟩)
          go_ret2
          exact ⟨by rw [HD.out]; rfl, hbw⟩
        · have hne : ¬ (c.toNat : Int) = 95 := by omega
          have hlow2 : bits .or .u8 (c.toNat : Int) 32 < 97 ∨ (103 ≤ bits .or .u8 (c.toNat : Int) 32 ∧ bits .or .u8 (c.toNat : Int) 32 ≤ 122) ∨ (97 ≤ bits .or .u8 (c.toNat : Int) 32 ∧ 122 < bits .or .u8 (c.toNat : Int) 32) := by omega
          have hdig2 : (c.toNat : Int) < 48 ∨ (48 ≤ (c.toNat : Int) ∧ 57 < (c.toNat : Int)) := by omega
          have HLow := Lib.hid (fun w => lower_any (c.toNat : Int) w)
          clear hacc hdec ha l2 l3 l4 hd n3 n4 h95
          rcases hdig2 with hx | ⟨hx, hx2⟩
          all_goals
            rcases hlow2 with hy | ⟨hy, hy2⟩ | ⟨hy, hy2⟩
            all_goals
              go_wp2_with (go_at_call 73; (with_reducible refine (HLow.out _).mono ?_); rintro e w' ⟨rfl, rfl⟩)
              go_ret2
              exact ⟨by rw [HD.out]; rfl, hbw⟩
    · obtain rfl : k = t.size := by omega
      have HD := Lib.hid (show hxF 0 bs = some acc by rw [hdec, List.drop_eq_nil_of_le (by omega)]; rfl)
      have HA := Lib.hid ha
      clear hacc hdec ha
      go_wp2
      go_ret2
      exact ⟨by rw [HD.out, HA.out]; rfl, hbw⟩

theorem pub_yes (t : ByteArray) (n : Nat) (h4 : t.size = 4) (h : hxF 0 t.data.toList = some n) (w : World) :
    Calls Tryd.prog 67 #[.string t, .int .i64 16, .int .i64 64] w fun e w' => e = .returned (.tuple #[.int .u64 (n : Int), .nilIface]) ∧ Below w.heap.size w w' := by
  have HP := Lib.hid (fun w => parse_in t h4 w)
  rw [h] at HP
  have HP2 : Hid (∀ w, Calls Tryd.prog 71 #[.string t, .int .i64 16, .int .i64 64] w fun e w' => e = .returned (.tuple #[.int .u64 (n : Int), .nilIface]) ∧ Below w.heap.size w w') := Lib.hid HP.out
  clear HP h
  go_enter Tryd.func67, Tryd.ntmps67
  go_wp2_with (go_at_call 71; refine (HP2.out _).mono ?_; rintro e w1 ⟨rfl, hb1⟩)
  go_ret2
  exact ⟨rfl, hb1⟩
theorem pub_no (t : ByteArray) (h4 : t.size = 4) (h : hxF 0 t.data.toList = none) (w : World) (hS : Syn w) :
    Calls Tryd.prog 67 #[.string t, .int .i64 16, .int .i64 64] w fun e w' => ∃ N, e = .returned (.tuple #[.int .u64 0, .iface 92 (.pointer (some ⟨N, 0, none⟩))]) ∧ Below w.heap.size w w' := by
  have HP := Lib.hid (fun w => parse_in t h4 w)
  rw [h] at HP
  have HP2 : Hid (∀ w, Calls Tryd.prog 71 #[.string t, .int .i64 16, .int .i64 64] w fun e w' => e = .returned (.tuple #[.int .u64 0, .iface 90 (.int .i64 2)]) ∧ Below w.heap.size w w') := Lib.hid HP.out
  have HS := Lib.hid hS
  clear HP h hS
  go_enter Tryd.func67, Tryd.ntmps67
  go_wp2_with (go_at_call 71; refine (HP2.out _).mono ?_; rintro e w1 ⟨rfl, hb1⟩)
  go_wp2_with fail
  obtain ⟨tp, p, hc⟩ := HS.out.next hb1
  refine (Tryd.strconv_toError_syntax _ t 16 64 (.iface tp p) w1 (by omega) hc (.inr ⟨tp, p, rfl⟩)).mono ?_
  rintro e w2 ⟨N, rfl, _, _, hb2⟩
  clear hc
  go_wp2_with fail
  go_ret2
  exact ⟨N, rfl, hb1.trans (hb2.mono hb1.size)⟩

/-! ### Hexes -/
def hO (s : ByteArray) (a : Int) : Option Nat := if 0 ≤ a then h4 (s.data.toList.drop a.toNat) else none
def hN (s : ByteArray) (a : Int) : Nat := (hO s a).getD 0
def hB (s : ByteArray) (a : Int) : Bool := (hO s a).isSome
theorem hO_no (s : ByteArray) (a : Int) (h : has s a 4 = false) : hO s a = none := by
  unfold hO
  by_cases h0 : 0 ≤ a
  · rw [if_pos h0]
    unfold h4
    refine if_neg ?_
    unfold has at h
    have hl : s.data.toList.length = s.size := Lib.size_eq s
    rw [List.length_drop]
    simp only [decide_eq_false_iff_not] at h
    omega
  · rw [if_neg h0]
theorem hO_yes (s : ByteArray) (k : Nat) (h : k + 4 ≤ s.size) : hO s (k : Int) = hxF 0 (cutB s k 4).data.toList := by
  unfold hO h4
  have hl : s.data.toList.length = s.size := Lib.size_eq s
  rw [if_pos (by omega), if_pos (by rw [List.length_drop]; omega)]
  simp [cutB]
theorem hN_lt (s : ByteArray) (a : Int) : hN s a < 65536 := by
  unfold hN hO
  split
  · cases h : h4 (s.data.toList.drop a.toNat) with
    | none => simp
    | some n => simpa using (h4_lt h).1
  · simp
theorem hexes_any (s : ByteArray) (a : Int) (w : World) (hS : Syn w) (hs : s.size ≤ 140737488355328) (hi : -9223372036854775808 ≤ a) (hi' : a ≤ 9223372036854775807) :
    Calls Tryd.prog 62 #[.string s, .int .i64 a] w fun e w' => e = .returned (.tuple #[.int .i64 (hN s a : Nat), .bool (hB s a)]) ∧ Below w.heap.size w w' := by
  unfold hN hB
  cases h : has s a 4 with
  | false =>
    rw [hO_no s a h]
    have HN2 := Lib.hid (fun w => cut_no s a 4 w h hs hi hi')
    clear h
    go_enter Tryd.func62, Tryd.ntmps62
    go_wp2_with (go_at_call 61; refine (HN2.out _).mono ?_; rintro e w1 ⟨rfl, rfl⟩)
    go_ret2
    exact ⟨rfl, Below.refl _ _⟩
  | true =>
    obtain ⟨k, m, rfl, hm, hkm⟩ := has_nat h
    obtain rfl : m = 4 := by omega
    rw [hO_yes s k hkm]
    have HY : Hid (∀ w, Calls Tryd.prog 61 #[.string s, .int .i64 (k : Int), .int .i64 4] w fun e w' => e = .returned (.tuple #[.string (cutB s k 4), .bool true]) ∧ Below w.heap.size w w') := Lib.hid (fun w => cut_yes s k 4 w hkm hs)
    have hz : (cutB s k 4).size = 4 := cutB_size s k 4 hkm
    have HS := Lib.hid hS
    cases hx : hxF 0 (cutB s k 4).data.toList with
    | some n =>
      have HP := Lib.hid (fun w => pub_yes (cutB s k 4) n hz hx w)
      have hn : n < 65536 := by
        have := hxF_lt _ 0 0 n (by decide) hx
        rw [← Lib.size_eq, hz] at this
        exact this
      generalize cutB s k 4 = c at *
      clear h hS hx hm hz
      have hwn : IntKind.i64.wrap (n : Int) = (n : Int) := by rw [IntKind.wrap_i64]; omega
      go_enter Tryd.func62, Tryd.ntmps62
      go_wp2_with (first
        | (go_at_call 61; refine (HY.out _).mono ?_; rintro e w1 ⟨rfl, hb1⟩)
        | (go_at_call 67; refine (HP.out _).mono ?_; rintro e w2 ⟨rfl, hb2⟩))
      go_ret2
      exact ⟨rfl, hb1.trans (hb2.mono hb1.size)⟩
    | none =>
      have HP := Lib.hid (fun w hS => pub_no (cutB s k 4) hz hx w hS)
      generalize cutB s k 4 = c at *
      clear h hS hx hm hz
      go_enter Tryd.func62, Tryd.ntmps62
      go_wp2_with (first
        | (go_at_call 61; refine (HY.out _).mono ?_; rintro e w1 ⟨rfl, hb1⟩)
        | (go_at_call 67; refine (HP.out _ (HS.out.next hb1)).mono ?_; rintro e w2 ⟨N, rfl, hb2⟩))
      go_ret2
      exact ⟨rfl, hb1.trans (hb2.mono hb1.size)⟩
end Go.Proofs.YtggahjhjapnfeaaDoor.Quo
