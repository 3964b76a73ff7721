/- Contracts of Take, and of the document's. Conditions: as each theorem states. -/
import Derived.Test.YtpjopidmcahbdaaDoorVarA
namespace Go.Proofs.YtpjopidmcahbdaaDoor.Var
open Go.RowKit Go.Lib Go.Proofs.YtpjopidmcahbdaaDoor.Byt

/-- What Take hands back where the offset stands within the text. -/
def rt (i : Nat) (r : Nat × Nat × Nat) : Ending := .returned (.tuple #[.int .u64 (r.1 : Nat), .int .i64 ((if r.2.2 = 0 then i + r.2.1 else 0 : Nat) : Int), .int .i64 (r.2.2 : Nat)])
theorem rt_err (i e : Nat) (h : e ≠ 0) : rt i (0, 0, e) = .returned (.tuple #[.int .u64 0, .int .i64 0, .int .i64 (e : Int)]) := by
  unfold rt; simp only [if_neg h]; rfl
theorem rt_ok (i m c : Nat) : rt i (m, c, 0) = .returned (.tuple #[.int .u64 (m : Int), .int .i64 ((i + c : Nat) : Int), .int .i64 0]) := rfl
theorem drop_at (s : ByteArray) (j : Nat) (h : j < s.size) : s.data.toList.drop j = s[j] :: s.data.toList.drop (j + 1) := by
  have h2 : j < s.data.toList.length := by simpa using h
  rw [List.drop_eq_getElem_cons h2]; rfl
theorem drop_end (s : ByteArray) (j : Nat) (h : s.size ≤ j) : s.data.toList.drop j = [] := List.drop_eq_nil_of_le (by simpa using h)
theorem index_at (s : ByteArray) (i m : Nat) (h : i + m < s.size) (w : World) :
    (Instr.index 9 (.string s) (.int .i64 ((i : Int) + (m : Int)))).run Tryd.prog w = .ok (.int .u8 (s[i + m].toNat : Int)) w := by
  rw [run_index_string w 9 _ .i64 ((i : Int) + (m : Int)) Tryd.underlying9, dif_pos ⟨by omega, by omega⟩]
  rfl

theorem wrap_dig (c m q : Nat) (hq : q = c % 128 * 128 ^ m) (h : q < 18446744073709551616) : IntKind.u64.wrap ((c : Int) % 128 * 2 ^ (7 * m)) = (q : Int) := by
  have e : (2 : Int) ^ (7 * m) = ((128 ^ m : Nat) : Int) := by rw [Int.pow_mul, Int.natCast_pow]; rfl
  have e2 : (c : Int) % 128 * ((128 ^ m : Nat) : Int) = (q : Int) := by rw [hq, Int.natCast_mul]; rfl
  rw [e, e2, IntKind.wrap_u64]; omega
theorem or_dig (n c m q : Nat) (hn : n < 128 ^ m) (hq : q = c % 128 * 128 ^ m) (h : n + q < 18446744073709551616) : bits .or .u64 (n : Int) (q : Int) = ((n + q : Nat) : Int) := by
  rw [bits_or_u64_nat n q (by omega) (by omega)]
  have e : (128 : Nat) ^ m = 2 ^ (7 * m) := by rw [Nat.pow_mul]
  rw [e] at hn hq
  have := Nat.shiftLeft_add_eq_or_of_lt (i := 7 * m) (b := n) hn (c % 128)
  rw [Nat.shiftLeft_eq, ← hq] at this
  rw [Nat.or_comm, ← this, Nat.add_comm]
theorem dig_lt (n c m : Nat) (hm : m ≤ 9) (hn : n < 128 ^ m) (h : ¬ (m = 9 ∧ 1 < c)) : n + c % 128 * 128 ^ m < 18446744073709551616 := by
  by_cases hi9 : m = 9
  · subst hi9
    have e : (128 : Nat) ^ 9 = 9223372036854775808 := by decide
    rw [e] at hn ⊢
    have : c ≤ 1 := by omega
    omega
  · have h3 : 128 ^ (m + 1) ≤ 128 ^ 9 := Nat.pow_le_pow_right (by decide) (by omega)
    have e : (128 : Nat) ^ 9 = 9223372036854775808 := by decide
    rw [e, Nat.pow_succ] at h3
    have h4 : c % 128 * 128 ^ m ≤ 127 * 128 ^ m := Nat.mul_le_mul_right _ (by omega)
    omega
theorem dig_next (n c m : Nat) (hn : n < 128 ^ m) : n + c % 128 * 128 ^ m < 128 ^ (m + 1) := by
  have h4 : c % 128 * 128 ^ m ≤ 127 * 128 ^ m := Nat.mul_le_mul_right _ (by omega)
  rw [Nat.pow_succ]
  omega

set_option maxRecDepth 10000 in
set_option maxHeartbeats 1000000 in
theorem take_in (s : ByteArray) (i : Nat) (w : World) (h : i ≤ s.size) (hs : s.size ≤ 140737488355328) :
    Calls Tryd.prog 15 #[.string s, .int .i64 (i : Int)] w fun e w' => e = rt i (tkR 0 0 (s.data.toList.drop i)) ∧ w = w' := by
  have d1 : decide ((i : Int) < 0) = false := decide_eq_false (by omega)
  have d2 : decide (s.size < i) = false := decide_eq_false (by omega)
  go_enter Tryd.func15, Tryd.ntmps15
  go_wp2_with fail
  go_loop [7, 22] (fun x j => ∃ m n : Nat, m ≤ 9 ∧ i + m ≤ s.size ∧ Hid (n < 128 ^ m) ∧ x = .int .u64 (n : Int) ∧ j = .int .i64 (m : Int) ∧ Hid (tkR 0 0 (s.data.toList.drop i) = tkR m n (s.data.toList.drop (i + m))))
    (fun _ j => s.size - (RowKit.intOf j).toNat)
  case atStart => exact ⟨0, 0, by omega, by omega, Lib.hid (by decide), rfl, rfl, Lib.hid rfl⟩
  case round =>
    obtain ⟨m, n, hm, him, hn, rfl, rfl, hr⟩ := hrel
    by_cases hlt : i + m < s.size
    · have hx := fun w => index_at s i m hlt w
      have hr2 := hr.out
      rw [drop_at s (i + m) hlt] at hr2
      obtain ⟨b, hb⟩ : ∃ b, b = s[i + m] := ⟨_, rfl⟩
      have hb8 := toNat_lt b
      rw [← hb] at hr2 hx
      clear hb hr
      rw [tkR] at hr2
      obtain ⟨c, hc⟩ : ∃ c, c = b.toNat := ⟨_, rfl⟩
      rw [← hc] at hr2 hx hb8
      clear hc
      by_cases h9 : m = 9 ∧ 1 < c
      · rw [if_pos h9] at hr2
        have HR := Lib.hid hr2
        obtain ⟨hm9, hc1⟩ := h9
        have hm8 : 8 < m := by omega
        clear hm9
        clear hr2
        go_wp2_with fail
        go_ret3
        exact ⟨by rw [HR.out]; exact (rt_err i 6 (by decide)).symm, rfl⟩
      rw [if_neg h9] at hr2
      have H9 := Lib.hid h9
      obtain ⟨q, hq⟩ : ∃ q, q = c % 128 * 128 ^ m := ⟨_, rfl⟩
      have hql := dig_lt n c m hm hn.out h9
      rw [← hq] at hql
      have hw := wrap_dig c m q hq (by omega)
      have hor := or_dig n c m q hn.out hq hql
      have HN := Lib.hid (dig_next n c m hn.out)
      have HQ := Lib.hid hq
      clear hq
      have hcase : (((m : Int) == 9) = true ∧ c ≤ 1 ∧ 0 < m) ∨ (((m : Int) == 9) = false ∧ m < 9) := by
        by_cases h : m = 9
        · exact .inl ⟨by rw [beq_iff_eq]; omega, by omega, by omega⟩
        · exact .inr ⟨by rw [beq_eq_false_iff_ne]; omega, by omega⟩
      clear h9
      rcases hcase with ⟨hB, hc1, hm0⟩ | ⟨hB, hm8⟩
      all_goals
        by_cases h0 : 0 < m ∧ c = 0
        · rw [if_pos h0] at hr2
          have HR := Lib.hid hr2
          obtain ⟨h0, hc0⟩ := h0
          clear hr2
          go_wp2_with fail
          all_goals
            go_ret3
            exact ⟨by rw [HR.out]; exact (rt_err i 5 (by decide)).symm, rfl⟩
        · rw [if_neg h0] at hr2
          by_cases h1 : c < 128
          · rw [if_pos h1] at hr2
            have HR := Lib.hid hr2
            have HQ' : Hid (q = c * 128 ^ m) := Lib.hid (by rw [HQ.out, show c % 128 = c by omega])
            clear hr2
            go_wp2_with fail
            all_goals
              go_ret3
              exact ⟨by rw [HR.out, rt_ok, ← HQ'.out]; rfl, rfl⟩
          · rw [if_neg h1, ← HQ.out] at hr2
            have HR := Lib.hid hr2
            have HM : Hid (m < 9) := Lib.hid (by have := H9.out; omega)
            clear hr2
            go_wp2_with fail
            all_goals
              go_round
              case rel => exact ⟨m + 1, n + q, by have := HM.out; omega, by omega, Lib.hid (by rw [HQ.out]; exact HN.out), by go_num, by go_num, Lib.hid HR.out⟩
              case measure => simp [RowKit.intOf]; omega
    · have hr2 := hr.out
      rw [drop_end s (i + m) (by omega)] at hr2
      have HR := Lib.hid hr2
      clear hr hr2
      go_wp2_with fail
      go_ret3
      exact ⟨by rw [HR.out]; exact (rt_err i 3 (by decide)).symm, rfl⟩
end Go.Proofs.YtpjopidmcahbdaaDoor.Var
