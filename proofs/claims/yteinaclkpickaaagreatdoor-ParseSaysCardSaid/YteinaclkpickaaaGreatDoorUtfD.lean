/- Contracts of the document's number, Runes, Count and Put. Conditions: as each theorem states. -/
import Derived.Test.YteinaclkpickaaaGreatDoorUtfG1
namespace Go.Proofs.YteinaclkpickaaaGreatDoor.Utf
open Go.RowKit Go.Lib Go.Proofs.YteinaclkpickaaaGreatDoor.Byt

theorem pow_le3 (j : Nat) (h : j ≤ 3) : 128 * 64 ^ j ≤ 33554432 := by
  have := Nat.pow_le_pow_right (n := 64) (by decide) h
  have e : (64 : Nat) ^ 3 = 262144 := by decide
  omega

theorem rest_yes {s : ByteArray} (h : rest s 0 = none) : badL s.data.toList = none := by rw [← rest_start]; exact h
theorem rest_no {s : ByteArray} {k : Nat} (h : rest s 0 = some k) : badL s.data.toList = some k := by rw [← rest_start]; exact h

theorem row_shape {w : World} {v : Value} {xs : List Int} (h : Num.Row w v xs) : ∃ a cap, v = .slice a xs.length cap := by
  rcases h with ⟨rfl, a, cap, rfl⟩ | ⟨b, off, cap, rfl, _⟩
  · exact ⟨_, _, rfl⟩
  · exact ⟨_, _, rfl⟩
/-! ### Put -/
theorem enc_cells1 (n x : Int) (h : 0 ≤ n ∧ n < 128) (hx : x = n) : (#[Value.int .u8 x]).toList = byteCells (encodeRune n) := by
  subst hx
  rw [byteCells_encodeRune, runeCells, encodeRuneZ_one h.1 (by omega)]; rfl
theorem enc_cells2 (n x y : Int) (h : 128 ≤ n ∧ n < 2048) (hx : x = 192 + n / 64) (hy : y = 128 + n % 64) : (#[Value.int .u8 x, .int .u8 y]).toList = byteCells (encodeRune n) := by
  subst hx hy
  rw [byteCells_encodeRune, runeCells, encodeRuneZ_two h.1 (by omega)]; rfl
theorem enc_cells3 (n x y z : Int) (h : (2048 ≤ n ∧ n < 55296) ∨ (57343 < n ∧ n ≤ 65535)) (hx : x = 224 + n / 4096) (hy : y = 128 + n / 64 % 64) (hz : z = 128 + n % 64) : (#[Value.int .u8 x, .int .u8 y, .int .u8 z]).toList = byteCells (encodeRune n) := by
  subst hx hy hz
  rw [byteCells_encodeRune, runeCells, encodeRuneZ_three h]; rfl
theorem enc_cells4 (n x y z u : Int) (h : 65536 ≤ n ∧ n ≤ 1114111) (hx : x = 240 + n / 262144) (hy : y = 128 + n / 4096 % 64) (hz : z = 128 + n / 64 % 64) (hu : u = 128 + n % 64) : (#[Value.int .u8 x, .int .u8 y, .int .u8 z, .int .u8 u]).toList = byteCells (encodeRune n) := by
  subst hx hy hz hu
  rw [byteCells_encodeRune, runeCells, encodeRuneZ_four h.1 h.2]; rfl
theorem enc_size {n : Int} (h : 0 ≤ n) : (n < 128 → (encodeRune n).length = 1) ∧ (128 ≤ n ∧ n < 2048 → (encodeRune n).length = 2) ∧ ((2048 ≤ n ∧ n < 55296) ∨ (57343 < n ∧ n ≤ 65535) → (encodeRune n).length = 3) ∧ (65536 ≤ n ∧ n ≤ 1114111 → (encodeRune n).length = 4) := by
  refine ⟨fun c => ?_, fun c => ?_, fun c => ?_, fun c => ?_⟩
  · rw [encodeRune, encodeRuneZ_one h (by omega)]; rfl
  · rw [encodeRune, encodeRuneZ_two c.1 (by omega)]; rfl
  · rw [encodeRune, encodeRuneZ_three c]; rfl
  · rw [encodeRune, encodeRuneZ_four c.1 c.2]; rfl

set_option maxRecDepth 100000 in
set_option maxHeartbeats 1000000 in
theorem rput_any (v : Value) (xs : List Int) (w : World) (hr : Num.Row w v xs) (hl : xs.length ≤ 1000000) (hbd : ∀ n ∈ xs, -9223372036854775808 ≤ n ∧ n ≤ 9223372036854775807) :
    Calls Tryz.prog 81 #[v] w fun e w' => e = .returned (.tuple #[.string (pS xs), .bool (pB xs)]) ∧ Below w.heap.size w w' := by
  rcases hr with ⟨rfl, a, cap, rfl⟩ | ⟨b, off, cap, rfl, hcell⟩
  · clear hbd
    go_enter Tryz.func81, Tryz.ntmps81
    go_wp2_with fail
    go_loop [4, 9] (fun u i => i = .int .i64 0 ∧ u = .slice none 0 0) (fun _ _ => 0)
    case atStart => exact ⟨rfl, rfl⟩
    case round =>
      obtain ⟨rfl, rfl⟩ := hrel
      have hown := Own.nil w w.heap.size
      go_wp2_with (with_reducible refine wpList_string _ rfl _ rfl _ _ _ rfl hown ?_)
      go_ret2
      exact ⟨rfl, Below.refl _ _⟩
  · have HCell := Lib.hid hcell
    have HBd := Lib.hid hbd
    clear hcell hbd
    go_enter Tryz.func81, Tryz.ntmps81
    go_wp2_with fail
    go_loopw [4, 9] (fun u i wr => ∃ k : Nat, i = .int .i64 (k : Int) ∧ k ≤ xs.length ∧ Own wr w.heap.size u (encZ (xs.take k)) ∧ Hid ((xs.take k).all vI = true) ∧ Below w.heap.size w wr) (fun _ i _ => xs.length - (RowKit.intOf i).toNat)
    case atStart => exact ⟨0, rfl, Nat.zero_le _, Own.nil _ _, Lib.hid rfl, Below.refl _ _⟩
    case round =>
      obtain ⟨k, rfl, hk, hown, hall, hb⟩ := hrel
      by_cases hlt : k < xs.length
      · have hc0 := HCell.out k hlt
        have hc := (hb.cell (Num.cell_lt hc0)).trans hc0
        clear hc0
        obtain ⟨n, hn⟩ : ∃ n, n = xs.getD k 0 := ⟨_, rfl⟩
        have hnb : -9223372036854775808 ≤ n ∧ n ≤ 9223372036854775807 := HBd.out n (by rw [hn]; simp [hlt])
        have HE := Lib.hid (encZ_step xs k hlt)
        have HA := Lib.hid (all_step xs k hlt)
        have HS := Lib.hid (all_stop xs k hlt)
        have hel := encZ_len (xs.take k)
        rw [List.length_take] at hel
        rw [← hn] at hc HE HA HS
        clear hn
        cases hv : vI n with
        | false =>
          have HP := Lib.hid (HS.out hv)
          have hv2 : n < 0 ∨ (0 ≤ n ∧ 1114111 < n) ∨ (0 ≤ n ∧ n ≤ 1114111 ∧ 55296 ≤ n ∧ n < 57344) := by unfold vI at hv; simp only [decide_eq_false_iff_not] at hv; omega
          clear hv
          obtain ⟨hb0, hb1⟩ := hnb
          rcases hv2 with c | ⟨c0, c⟩ | ⟨c0, c1, c2, c3⟩
          all_goals
            go_wp2_with fail
            go_ret2
            exact ⟨ret_sb (pS_no HP.out).symm HP.out.symm, hb⟩
        | true =>
          have hv2 : (0 ≤ n ∧ n < 128) ∨ (128 ≤ n ∧ n < 2048) ∨ (2048 ≤ n ∧ n < 55296) ∨ (57344 ≤ n ∧ n < 65536) ∨ (65536 ≤ n ∧ n ≤ 1114111) := by unfold vI at hv; simp only [decide_eq_true_eq] at hv; omega
          have HA2 := HA.out
          rw [hall.out, hv] at HA2
          have HAL := Lib.hid HA2
          have hsz := hb.size
          clear hv HA2 HA hnb
          have hq : ∀ d : Int, 0 < d → 0 ≤ n → n.tdiv d = n / d ∧ n.tmod d = n % d := fun d _ h => ⟨Int.tdiv_eq_ediv_of_nonneg h, Int.tmod_eq_emod_of_nonneg h⟩
          rcases hv2 with c | c | c | c | c
          · have HZ := (enc_size c.1).1 c.2
            obtain ⟨c0, c1⟩ := c
            clear hq
            go_wp2_with (with_reducible refine wpList_push _ rfl _ _ rfl w.heap.size w _ _ rfl (hown.alloc _) (hb.alloc hsz _) (Nat.le_refl _) _ _ _ rfl _ _ (heap_alloc_new _ _) (encodeRune n) HZ (enc_cells1 _ _ ⟨c0, c1⟩ (by omega)) (by omega) ?_; intro v2 w2 hown2 hb2)
            go_roundw
            case rel => exact ⟨k + 1, by go_num, by omega, by rw [HE.out]; exact hown2, HAL, hb2⟩
            case measure => simp [RowKit.intOf]; omega
          · have HZ := (enc_size (by omega)).2.1 c
            obtain ⟨c0, c1⟩ := c
            clear hq
            go_wp2_with (with_reducible refine wpList_push _ rfl _ _ rfl w.heap.size w _ _ rfl (hown.alloc _) (hb.alloc hsz _) (Nat.le_refl _) _ _ _ rfl _ _ (heap_alloc_new _ _) (encodeRune n) HZ (enc_cells2 _ _ _ ⟨c0, c1⟩ (by omega) (by omega)) (by omega) ?_; intro v2 w2 hown2 hb2)
            go_roundw
            case rel => exact ⟨k + 1, by go_num, by omega, by rw [HE.out]; exact hown2, HAL, hb2⟩
            case measure => simp [RowKit.intOf]; omega
          · have HZ := (enc_size (by omega)).2.2.1 (.inl c)
            obtain ⟨c0, c1⟩ := c
            clear hq
            go_wp2_with (with_reducible refine wpList_push _ rfl _ _ rfl w.heap.size w _ _ rfl (hown.alloc _) (hb.alloc hsz _) (Nat.le_refl _) _ _ _ rfl _ _ (heap_alloc_new _ _) (encodeRune n) HZ (enc_cells3 _ _ _ _ (.inl ⟨c0, c1⟩) (by omega) (by omega) (by omega)) (by omega) ?_; intro v2 w2 hown2 hb2)
            go_roundw
            case rel => exact ⟨k + 1, by go_num, by omega, by rw [HE.out]; exact hown2, HAL, hb2⟩
            case measure => simp [RowKit.intOf]; omega
          · have HZ := (enc_size (n := n) (by omega)).2.2.1 (.inr ⟨by omega, by omega⟩)
            obtain ⟨c0, c1⟩ := c
            clear hq
            go_wp2_with (with_reducible refine wpList_push _ rfl _ _ rfl w.heap.size w _ _ rfl (hown.alloc _) (hb.alloc hsz _) (Nat.le_refl _) _ _ _ rfl _ _ (heap_alloc_new _ _) (encodeRune n) HZ (enc_cells3 _ _ _ _ (.inr ⟨by omega, by omega⟩) (by omega) (by omega) (by omega)) (by omega) ?_; intro v2 w2 hown2 hb2)
            go_roundw
            case rel => exact ⟨k + 1, by go_num, by omega, by rw [HE.out]; exact hown2, HAL, hb2⟩
            case measure => simp [RowKit.intOf]; omega
          · have HZ := (enc_size (by omega)).2.2.2 c
            obtain ⟨c0, c1⟩ := c
            clear hq
            go_wp2_with (with_reducible refine wpList_push _ rfl _ _ rfl w.heap.size w _ _ rfl (hown.alloc _) (hb.alloc hsz _) (Nat.le_refl _) _ _ _ rfl _ _ (heap_alloc_new _ _) (encodeRune n) HZ (enc_cells4 _ _ _ _ _ ⟨c0, c1⟩ (by omega) (by omega) (by omega) (by omega)) (by omega) ?_; intro v2 w2 hown2 hb2)
            go_roundw
            case rel => exact ⟨k + 1, by go_num, by omega, by rw [HE.out]; exact hown2, HAL, hb2⟩
            case measure => simp [RowKit.intOf]; omega
      · obtain rfl : k = xs.length := by omega
        have hall2 := hall.out
        rw [List.take_of_length_le (Nat.le_refl _)] at hall2 hown
        have HP := Lib.hid (show pB xs = true from hall2)
        clear hall hall2
        go_wp2_with (with_reducible refine wpList_string _ rfl _ rfl _ _ _ rfl hown ?_)
        go_ret2
        exact ⟨ret_sb (pS_yes HP.out).symm HP.out.symm, hb⟩
end Go.Proofs.YteinaclkpickaaaGreatDoor.Utf
