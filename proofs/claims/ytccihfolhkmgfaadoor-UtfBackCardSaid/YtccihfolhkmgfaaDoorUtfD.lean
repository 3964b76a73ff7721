/- Contracts of the document's number, Runes, Count and Put. Conditions: as each theorem states. -/
import Derived.Test.YtccihfolhkmgfaaDoorUtfC
namespace Go.Proofs.YtccihfolhkmgfaaDoor.Utf
open Go.RowKit Go.Lib Go.Proofs.YtccihfolhkmgfaaDoor.Byt

theorem pow_le3 (j : Nat) (h : j ≤ 3) : 128 * 64 ^ j ≤ 33554432 := by
  have := Nat.pow_le_pow_right (n := 64) (by decide) h
  have e : (64 : Nat) ^ 3 = 262144 := by decide
  omega

set_option maxRecDepth 100000 in
set_option maxHeartbeats 1000000 in
theorem number_any (s : ByteArray) (i : Nat) (w : World) (h : i < s.size) (h0 : 0 < wS s i) (hs : s.size ≤ 140737488355328) :
    Calls Tryd.prog 18 #[.string s, .int .i64 (i : Int), .int .i64 (wS s i : Nat)] w fun e w' => e = .returned (.int .i64 (nL (s.data.toList.drop i) : Nat)) ∧ w = w' := by
  obtain ⟨hle, hby, hc⟩ := seq_facts s i h h0
  have hx0 := fun w => index_at s i _ rfl h w
  have hb := bt_lt s i
  generalize nL (s.data.toList.drop i) = R at *
  generalize wS s i = n at *
  obtain ⟨c, hcc⟩ : ∃ c, c = bt s i := ⟨_, rfl⟩
  rw [← hcc] at hx0 hb hc
  have HBY := Lib.hid hby
  clear hby hcc
  have hq : ∃ q d : Nat, q < 128 ∧ R = pN s i q (n - 1) ∧ (n = 1 ∧ d = 0 ∨ n = 2 ∧ d = 192 ∨ n = 3 ∧ d = 224 ∨ n = 4 ∧ d = 240) ∧ c = q + d := by
    rcases hc with ⟨rfl, h1, h2⟩ | ⟨rfl, h1, h2, h3⟩ | ⟨rfl, h1, h2, h3⟩ | ⟨rfl, h1, h2, h3⟩
    · exact ⟨c, 0, by omega, h2, .inl ⟨rfl, rfl⟩, by omega⟩
    · exact ⟨c - 192, 192, by omega, h3, .inr (.inl ⟨rfl, rfl⟩), by omega⟩
    · exact ⟨c - 224, 224, by omega, h3, .inr (.inr (.inl ⟨rfl, rfl⟩)), by omega⟩
    · exact ⟨c - 240, 240, by omega, h3, .inr (.inr (.inr ⟨rfl, rfl⟩)), by omega⟩
  obtain ⟨q, d, hq, hR, hnd, hcd⟩ := hq
  have HL := Lib.hid (fun j (hj : j ≤ n - 1) => Nat.lt_of_lt_of_le (pN_lt s i q hq (n - 1) (fun j hj => (HBY.out j hj).2) j hj) (pow_le3 j (by omega)))
  have HR := Lib.hid hR
  subst hcd
  clear hR hc
  rcases hnd with ⟨rfl, rfl⟩ | ⟨rfl, rfl⟩ | ⟨rfl, rfl⟩ | ⟨rfl, rfl⟩
  all_goals
    go_enter Tryd.func18, Tryd.ntmps18
    go_wp2_with fail
  · go_loop [7, 8] (fun x j => ∃ m : Nat, j = .int .i64 (m : Int) ∧ 1 ≤ m ∧ m ≤ 1 ∧ x = .int .i64 (pN s i q (m - 1) : Nat)) (fun _ j => 1 - (RowKit.intOf j).toNat)
    case atStart => exact ⟨1, rfl, by omega, by omega, congrArg (Value.int .i64) (by first | (rw [pN_zero]; done) | (rw [pN_zero]; omega))⟩
    case round =>
      obtain ⟨m, rfl, h1, h2, rfl⟩ := hrel
      obtain rfl : m = 1 := by omega
      go_wp2_with fail
      go_ret
      exact ⟨by rw [HR.out]; rfl, rfl⟩
  · go_loop [7, 8] (fun x j => ∃ m : Nat, j = .int .i64 (m : Int) ∧ 1 ≤ m ∧ m ≤ 2 ∧ x = .int .i64 (pN s i q (m - 1) : Nat)) (fun _ j => 2 - (RowKit.intOf j).toNat)
    case atStart => exact ⟨1, rfl, by omega, by omega, congrArg (Value.int .i64) (by first | (rw [pN_zero]; done) | (rw [pN_zero]; omega))⟩
    case round =>
      obtain ⟨m, rfl, h1, h2, rfl⟩ := hrel
      by_cases hlt : m < 2
      · have hx := fun w => index_at s (i + 1 + (m - 1)) ((i : Int) + (m : Int)) (by omega) (by omega) w
        have hbb := HBY.out (m - 1) (by omega)
        have hX := HL.out (m - 1) (by omega)
        have hS := pN_succ s i q (m - 1)
        rw [show m - 1 + 1 = m + 1 - 1 by omega] at hS
        have HS := Lib.hid hS
        clear hS
        generalize bt s (i + 1 + (m - 1)) = b at *
        generalize pN s i q (m - 1) = X at *
        go_wp2_with fail
        go_round
        case rel => exact ⟨m + 1, by go_num, by omega, by omega, congrArg (Value.int .i64) (by rw [HS.out]; omega)⟩
        case measure => simp [RowKit.intOf]; omega
      · obtain rfl : m = 2 := by omega
        go_wp2_with fail
        go_ret
        exact ⟨by rw [HR.out]; rfl, rfl⟩
  · go_loop [7, 8] (fun x j => ∃ m : Nat, j = .int .i64 (m : Int) ∧ 1 ≤ m ∧ m ≤ 3 ∧ x = .int .i64 (pN s i q (m - 1) : Nat)) (fun _ j => 3 - (RowKit.intOf j).toNat)
    case atStart => exact ⟨1, rfl, by omega, by omega, congrArg (Value.int .i64) (by first | (rw [pN_zero]; done) | (rw [pN_zero]; omega))⟩
    case round =>
      obtain ⟨m, rfl, h1, h2, rfl⟩ := hrel
      by_cases hlt : m < 3
      · have hx := fun w => index_at s (i + 1 + (m - 1)) ((i : Int) + (m : Int)) (by omega) (by omega) w
        have hbb := HBY.out (m - 1) (by omega)
        have hX := HL.out (m - 1) (by omega)
        have hS := pN_succ s i q (m - 1)
        rw [show m - 1 + 1 = m + 1 - 1 by omega] at hS
        have HS := Lib.hid hS
        clear hS
        generalize bt s (i + 1 + (m - 1)) = b at *
        generalize pN s i q (m - 1) = X at *
        go_wp2_with fail
        go_round
        case rel => exact ⟨m + 1, by go_num, by omega, by omega, congrArg (Value.int .i64) (by rw [HS.out]; omega)⟩
        case measure => simp [RowKit.intOf]; omega
      · obtain rfl : m = 3 := by omega
        go_wp2_with fail
        go_ret
        exact ⟨by rw [HR.out]; rfl, rfl⟩
  · go_loop [7, 8] (fun x j => ∃ m : Nat, j = .int .i64 (m : Int) ∧ 1 ≤ m ∧ m ≤ 4 ∧ x = .int .i64 (pN s i q (m - 1) : Nat)) (fun _ j => 4 - (RowKit.intOf j).toNat)
    case atStart => exact ⟨1, rfl, by omega, by omega, congrArg (Value.int .i64) (by first | (rw [pN_zero]; done) | (rw [pN_zero]; omega))⟩
    case round =>
      obtain ⟨m, rfl, h1, h2, rfl⟩ := hrel
      by_cases hlt : m < 4
      · have hx := fun w => index_at s (i + 1 + (m - 1)) ((i : Int) + (m : Int)) (by omega) (by omega) w
        have hbb := HBY.out (m - 1) (by omega)
        have hX := HL.out (m - 1) (by omega)
        have hS := pN_succ s i q (m - 1)
        rw [show m - 1 + 1 = m + 1 - 1 by omega] at hS
        have HS := Lib.hid hS
        clear hS
        generalize bt s (i + 1 + (m - 1)) = b at *
        generalize pN s i q (m - 1) = X at *
        go_wp2_with fail
        go_round
        case rel => exact ⟨m + 1, by go_num, by omega, by omega, congrArg (Value.int .i64) (by rw [HS.out]; omega)⟩
        case measure => simp [RowKit.intOf]; omega
      · obtain rfl : m = 4 := by omega
        go_wp2_with fail
        go_ret
        exact ⟨by rw [HR.out]; rfl, rfl⟩

theorem rest_yes {s : ByteArray} (h : rest s 0 = none) : badL s.data.toList = none := by rw [← rest_start]; exact h
theorem rest_no {s : ByteArray} {k : Nat} (h : rest s 0 = some k) : badL s.data.toList = some k := by rw [← rest_start]; exact h

set_option maxHeartbeats 1000000 in
theorem rrunes_any (s : ByteArray) (w : World) (hs : s.size ≤ 1000000) :
    Calls Tryd.prog 8 #[.string s] w fun e w' => ∃ v, e = .returned (.tuple #[v, .bool (rB s.data.toList)]) ∧ Num.Row w' v (rZ s.data.toList) ∧ Below w.heap.size w w' := by
  have hlen : s.data.toList.length = s.size := by simp
  have HLen := Lib.hid (rnL_len s.data.toList)
  go_enter Tryd.func8, Tryd.ntmps8
  go_wp2_with fail
  go_loopw [4, 5] (fun v x wr => ∃ (pos : Nat) (acc : List Nat), x = .int .i64 (pos : Int) ∧ Num.Own wr w.heap.size v (acc.map fun n : Nat => (n : Int)) ∧ Below w.heap.size w wr ∧ pos ≤ s.size ∧
      Hid (rnL s.data.toList = acc ++ rnL (s.data.toList.drop pos)) ∧ Hid (rest s 0 = rest s pos))
    (fun _ x _ => s.size - (RowKit.intOf x).toNat)
  case atStart => exact ⟨0, [], rfl, Num.Own.nil _ _, Below.refl _ _, Nat.zero_le _, Lib.hid rfl, Lib.hid rfl⟩
  case round =>
    obtain ⟨pos, acc, rfl, hown, hb, hpos, hacc, hr⟩ := hrel
    by_cases hp : pos < s.size
    · have HW := Lib.hid (fun w' => rwidth_in s pos w' hp (by omega))
      have hle := wS_le s pos hpos
      by_cases h0 : wS s pos = 0
      · have HR := Lib.hid (rest_no (hr.out.trans (rest_bad s pos hp h0)))
        rw [h0] at HW
        clear h0 hle hr
        go_wp2_with (go_at_call 12; refine (HW.out _).mono ?_; rintro e w' ⟨rfl, rfl⟩)
        go_ret2
        refine ⟨_, ret_vb (by unfold rB; rw [HR.out]; rfl), ?_, hb⟩
        unfold rZ
        rw [HR.out, if_neg (by simp)]
        exact Num.Row.nil _
      · have hw0 : 0 < wS s pos := by omega
        have HR := Lib.hid (hr.out.trans (rest_step s pos hw0))
        have HN := Lib.hid (fun w' => number_any s pos w' hp hw0 (by omega))
        have hacc2 := hacc.out
        rw [rnL_step (l := s.data.toList.drop pos) hw0, List.drop_drop] at hacc2
        change rnL s.data.toList = acc ++ nL (s.data.toList.drop pos) :: rnL (s.data.toList.drop (pos + wS s pos)) at hacc2
        have hR := nL_le (s.data.toList.drop pos)
        have hal := HLen.out
        rw [hacc2] at hal
        simp only [List.length_append, List.length_cons] at hal
        generalize nL (s.data.toList.drop pos) = R at *
        generalize wS s pos = K at *
        have HAC := Lib.hid hacc2
        have hk0 : ((K : Int) == 0) = false := by rw [beq_eq_false_iff_ne]; omega
        have hsz := hb.size
        clear h0 hr hacc hacc2
        go_wp2_with (first
          | (go_at_call 12; refine (HW.out _).mono ?_; rintro e w' ⟨rfl, rfl⟩)
          | (go_at_call 18; refine (HN.out _).mono ?_; rintro e w' ⟨rfl, rfl⟩)
          | (with_reducible refine Num.wpList_push _ rfl _ _ rfl w.heap.size w _ _ rfl (hown.alloc _) (hb.alloc hsz _) (Nat.le_refl _) _ _ _ rfl _ _ (heap_alloc_new _ _) [(R : Int)] rfl (one_int _ _ (by omega)) (by simp; omega) ?_; intro v3 w3 hown3 hb4 _hit3))
        go_roundw
        case rel => exact ⟨pos + K, acc ++ [R], by go_num, by simpa using hown3, hb4, by omega, Lib.hid (by rw [HAC.out]; simp), HR⟩
        case measure => simp [RowKit.intOf]; omega
    · have HR := Lib.hid (rest_yes (hr.out.trans (rest_end s pos (by omega))))
      have hacc2 := hacc.out
      rw [drop_none s pos (by omega), rnL_nil, List.append_nil] at hacc2
      have HAC := Lib.hid hacc2
      clear hr hacc hacc2
      go_wp2_with fail
      go_ret2
      refine ⟨_, ret_vb (by unfold rB; rw [HR.out]; rfl), ?_, hb⟩
      unfold rZ
      rw [if_pos HR.out, HAC.out]
      exact hown.row

theorem row_shape {w : World} {v : Value} {xs : List Int} (h : Num.Row w v xs) : ∃ a cap, v = .slice a xs.length cap := by
  rcases h with ⟨rfl, a, cap, rfl⟩ | ⟨b, off, cap, rfl, _⟩
  · exact ⟨_, _, rfl⟩
  · exact ⟨_, _, rfl⟩
theorem rcount_any (s : ByteArray) (w : World) (hs : s.size ≤ 1000000) :
    Calls Tryd.prog 17 #[.string s] w fun e w' => e = .returned (.int .i64 (cI s.data.toList)) ∧ Below w.heap.size w w' := by
  have HR := Lib.hid (rrunes_any s w hs)
  unfold cI
  unfold rB rZ at HR
  have hlen : s.data.toList.length = s.size := by simp
  have hl := rnL_len s.data.toList
  cases hb : badL s.data.toList with
  | none =>
    rw [hb, if_pos rfl] at HR
    rw [if_pos rfl]
    clear hb
    generalize rnL s.data.toList = ns at *
    go_enter Tryd.func17, Tryd.ntmps17
    go_wp2_with fail
    refine HR.out.mono ?_; rintro e w1 ⟨v, rfl, hrow, hb1⟩
    obtain ⟨a, cap, rfl⟩ := row_shape hrow
    rw [List.length_map]
    clear hrow
    go_wp2_with fail
    go_ret
    exact ⟨rfl, hb1⟩
  | some k =>
    rw [hb, if_neg (by simp)] at HR
    rw [if_neg (by simp)]
    clear hb
    go_enter Tryd.func17, Tryd.ntmps17
    go_wp2_with fail
    refine HR.out.mono ?_; rintro e w1 ⟨v, rfl, hrow, hb1⟩
    clear hrow
    go_wp2_with fail
    go_ret
    exact ⟨rfl, hb1⟩

/-! ### Put -/
theorem enc_cells1 (n x : Int) (h : 0 ≤ n ∧ n < 128) (hx : x = n) : (#[Value.int .u8 x]).toList = byteCells (encodeRune n) := by
  subst hx
  rw [byteCells_encodeRune, runeCells, encodeRuneZ_one h.1 (by omega)]; rfl
theorem enc_cells2 (n x y : Int) (h : 128 ≤ n ∧ n < 2048) (hx : x = 192 + n / 64) (hy : y = 128 + n % 64) : (#[Value.int .u8 x, .int .u8 y]).toList = byteCells (encodeRune n) := by
  subst hx hy
  rw [byteCells_encodeRune, runeCells, encodeRuneZ_two h.1 (by omega)]; rfl
theorem enc_cells3 (n x y z : Int) (h : (2048 ≤ n ∧ n < 55296) ∨ (57343 < n ∧ n ≤ 65535)) (hx : x = 224 + n / 4096) (hy : y = 128 + n / 64 % 64) (hz : z = 128 + n % 64) : (#[Value.int .u8 x, .int .u8 y, .int .u8 z]).toList = byteCells (encodeRune n) := by
  subst hx hy hz
  rw [byteCells_encodeRune, runeCells, encodeRuneZ_three h]; rfl
theorem enc_cells4 (n x y z u : Int) (h : 65536 ≤ n ∧ n ≤ 1114111) (hx : x = 240 + n / 262144) (hy : y = 128 + n / 4096 % 64) (hz : z = 128 + n / 64 % 64) (hu : u = 128 + n % 64) : (#[Value.int .u8 x, .int .u8 y, .int .u8 z, .int .u8 u]).toList = byteCells (encodeRune n) := by
  subst hx hy hz hu
  rw [byteCells_encodeRune, runeCells, encodeRuneZ_four h.1 h.2]; rfl
theorem enc_size {n : Int} (h : 0 ≤ n) : (n < 128 → (encodeRune n).length = 1) ∧ (128 ≤ n ∧ n < 2048 → (encodeRune n).length = 2) ∧ ((2048 ≤ n ∧ n < 55296) ∨ (57343 < n ∧ n ≤ 65535) → (encodeRune n).length = 3) ∧ (65536 ≤ n ∧ n ≤ 1114111 → (encodeRune n).length = 4) := by
  refine ⟨fun c => ?_, fun c => ?_, fun c => ?_, fun c => ?_⟩
  · rw [encodeRune, encodeRuneZ_one h (by omega)]; rfl
  · rw [encodeRune, encodeRuneZ_two c.1 (by omega)]; rfl
  · rw [encodeRune, encodeRuneZ_three c]; rfl
  · rw [encodeRune, encodeRuneZ_four c.1 c.2]; rfl

set_option maxRecDepth 100000 in
set_option maxHeartbeats 1000000 in
theorem rput_any (v : Value) (xs : List Int) (w : World) (hr : Num.Row w v xs) (hl : xs.length ≤ 1000000) (hbd : ∀ n ∈ xs, -9223372036854775808 ≤ n ∧ n ≤ 9223372036854775807) :
    Calls Tryd.prog 10 #[v] w fun e w' => e = .returned (.tuple #[.string (pS xs), .bool (pB xs)]) ∧ Below w.heap.size w w' := by
  rcases hr with ⟨rfl, a, cap, rfl⟩ | ⟨b, off, cap, rfl, hcell⟩
  · clear hbd
    go_enter Tryd.func10, Tryd.ntmps10
    go_wp2_with fail
    go_loop [4, 9] (fun u i => i = .int .i64 0 ∧ u = .slice none 0 0) (fun _ _ => 0)
    case atStart => exact ⟨rfl, rfl⟩
    case round =>
      obtain ⟨rfl, rfl⟩ := hrel
      have hown := Own.nil w w.heap.size
      go_wp2_with (with_reducible refine wpList_string _ rfl _ rfl _ _ _ rfl hown ?_)
      go_ret2
      exact ⟨rfl, Below.refl _ _⟩
  · have HCell := Lib.hid hcell
    have HBd := Lib.hid hbd
    clear hcell hbd
    go_enter Tryd.func10, Tryd.ntmps10
    go_wp2_with fail
    go_loopw [4, 9] (fun u i wr => ∃ k : Nat, i = .int .i64 (k : Int) ∧ k ≤ xs.length ∧ Own wr w.heap.size u (encZ (xs.take k)) ∧ Hid ((xs.take k).all vI = true) ∧ Below w.heap.size w wr) (fun _ i _ => xs.length - (RowKit.intOf i).toNat)
    case atStart => exact ⟨0, rfl, Nat.zero_le _, Own.nil _ _, Lib.hid rfl, Below.refl _ _⟩
    case round =>
      obtain ⟨k, rfl, hk, hown, hall, hb⟩ := hrel
      by_cases hlt : k < xs.length
      · have hc0 := HCell.out k hlt
        have hc := (hb.cell (Num.cell_lt hc0)).trans hc0
        clear hc0
        obtain ⟨n, hn⟩ : ∃ n, n = xs.getD k 0 := ⟨_, rfl⟩
        have hnb : -9223372036854775808 ≤ n ∧ n ≤ 9223372036854775807 := HBd.out n (by rw [hn]; simp [hlt])
        have HE := Lib.hid (encZ_step xs k hlt)
        have HA := Lib.hid (all_step xs k hlt)
        have HS := Lib.hid (all_stop xs k hlt)
        have hel := encZ_len (xs.take k)
        rw [List.length_take] at hel
        rw [← hn] at hc HE HA HS
        clear hn
        cases hv : vI n with
        | false =>
          have HP := Lib.hid (HS.out hv)
          have hv2 : n < 0 ∨ (0 ≤ n ∧ 1114111 < n) ∨ (0 ≤ n ∧ n ≤ 1114111 ∧ 55296 ≤ n ∧ n < 57344) := by unfold vI at hv; simp only [decide_eq_false_iff_not] at hv; omega
          clear hv
          obtain ⟨hb0, hb1⟩ := hnb
          rcases hv2 with c | ⟨c0, c⟩ | ⟨c0, c1, c2, c3⟩
          all_goals
            go_wp2_with fail
            go_ret2
            exact ⟨ret_sb (pS_no HP.out).symm HP.out.symm, hb⟩
        | true =>
          have hv2 : (0 ≤ n ∧ n < 128) ∨ (128 ≤ n ∧ n < 2048) ∨ (2048 ≤ n ∧ n < 55296) ∨ (57344 ≤ n ∧ n < 65536) ∨ (65536 ≤ n ∧ n ≤ 1114111) := by unfold vI at hv; simp only [decide_eq_true_eq] at hv; omega
          have HA2 := HA.out
          rw [hall.out, hv] at HA2
          have HAL := Lib.hid HA2
          have hsz := hb.size
          clear hv HA2 HA hnb
          have hq : ∀ d : Int, 0 < d → 0 ≤ n → n.tdiv d = n / d ∧ n.tmod d = n % d := fun d _ h => ⟨Int.tdiv_eq_ediv_of_nonneg h, Int.tmod_eq_emod_of_nonneg h⟩
          rcases hv2 with c | c | c | c | c
          · have HZ := (enc_size c.1).1 c.2
            obtain ⟨c0, c1⟩ := c
            clear hq
            go_wp2_with (with_reducible refine wpList_push _ rfl _ _ rfl w.heap.size w _ _ rfl (hown.alloc _) (hb.alloc hsz _) (Nat.le_refl _) _ _ _ rfl _ _ (heap_alloc_new _ _) (encodeRune n) HZ (enc_cells1 _ _ ⟨c0, c1⟩ (by omega)) (by omega) ?_; intro v2 w2 hown2 hb2)
            go_roundw
            case rel => exact ⟨k + 1, by go_num, by omega, by rw [HE.out]; exact hown2, HAL, hb2⟩
            case measure => simp [RowKit.intOf]; omega
          · have HZ := (enc_size (by omega)).2.1 c
            obtain ⟨c0, c1⟩ := c
            clear hq
            go_wp2_with (with_reducible refine wpList_push _ rfl _ _ rfl w.heap.size w _ _ rfl (hown.alloc _) (hb.alloc hsz _) (Nat.le_refl _) _ _ _ rfl _ _ (heap_alloc_new _ _) (encodeRune n) HZ (enc_cells2 _ _ _ ⟨c0, c1⟩ (by omega) (by omega)) (by omega) ?_; intro v2 w2 hown2 hb2)
            go_roundw
            case rel => exact ⟨k + 1, by go_num, by omega, by rw [HE.out]; exact hown2, HAL, hb2⟩
            case measure => simp [RowKit.intOf]; omega
          · have HZ := (enc_size (by omega)).2.2.1 (.inl c)
            obtain ⟨c0, c1⟩ := c
            clear hq
            go_wp2_with (with_reducible refine wpList_push _ rfl _ _ rfl w.heap.size w _ _ rfl (hown.alloc _) (hb.alloc hsz _) (Nat.le_refl _) _ _ _ rfl _ _ (heap_alloc_new _ _) (encodeRune n) HZ (enc_cells3 _ _ _ _ (.inl ⟨c0, c1⟩) (by omega) (by omega) (by omega)) (by omega) ?_; intro v2 w2 hown2 hb2)
            go_roundw
            case rel => exact ⟨k + 1, by go_num, by omega, by rw [HE.out]; exact hown2, HAL, hb2⟩
            case measure => simp [RowKit.intOf]; omega
          · have HZ := (enc_size (n := n) (by omega)).2.2.1 (.inr ⟨by omega, by omega⟩)
            obtain ⟨c0, c1⟩ := c
            clear hq
            go_wp2_with (with_reducible refine wpList_push _ rfl _ _ rfl w.heap.size w _ _ rfl (hown.alloc _) (hb.alloc hsz _) (Nat.le_refl _) _ _ _ rfl _ _ (heap_alloc_new _ _) (encodeRune n) HZ (enc_cells3 _ _ _ _ (.inr ⟨by omega, by omega⟩) (by omega) (by omega) (by omega)) (by omega) ?_; intro v2 w2 hown2 hb2)
            go_roundw
            case rel => exact ⟨k + 1, by go_num, by omega, by rw [HE.out]; exact hown2, HAL, hb2⟩
            case measure => simp [RowKit.intOf]; omega
          · have HZ := (enc_size (by omega)).2.2.2 c
            obtain ⟨c0, c1⟩ := c
            clear hq
            go_wp2_with (with_reducible refine wpList_push _ rfl _ _ rfl w.heap.size w _ _ rfl (hown.alloc _) (hb.alloc hsz _) (Nat.le_refl _) _ _ _ rfl _ _ (heap_alloc_new _ _) (encodeRune n) HZ (enc_cells4 _ _ _ _ _ ⟨c0, c1⟩ (by omega) (by omega) (by omega) (by omega)) (by omega) ?_; intro v2 w2 hown2 hb2)
            go_roundw
            case rel => exact ⟨k + 1, by go_num, by omega, by rw [HE.out]; exact hown2, HAL, hb2⟩
            case measure => simp [RowKit.intOf]; omega
      · obtain rfl : k = xs.length := by omega
        have hall2 := hall.out
        rw [List.take_of_length_le (Nat.le_refl _)] at hall2 hown
        have HP := Lib.hid (show pB xs = true from hall2)
        clear hall hall2
        go_wp2_with (with_reducible refine wpList_string _ rfl _ rfl _ _ _ rfl hown ?_)
        go_ret2
        exact ⟨ret_sb (pS_yes HP.out).symm HP.out.symm, hb⟩
end Go.Proofs.YtccihfolhkmgfaaDoor.Utf
