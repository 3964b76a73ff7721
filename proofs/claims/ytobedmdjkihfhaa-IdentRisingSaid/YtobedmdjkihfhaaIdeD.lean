/- The statements' example of ids; the law IdentGrows. Conditions: as each theorem states. -/
import Derived.Test.YtobedmdjkihfhaaIdeA
import Derived.Test.YtobedmdjkihfhaaIdeB
import Derived.Test.YtobedmdjkihfhaaIdeC
import Derived.Deep.RegionHeld3
namespace Go.Proofs.Ytobedmdjkihfhaa.Ide
open Go.RowKit Go.Lib Go.Proofs.Ytobedmdjkihfhaa.Byt

/-! ### the example -/
theorem row2 (w : World) (s t : ByteArray) : Strs.Row (w.alloc (.cells #[.string s, .string t] 9)) (.slice (some ⟨w.heap.size, 0, none⟩) 2 2) [s, t] := .inr ⟨w.heap.size, 0, 2, rfl, fun j hj => by
  rw [Lib.cell_of_heap (heap_alloc_new w _)]
  match j, hj with
  | 0, _ => rfl
  | 1, _ => rfl⟩
theorem row3 (w : World) (s t u : ByteArray) : Strs.Row (w.alloc (.cells #[.string s, .string t, .string u] 9)) (.slice (some ⟨w.heap.size, 0, none⟩) 3 3) [s, t, u] := .inr ⟨w.heap.size, 0, 3, rfl, fun j hj => by
  rw [Lib.cell_of_heap (heap_alloc_new w _)]
  match j, hj with
  | 0, _ => rfl
  | 1, _ => rfl
  | 2, _ => rfl⟩
theorem lt_ab : lt ⟨#[97]⟩ ⟨#[98]⟩ = true := by rw [lt_is]; decide
theorem lt_ac : lt ⟨#[97]⟩ ⟨#[99]⟩ = true := by rw [lt_is]; decide
theorem lt_cb : lt ⟨#[99]⟩ ⟨#[98]⟩ = false := by rw [lt_is]; decide
def awF : List ByteArray := [⟨#[97]⟩, ⟨#[99]⟩]
def awT : List ByteArray := [⟨#[97]⟩, ⟨#[98]⟩, ⟨#[97]⟩]
def awR : List ByteArray := [⟨#[97]⟩, ⟨#[98]⟩, ⟨#[98]⟩]
theorem awF_rs : rs awF < 0 := by
  rw [rs_end fun j h1 h2 => ?_]
  · decide
  · have : j < 2 := h2
    obtain rfl : j = 1 := by omega
    exact lt_ac
theorem awF_fn : fn awF ⟨#[98]⟩ = 1 := fn_is (by decide) (fun j h => by (obtain rfl : j = 0 := by omega); exact lt_ab) (fun _ => lt_cb)
theorem awF_fi : fi awF ⟨#[98]⟩ = false := by
  unfold fi
  rw [awF_fn]
  decide
theorem awT_tw : tw awT = 2 := by decide
theorem awR_rs : rs awR = 2 := rs_at (k := 2) (by decide) (by decide) (fun j h1 h2 => by (obtain rfl : j = 1 := by omega); exact lt_ab) (lt_irrefl _)
theorem aw1 (W : World) : Calls Try.prog 14 #[.slice (some ⟨W.heap.size, 0, none⟩) 2 2, .string ⟨#[98]⟩] (W.alloc (.cells #[.string ⟨#[97]⟩, .string ⟨#[99]⟩] 9)) fun e w' => e = .returned (.tuple #[.int .i64 1, .bool false]) ∧ Below W.heap.size W w' := by
  have hb : Below W.heap.size W (W.alloc (.cells #[.string ⟨#[97]⟩, .string ⟨#[99]⟩] 9)) := (Below.refl _ _).alloc (Nat.le_refl _) _
  have key := find_any awF _ ⟨#[98]⟩ awF_rs _ (row2 W ⟨#[97]⟩ ⟨#[99]⟩) (by decide)
  rw [awF_fn, awF_fi] at key
  refine key.mono ?_
  rintro e w' ⟨rfl, hb2⟩
  exact ⟨rfl, hb.trans (hb2.mono hb.size)⟩
theorem aw2 (W : World) : Calls Try.prog 10 #[.slice (some ⟨W.heap.size, 0, none⟩) 3 3] (W.alloc (.cells #[.string ⟨#[97]⟩, .string ⟨#[98]⟩, .string ⟨#[97]⟩] 9)) fun e w' => e = .returned (.int .i64 2) ∧ Below W.heap.size W w' := by
  have hb : Below W.heap.size W (W.alloc (.cells #[.string ⟨#[97]⟩, .string ⟨#[98]⟩, .string ⟨#[97]⟩] 9)) := (Below.refl _ _).alloc (Nat.le_refl _) _
  have key := twice_any awT _ _ (row3 W ⟨#[97]⟩ ⟨#[98]⟩ ⟨#[97]⟩) (by decide) (by intro x hx; simp only [awT, List.mem_cons, List.not_mem_nil, or_false] at hx; rcases hx with rfl | rfl | rfl <;> decide)
  rw [awT_tw] at key
  refine key.mono ?_
  rintro e w' ⟨rfl, hb2⟩
  exact ⟨rfl, hb.trans (hb2.mono hb.size)⟩
theorem aw3 (W : World) : Calls Try.prog 12 #[.slice (some ⟨W.heap.size, 0, none⟩) 3 3] (W.alloc (.cells #[.string ⟨#[97]⟩, .string ⟨#[98]⟩, .string ⟨#[98]⟩] 9)) fun e w' => e = .returned (.int .i64 2) ∧ Below W.heap.size W w' := by
  have hb : Below W.heap.size W (W.alloc (.cells #[.string ⟨#[97]⟩, .string ⟨#[98]⟩, .string ⟨#[98]⟩] 9)) := (Below.refl _ _).alloc (Nat.le_refl _) _
  have key := rising_any awR _ _ (row3 W ⟨#[97]⟩ ⟨#[98]⟩ ⟨#[98]⟩) (by decide)
  rw [awR_rs] at key
  refine key.mono ?_
  rintro e w' ⟨rfl, hb2⟩
  exact ⟨rfl, hb.trans (hb2.mono hb.size)⟩
theorem aw4 (s : ByteArray) (b : Bool) (h : isI s = b) (hs : s.size ≤ 100) (W : World) : Calls Try.prog 8 #[.string s] W fun e w' => e = .returned (.bool b) ∧ W = w' := by
  rw [← h]
  exact is_any s W (by omega)
theorem aw5 (W : World) : Calls Try.prog 8 #[.string ⟨#[97, 45, 49, 46, 98, 95]⟩] W fun e w' => e = .returned (.bool true) ∧ W = w' := aw4 _ true (by decide) (by decide) W
theorem aw6 (W : World) : Calls Try.prog 8 #[.string ⟨#[49, 97]⟩] W fun e w' => e = .returned (.bool false) ∧ W = w' := aw4 _ false (by decide) (by decide) W
theorem aw7 (W : World) : Calls Try.prog 8 #[.string ⟨#[]⟩] W fun e w' => e = .returned (.bool false) ∧ W = w' := aw4 _ false (by decide) (by decide) W
theorem aw8 (W : World) : Calls Try.prog 8 #[.string ⟨#[65]⟩] W fun e w' => e = .returned (.bool false) ∧ W = w' := aw4 _ false (by decide) (by decide) W
set_option maxHeartbeats 4000000 in
set_option maxRecDepth 100000 in
theorem awake_any (w : World) : Calls Try.prog 7 #[] w fun e w' => e = .returned (.bool true) ∧ Below w.heap.size w w' := by
  have H1 := Lib.hid aw1
  have H2 := Lib.hid aw2
  have H3 := Lib.hid aw3
  have H5 := Lib.hid aw5
  have H6 := Lib.hid aw6
  have H7 := Lib.hid aw7
  have H8 := Lib.hid aw8
  go_enter Try.func7, Try.ntmps7
  go_wp2_with (first
    | (go_at_call 14; (with_reducible refine (H1.out _).mono ?_); rintro e w1 ⟨rfl, hb1⟩)
    | (go_at_call 8; first
        | ((with_reducible refine (H5.out _).mono ?_); rintro e wx ⟨rfl, rfl⟩)
        | ((with_reducible refine (H6.out _).mono ?_); rintro e wx ⟨rfl, rfl⟩)
        | ((with_reducible refine (H7.out _).mono ?_); rintro e wx ⟨rfl, rfl⟩)
        | ((with_reducible refine (H8.out _).mono ?_); rintro e wx ⟨rfl, rfl⟩))
    | (go_at_call 10; (with_reducible refine (H2.out _).mono ?_); rintro e w2 ⟨rfl, hb2⟩)
    | (go_at_call 12; (with_reducible refine (H3.out _).mono ?_); rintro e w3 ⟨rfl, hb3⟩))
  go_ret
  have k2 := hb1.trans (hb2.mono hb1.size)
  exact ⟨rfl, k2.trans (hb3.mono k2.size)⟩

/-! ### IdentGrows -/
theorem cut_tk (s : ByteArray) (k : Nat) : (cutB s 0 k).data.toList = s.data.toList.take k := by simp [cutB]
theorem cut_dr (s : ByteArray) (k : Nat) : (cutB s k (s.size - k)).data.toList = s.data.toList.drop k := by
  simp only [cutB, List.toArray]
  rw [List.take_of_length_le (by simp)]
theorem app_list (a b : ByteArray) : (a ++ b).data.toList = a.data.toList ++ b.data.toList := by simp
theorem cap_no (s : ByteArray) (k : Nat) : isI (cutB s 0 k ++ ⟨#[90]⟩ ++ cutB s k (s.size - k)) = false := by
  unfold isI
  rw [app_list, app_list, cut_tk, cut_dr]
  have := id_capital (l := s.data.toList) k
  simpa using this
theorem dig_yes {s : ByteArray} (h : isI s = true) : isI (s ++ ⟨#[48]⟩) = decide (s.size < 64) := by
  unfold isI
  rw [app_list]
  have := id_digit h
  simpa using this
theorem dig_no (s : ByteArray) : isI (⟨#[48]⟩ ++ s) = false := by
  unfold isI
  rw [app_list]
  exact id_first
theorem add_run (a b c : ByteArray) (h : a ++ b = c) (hs : c.size ≤ 8388608) : ∀ W, (Op.stringOp .add a b).run Try.prog W = .ok (.string c) W := by
  intro W
  subst h
  rw [ByteArray.size_append] at hs
  exact run_string_add W a b (by omega) (by omega)
set_option maxHeartbeats 8000000 in
set_option maxRecDepth 100000 in
theorem grows_any (s : ByteArray) (n : Nat) (w : World) (hs : s.size ≤ 9223372036854775807) (hn : n < 256) :
    Calls Try.prog 5 #[.string s, .int .u8 (n : Int)] w fun e w' => e = .returned (.bool true) ∧ Below w.heap.size w w' := by
  have HAW := Lib.hid awake_any
  by_cases hl : 300 < s.size
  · have g : decide ((300 : Int) < (s.size : Int)) = true := decide_eq_true (by omega)
    have gn : decide (300 < s.size) = true := decide_eq_true hl
    go_enter Try.func5, Try.ntmps5
    go_wp2_with (go_at_call 7; (with_reducible refine (HAW.out _).mono ?_); rintro e w1 ⟨rfl, hb1⟩)
    go_ret
    exact ⟨rfl, hb1⟩
  · have g : decide ((300 : Int) < (s.size : Int)) = false := decide_eq_false (by omega)
    have gn : decide (300 < s.size) = false := decide_eq_false hl
    have HI := Lib.hid fun W => is_any s W (by omega)
    cases hi : isI s with
    | false =>
      rw [hi] at HI
      go_enter Try.func5, Try.ntmps5
      go_wp2_with (first
        | (go_at_call 8; (with_reducible refine (HI.out _).mono ?_); rintro e w1 ⟨rfl, rfl⟩)
        | (go_at_call 7; (with_reducible refine (HAW.out _).mono ?_); rintro e w1 ⟨rfl, hb1⟩))
      go_ret
      exact ⟨rfl, hb1⟩
    | true =>
      rw [hi] at HI
      obtain ⟨hz1, hz2, _, _⟩ := (isI_iff s).1 hi
      obtain ⟨k, hk⟩ : ∃ k, n % (s.size + 1) = k := ⟨_, rfl⟩
      have hks : k ≤ s.size := by have := Nat.mod_lt n (show 0 < s.size + 1 by omega); omega
      have hmod : (n : Int).tmod ((s.size : Int) + 1) = (k : Int) := by
        rw [← hk]
        rw [show ((s.size : Int) + 1) = ((s.size + 1 : Nat) : Int) by omega]
        exact Int.ofNat_tmod _ _ ▸ rfl
      clear hk
      have c1 := fun W => sl_to s k hks W
      have c2 := fun W => sl_from s k (s.size - k) (by omega) W
      have z1 := cutB_size s 0 k (by omega)
      have z2 := cutB_size s k (s.size - k) (by omega)
      obtain ⟨a0, ha0⟩ : ∃ a, s ++ ⟨#[48]⟩ = a := ⟨_, rfl⟩
      obtain ⟨b0, hb0⟩ : ∃ a, ⟨#[48]⟩ ++ s = a := ⟨_, rfl⟩
      obtain ⟨d0, hd0⟩ : ∃ a, cutB s 0 k ++ ⟨#[90]⟩ = a := ⟨_, rfl⟩
      obtain ⟨d1, hd1⟩ : ∃ a, d0 ++ cutB s k (s.size - k) = a := ⟨_, rfl⟩
      have y1 : a0.size ≤ 65 := by rw [← ha0, ByteArray.size_append]; show s.size + 1 ≤ 65; omega
      have y2 : b0.size ≤ 65 := by rw [← hb0, ByteArray.size_append]; show 1 + s.size ≤ 65; omega
      have y3 : d0.size ≤ 65 := by rw [← hd0, ByteArray.size_append]; show _ + 1 ≤ 65; omega
      have y4 : d1.size ≤ 165 := by rw [← hd1, ByteArray.size_append]; omega
      have r1 := add_run _ _ _ ha0 (by omega)
      have r2 := add_run _ _ _ hb0 (by omega)
      have r3 := add_run _ _ _ hd0 (by omega)
      have r4 := add_run _ _ _ hd1 (by omega)
      have H1 := Lib.hid fun W => is_any a0 W (by omega)
      have H2 := Lib.hid fun W => is_any b0 W (by omega)
      have H4 := Lib.hid fun W => is_any d1 W (by omega)
      have f1 := dig_yes hi
      have f2 := dig_no s
      have f4 := cap_no s k
      rw [ha0] at f1
      rw [hb0] at f2
      rw [hd0, hd1] at f4
      rw [f1] at H1
      rw [f2] at H2
      rw [f4] at H4
      generalize cutB s 0 k = u1 at *
      generalize cutB s k (s.size - k) = u2 at *
      clear f1 f2 f4 ha0 hb0 hd0 hd1 hi z1 z2 y1 y2 y3 y4
      have g1 : decide ((1 : Int) ≤ (s.size : Int)) = true := decide_eq_true (by omega)
      have g2 : decide ((s.size : Int) ≤ 64) = true := decide_eq_true (by omega)
      have g3 : decide ((s.size : Int) < 64) = decide (s.size < 64) := by rw [Bool.eq_iff_iff, decide_eq_true_eq, decide_eq_true_eq]; omega
      generalize decide (s.size < 64) = q at *
      go_enter Try.func5, Try.ntmps5
      go_wp2_with (go_at_call 8; (with_reducible refine (HI.out _).mono ?_); rintro e w1 ⟨rfl, rfl⟩)
      have hb0 : Below w.heap.size w w.drew := (Below.refl _ _).drew
      go_region_held3 (fun w' => Below w.heap.size w w') (first | exact hb0 | assumption)
        (first
          | (go_at_call 8; first
              | ((with_reducible refine (H1.out _).mono ?_); rintro e wx ⟨rfl, rfl⟩)
              | ((with_reducible refine (H2.out _).mono ?_); rintro e wx ⟨rfl, rfl⟩)
              | ((with_reducible refine (H4.out _).mono ?_); rintro e wx ⟨rfl, rfl⟩))
          | (go_at_call 7; (with_reducible refine (HAW.out _).mono ?_); rintro e wx ⟨rfl, hbx⟩; have mx := Below.trans (by assumption) (Below.mono hbx (Below.size (by assumption)))))
      all_goals
        go_wp2_with fail
        go_ret
        exact ⟨by simp, by assumption⟩
end Go.Proofs.Ytobedmdjkihfhaa.Ide
