/- The laws' own examples; the laws of brackets. Conditions: the two tables of unicode/utf8 are as its text lays them, strconv.ErrSyntax holds an error; as each theorem states. -/
import Derived.Test.YtggahjhjapnfeaaDoorGraE
import Derived.Test.YtggahjhjapnfeaaDoorGraF
namespace Go.Proofs.YtggahjhjapnfeaaDoor.Gr
open Go.RowKit Go.Lib Go.Proofs.YtggahjhjapnfeaaDoor.Byt Go.Proofs.YtggahjhjapnfeaaDoor.Lx

/-- The level of a string. -/
def lev (s : ByteArray) : Int := lvl s.data.toList
theorem next {a b c : World} (h : Below a.heap.size a b) (k : Below b.heap.size b c) : Below a.heap.size a c := h.trans (k.mono h.size)
theorem lev_of (s : ByteArray) (z : Int) (h : lev s = z) (hs : s.size ≤ 1000000) (w : World) (hE : Env w) :
    Calls Tryd.prog 8 #[.string s] w fun e w' => e = .returned (.int .i64 z) ∧ Below w.heap.size w w' := by
  have := level_any s w hE hs
  rw [← h]
  exact this
theorem is_of (s : ByteArray) (r : Bool) (h : isB (lev s) = r) (hs : s.size ≤ 1000000) (w : World) (hE : Env w) :
    Calls Tryd.prog 9 #[.string s] w fun e w' => e = .returned (.bool r) ∧ Below w.heap.size w w' := by
  have := is_any s w hE hs
  rw [← h]
  exact this

/-! ### the examples -/
set_option maxHeartbeats 1000000 in
set_option maxRecDepth 100000 in
theorem awake_any (w : World) (hE : Env w) : Calls Tryd.prog 6 #[] w fun e w' => e = .returned (.bool true) ∧ Below w.heap.size w w' := by
  have H1 := Lib.hid (fun w hE => lev_of ⟨#[91, 49, 44, 32, 91, 93, 32, 93]⟩ 2 (by decide +kernel) (by decide) w hE)
  have H2 := Lib.hid (fun w hE => lev_of ⟨#[32, 123, 34, 97, 34, 58, 110, 117, 108, 108, 125, 10]⟩ 1 (by decide +kernel) (by decide) w hE)
  have H3 := Lib.hid (fun w hE => lev_of ⟨#[48, 49]⟩ (-1) (by decide +kernel) (by decide) w hE)
  have H4 := Lib.hid (fun w hE => lev_of ⟨#[91, 49, 44, 93]⟩ (-1) (by decide +kernel) (by decide) w hE)
  have H5 := Lib.hid (fun w hE => lev_of ⟨#[]⟩ (-1) (by decide +kernel) (by decide) w hE)
  have H6 := Lib.hid (fun w hE => is_of ⟨#[48]⟩ true (by decide +kernel) (by decide) w hE)
  have H7 := Lib.hid (fun w hE => is_of ⟨#[49, 46, 53]⟩ false (by decide +kernel) (by decide) w hE)
  have HE := Lib.hid hE
  clear hE
  go_enter Tryd.func6, Tryd.ntmps6
  go_wp2_with fail
  refine (H1.out _ HE.out).mono ?_; rintro e w1 ⟨rfl, hb1⟩
  have HE1 := Lib.hid (HE.out.next hb1)
  go_wp2_with fail
  refine (H2.out _ HE1.out).mono ?_; rintro e w2 ⟨rfl, hb2⟩
  have HE2 := Lib.hid (HE1.out.next hb2)
  have hc2 := next hb1 hb2
  clear hb1 hb2
  go_wp2_with fail
  refine (H3.out _ HE2.out).mono ?_; rintro e w3 ⟨rfl, hb3⟩
  have HE3 := Lib.hid (HE2.out.next hb3)
  have hc3 := next hc2 hb3
  clear hc2 hb3
  go_wp2_with fail
  refine (H4.out _ HE3.out).mono ?_; rintro e w4 ⟨rfl, hb4⟩
  have HE4 := Lib.hid (HE3.out.next hb4)
  have hc4 := next hc3 hb4
  clear hc3 hb4
  go_wp2_with fail
  refine (H5.out _ HE4.out).mono ?_; rintro e w5 ⟨rfl, hb5⟩
  have HE5 := Lib.hid (HE4.out.next hb5)
  have hc5 := next hc4 hb5
  clear hc4 hb5
  go_wp2_with fail
  refine (H6.out _ HE5.out).mono ?_; rintro e w6 ⟨rfl, hb6⟩
  have HE6 := Lib.hid (HE5.out.next hb6)
  have hc6 := next hc5 hb6
  clear hc5 hb6
  go_wp2_with fail
  refine (H7.out _ HE6.out).mono ?_; rintro e w7 ⟨rfl, hb7⟩
  have hc7 := next hc6 hb7
  go_wp2_with fail
  go_ret
  exact ⟨rfl, hc7⟩

/-! ### told over one world -/
structure In (w0 W : World) : Prop where
  env : Env W
  bel : Below w0.heap.size w0 W
theorem In.next {w0 W W' : World} (h : In w0 W) (hb : Below W.heap.size W W') : In w0 W' := ⟨h.env.next hb, Gr.next h.bel hb⟩
theorem lev_in (s : ByteArray) (z : Int) (h : lev s = z) (hs : s.size ≤ 1000000) (w W : World) (hE : In w W) :
    Calls Tryd.prog 8 #[.string s] W fun e w' => e = .returned (.int .i64 z) ∧ In w w' :=
  (lev_of s z h hs W hE.env).mono fun _ _ ⟨h1, h2⟩ => ⟨h1, hE.next h2⟩
theorem is_in (s : ByteArray) (r : Bool) (h : isB (lev s) = r) (hs : s.size ≤ 1000000) (w W : World) (hE : In w W) :
    Calls Tryd.prog 9 #[.string s] W fun e w' => e = .returned (.bool r) ∧ In w w' :=
  (is_of s r h hs W hE.env).mono fun _ _ ⟨h1, h2⟩ => ⟨h1, hE.next h2⟩
theorem awake_in (w W : World) (hE : In w W) :
    Calls Tryd.prog 6 #[] W fun e w' => e = .returned (.bool true) ∧ In w w' :=
  (awake_any W hE.env).mono fun _ _ ⟨h1, h2⟩ => ⟨h1, hE.next h2⟩
theorem app_list (a b : ByteArray) : (a ++ b).data.toList = a.data.toList ++ b.data.toList := by
  rw [ByteArray.data_append, Array.toList_append]

/-! ### GrammarWraps -/
theorem bl_six (m : Nat) : Bl (cutB ⟨#[32, 32, 9, 10, 13, 32]⟩ 0 m).data.toList := by
  intro c hc
  have h1 : c ∈ [32, 32, 9, 10, 13, 32].take m := hc
  have h2 := List.mem_of_mem_take h1
  simp only [List.mem_cons, List.not_mem_nil, or_false] at h2
  rcases h2 with rfl | rfl | rfl | rfl | rfl | rfl <;> rfl
theorem lev_cases (s : ByteArray) : lev s = -1 ∨ ∃ d : Nat, lev s = (d : Int) ∧ G (.elm false) s.data.toList d := by
  rcases lvl_cases s.data.toList with ⟨h, _⟩ | h
  · exact .inl h
  · exact .inr h
theorem lev_wrap {B : ByteArray} (hB : Bl B.data.toList) (s : ByteArray) : lev (B ++ s ++ B) = lev s := by
  unfold lev
  rw [app_list, app_list, List.append_assoc]
  exact lvl_around hB hB _
theorem isB_none : isB (-1) = false := rfl
theorem isB_some (d : Nat) : isB (d : Int) = decide ((d : Int) ≤ 64) := by unfold isB; rw [decide_eq_true (by omega : (0 : Int) ≤ (d : Int)), Bool.true_and]
set_option maxHeartbeats 2000000 in
set_option maxRecDepth 100000 in
theorem wraps_walk (s : ByteArray) (a : Int) (w : World) (hE : Env w) (h0 : 0 ≤ a) (h1 : a < 256) :
    Calls Tryd.prog 4 #[.string s, .int .u8 a] w fun e w' => e = .returned (.bool true) ∧ Below w.heap.size w w' := by
  have HA := Lib.hid (awake_in w)
  have hin : In w w := ⟨hE, Below.refl _ _⟩
  clear hE
  by_cases hg : 400 < s.size
  · have hg1 : decide ((400 : Int) < (s.size : Int)) = true := decide_eq_true (by omega)
    go_enter Tryd.func4, Tryd.ntmps4
    go_wp2_with (go_at_call 6; (with_reducible refine (HA.out _ (by assumption)).mono ?_); rintro e wx ⟨rfl, hx⟩)
    go_ret
    exact ⟨rfl, hx.bel⟩
  · have hs : s.size ≤ 400 := by omega
    have hg1 : decide ((400 : Int) < (s.size : Int)) = false := decide_eq_false (by omega)
    have hbl := bl_six (a % 7).toNat
    have hsz : (cutB ⟨#[32, 32, 9, 10, 13, 32]⟩ 0 (a % 7).toNat).size ≤ 6 := by
      show (List.toArray _).size ≤ 6
      simp
      omega
    have hsl : ∀ w, (Instr.slice 9 (.string ⟨#[32, 32, 9, 10, 13, 32]⟩) none (some (.int .u8 (a % 7))) none).run Tryd.prog w = .ok (.string (cutB ⟨#[32, 32, 9, 10, 13, 32]⟩ 0 (a % 7).toNat)) w := fun w => by
      have e : (⟨#[32, 32, 9, 10, 13, 32]⟩ : ByteArray).size = 6 := rfl
      rw [run_slice_string_to_if w 9 _ .u8 (a % 7) Tryd.underlying9, if_pos (by rw [e]; omega)]
      have := extract_cut ⟨#[32, 32, 9, 10, 13, 32]⟩ 0 (a % 7).toNat
      rw [Nat.zero_add] at this
      rw [← this]
    generalize cutB ⟨#[32, 32, 9, 10, 13, 32]⟩ 0 (a % 7).toNat = B at *
    have y1 : (⟨#[91]⟩ : ByteArray).size = 1 := rfl
    have y2 : (⟨#[93]⟩ : ByteArray).size = 1 := rfl
    have y3 : (⟨#[44]⟩ : ByteArray).size = 1 := rfl
    have y4 : (⟨#[125]⟩ : ByteArray).size = 1 := rfl
    have y5 : (⟨#[123, 34, 107, 34, 58]⟩ : ByteArray).size = 5 := rfl
    have y6 : (⟨#[91, 48, 44]⟩ : ByteArray).size = 3 := rfl
    have z1 : (B ++ s ++ B).size ≤ 1000000 := by simp only [ByteArray.size_append]; omega
    have z2 : ((⟨#[91]⟩ : ByteArray) ++ s ++ ⟨#[93]⟩).size ≤ 1000000 := by simp only [ByteArray.size_append]; omega
    have z3 : ((⟨#[123, 34, 107, 34, 58]⟩ : ByteArray) ++ B ++ s ++ ⟨#[125]⟩).size ≤ 1000000 := by simp only [ByteArray.size_append]; omega
    have z4 : ((⟨#[91, 48, 44]⟩ : ByteArray) ++ s ++ ⟨#[44]⟩ ++ B ++ s ++ ⟨#[93]⟩).size ≤ 1000000 := by simp only [ByteArray.size_append]; omega
    have z5 : (s ++ (⟨#[44]⟩ : ByteArray)).size ≤ 1000000 := by simp only [ByteArray.size_append]; omega
    have z6 : (s ++ (⟨#[93]⟩ : ByteArray)).size ≤ 1000000 := by simp only [ByteArray.size_append]; omega
    have ew := lev_wrap hbl s
    rcases lev_cases s with hd | ⟨d, hd, hG⟩
    · have H0 := Lib.hid (lev_in s _ hd (by omega) w)
      have H1 := Lib.hid (lev_in (B ++ s ++ B) _ (ew.trans hd) z1 w)
      have H2 := Lib.hid (lev_in _ _ rfl z2 w)
      have H3 := Lib.hid (lev_in _ _ rfl z3 w)
      have H4 := Lib.hid (lev_in _ _ rfl z4 w)
      have HI := Lib.hid (is_in s false (by rw [hd]; rfl) (by omega) w)
      clear hd ew z1 z2 z3 z4 z5 z6 hbl y1 y2 y3 y4 y5 y6
      generalize lev _ = l2 at H2
      generalize lev _ = l3 at H3
      generalize lev _ = l4 at H4
      go_enter Tryd.func4, Tryd.ntmps4
      go_wp2_with (first
        | (go_at_call 8; (first | (with_reducible refine (H0.out _ (by assumption)).mono ?_) | (with_reducible refine (H1.out _ (by assumption)).mono ?_) | (with_reducible refine (H2.out _ (by assumption)).mono ?_) | (with_reducible refine (H3.out _ (by assumption)).mono ?_) | (with_reducible refine (H4.out _ (by assumption)).mono ?_)); rintro e wx ⟨rfl, hx⟩)
        | (go_at_call 9; (with_reducible refine (HI.out _ (by assumption)).mono ?_); rintro e wx ⟨rfl, hx⟩)
        | (go_at_call 6; (with_reducible refine (HA.out _ (by assumption)).mono ?_); rintro e wx ⟨rfl, hx⟩))
      go_ret
      exact ⟨rfl, hx.bel⟩
    · have hdl := lvl_len s.data.toList
      have hlen : s.data.toList.length = s.size := by simp
      have hd2 : d ≤ 200 := by
        have : lev s = lvl s.data.toList := rfl
        omega
      have e2 : lev ((⟨#[91]⟩ : ByteArray) ++ s ++ ⟨#[93]⟩) = (d : Int) + 1 := by unfold lev; rw [app_list, app_list]; exact list_of hG
      have e3 : lev ((⟨#[123, 34, 107, 34, 58]⟩ : ByteArray) ++ B ++ s ++ ⟨#[125]⟩) = (d : Int) + 1 := by unfold lev; rw [app_list, app_list, app_list]; exact object_of hG hbl
      have e4 : lev ((⟨#[91, 48, 44]⟩ : ByteArray) ++ s ++ ⟨#[44]⟩ ++ B ++ s ++ ⟨#[93]⟩) = (d : Int) + 1 := by unfold lev; rw [app_list, app_list, app_list, app_list, app_list]; exact two_of hG hbl
      have e5 : lev (s ++ (⟨#[44]⟩ : ByteArray)) = -1 := by unfold lev; rw [app_list]; exact more_bad hG 44 rfl rfl
      have e6 : lev (s ++ (⟨#[93]⟩ : ByteArray)) = -1 := by unfold lev; rw [app_list]; exact more_bad hG 93 rfl rfl
      have H0 := Lib.hid (lev_in s _ hd (by omega) w)
      have H1 := Lib.hid (lev_in (B ++ s ++ B) _ (ew.trans hd) z1 w)
      have H2 := Lib.hid (lev_in _ _ e2 z2 w)
      have H3 := Lib.hid (lev_in _ _ e3 z3 w)
      have H4 := Lib.hid (lev_in _ _ e4 z4 w)
      have H5 := Lib.hid (lev_in _ _ e5 z5 w)
      have H6 := Lib.hid (lev_in _ _ e6 z6 w)
      have HI := Lib.hid (is_in s _ ((congrArg isB hd).trans (isB_some d)) (by omega) w)
      have hw : IntKind.i64.wrap ((d : Int) + 1) = (d : Int) + 1 := by rw [IntKind.wrap_i64]; omega
      have hp : decide ((d : Int) < 0) = false := decide_eq_false (by omega)
      have hp1 : decide ((0 : Int) ≤ (d : Int)) = true := decide_eq_true (by omega)
      have hp2 : decide ((d : Int) < -1) = false := decide_eq_false (by omega)
      clear hd ew z1 z2 z3 z4 z5 z6 hbl y1 y2 y3 y4 y5 y6 e2 e3 e4 e5 e6 hlen hdl hG
      go_enter Tryd.func4, Tryd.ntmps4
      go_wp2_with (first
        | (go_at_call 8; (first | (with_reducible refine (H0.out _ (by assumption)).mono ?_) | (with_reducible refine (H1.out _ (by assumption)).mono ?_) | (with_reducible refine (H2.out _ (by assumption)).mono ?_) | (with_reducible refine (H3.out _ (by assumption)).mono ?_) | (with_reducible refine (H4.out _ (by assumption)).mono ?_) | (with_reducible refine (H5.out _ (by assumption)).mono ?_) | (with_reducible refine (H6.out _ (by assumption)).mono ?_)); rintro e wx ⟨rfl, hx⟩)
        | (go_at_call 9; (with_reducible refine (HI.out _ (by assumption)).mono ?_); rintro e wx ⟨rfl, hx⟩)
        | (go_at_call 6; (with_reducible refine (HA.out _ (by assumption)).mono ?_); rintro e wx ⟨rfl, hx⟩))
      go_ret
      exact ⟨rfl, hx.bel⟩

/-! ### GrammarDeep -/
def nst (s : ByteArray) : Nat → ByteArray
  | 0 => s
  | i + 1 => ⟨#[91]⟩ ++ nst s i ++ ⟨#[93]⟩
theorem nst_size (s : ByteArray) : ∀ i, (nst s i).size = s.size + 2 * i
  | 0 => rfl
  | i + 1 => by
    have y1 : (⟨#[91]⟩ : ByteArray).size = 1 := rfl
    have y2 : (⟨#[93]⟩ : ByteArray).size = 1 := rfl
    rw [nst, ByteArray.size_append, ByteArray.size_append, nst_size s i]
    omega
theorem nst_G {s : ByteArray} {d : Nat} (h : G (.elm false) s.data.toList d) : ∀ i, G (.elm false) (nst s i).data.toList (i + d)
  | 0 => by rw [Nat.zero_add]; exact h
  | i + 1 => by
    have := item_in (nst_G h i)
    rw [nst, app_list, app_list, show i + 1 + d = i + d + 1 by omega]
    exact this
set_option maxHeartbeats 2000000 in
set_option maxRecDepth 100000 in
theorem deep_walk (a : Int) (s : ByteArray) (w : World) (hE : Env w) (h0 : 0 ≤ a) (h1 : a < 65536) :
    Calls Tryd.prog 5 #[.int .u16 a, .string s] w fun e w' => e = .returned (.bool true) ∧ Below w.heap.size w w' := by
  have HA := Lib.hid (awake_in w)
  have hin : In w w := ⟨hE, Below.refl _ _⟩
  obtain ⟨k, hk⟩ : ∃ k : Nat, a % 300 = (k : Int) := ⟨(a % 300).toNat, by omega⟩
  have hk3 : k < 300 := by omega
  have hwk : IntKind.i64.wrap (k : Int) = (k : Int) := by rw [IntKind.wrap_i64]; omega
  clear hE
  by_cases hg : 100 < s.size
  · have hg1 : decide ((100 : Int) < (s.size : Int)) = true := decide_eq_true (by omega)
    go_enter Tryd.func5, Tryd.ntmps5
    go_wp2_with (go_at_call 6; (with_reducible refine (HA.out _ (by assumption)).mono ?_); rintro e wx ⟨rfl, hx⟩)
    go_ret
    exact ⟨rfl, hx.bel⟩
  · have hs : s.size ≤ 100 := by omega
    have hg1 : decide ((100 : Int) < (s.size : Int)) = false := decide_eq_false (by omega)
    rcases lev_cases s with hd | ⟨d, hd, hG⟩
    · have H0 := Lib.hid (lev_in s _ hd (by omega) w)
      clear hd
      go_enter Tryd.func5, Tryd.ntmps5
      go_wp2_with (first
        | (go_at_call 8; (with_reducible refine (H0.out _ (by assumption)).mono ?_); rintro e wx ⟨rfl, hx⟩)
        | (go_at_call 6; (with_reducible refine (HA.out _ (by assumption)).mono ?_); rintro e wx ⟨rfl, hx⟩))
      go_ret
      exact ⟨rfl, hx.bel⟩
    · have hdl := lvl_len s.data.toList
      have hlen : s.data.toList.length = s.size := by simp
      have hd2 : d ≤ 50 := by
        have : lev s = lvl s.data.toList := rfl
        omega
      have hkG := nst_G hG k
      have hkz := nst_size s k
      have y1 : (⟨#[91]⟩ : ByteArray).size = 1 := rfl
      have e1 : lev (nst s k) = ((k + d : Nat) : Int) := lvl_complete hkG
      have e2 : lev ((⟨#[91]⟩ : ByteArray) ++ nst s k) = -1 := by unfold lev; rw [app_list]; exact open_bad hkG
      have HI := Lib.hid (is_in (nst s k) _ ((congrArg isB e1).trans (isB_some (k + d))) (by omega) w)
      push_cast at e1
      have H0 := Lib.hid (lev_in s _ hd (by omega) w)
      have H1 := Lib.hid (lev_in _ _ e1 (by omega) w)
      have H2 := Lib.hid (lev_in _ _ e2 (by rw [ByteArray.size_append]; omega) w)
      have hw : IntKind.i64.wrap ((k : Int) + (d : Int)) = (k : Int) + (d : Int) := by rw [IntKind.wrap_i64]; omega
      have hp : decide ((d : Int) < 0) = false := decide_eq_false (by omega)
      have HN := Lib.hid (nst_size s)
      push_cast at HI
      clear hd e1 e2 hkG hdl hlen hG hkz y1
      go_enter Tryd.func5, Tryd.ntmps5
      go_wp2_with (go_at_call 8; (with_reducible refine (H0.out _ (by assumption)).mono ?_); rintro e wx ⟨rfl, hx⟩)
      go_loop [7, 22] (fun t x => ∃ i : Nat, x = .int .i64 (i : Int) ∧ t = .string (nst s i) ∧ i ≤ k) (fun _ x => k - (RowKit.intOf x).toNat)
      case atStart => exact ⟨0, rfl, rfl, Nat.zero_le _⟩
      case round =>
        obtain ⟨i, rfl, rfl, hi⟩ := hrel
        by_cases hik : i < k
        · have hz := HN.out i
          go_wp2_with fail
          go_round
          case rel => exact ⟨i + 1, by go_num, rfl, by omega⟩
          case measure => simp [RowKit.intOf]; omega
        · obtain rfl : i = k := by omega
          have hz := HN.out i
          go_wp2_with (first
            | (go_at_call 8; (first | (with_reducible refine (H1.out _ (by assumption)).mono ?_) | (with_reducible refine (H2.out _ (by assumption)).mono ?_)); rintro e wx ⟨rfl, hx⟩)
            | (go_at_call 9; (with_reducible refine (HI.out _ (by assumption)).mono ?_); rintro e wx ⟨rfl, hx⟩)
            | (go_at_call 6; (with_reducible refine (HA.out _ (by assumption)).mono ?_); rintro e wx ⟨rfl, hx⟩))
          go_ret
          exact ⟨rfl, hx.bel⟩
end Go.Proofs.YtggahjhjapnfeaaDoor.Gr
