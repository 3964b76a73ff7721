/- Contracts of isDigit, skipDigits, skipBlanks, takeWord. Conditions: as each theorem states. -/
import Derived.Test.YtbikbniaoceodaaDoorLexFill
import Derived.Test.YtbikbniaoceodaaDoorLexNum
import Derived.Test.YtbikbniaoceodaaDoorByt
import Derived.Test.YtbikbniaoceodaaDoorShelf
import Derived.Handy
namespace Go.Proofs.YtbikbniaoceodaaDoor.Lx
open Go.RowKit Go.Lib Go.Proofs.YtbikbniaoceodaaDoor.Byt

/-- The byte at m; 0 behind the end. -/
def by8 (s : ByteArray) (m : Nat) : Nat := (s.data.toList.getD m 0).toNat
/-- The bytes from m on. -/
def sf (s : ByteArray) (m : Nat) : List UInt8 := s.data.toList.drop m
theorem by8_lt (s : ByteArray) (m : Nat) : by8 s m < 256 := UInt8.toNat_lt _
theorem index_of (s : ByteArray) (m : Nat) (x : Int) (hx : x = (m : Int)) (h : m < s.size) (w : World) :
    (Instr.index 9 (.string s) (.int .i64 x)).run Tryd.prog w = .ok (.int .u8 (by8 s m : Int)) w := by
  subst hx
  have h2 : m < s.data.toList.length := by simpa using h
  have e : s[m].toNat = by8 s m := by
    have : s.data.toList.getD m 0 = s[m] := by rw [List.getD, List.getElem?_eq_getElem h2]; rfl
    unfold by8; rw [this]
  rw [run_index_string w 9 _ .i64 (m : Int) Tryd.underlying9, dif_pos ⟨by omega, by omega⟩, ← e]
  rfl
theorem sf_len (s : ByteArray) (m : Nat) : (sf s m).length = s.size - m := by unfold sf; simp
theorem sf_get (s : ByteArray) (m j : Nat) : ((sf s m).getD j 0).toNat = by8 s (m + j) := by unfold sf by8; rw [getD_dropN]
theorem sf_hd (s : ByteArray) (m : Nat) : hd (sf s m) = by8 s m := sf_get s m 0
theorem sf_drop (s : ByteArray) (m j : Nat) : (sf s m).drop j = sf s (m + j) := by unfold sf; rw [List.drop_drop]
theorem sf_cons (s : ByteArray) (m : Nat) (h : m < s.size) : ∃ c : UInt8, sf s m = c :: sf s (m + 1) ∧ c.toNat = by8 s m := by
  have h2 : m < s.data.toList.length := by simpa using h
  refine ⟨s.data.toList[m], List.drop_eq_getElem_cons h2, ?_⟩
  unfold by8
  rw [List.getD, List.getElem?_eq_getElem h2]
  rfl
theorem sf_nil (s : ByteArray) (m : Nat) (h : s.size ≤ m) : sf s m = [] := List.drop_eq_nil_of_le (by simpa using h)
theorem by8_end (s : ByteArray) (m : Nat) (h : s.size ≤ m) : by8 s m = 0 := by
  unfold by8
  rw [List.getD_eq_getElem?_getD, List.getElem?_eq_none (by simpa using h)]
  rfl
theorem dgs_sf (s : ByteArray) (m : Nat) : dgs (sf s m) = if dg (by8 s m) = true then dgs (sf s (m + 1)) + 1 else 0 := by
  by_cases h : m < s.size
  · obtain ⟨c, h1, h2⟩ := sf_cons s m h
    rw [h1, dgs, h2]
  · rw [by8_end s m (by omega), sf_nil s m (by omega)]; rfl
theorem skp_sf (s : ByteArray) (m : Nat) : skp (sf s m) = if bl (by8 s m) = true then skp (sf s (m + 1)) + 1 else 0 := by
  by_cases h : m < s.size
  · obtain ⟨c, h1, h2⟩ := sf_cons s m h
    rw [h1, skp, h2]
  · rw [by8_end s m (by omega), sf_nil s m (by omega)]; rfl

/-! ### isDigit -/
theorem ret_d {a b : Bool} (h : a = b) : Ending.returned (.bool a) = .returned (.bool b) := by rw [h]
theorem isDigit_any (s : ByteArray) (i : Nat) (x : Int) (hx : x = (i : Int)) (w : World) :
    Calls Tryd.prog 16 #[.string s, .int .i64 x] w fun e w' => e = .returned (.bool (dg (by8 s i))) ∧ w = w' := by
  subst hx
  by_cases h0 : i < s.size
  · have hix := fun w => index_of s i (i : Int) rfl h0 w
    have hb := by8_lt s i
    generalize by8 s i = c at *
    by_cases h1 : 48 ≤ c
    · by_cases h2 : c ≤ 57
      · rw [show dg c = true by unfold dg; simp; omega]
        go_enter Tryd.func16, Tryd.ntmps16
        go_wp2_with fail
        go_ret
        exact ⟨ret_d (decide_eq_true (by omega)), rfl⟩
      · rw [show dg c = false by unfold dg; simp; omega]
        go_enter Tryd.func16, Tryd.ntmps16
        go_wp2_with fail
        go_ret
        exact ⟨ret_d (decide_eq_false (by omega)), rfl⟩
    · rw [show dg c = false by unfold dg; simp; omega]
      go_enter Tryd.func16, Tryd.ntmps16
      go_wp2_with fail
      go_ret
      exact ⟨rfl, rfl⟩
  · rw [by8_end s i (by omega), show dg 0 = false from rfl]
    go_enter Tryd.func16, Tryd.ntmps16
    go_wp2_with fail
    go_ret
    exact ⟨rfl, rfl⟩

/-! ### skipDigits -/
theorem skipDigits_any (s : ByteArray) (i : Nat) (x : Int) (hx : x = (i : Int)) (hi : i ≤ s.size) (hs : s.size ≤ 140737488355328) (w : World) :
    Calls Tryd.prog 28 #[.string s, .int .i64 x] w fun e w' => e = .returned (.int .i64 ((i + dgc (sf s i) : Nat) : Int)) ∧ w = w' := by
  subst hx
  have HD := Lib.hid (fun w => isDigit_any s i (i : Int) rfl w)
  by_cases h0 : by8 s i = 48
  · have hlt : i < s.size := by
      rcases Nat.lt_or_ge i s.size with h | h
      · exact h
      · rw [by8_end s i h] at h0; omega
    have hix := fun w => index_of s i (i : Int) rfl hlt w
    have e : dgc (sf s i) = 1 := by unfold dgc; rw [sf_hd, if_pos h0]
    rw [e]
    rw [h0] at hix HD
    rw [show dg 48 = true from rfl] at HD
    clear h0 e
    go_enter Tryd.func28, Tryd.ntmps28
    go_wp2_with (go_at_call 16; refine (HD.out _).mono ?_; rintro e w1 ⟨rfl, rfl⟩)
    go_ret
    exact ⟨by push_cast; rfl, rfl⟩
  · have e : dgc (sf s i) = dgs (sf s i) := by unfold dgc; rw [sf_hd, if_neg h0]
    rw [e]
    obtain ⟨E, hE⟩ : ∃ E, E = i + dgs (sf s i) := ⟨_, rfl⟩
    rw [← hE]
    have HE := Lib.hid hE
    clear e hE
    have HK := Lib.hid (fun (k : Nat) w => isDigit_any s k (k : Int) rfl w)
    have ent : (dg (by8 s i) = true ∧ i < s.size ∧ ((by8 s i : Int) == 48) = false ∧ ∀ w, (Instr.index 9 (.string s) (.int .i64 (i : Int))).run Tryd.prog w = .ok (.int .u8 (by8 s i : Int)) w) ∨ dg (by8 s i) = false := by
      cases hd : dg (by8 s i) with
      | false => exact .inr rfl
      | true =>
        have hlt : i < s.size := by
          rcases Nat.lt_or_ge i s.size with h | h
          · exact h
          · rw [by8_end s i h] at hd; cases hd
        exact .inl ⟨rfl, hlt, by rw [beq_eq_false_iff_ne]; omega, fun w => index_of s i (i : Int) rfl hlt w⟩
    rcases ent with ⟨hd, hlt, h48, hix⟩ | hd
    all_goals
      rw [hd] at HD
      clear h0 hd
      go_enter Tryd.func28, Tryd.ntmps28
      go_wp2_with (go_at_call 16; refine (HD.out _).mono ?_; rintro e w1 ⟨rfl, rfl⟩)
      go_loop [1] (fun x => ∃ k : Nat, x = .int .i64 (k : Int) ∧ i ≤ k ∧ k ≤ s.size ∧ Hid (E = k + dgs (sf s k))) (fun x => s.size - (RowKit.intOf x).toNat)
      case atStart => exact ⟨i, rfl, Nat.le_refl _, hi, HE⟩
      case round =>
        obtain ⟨k, rfl, hik, hk, hh⟩ := hrel
        have HK2 := Lib.hid (fun w => HK.out k w)
        have st := dgs_sf s k
        cases hdk : dg (by8 s k) with
        | true =>
          have hkl : k < s.size := by
            rcases Nat.lt_or_ge k s.size with h | h
            · exact h
            · rw [by8_end s k h] at hdk; cases hdk
          rw [if_pos hdk] at st
          rw [hdk] at HK2
          have HE2 := Lib.hid (show E = k + 1 + dgs (sf s (k + 1)) by rw [hh.out, st]; omega)
          clear st hdk hh
          go_wp2_with (go_at_call 16; refine (HK2.out _).mono ?_; rintro e w1 ⟨rfl, rfl⟩)
          go_round
          case rel => exact ⟨k + 1, by go_num, by omega, by omega, HE2⟩
          case measure => simp [RowKit.intOf]; omega
        | false =>
          rw [if_neg (by rw [hdk]; simp)] at st
          rw [hdk] at HK2
          have HE2 := Lib.hid (show E = k by rw [hh.out, st]; rfl)
          clear st hdk hh
          go_wp2_with (go_at_call 16; refine (HK2.out _).mono ?_; rintro e w1 ⟨rfl, rfl⟩)
          go_ret
          exact ⟨by rw [HE2.out]; rfl, rfl⟩

/-! ### skipBlanks -/
def blI (c : Nat) : Int := if c = 32 then 0 else if c = 9 then 1 else if c = 10 then 2 else if c = 13 then 3 else -1
theorem blank_dig : ∀ n : Fin 256, Lib.indexByte [32, 9, 10, 13] (UInt8.ofNat n.val) = blI n.val ∧ (bl n.val = true → 0 ≤ blI n.val) ∧ (bl n.val = false → blI n.val = -1) := by decide +kernel
theorem blank_find (c : Nat) (hc : c < 256) (w : World) :
    Calls Tryd.prog 14 #[.string ⟨#[32, 9, 10, 13]⟩, .int .u8 (c : Int)] w fun e w' => e = .returned (.int .i64 (blI c)) ∧ w = w' :=
  (Tryd.strings_IndexByte _ _ w).mono fun e w' ⟨h1, h2⟩ => ⟨by
    rw [h1, Int.toNat_natCast]
    exact congrArg (fun x => Ending.returned (.int .i64 x)) (blank_dig ⟨c, hc⟩).1, h2.symm⟩
theorem skipBlanks_any (s : ByteArray) (i : Nat) (x : Int) (hx : x = (i : Int)) (hi : i ≤ s.size) (hs : s.size ≤ 140737488355328) (w : World) :
    Calls Tryd.prog 13 #[.string s, .int .i64 x] w fun e w' => e = .returned (.int .i64 ((i + skp (sf s i) : Nat) : Int)) ∧ w = w' := by
  subst hx
  obtain ⟨E, hE⟩ : ∃ E, E = i + skp (sf s i) := ⟨_, rfl⟩
  rw [← hE]
  have HE := Lib.hid hE
  clear hE
  go_enter Tryd.func13, Tryd.ntmps13
  go_wp2_with fail
  go_loop [1] (fun x => ∃ k : Nat, x = .int .i64 (k : Int) ∧ i ≤ k ∧ k ≤ s.size ∧ Hid (E = k + skp (sf s k))) (fun x => s.size - (RowKit.intOf x).toNat)
  case atStart => exact ⟨i, rfl, Nat.le_refl _, hi, HE⟩
  case round =>
    obtain ⟨k, rfl, hik, hk, hh⟩ := hrel
    have st := skp_sf s k
    by_cases hkl : k < s.size
    · have hix := fun w => index_of s k (k : Int) rfl hkl w
      have hc := by8_lt s k
      have HF := Lib.hid (fun w => blank_find (by8 s k) hc w)
      obtain ⟨_, b1, b2⟩ := blank_dig ⟨by8 s k, hc⟩
      simp only at b1 b2
      cases hb : bl (by8 s k) with
      | true =>
        rw [if_pos hb] at st
        have b3 := b1 hb
        have HE2 := Lib.hid (show E = k + 1 + skp (sf s (k + 1)) by rw [hh.out, st]; omega)
        generalize by8 s k = c at *
        clear st hb hh b1 b2
        generalize blI c = j at *
        go_wp2_with (go_at_call 14; refine (HF.out _).mono ?_; rintro e w1 ⟨rfl, rfl⟩)
        go_round
        case rel => exact ⟨k + 1, by go_num, by omega, by omega, HE2⟩
        case measure => simp [RowKit.intOf]; omega
      | false =>
        rw [if_neg (by rw [hb]; simp)] at st
        rw [b2 hb] at HF
        have HE2 := Lib.hid (show E = k by rw [hh.out, st]; rfl)
        generalize by8 s k = c at *
        clear st hb hh b1 b2
        go_wp2_with (go_at_call 14; refine (HF.out _).mono ?_; rintro e w1 ⟨rfl, rfl⟩)
        go_ret
        exact ⟨by rw [HE2.out]; rfl, rfl⟩
    · rw [by8_end s k (by omega), show bl 0 = false from rfl, if_neg (by simp)] at st
      have HE2 := Lib.hid (show E = k by rw [hh.out, st]; rfl)
      clear st hh
      go_wp2_with fail
      go_ret
      exact ⟨by rw [HE2.out]; rfl, rfl⟩

/-! ### takeWord -/
/-- A token as a value; what Next hands back. -/
def tkV (t : Tk) : Value := .agg #[.int .i64 (t.k : Int), .int .i64 (t.o : Int), .int .i64 (t.z : Int), .string ⟨t.v.toArray⟩, .int .i64 t.n]
def nR (r : Nat × Tk) : Value := .tuple #[tkV r.2, .int .i64 (r.1 : Int)]
def atR (i : Nat) (r : Nat × Tk) : Nat × Tk := (r.1, r.2.sh i)
theorem prefix_is (l p : List UInt8) : Lib.hasPrefix l p = decide (l.take p.length = p) := by
  unfold Lib.hasPrefix
  rw [Bool.eq_iff_iff, decide_eq_true_eq, List.isPrefixOf_iff_prefix, List.prefix_iff_eq_take]
  exact eq_comm
theorem cut_sf (s : ByteArray) (i : Nat) : (cutB s i (s.size - i)).data.toList = sf s i := by
  have : (sf s i).length ≤ s.size - i := by rw [sf_len]; omega
  show (sf s i).take (s.size - i) = _
  rw [List.take_of_length_le this]
theorem word_find (s : ByteArray) (i : Nat) (p : ByteArray) (w : World) :
    Calls Tryd.prog 30 #[.string (cutB s i (s.size - i)), .string p] w fun e w' => e = .returned (.bool (decide ((sf s i).take p.data.toList.length = p.data.toList))) ∧ w = w' :=
  (Tryd.strings_HasPrefix _ _ w).mono fun e w' ⟨h1, h2⟩ => ⟨by rw [h1, prefix_is, cut_sf], h2.symm⟩
/-- The words, one by one. -/
theorem word_at (k : Nat) (a : Int) (ha : a = (k : Int)) (hk : k < 3) (w : World) :
    (Instr.index 49 (.agg #[.string ⟨#[116, 114, 117, 101]⟩, .string ⟨#[102, 97, 108, 115, 101]⟩, .string ⟨#[110, 117, 108, 108]⟩]) (.int .i64 a)).run Tryd.prog w =
      .ok (.string (if k = 0 then ⟨#[116, 114, 117, 101]⟩ else if k = 1 then ⟨#[102, 97, 108, 115, 101]⟩ else ⟨#[110, 117, 108, 108]⟩)) w := by
  subst ha
  have hk3 : k = 0 ∨ k = 1 ∨ k = 2 := by omega
  rcases hk3 with rfl | rfl | rfl
  all_goals simp [Instr.index, run_underlying Tryd.underlying49, asIntOf, go_sem]
/-- What the words from the k-th on say. -/
def wF (k : Nat) (l : List UInt8) : Nat × Tk :=
  if k = 0 ∧ l.take 4 = [116, 114, 117, 101] then (0, ⟨9, 0, 4, [], 0⟩) else if k ≤ 1 ∧ l.take 5 = [102, 97, 108, 115, 101] then (0, ⟨10, 0, 5, [], 0⟩) else if k ≤ 2 ∧ l.take 4 = [110, 117, 108, 108] then (0, ⟨11, 0, 4, [], 0⟩) else (4, bad 0)
theorem wF_zero (l : List UInt8) : wF 0 l = wrd l := by unfold wF wrd; simp
theorem wF_0 {l : List UInt8} (h : l.take 4 = [116, 114, 117, 101]) : wF 0 l = (0, ⟨9, 0, 4, [], 0⟩) := if_pos ⟨rfl, h⟩
theorem wF_1 {l : List UInt8} (h : l.take 5 = [102, 97, 108, 115, 101]) : wF 1 l = (0, ⟨10, 0, 5, [], 0⟩) := by unfold wF; rw [if_neg (by simp), if_pos ⟨by omega, h⟩]
theorem wF_2 {l : List UInt8} (h : l.take 4 = [110, 117, 108, 108]) : wF 2 l = (0, ⟨11, 0, 4, [], 0⟩) := by unfold wF; rw [if_neg (by simp), if_neg (by simp), if_pos ⟨by omega, h⟩]
theorem wF_n0 {l : List UInt8} (h : l.take 4 ≠ [116, 114, 117, 101]) : wF 0 l = wF 1 l := by unfold wF; simp [h]
theorem wF_n1 {l : List UInt8} (h : l.take 5 ≠ [102, 97, 108, 115, 101]) : wF 1 l = wF 2 l := by unfold wF; simp [h]
theorem wF_n2 {l : List UInt8} (h : l.take 4 ≠ [110, 117, 108, 108]) : wF 2 l = wF 3 l := by unfold wF; simp [h]
set_option maxRecDepth 100000 in
theorem takeWord_any (s : ByteArray) (i : Nat) (x : Int) (hx : x = (i : Int)) (hi : i ≤ s.size) (w : World) :
    Calls Tryd.prog 18 #[.string s, .int .i64 x] w fun e w' => e = .returned (nR (atR i (wrd (sf s i)))) ∧ Below w.heap.size w w' := by
  subst hx
  have hsl := fun w => sl_from s i (s.size - i) (by omega) w
  have H1 : Hid (∀ w, Calls Tryd.prog 30 #[.string (cutB s i (s.size - i)), .string ⟨#[116, 114, 117, 101]⟩] w fun e w' => e = .returned (.bool (decide ((sf s i).take 4 = [116, 114, 117, 101]))) ∧ w = w') := Lib.hid fun w => word_find s i ⟨#[116, 114, 117, 101]⟩ w
  have H2 : Hid (∀ w, Calls Tryd.prog 30 #[.string (cutB s i (s.size - i)), .string ⟨#[102, 97, 108, 115, 101]⟩] w fun e w' => e = .returned (.bool (decide ((sf s i).take 5 = [102, 97, 108, 115, 101]))) ∧ w = w') := Lib.hid fun w => word_find s i ⟨#[102, 97, 108, 115, 101]⟩ w
  have H3 : Hid (∀ w, Calls Tryd.prog 30 #[.string (cutB s i (s.size - i)), .string ⟨#[110, 117, 108, 108]⟩] w fun e w' => e = .returned (.bool (decide ((sf s i).take 4 = [110, 117, 108, 108]))) ∧ w = w') := Lib.hid fun w => word_find s i ⟨#[110, 117, 108, 108]⟩ w
  go_enter Tryd.func18, Tryd.ntmps18
  go_wp2_with fail
  go_loop [9] (fun x => ∃ (k : Nat) (a : Int), x = .int .i64 a ∧ a = (k : Int) ∧ k ≤ 3 ∧ Hid (wrd (sf s i) = wF k (sf s i))) (fun x => 3 - (RowKit.intOf x).toNat)
  case atStart => exact ⟨0, 0, rfl, rfl, by omega, Lib.hid (wF_zero _).symm⟩
  case round =>
    obtain ⟨k, a, rfl, ha, hk, hh⟩ := hrel
    have hk4 : k = 0 ∨ k = 1 ∨ k = 2 ∨ k = 3 := by omega
    rcases hk4 with rfl | rfl | rfl | rfl
    · obtain rfl : a = 0 := by omega
      clear ha hk
      have hwd : ∀ w, (Instr.index 49 (.agg #[.string ⟨#[116, 114, 117, 101]⟩, .string ⟨#[102, 97, 108, 115, 101]⟩, .string ⟨#[110, 117, 108, 108]⟩]) (.int .i64 0)).run Tryd.prog w = .ok (.string ⟨#[116, 114, 117, 101]⟩) w := fun w => word_at 0 0 rfl (by omega) w
      by_cases h : (sf s i).take 4 = [116, 114, 117, 101]
      · rw [decide_eq_true h] at H1
        have HR := Lib.hid (hh.out.trans (wF_0 h))
        clear h hh
        go_wp2_with (go_at_call 30; refine (H1.out _).mono ?_; rintro e w1 ⟨rfl, rfl⟩)
        go_returns
        exact ⟨by rw [HR.out]; rfl, (Below.refl _ _).alloc (Nat.le_refl _) _⟩
      · rw [decide_eq_false h] at H1
        have HR := Lib.hid (hh.out.trans (wF_n0 h))
        clear h hh
        go_wp2_with (go_at_call 30; refine (H1.out _).mono ?_; rintro e w1 ⟨rfl, rfl⟩)
        go_round
        case rel => exact ⟨1, _, rfl, by omega, by omega, HR⟩
        case measure => simp [RowKit.intOf]
    · obtain rfl : a = 1 := by omega
      clear ha hk
      have hwd : ∀ w, (Instr.index 49 (.agg #[.string ⟨#[116, 114, 117, 101]⟩, .string ⟨#[102, 97, 108, 115, 101]⟩, .string ⟨#[110, 117, 108, 108]⟩]) (.int .i64 1)).run Tryd.prog w = .ok (.string ⟨#[102, 97, 108, 115, 101]⟩) w := fun w => word_at 1 1 rfl (by omega) w
      by_cases h : (sf s i).take 5 = [102, 97, 108, 115, 101]
      · rw [decide_eq_true h] at H2
        have HR := Lib.hid (hh.out.trans (wF_1 h))
        clear h hh
        go_wp2_with (go_at_call 30; refine (H2.out _).mono ?_; rintro e w1 ⟨rfl, rfl⟩)
        go_returns
        exact ⟨by rw [HR.out]; rfl, (Below.refl _ _).alloc (Nat.le_refl _) _⟩
      · rw [decide_eq_false h] at H2
        have HR := Lib.hid (hh.out.trans (wF_n1 h))
        clear h hh
        go_wp2_with (go_at_call 30; refine (H2.out _).mono ?_; rintro e w1 ⟨rfl, rfl⟩)
        go_round
        case rel => exact ⟨2, _, rfl, by omega, by omega, HR⟩
        case measure => simp [RowKit.intOf]
    · obtain rfl : a = 2 := by omega
      clear ha hk
      have hwd : ∀ w, (Instr.index 49 (.agg #[.string ⟨#[116, 114, 117, 101]⟩, .string ⟨#[102, 97, 108, 115, 101]⟩, .string ⟨#[110, 117, 108, 108]⟩]) (.int .i64 2)).run Tryd.prog w = .ok (.string ⟨#[110, 117, 108, 108]⟩) w := fun w => word_at 2 2 rfl (by omega) w
      by_cases h : (sf s i).take 4 = [110, 117, 108, 108]
      · rw [decide_eq_true h] at H3
        have HR := Lib.hid (hh.out.trans (wF_2 h))
        clear h hh
        go_wp2_with (go_at_call 30; refine (H3.out _).mono ?_; rintro e w1 ⟨rfl, rfl⟩)
        go_returns
        exact ⟨by rw [HR.out]; rfl, (Below.refl _ _).alloc (Nat.le_refl _) _⟩
      · rw [decide_eq_false h] at H3
        have HR := Lib.hid (hh.out.trans (wF_n2 h))
        clear h hh
        go_wp2_with (go_at_call 30; refine (H3.out _).mono ?_; rintro e w1 ⟨rfl, rfl⟩)
        go_round
        case rel => exact ⟨3, _, rfl, by omega, by omega, HR⟩
        case measure => simp [RowKit.intOf]
    · obtain rfl : a = 3 := by omega
      clear ha hk
      have HR := Lib.hid (hh.out.trans (show wF 3 (sf s i) = (4, bad 0) by unfold wF; simp))
      clear hh
      go_wp2_with fail
      go_returns
      exact ⟨by rw [HR.out]; rfl, (Below.refl _ _).alloc (Nat.le_refl _) _⟩
end Go.Proofs.YtbikbniaoceodaaDoor.Lx
