/- Contracts of isDigit, skipDigits, skipBlanks, takeWord. Conditions: as each theorem states. · Tokens in memory: one of them, and rows of them. Conditions: as each theorem states. · What strconv.ParseInt says of a number's bytes; takeNumber. Conditions: strconv.ErrRange holds an error (what the row lists); as each theorem states. · Contracts of takeText and Next. Conditions: the tables of unicode/utf8 and the errors of strconv (what the row lists); as each theorem states. -/
import Derived.Test.YtbpofhlnnldceaaGreatDoorPlainA
import Derived.Test.YtbpofhlnnldceaaGreatDoorRowsA
import Derived.Test.YtbpofhlnnldceaaGreatDoorShelf
import Derived.Handy
import Derived.Deep.MidRow
import Derived.Laws.CopyOwn
import Derived.Shelf.Strconv.ParseIntPublic10
import Derived.Test.YtbpofhlnnldceaaGreatDoorQuoG1
namespace Go.Proofs.YtbpofhlnnldceaaGreatDoor.Lx
open Go.RowKit Go.Lib Go.Proofs.YtbpofhlnnldceaaGreatDoor.Byt

/-- The byte at m; 0 behind the end. -/
def by8 (s : ByteArray) (m : Nat) : Nat := (s.data.toList.getD m 0).toNat
/-- The bytes from m on. -/
def sf (s : ByteArray) (m : Nat) : List UInt8 := s.data.toList.drop m
theorem by8_lt (s : ByteArray) (m : Nat) : by8 s m < 256 := UInt8.toNat_lt _
theorem index_of (s : ByteArray) (m : Nat) (x : Int) (hx : x = (m : Int)) (h : m < s.size) (w : World) :
    (Instr.index 9 (.string s) (.int .i64 x)).run Tryz.prog w = .ok (.int .u8 (by8 s m : Int)) w := by
  subst hx
  have h2 : m < s.data.toList.length := by simpa using h
  have e : s[m].toNat = by8 s m := by
    have : s.data.toList.getD m 0 = s[m] := by rw [List.getD, List.getElem?_eq_getElem h2]; rfl
    unfold by8; rw [this]
  rw [run_index_string w 9 _ .i64 (m : Int) Tryz.underlying9, dif_pos ⟨by omega, by omega⟩, ← e]
  rfl
theorem sf_len (s : ByteArray) (m : Nat) : (sf s m).length = s.size - m := by unfold sf; simp
theorem sf_get (s : ByteArray) (m j : Nat) : ((sf s m).getD j 0).toNat = by8 s (m + j) := by unfold sf by8; rw [getD_dropN]
theorem sf_hd (s : ByteArray) (m : Nat) : hd (sf s m) = by8 s m := sf_get s m 0
theorem sf_drop (s : ByteArray) (m j : Nat) : (sf s m).drop j = sf s (m + j) := by unfold sf; rw [List.drop_drop]
theorem sf_cons (s : ByteArray) (m : Nat) (h : m < s.size) : ∃ c : UInt8, sf s m = c :: sf s (m + 1) ∧ c.toNat = by8 s m := by
  have h2 : m < s.data.toList.length := by simpa using h
  refine ⟨s.data.toList[m], List.drop_eq_getElem_cons h2, ?_⟩
  unfold by8
  rw [List.getD, List.getElem?_eq_getElem h2]
  rfl
theorem sf_nil (s : ByteArray) (m : Nat) (h : s.size ≤ m) : sf s m = [] := List.drop_eq_nil_of_le (by simpa using h)
theorem by8_end (s : ByteArray) (m : Nat) (h : s.size ≤ m) : by8 s m = 0 := by
  unfold by8
  rw [List.getD_eq_getElem?_getD, List.getElem?_eq_none (by simpa using h)]
  rfl
theorem dgs_sf (s : ByteArray) (m : Nat) : dgs (sf s m) = if dg (by8 s m) = true then dgs (sf s (m + 1)) + 1 else 0 := by
  by_cases h : m < s.size
  · obtain ⟨c, h1, h2⟩ := sf_cons s m h
    rw [h1, dgs, h2]
  · rw [by8_end s m (by omega), sf_nil s m (by omega)]; rfl
theorem skp_sf (s : ByteArray) (m : Nat) : skp (sf s m) = if bl (by8 s m) = true then skp (sf s (m + 1)) + 1 else 0 := by
  by_cases h : m < s.size
  · obtain ⟨c, h1, h2⟩ := sf_cons s m h
    rw [h1, skp, h2]
  · rw [by8_end s m (by omega), sf_nil s m (by omega)]; rfl

/-! ### isDigit -/
theorem ret_d {a b : Bool} (h : a = b) : Ending.returned (.bool a) = .returned (.bool b) := by rw [h]
theorem isDigit_any (s : ByteArray) (i : Nat) (x : Int) (hx : x = (i : Int)) (w : World) :
    Calls Tryz.prog 49 #[.string s, .int .i64 x] w fun e w' => e = .returned (.bool (dg (by8 s i))) ∧ w = w' := by
  subst hx
  by_cases h0 : i < s.size
  · have hix := fun w => index_of s i (i : Int) rfl h0 w
    have hb := by8_lt s i
    generalize by8 s i = c at *
    by_cases h1 : 48 ≤ c
    · by_cases h2 : c ≤ 57
      · rw [show dg c = true by unfold dg; simp; omega]
        go_enter Tryz.func49, Tryz.ntmps49
        go_wp2_with fail
        go_ret
        exact ⟨ret_d (decide_eq_true (by omega)), rfl⟩
      · rw [show dg c = false by unfold dg; simp; omega]
        go_enter Tryz.func49, Tryz.ntmps49
        go_wp2_with fail
        go_ret
        exact ⟨ret_d (decide_eq_false (by omega)), rfl⟩
    · rw [show dg c = false by unfold dg; simp; omega]
      go_enter Tryz.func49, Tryz.ntmps49
      go_wp2_with fail
      go_ret
      exact ⟨rfl, rfl⟩
  · rw [by8_end s i (by omega), show dg 0 = false from rfl]
    go_enter Tryz.func49, Tryz.ntmps49
    go_wp2_with fail
    go_ret
    exact ⟨rfl, rfl⟩

/-! ### skipDigits -/
theorem skipDigits_any (s : ByteArray) (i : Nat) (x : Int) (hx : x = (i : Int)) (hi : i ≤ s.size) (hs : s.size ≤ 140737488355328) (w : World) :
    Calls Tryz.prog 69 #[.string s, .int .i64 x] w fun e w' => e = .returned (.int .i64 ((i + dgc (sf s i) : Nat) : Int)) ∧ w = w' := by
  subst hx
  have HD := Lib.hid (fun w => isDigit_any s i (i : Int) rfl w)
  by_cases h0 : by8 s i = 48
  · have hlt : i < s.size := by
      rcases Nat.lt_or_ge i s.size with h | h
      · exact h
      · rw [by8_end s i h] at h0; omega
    have hix := fun w => index_of s i (i : Int) rfl hlt w
    have e : dgc (sf s i) = 1 := by unfold dgc; rw [sf_hd, if_pos h0]
    rw [e]
    rw [h0] at hix HD
    rw [show dg 48 = true from rfl] at HD
    clear h0 e
    go_enter Tryz.func69, Tryz.ntmps69
    go_wp2_with (go_at_call 49; refine (HD.out _).mono ?_; rintro e w1 ⟨rfl, rfl⟩)
    go_ret
    exact ⟨by push_cast; rfl, rfl⟩
  · have e : dgc (sf s i) = dgs (sf s i) := by unfold dgc; rw [sf_hd, if_neg h0]
    rw [e]
    obtain ⟨E, hE⟩ : ∃ E, E = i + dgs (sf s i) := ⟨_, rfl⟩
    rw [← hE]
    have HE := Lib.hid hE
    clear e hE
    have HK := Lib.hid (fun (k : Nat) w => isDigit_any s k (k : Int) rfl w)
    have ent : (dg (by8 s i) = true ∧ i < s.size ∧ ((by8 s i : Int) == 48) = false ∧ ∀ w, (Instr.index 9 (.string s) (.int .i64 (i : Int))).run Tryz.prog w = .ok (.int .u8 (by8 s i : Int)) w) ∨ dg (by8 s i) = false := by
      cases hd : dg (by8 s i) with
      | false => exact .inr rfl
      | true =>
        have hlt : i < s.size := by
          rcases Nat.lt_or_ge i s.size with h | h
          · exact h
          · rw [by8_end s i h] at hd; cases hd
        exact .inl ⟨rfl, hlt, by rw [beq_eq_false_iff_ne]; omega, fun w => index_of s i (i : Int) rfl hlt w⟩
    rcases ent with ⟨hd, hlt, h48, hix⟩ | hd
    all_goals
      rw [hd] at HD
      clear h0 hd
      go_enter Tryz.func69, Tryz.ntmps69
      go_wp2_with (go_at_call 49; refine (HD.out _).mono ?_; rintro e w1 ⟨rfl, rfl⟩)
      go_loop [1] (fun x => ∃ k : Nat, x = .int .i64 (k : Int) ∧ i ≤ k ∧ k ≤ s.size ∧ Hid (E = k + dgs (sf s k))) (fun x => s.size - (RowKit.intOf x).toNat)
      case atStart => exact ⟨i, rfl, Nat.le_refl _, hi, HE⟩
      case round =>
        obtain ⟨k, rfl, hik, hk, hh⟩ := hrel
        have HK2 := Lib.hid (fun w => HK.out k w)
        have st := dgs_sf s k
        cases hdk : dg (by8 s k) with
        | true =>
          have hkl : k < s.size := by
            rcases Nat.lt_or_ge k s.size with h | h
            · exact h
            · rw [by8_end s k h] at hdk; cases hdk
          rw [if_pos hdk] at st
          rw [hdk] at HK2
          have HE2 := Lib.hid (show E = k + 1 + dgs (sf s (k + 1)) by rw [hh.out, st]; omega)
          clear st hdk hh
          go_wp2_with (go_at_call 49; refine (HK2.out _).mono ?_; rintro e w1 ⟨rfl, rfl⟩)
          go_round
          case rel => exact ⟨k + 1, by go_num, by omega, by omega, HE2⟩
          case measure => simp [RowKit.intOf]; omega
        | false =>
          rw [if_neg (by rw [hdk]; simp)] at st
          rw [hdk] at HK2
          have HE2 := Lib.hid (show E = k by rw [hh.out, st]; rfl)
          clear st hdk hh
          go_wp2_with (go_at_call 49; refine (HK2.out _).mono ?_; rintro e w1 ⟨rfl, rfl⟩)
          go_ret
          exact ⟨by rw [HE2.out]; rfl, rfl⟩

/-! ### skipBlanks -/
def blI (c : Nat) : Int := if c = 32 then 0 else if c = 9 then 1 else if c = 10 then 2 else if c = 13 then 3 else -1
theorem blank_dig : ∀ n : Fin 256, Lib.indexByte [32, 9, 10, 13] (UInt8.ofNat n.val) = blI n.val ∧ (bl n.val = true → 0 ≤ blI n.val) ∧ (bl n.val = false → blI n.val = -1) := by decide +kernel
theorem blank_find (c : Nat) (hc : c < 256) (w : World) :
    Calls Tryz.prog 47 #[.string ⟨#[32, 9, 10, 13]⟩, .int .u8 (c : Int)] w fun e w' => e = .returned (.int .i64 (blI c)) ∧ w = w' :=
  (Tryz.strings_IndexByte _ _ w).mono fun e w' ⟨h1, h2⟩ => ⟨by
    rw [h1, Int.toNat_natCast]
    exact congrArg (fun x => Ending.returned (.int .i64 x)) (blank_dig ⟨c, hc⟩).1, h2.symm⟩
theorem skipBlanks_any (s : ByteArray) (i : Nat) (x : Int) (hx : x = (i : Int)) (hi : i ≤ s.size) (hs : s.size ≤ 140737488355328) (w : World) :
    Calls Tryz.prog 46 #[.string s, .int .i64 x] w fun e w' => e = .returned (.int .i64 ((i + skp (sf s i) : Nat) : Int)) ∧ w = w' := by
  subst hx
  obtain ⟨E, hE⟩ : ∃ E, E = i + skp (sf s i) := ⟨_, rfl⟩
  rw [← hE]
  have HE := Lib.hid hE
  clear hE
  go_enter Tryz.func46, Tryz.ntmps46
  go_wp2_with fail
  go_loop [1] (fun x => ∃ k : Nat, x = .int .i64 (k : Int) ∧ i ≤ k ∧ k ≤ s.size ∧ Hid (E = k + skp (sf s k))) (fun x => s.size - (RowKit.intOf x).toNat)
  case atStart => exact ⟨i, rfl, Nat.le_refl _, hi, HE⟩
  case round =>
    obtain ⟨k, rfl, hik, hk, hh⟩ := hrel
    have st := skp_sf s k
    by_cases hkl : k < s.size
    · have hix := fun w => index_of s k (k : Int) rfl hkl w
      have hc := by8_lt s k
      have HF := Lib.hid (fun w => blank_find (by8 s k) hc w)
      obtain ⟨_, b1, b2⟩ := blank_dig ⟨by8 s k, hc⟩
      simp only at b1 b2
      cases hb : bl (by8 s k) with
      | true =>
        rw [if_pos hb] at st
        have b3 := b1 hb
        have HE2 := Lib.hid (show E = k + 1 + skp (sf s (k + 1)) by rw [hh.out, st]; omega)
        generalize by8 s k = c at *
        clear st hb hh b1 b2
        generalize blI c = j at *
        go_wp2_with (go_at_call 47; refine (HF.out _).mono ?_; rintro e w1 ⟨rfl, rfl⟩)
        go_round
        case rel => exact ⟨k + 1, by go_num, by omega, by omega, HE2⟩
        case measure => simp [RowKit.intOf]; omega
      | false =>
        rw [if_neg (by rw [hb]; simp)] at st
        rw [b2 hb] at HF
        have HE2 := Lib.hid (show E = k by rw [hh.out, st]; rfl)
        generalize by8 s k = c at *
        clear st hb hh b1 b2
        go_wp2_with (go_at_call 47; refine (HF.out _).mono ?_; rintro e w1 ⟨rfl, rfl⟩)
        go_ret
        exact ⟨by rw [HE2.out]; rfl, rfl⟩
    · rw [by8_end s k (by omega), show bl 0 = false from rfl, if_neg (by simp)] at st
      have HE2 := Lib.hid (show E = k by rw [hh.out, st]; rfl)
      clear st hh
      go_wp2_with fail
      go_ret
      exact ⟨by rw [HE2.out]; rfl, rfl⟩

/-! ### takeWord -/
/-- A token as a value; what Next hands back. -/
def tkV (t : Tk) : Value := .agg #[.int .i64 (t.k : Int), .int .i64 (t.o : Int), .int .i64 (t.z : Int), .string ⟨t.v.toArray⟩, .int .i64 t.n]
def nR (r : Nat × Tk) : Value := .tuple #[tkV r.2, .int .i64 (r.1 : Int)]
def atR (i : Nat) (r : Nat × Tk) : Nat × Tk := (r.1, r.2.sh i)
theorem prefix_is (l p : List UInt8) : Lib.hasPrefix l p = decide (l.take p.length = p) := by
  unfold Lib.hasPrefix
  rw [Bool.eq_iff_iff, decide_eq_true_eq, List.isPrefixOf_iff_prefix, List.prefix_iff_eq_take]
  exact eq_comm
theorem cut_sf (s : ByteArray) (i : Nat) : (cutB s i (s.size - i)).data.toList = sf s i := by
  have : (sf s i).length ≤ s.size - i := by rw [sf_len]; omega
  show (sf s i).take (s.size - i) = _
  rw [List.take_of_length_le this]
theorem word_find (s : ByteArray) (i : Nat) (p : ByteArray) (w : World) :
    Calls Tryz.prog 71 #[.string (cutB s i (s.size - i)), .string p] w fun e w' => e = .returned (.bool (decide ((sf s i).take p.data.toList.length = p.data.toList))) ∧ w = w' :=
  (Tryz.strings_HasPrefix _ _ w).mono fun e w' ⟨h1, h2⟩ => ⟨by rw [h1, prefix_is, cut_sf], h2.symm⟩
/-- The words, one by one. -/
theorem word_at (k : Nat) (a : Int) (ha : a = (k : Int)) (hk : k < 3) (w : World) :
    (Instr.index 96 (.agg #[.string ⟨#[116, 114, 117, 101]⟩, .string ⟨#[102, 97, 108, 115, 101]⟩, .string ⟨#[110, 117, 108, 108]⟩]) (.int .i64 a)).run Tryz.prog w =
      .ok (.string (if k = 0 then ⟨#[116, 114, 117, 101]⟩ else if k = 1 then ⟨#[102, 97, 108, 115, 101]⟩ else ⟨#[110, 117, 108, 108]⟩)) w := by
  subst ha
  have hk3 : k = 0 ∨ k = 1 ∨ k = 2 := by omega
  rcases hk3 with rfl | rfl | rfl
  all_goals simp [Instr.index, run_underlying Tryz.underlying96, asIntOf, go_sem]
/-- What the words from the k-th on say. -/
def wF (k : Nat) (l : List UInt8) : Nat × Tk :=
  if k = 0 ∧ l.take 4 = [116, 114, 117, 101] then (0, ⟨9, 0, 4, [], 0⟩) else if k ≤ 1 ∧ l.take 5 = [102, 97, 108, 115, 101] then (0, ⟨10, 0, 5, [], 0⟩) else if k ≤ 2 ∧ l.take 4 = [110, 117, 108, 108] then (0, ⟨11, 0, 4, [], 0⟩) else (4, bad 0)
theorem wF_zero (l : List UInt8) : wF 0 l = wrd l := by unfold wF wrd; simp
theorem wF_0 {l : List UInt8} (h : l.take 4 = [116, 114, 117, 101]) : wF 0 l = (0, ⟨9, 0, 4, [], 0⟩) := if_pos ⟨rfl, h⟩
theorem wF_1 {l : List UInt8} (h : l.take 5 = [102, 97, 108, 115, 101]) : wF 1 l = (0, ⟨10, 0, 5, [], 0⟩) := by unfold wF; rw [if_neg (by simp), if_pos ⟨by omega, h⟩]
theorem wF_2 {l : List UInt8} (h : l.take 4 = [110, 117, 108, 108]) : wF 2 l = (0, ⟨11, 0, 4, [], 0⟩) := by unfold wF; rw [if_neg (by simp), if_neg (by simp), if_pos ⟨by omega, h⟩]
theorem wF_n0 {l : List UInt8} (h : l.take 4 ≠ [116, 114, 117, 101]) : wF 0 l = wF 1 l := by unfold wF; simp [h]
theorem wF_n1 {l : List UInt8} (h : l.take 5 ≠ [102, 97, 108, 115, 101]) : wF 1 l = wF 2 l := by unfold wF; simp [h]
theorem wF_n2 {l : List UInt8} (h : l.take 4 ≠ [110, 117, 108, 108]) : wF 2 l = wF 3 l := by unfold wF; simp [h]
set_option maxRecDepth 100000 in
theorem takeWord_any (s : ByteArray) (i : Nat) (x : Int) (hx : x = (i : Int)) (hi : i ≤ s.size) (w : World) :
    Calls Tryz.prog 51 #[.string s, .int .i64 x] w fun e w' => e = .returned (nR (atR i (wrd (sf s i)))) ∧ Below w.heap.size w w' := by
  subst hx
  have hsl := fun w => sl_from s i (s.size - i) (by omega) w
  have H1 : Hid (∀ w, Calls Tryz.prog 71 #[.string (cutB s i (s.size - i)), .string ⟨#[116, 114, 117, 101]⟩] w fun e w' => e = .returned (.bool (decide ((sf s i).take 4 = [116, 114, 117, 101]))) ∧ w = w') := Lib.hid fun w => word_find s i ⟨#[116, 114, 117, 101]⟩ w
  have H2 : Hid (∀ w, Calls Tryz.prog 71 #[.string (cutB s i (s.size - i)), .string ⟨#[102, 97, 108, 115, 101]⟩] w fun e w' => e = .returned (.bool (decide ((sf s i).take 5 = [102, 97, 108, 115, 101]))) ∧ w = w') := Lib.hid fun w => word_find s i ⟨#[102, 97, 108, 115, 101]⟩ w
  have H3 : Hid (∀ w, Calls Tryz.prog 71 #[.string (cutB s i (s.size - i)), .string ⟨#[110, 117, 108, 108]⟩] w fun e w' => e = .returned (.bool (decide ((sf s i).take 4 = [110, 117, 108, 108]))) ∧ w = w') := Lib.hid fun w => word_find s i ⟨#[110, 117, 108, 108]⟩ w
  go_enter Tryz.func51, Tryz.ntmps51
  go_wp2_with fail
  go_loop [9] (fun x => ∃ (k : Nat) (a : Int), x = .int .i64 a ∧ a = (k : Int) ∧ k ≤ 3 ∧ Hid (wrd (sf s i) = wF k (sf s i))) (fun x => 3 - (RowKit.intOf x).toNat)
  case atStart => exact ⟨0, 0, rfl, rfl, by omega, Lib.hid (wF_zero _).symm⟩
  case round =>
    obtain ⟨k, a, rfl, ha, hk, hh⟩ := hrel
    have hk4 : k = 0 ∨ k = 1 ∨ k = 2 ∨ k = 3 := by omega
    rcases hk4 with rfl | rfl | rfl | rfl
    · obtain rfl : a = 0 := by omega
      clear ha hk
      have hwd : ∀ w, (Instr.index 96 (.agg #[.string ⟨#[116, 114, 117, 101]⟩, .string ⟨#[102, 97, 108, 115, 101]⟩, .string ⟨#[110, 117, 108, 108]⟩]) (.int .i64 0)).run Tryz.prog w = .ok (.string ⟨#[116, 114, 117, 101]⟩) w := fun w => word_at 0 0 rfl (by omega) w
      by_cases h : (sf s i).take 4 = [116, 114, 117, 101]
      · rw [decide_eq_true h] at H1
        have HR := Lib.hid (hh.out.trans (wF_0 h))
        clear h hh
        go_wp2_with (go_at_call 71; refine (H1.out _).mono ?_; rintro e w1 ⟨rfl, rfl⟩)
        go_returns
        exact ⟨by rw [HR.out]; rfl, (Below.refl _ _).alloc (Nat.le_refl _) _⟩
      · rw [decide_eq_false h] at H1
        have HR := Lib.hid (hh.out.trans (wF_n0 h))
        clear h hh
        go_wp2_with (go_at_call 71; refine (H1.out _).mono ?_; rintro e w1 ⟨rfl, rfl⟩)
        go_round
        case rel => exact ⟨1, _, rfl, by omega, by omega, HR⟩
        case measure => simp [RowKit.intOf]
    · obtain rfl : a = 1 := by omega
      clear ha hk
      have hwd : ∀ w, (Instr.index 96 (.agg #[.string ⟨#[116, 114, 117, 101]⟩, .string ⟨#[102, 97, 108, 115, 101]⟩, .string ⟨#[110, 117, 108, 108]⟩]) (.int .i64 1)).run Tryz.prog w = .ok (.string ⟨#[102, 97, 108, 115, 101]⟩) w := fun w => word_at 1 1 rfl (by omega) w
      by_cases h : (sf s i).take 5 = [102, 97, 108, 115, 101]
      · rw [decide_eq_true h] at H2
        have HR := Lib.hid (hh.out.trans (wF_1 h))
        clear h hh
        go_wp2_with (go_at_call 71; refine (H2.out _).mono ?_; rintro e w1 ⟨rfl, rfl⟩)
        go_returns
        exact ⟨by rw [HR.out]; rfl, (Below.refl _ _).alloc (Nat.le_refl _) _⟩
      · rw [decide_eq_false h] at H2
        have HR := Lib.hid (hh.out.trans (wF_n1 h))
        clear h hh
        go_wp2_with (go_at_call 71; refine (H2.out _).mono ?_; rintro e w1 ⟨rfl, rfl⟩)
        go_round
        case rel => exact ⟨2, _, rfl, by omega, by omega, HR⟩
        case measure => simp [RowKit.intOf]
    · obtain rfl : a = 2 := by omega
      clear ha hk
      have hwd : ∀ w, (Instr.index 96 (.agg #[.string ⟨#[116, 114, 117, 101]⟩, .string ⟨#[102, 97, 108, 115, 101]⟩, .string ⟨#[110, 117, 108, 108]⟩]) (.int .i64 2)).run Tryz.prog w = .ok (.string ⟨#[110, 117, 108, 108]⟩) w := fun w => word_at 2 2 rfl (by omega) w
      by_cases h : (sf s i).take 4 = [110, 117, 108, 108]
      · rw [decide_eq_true h] at H3
        have HR := Lib.hid (hh.out.trans (wF_2 h))
        clear h hh
        go_wp2_with (go_at_call 71; refine (H3.out _).mono ?_; rintro e w1 ⟨rfl, rfl⟩)
        go_returns
        exact ⟨by rw [HR.out]; rfl, (Below.refl _ _).alloc (Nat.le_refl _) _⟩
      · rw [decide_eq_false h] at H3
        have HR := Lib.hid (hh.out.trans (wF_n2 h))
        clear h hh
        go_wp2_with (go_at_call 71; refine (H3.out _).mono ?_; rintro e w1 ⟨rfl, rfl⟩)
        go_round
        case rel => exact ⟨3, _, rfl, by omega, by omega, HR⟩
        case measure => simp [RowKit.intOf]
    · obtain rfl : a = 3 := by omega
      clear ha hk
      have HR := Lib.hid (hh.out.trans (show wF 3 (sf s i) = (4, bad 0) by unfold wF; simp))
      clear hh
      go_wp2_with fail
      go_returns
      exact ⟨by rw [HR.out]; rfl, (Below.refl _ _).alloc (Nat.le_refl _) _⟩
end Go.Proofs.YtbpofhlnnldceaaGreatDoor.Lx

namespace Go.Proofs.YtbpofhlnnldceaaGreatDoor.Lx
open Go.RowKit Go.Lib Go.Proofs.YtbpofhlnnldceaaGreatDoor.Byt

theorem info5 : (Tryz.prog.info? 46).map (·.size) = some 5 := by kernel_rfl
theorem info48 : (Tryz.prog.info? 46).map (fun i => (i.zero, i.size, i.bytes)) = some (some (.agg #[.int .i64 0, .int .i64 0, .int .i64 0, .string ⟨#[]⟩, .int .i64 0]), 5, 48) := by kernel_rfl
/-- A token's cells. -/
def tkC (t : Tk) : List Value := [.int .i64 (t.k : Int), .int .i64 (t.o : Int), .int .i64 (t.z : Int), .string ⟨t.v.toArray⟩, .int .i64 t.n]
theorem tkV_agg (t : Tk) : tkV t = .agg (tkC t).toArray := rfl
def T0 : Tk := ⟨0, 0, 0, [], 0⟩
/-- Block g holds those cells. -/
def Box (w : World) (g : Nat) (cs : Array Value) : Prop := w.heap[g]? = some (.cells cs 46 (0, 0))
theorem Box.next {w w' : World} {B g : Nat} {cs : Array Value} (h : Box w g cs) (hb : Below B w w') (hg : g < B) : Box w' g cs := (hb.block g hg).trans h
theorem Box.lt {w : World} {g : Nat} {cs : Array Value} (h : Box w g cs) : g < w.heap.size := by
  rcases Nat.lt_or_ge g w.heap.size with h' | h'
  · exact h'
  · unfold Box at h; simp [Array.getElem?_eq_none h'] at h
theorem Box.cell {w : World} {g : Nat} {cs : Array Value} (h : Box w g cs) (j : Nat) : w.cell? ⟨g, j, none⟩ = cs[j]? := by
  unfold Box at h
  simp [World.cell?, h]
theorem box_new (w : World) (cs : Array Value) : Box (w.alloc (.cells cs 46)) w.heap.size cs := heap_alloc_new _ _
theorem box_old {w : World} {g : Nat} {cs : Array Value} (h : Box w g cs) (o : Obj) : Box (w.alloc o) g cs := by
  have := h.lt
  unfold Box at h ⊢
  rw [← h]
  exact ((Below.refl w.heap.size w).alloc (Nat.le_refl _) o).block g this
section
variable {ops : Array Oper} {rest : List Oper} {o : Oper} {a : Act} {Q : Exit → Act → World → Prop}
/-- '*p = t' of a token's variable. -/
theorem wpList_keep (W : World) (hgd : o.guard = none) (x y : Operand) (ho : o.op = .store 46 x y) (B : Nat) (w0 : World) (hb : Below B w0 W) (g : Nat) (hB : B ≤ g) (k p z : Int) (v : ByteArray) (n : Int) (old : Array Value)
    (hx : a.eval x = .pointer (some ⟨g, 0, none⟩)) (hy : a.eval y = .agg #[.int .i64 k, .int .i64 p, .int .i64 z, .string v, .int .i64 n]) (hk : Box W g old) (ho5 : old.size = 5)
    (h : ∀ w', Box w' g #[.int .i64 k, .int .i64 p, .int .i64 z, .string v, .int .i64 n] → Below B w0 w' → (∀ k, k ≠ g → w'.heap[k]? = W.heap[k]?) → wpList Tryz.prog ops Q rest (a.put o.dst undef) w') : wpList Tryz.prog ops Q (o :: rest) a W := by
  refine wpList_store_row hgd _ x y ho g _ hx hy _ old hk info5 ho5 (by simp [Value.oneCell']) ?_
  refine h _ (setRow_heap W g old _ _ _ hk) (below_setRow hb hB _) (fun k hk => setRow_other W g k _ hk)
/-- 'x := *p' of a token's variable. -/
theorem wpList_fetch (W : World) (hgd : o.guard = none) (x : Operand) (ho : o.op = .load 46 x) (g : Nat) (cs : Array Value)
    (hx : a.eval x = .pointer (some ⟨g, 0, none⟩)) (hk : Box W g cs) (h5 : cs.size = 5)
    (h : wpList Tryz.prog ops Q rest (a.put o.dst (.agg cs)) W) : wpList Tryz.prog ops Q (o :: rest) a W :=
  wpList_load_row hgd _ x ho g hx _ cs _ _ hk Tryz.underlying46 rfl (by rw [info5, h5]) h
/-- What a function hands back whose first result is a token in memory. -/
theorem results_tok {fn : Func} {p t : Tmp} (h : fn.results = #[.cell p 46, .tmp t]) (tmps : Array Value) (w : World) (g : Nat) (cs : Array Value)
    (hp : tmps.getD p undef = .pointer (some ⟨g, 0, none⟩)) (hk : Box w g cs) (h5 : cs.size = 5) : (results fn tmps).run Tryz.prog w = .ok (.tuple #[.agg cs, tmps.getD t undef]) w := by
  have hl := run_loadVar_row (P := Tryz.prog) w g _ 46 cs _ _ hk Tryz.underlying46 rfl (by rw [info5, h5])
  have hp' : tmps[p]?.getD undef = .pointer (some ⟨g, 0, none⟩) := by simpa using hp
  simp [results, h, hp', asAddr, hl]
end

/-! ### rows of tokens -/
def rowC (L : List Tk) : List Value := L.flatMap tkC
theorem rowC_len (L : List Tk) : (rowC L).length = L.length * 5 := by
  induction L with
  | nil => rfl
  | cons t L ih => unfold rowC at ih ⊢; rw [List.flatMap_cons, List.length_append, ih, List.length_cons]; show 5 + _ = _; omega
theorem rowC_app (x y : List Tk) : rowC (x ++ y) = rowC x ++ rowC y := by unfold rowC; simp
theorem rowC_one (t : Tk) : rowC [t] = tkC t := by unfold rowC; simp
theorem tkC_one (t : Tk) : ∀ u ∈ tkC t, u.oneCell' = true := by
  intro u hu
  unfold tkC at hu
  simp only [List.mem_cons, List.not_mem_nil, or_false] at hu
  rcases hu with rfl | rfl | rfl | rfl | rfl <;> rfl
theorem rowC_at (L : List Tk) : ∀ (j f : Nat), j < L.length → f < 5 → (rowC L)[j * 5 + f]? = (tkC (L.getD j T0))[f]? := by
  induction L with
  | nil => intro j f h; simp at h
  | cons t L ih =>
    intro j f hj hf
    have e : rowC (t :: L) = tkC t ++ rowC L := by unfold rowC; simp
    have hl : (tkC t).length = 5 := rfl
    rw [e]
    cases j with
    | zero => rw [List.getElem?_append_left (by omega)]; simp
    | succ j =>
      rw [List.getElem?_append_right (by omega), hl, show (j + 1) * 5 + f - 5 = j * 5 + f by omega, ih j f (by simp at hj; omega) hf]
      rfl
/-- v can be read as the tokens L. -/
def Row (w : World) (v : Value) (L : List Tk) : Prop :=
  (L = [] ∧ ∃ a cap, v = .slice a 0 cap) ∨ ∃ b cap, v = .slice (some ⟨b, 0, none⟩) L.length cap ∧ ∀ j, j < L.length → w.rangeAt b (j * 5) (tkC (L.getD j T0))
theorem rangeAt_next {w w' : World} {b o : Nat} {cs : List Value} (h : w.rangeAt b o cs) (hb : Below w.heap.size w w') : w'.rangeAt b o cs := by
  intro j v hj
  exact (hb.cell (Lib.lt_of_cell (h j v hj))).trans (h j v hj)
theorem Row.next {w w' : World} {v : Value} {L : List Tk} (h : Row w v L) (hb : Below w.heap.size w w') : Row w' v L := by
  rcases h with h | ⟨b, cap, h1, h2⟩
  · exact .inl h
  · exact .inr ⟨b, cap, h1, fun j hj => rangeAt_next (h2 j hj) hb⟩
theorem Row.nil (w : World) : Row w (.slice none 0 0) [] := .inl ⟨rfl, _, _, rfl⟩
/-- A row at any length: its cells are asked where there are some. -/
theorem Row.open_ {w : World} {v : Value} {L : List Tk} (h : Row w v L) : ∃ a cap, v = .slice a L.length cap ∧ ∀ j, j < L.length → ∃ b, a = some ⟨b, 0, none⟩ ∧ w.rangeAt b (j * 5) (tkC (L.getD j T0)) := by
  rcases h with ⟨rfl, a, cap, rfl⟩ | ⟨b, cap, rfl, hc⟩
  · exact ⟨a, cap, rfl, fun j hj => by cases hj⟩
  · exact ⟨_, cap, rfl, fun j hj => ⟨b, rfl, hc j hj⟩⟩
/-- v is the call's own (from block B on) and holds the tokens L. -/
def Own (w : World) (B : Nat) (v : Value) (L : List Tk) : Prop := w.ownsRow B 46 5 v L.length (rowC L)
section
variable {w w' : World} {B : Nat} {v : Value} {L : List Tk}
theorem Own.nil (w : World) (B : Nat) : Own w B (.slice none 0 0) [] := World.ownsRow_nil _ _ _ _
theorem Own.alloc (h : Own w B v L) (o : Obj) : Own (w.alloc o) B v L := World.ownsRow.alloc h o
theorem Own.row (h : Own w B v L) : Row w v L := by
  rcases h.2 with ⟨hv, hx⟩ | ⟨g, cap, cur, hv, _⟩
  · obtain rfl : L = [] := List.eq_nil_of_length_eq_zero hx
    subst hv
    exact Row.nil w
  · subst hv
    refine .inr ⟨g, cap, rfl, fun j hj f u hf => ?_⟩
    have hf5 : f < 5 := by
      have : f < (tkC (L.getD j T0)).length := (List.getElem?_eq_some_iff.1 hf).1
      exact this
    rw [World.ownsRow.cellAt h (j * 5 + f) (by omega), rowC_at L j f hj hf5, hf]
theorem Own.next (h : Own w B v L) (hb : Below w.heap.size w w') : Own w' B v L := by
  refine ⟨h.1, ?_⟩
  rcases h.2 with hn | ⟨g, cap, cur, hv, hbg, hg, rest⟩
  · exact .inl hn
  · have hg2 : g < w.heap.size := by
      rcases Nat.lt_or_ge g w.heap.size with h' | h'
      · exact h'
      · simp [Array.getElem?_eq_none h'] at hg
    exact .inr ⟨g, cap, cur, hv, hbg, (hb.block g hg2).trans hg, rest⟩
/-- A row over a store into another block. -/
theorem Own.beside (h : Own w B v L) (hb : ∀ k, v.ownBlock = some k → w'.heap[k]? = w.heap[k]?) : Own w' B v L := by
  refine ⟨h.1, ?_⟩
  rcases h.2 with hn | ⟨g, cap, cur, hv, hbg, hg, rest⟩
  · exact .inl hn
  · exact .inr ⟨g, cap, cur, hv, hbg, (hb g (by rw [hv]; rfl)).trans hg, rest⟩
end
section
variable {ops : Array Oper} {rest : List Oper} {o : Oper} {a : Act} {Q : Exit → Act → World → Prop}
end
end Go.Proofs.YtbpofhlnnldceaaGreatDoor.Lx

namespace Go.Proofs.YtbpofhlnnldceaaGreatDoor.Lx
open Go.RowKit Go.Lib Go.Proofs.YtbpofhlnnldceaaGreatDoor.Byt

/-- strconv.ErrRange holds an error. -/
def Rng (w : World) : Prop := ∃ tp p, w.cell? ⟨3, 0, none⟩ = some (.iface tp p)
theorem Rng.next {w w' : World} (h : Rng w) (hb : Below w.heap.size w w') : Rng w' := by
  obtain ⟨tp, p, hc⟩ := h
  exact ⟨tp, p, (hb.cell (Lib.lt_of_cell hc)).trans hc⟩

/-! ### the number's bytes -/
def vlA (a : Nat) (l : List UInt8) : Nat := l.foldl (fun n c => 10 * n + (c.toNat - 48)) a
theorem vlA_zero (l : List UInt8) : vlA 0 l = vl l := by unfold vlA vl; rfl
theorem vlA_cons (a : Nat) (c : UInt8) (l : List UInt8) : vlA a (c :: l) = vlA (10 * a + (c.toNat - 48)) l := by unfold vlA; rw [List.foldl_cons]
theorem vlA_ge (l : List UInt8) : ∀ a : Nat, a ≤ vlA a l := by
  induction l with
  | nil => intro a; exact Nat.le_refl _
  | cons c l ih => intro a; rw [vlA_cons]; have := ih (10 * a + (c.toNat - 48)); omega
theorem parseM (l : List UInt8) : ∀ a : Nat, allD l → Lib.parseUintM 18446744073709551615 a l = if vlA a l ≤ 18446744073709551615 then .ok (vlA a l) else if l = [] then .ok a else .range := by
  induction l with
  | nil => intro a _; rw [Lib.parseUintM]; split <;> rfl
  | cons c l ih =>
    intro a h
    have hc := h c List.mem_cons_self
    have hl : allD l := fun d hd => h d (List.mem_cons_of_mem _ hd)
    unfold dg at hc
    rw [decide_eq_true_eq] at hc
    have hge := vlA_ge l (10 * a + (c.toNat - 48))
    rw [Lib.parseUintM, if_pos hc, vlA_cons]
    by_cases h1 : 1844674407370955162 ≤ a
    · rw [if_pos h1, if_neg (by omega), if_neg (List.cons_ne_nil c l)]
    · rw [if_neg h1]
      by_cases h2 : 18446744073709551615 < a * 10 + (c.toNat - 48)
      · rw [if_pos h2, if_neg (by omega), if_neg (List.cons_ne_nil c l)]
      · rw [if_neg h2, show a * 10 + (c.toNat - 48) = 10 * a + (c.toNat - 48) by omega, ih _ hl]
        by_cases h3 : vlA (10 * a + (c.toNat - 48)) l ≤ 18446744073709551615
        · rw [if_pos h3, if_pos h3]
        · rw [if_neg h3, if_neg h3, if_neg (List.cons_ne_nil c l)]
          by_cases h4 : l = []
          · subst h4
            have e : vlA (10 * a + (c.toNat - 48)) [] = 10 * a + (c.toNat - 48) := rfl
            rw [e] at h3
            exact absurd (by omega) h3
          · rw [if_neg h4]
theorem parseB (l : List UInt8) (hl : l ≠ []) (h : allD l) : Lib.parseUintB 64 l = if vl l ≤ 18446744073709551615 then .ok (vl l) else .range := by
  unfold Lib.parseUintB
  rw [if_neg hl, show 2 ^ 64 - 1 = 18446744073709551615 from rfl, parseM l 0 h, vlA_zero, if_neg hl]
theorem dgs_take : ∀ l : List UInt8, allD (l.take (dgs l))
  | [] => by simp [dgs, allD]
  | c :: l => by
    rw [dgs]
    by_cases h : dg c.toNat = true
    · rw [if_pos h, List.take_succ_cons]
      intro d hd
      rcases List.mem_cons.1 hd with rfl | hd
      · exact h
      · exact dgs_take l d hd
    · rw [if_neg h]; simp [allD]
theorem dgc_take (l : List UInt8) : allD (l.take (dgc l)) := by
  unfold dgc
  by_cases h : hd l = 48
  · rw [if_pos h]
    cases l with
    | nil => simp [allD]
    | cons c l =>
      intro d hd
      rw [List.take_succ_cons, List.take_zero, List.mem_singleton] at hd
      subst hd
      have : d.toNat = 48 := h
      rw [this]; rfl
  · rw [if_neg h]; exact dgs_take l
theorem parse_is (l : List UInt8) (h : 0 < dc l) : Lib.parseIntB 64 (l.take (sgn l + dc l)) = if vo l = true then .ok (vi l) else .range := by
  have hle := dc_le l
  have ha : allD ((l.drop (sgn l)).take (dc l)) := dgc_take _
  have hlen : ((l.drop (sgn l)).take (dc l)).length = dc l := by rw [List.length_take, List.length_drop]; omega
  have hne : (l.drop (sgn l)).take (dc l) ≠ [] := fun e => by rw [e] at hlen; simp at hlen; omega
  have hp := parseB _ hne ha
  have hv : vl ((l.drop (sgn l)).take (dc l)) = vz l := rfl
  rw [hv] at hp
  have e : l.take (sgn l + dc l) = l.take (sgn l) ++ (l.drop (sgn l)).take (dc l) := by rw [List.take_add]
  rw [e]
  have h63 : (2 : Nat) ^ (64 - 1) = 9223372036854775808 := rfl
  by_cases h45 : hd l = 45
  · have hs : sgn l = 1 := if_pos h45
    have hvi : vi l = -(vz l : Int) := if_pos hs
    have ht : l.take (sgn l) = [45] := by
      rw [hs]
      cases l with
      | nil => cases h45
      | cons c l =>
        have : c.toNat = 45 := h45
        have : c = 45 := UInt8.toNat_inj.1 this
        rw [this]; rfl
    rw [ht, List.singleton_append, Lib.parseIntB_minus, hp, h63]
    unfold vo
    rw [hvi]
    by_cases g : vz l ≤ 18446744073709551615
    · rw [if_pos g]
      by_cases g2 : vz l ≤ 9223372036854775808
      · rw [if_pos (by simp; omega)]; unfold Lib.signedC; simp only; rw [if_neg (by omega)]
      · rw [if_neg (by simp; omega)]; unfold Lib.signedC; simp only; rw [if_pos (by omega)]
    · rw [if_neg g, if_neg (by simp; omega)]; rfl
  · have hs : sgn l = 0 := if_neg h45
    have hvi : vi l = (vz l : Int) := if_neg (by rw [hs]; simp)
    rw [hs] at hne ha ⊢
    rw [hs] at hp
    rw [List.take_zero, List.nil_append]
    cases hD : (l.drop 0).take (dc l) with
    | nil => exact absurd hD hne
    | cons c r =>
      rw [hD] at ha hp
      have hc := ha c List.mem_cons_self
      unfold dg at hc
      rw [decide_eq_true_eq] at hc
      rw [Lib.parseIntB_plain 64 c r (by omega) (by omega), hp, h63]
      unfold vo
      rw [hvi]
      by_cases g : vz l ≤ 18446744073709551615
      · rw [if_pos g]
        by_cases g2 : vz l < 9223372036854775808
        · rw [if_pos (by simp; omega)]; unfold Lib.signlessC; simp only; rw [if_neg (by omega)]
        · rw [if_neg (by simp; omega)]; unfold Lib.signlessC; simp only; rw [if_pos (by omega)]
      · rw [if_neg g, if_neg (by simp; omega)]; rfl

/-! ### takeNumber -/
def mkI (c : Nat) : Int := if c = 46 then 0 else if c = 101 then 1 else if c = 69 then 2 else -1
theorem mark_dig : ∀ n : Fin 256, Lib.indexByte [46, 101, 69] (UInt8.ofNat n.val) = mkI n.val ∧ (mk n.val = true → 0 ≤ mkI n.val) ∧ (mk n.val = false → mkI n.val = -1) := by decide +kernel
theorem mark_find (c : Nat) (hc : c < 256) (w : World) :
    Calls Tryz.prog 47 #[.string ⟨#[46, 101, 69]⟩, .int .u8 (c : Int)] w fun e w' => e = .returned (.int .i64 (mkI c)) ∧ w = w' :=
  (Tryz.strings_IndexByte _ _ w).mono fun e w' ⟨h1, h2⟩ => ⟨by
    rw [h1, Int.toNat_natCast]
    exact congrArg (fun x => Ending.returned (.int .i64 x)) (mark_dig ⟨c, hc⟩).1, h2.symm⟩
theorem cut_take (s : ByteArray) (i n : Nat) : (cutB s i n).data.toList = (sf s i).take n := by unfold cutB sf; simp
theorem int_ok (s : ByteArray) (i : Nat) (h : 0 < dc (sf s i)) (hs : s.size ≤ 140737488355328) (hv : vo (sf s i) = true) (w : World) :
    Calls Tryz.prog 70 #[.string (cutB s i (sgn (sf s i) + dc (sf s i))), .int .i64 10, .int .i64 64] w fun e w' => e = .returned (.tuple #[.int .i64 (vi (sf s i)), .nilIface]) ∧ Below w.heap.size w w' := by
  have hp := parse_is (sf s i) h
  rw [if_pos hv, ← cut_take] at hp
  have hz := dc_le (sf s i)
  rw [sf_len] at hz
  refine (Tryz.strconv_ParseInt_10_at64_ok _ ?_ _ hp w).mono ?_
  · by_cases hi : i ≤ s.size
    · rw [cutB_size s i _ (by omega)]; omega
    · unfold dc at h; rw [sf_nil s i (by omega)] at h; exact absurd h (by decide)
  · rintro e w' ⟨rfl, rfl | ⟨t, rfl⟩⟩
    · exact ⟨rfl, Below.refl _ _⟩
    · exact ⟨rfl, Lib.bytesWorld_below _ _ _⟩
theorem int_over (s : ByteArray) (i : Nat) (h : 0 < dc (sf s i)) (hs : s.size ≤ 140737488355328) (hv : vo (sf s i) = false) (w : World) (hR : Rng w) :
    Calls Tryz.prog 70 #[.string (cutB s i (sgn (sf s i) + dc (sf s i))), .int .i64 10, .int .i64 64] w fun e w' => ∃ (n : Int) (N : Nat), e = .returned (.tuple #[.int .i64 n, .iface 124 (.pointer (some ⟨N, 0, none⟩))]) ∧ Below w.heap.size w w' := by
  have hp := parse_is (sf s i) h
  rw [if_neg (by rw [hv]; simp), ← cut_take] at hp
  have hz := dc_le (sf s i)
  rw [sf_len] at hz
  obtain ⟨tp, p, hc⟩ := hR
  refine (Tryz.strconv_ParseInt_10_at64_range _ ?_ hp (.iface tp p) w hc (.inr ⟨tp, p, rfl⟩)).mono ?_
  · by_cases hi : i ≤ s.size
    · rw [cutB_size s i _ (by omega)]; omega
    · unfold dc at h; rw [sf_nil s i (by omega)] at h; exact absurd h (by decide)
  · rintro e w' ⟨N, rfl, _, _, hb⟩
    exact ⟨_, N, rfl, hb⟩

set_option maxRecDepth 100000 in
set_option maxHeartbeats 2000000 in
theorem takeNumber_any (s : ByteArray) (i : Nat) (x : Int) (hx : x = (i : Int)) (hi : i < s.size) (hs : s.size ≤ 140737488355328) (hc : by8 s i = 45 ∨ dg (by8 s i) = true) (w : World) (hR : Rng w) :
    Calls Tryz.prog 50 #[.string s, .int .i64 x] w fun e w' => e = .returned (nR (atR i (num (sf s i)))) ∧ Below w.heap.size w w' := by
  subst hx
  have HRg := Lib.hid hR
  have hix := fun w => index_of s i (i : Int) rfl hi w
  have hle := dc_le (sf s i)
  rw [sf_len] at hle
  have hgl := sgn_le1 (sf s i)
  have hdc : dgc (sf s (i + sgn (sf s i))) = dc (sf s i) := by unfold dc; rw [sf_drop]
  have HS0 : ∀ w, Calls Tryz.prog 69 #[.string s, .int .i64 ((i + sgn (sf s i) : Nat) : Int)] w fun e w' => e = .returned (.int .i64 ((i + sgn (sf s i) + dc (sf s i) : Nat) : Int)) ∧ w = w' := fun w => by
    have := skipDigits_any s (i + sgn (sf s i)) _ rfl (by omega) hs w
    rwa [hdc] at this
  obtain ⟨E, hE⟩ : ∃ E, E = i + sgn (sf s i) + dc (sf s i) := ⟨_, rfl⟩
  rw [← hE] at HS0
  have hsg : sgn (sf s i) = if by8 s i = 45 then 1 else 0 := by unfold sgn; rw [sf_hd]
  have hmk : ((sf s i).getD (sgn (sf s i) + dc (sf s i)) 0).toNat = by8 s E := by rw [sf_get, hE, Nat.add_assoc]
  have hnum : num (sf s i) = if dc (sf s i) = 0 then (4, bad 0) else if mk (by8 s E) = true then (18, bad 0) else if vo (sf s i) = true then (0, ⟨8, 0, sgn (sf s i) + dc (sf s i), [], vi (sf s i)⟩) else (6, bad 0) := by unfold num; rw [hmk]
  have hok := int_ok s i
  have hov := int_over s i
  have hcut := fun w => run_cut s (i : Int) (E : Int) i (sgn (sf s i) + dc (sf s i)) rfl (by omega) (by omega) w
  have sgns : (by8 s i = 45 ∧ sgn (sf s i) = 1) ∨ (by8 s i ≠ 45 ∧ sgn (sf s i) = 0 ∧ dc (sf s i) ≠ 0) := by
    by_cases h : by8 s i = 45
    · exact .inl ⟨h, by rw [hsg, if_pos h]⟩
    · refine .inr ⟨h, by rw [hsg, if_neg h], ?_⟩
      rcases hc with h2 | h2
      · exact absurd h2 h
      · have hs0 : sgn (sf s i) = 0 := by rw [hsg, if_neg h]
        rw [← hdc, hs0, Nat.add_zero]
        unfold dgc
        rw [sf_hd]
        split
        · omega
        · rw [dgs_sf, if_pos h2]; omega
  generalize num (sf s i) = R at *
  generalize vi (sf s i) = V at *
  generalize vo (sf s i) = O at *
  generalize dc (sf s i) = D at *
  generalize sgn (sf s i) = g at *
  rcases sgns with ⟨h45, rfl⟩ | ⟨h45, rfl, hD0⟩
  · have HS : Hid (∀ w, Calls Tryz.prog 69 #[.string s, .int .i64 ((i : Int) + 1)] w fun e w' => e = .returned (.int .i64 (E : Int)) ∧ w = w') := Lib.hid fun w => by
      have := HS0 w; push_cast at this; exact this
    rw [h45] at hix
    clear HS0 hsg hdc hmk hc h45 hR
    by_cases hD0 : D = 0
    · have hEq : ((E : Int) == (i : Int) + 1) = true := by rw [beq_iff_eq]; omega
      rw [if_pos hD0] at hnum
      have HN := Lib.hid hnum
      clear hnum hok hov hcut HRg hE hle hD0 hgl
      go_enter Tryz.func50, Tryz.ntmps50
      go_wp2_with (go_at_call 69; refine (HS.out _).mono ?_; rintro e w1 ⟨rfl, rfl⟩)
      go_returns
      exact ⟨by rw [HN.out]; rfl, ((Below.refl _ _).alloc (Nat.le_refl _) _).alloc (by simp) _⟩
    · have hne : ((E : Int) == (i : Int) + 1) = false := by rw [beq_eq_false_iff_ne]; omega
      have HZ : Hid (((1 + D : Nat) : Int) = (E : Int) - (i : Int)) := Lib.hid (by omega)
      have hE1 : i + 1 < E := by omega
      have hE2 : E ≤ s.size := by omega
      have hD : 0 < D := by omega
      rw [if_neg (by omega)] at hnum
      clear hE hle hD0 hgl
      cases hm : mk (by8 s E) with
      | true =>
        rw [hm, if_pos rfl] at hnum
        have hEl : E < s.size := by
          rcases Nat.lt_or_ge E s.size with h | h
          · exact h
          · rw [by8_end s E h] at hm; cases hm
        have hiE := fun w => index_of s E (E : Int) rfl hEl w
        have hb := by8_lt s E
        have HM := Lib.hid (fun w => mark_find (by8 s E) hb w)
        have hj := (mark_dig ⟨by8 s E, hb⟩).2.1 hm
        simp only at hj
        have HN := Lib.hid hnum
        generalize mkI (by8 s E) = j at *
        generalize by8 s E = c at *
        clear hnum hm hok hov hcut hb hD HRg HZ
        go_enter Tryz.func50, Tryz.ntmps50
        go_wp2_with (first
          | (go_at_call 69; (with_reducible refine (HS.out _).mono ?_); rintro e w1 ⟨rfl, rfl⟩)
          | (go_at_call 47; (with_reducible refine (HM.out _).mono ?_); rintro e w1 ⟨rfl, rfl⟩))
        go_returns
        exact ⟨by rw [HN.out]; rfl, ((Below.refl _ _).alloc (Nat.le_refl _) _).alloc (by simp) _⟩
      | false =>
        rw [hm, if_neg (by simp)] at hnum
        have hends : (E < s.size ∧ (∀ w, (Instr.index 9 (.string s) (.int .i64 (E : Int))).run Tryz.prog w = .ok (.int .u8 (by8 s E : Int)) w) ∧ Hid (∀ w, Calls Tryz.prog 47 #[.string ⟨#[46, 101, 69]⟩, .int .u8 (by8 s E : Int)] w fun e w' => e = .returned (.int .i64 (-1)) ∧ w = w')) ∨ s.size ≤ E := by
          rcases Nat.lt_or_ge E s.size with h | h
          · refine .inl ⟨h, fun w => index_of s E (E : Int) rfl h w, Lib.hid fun w => ?_⟩
            have hb := by8_lt s E
            have := mark_find (by8 s E) hb w
            rwa [(mark_dig ⟨by8 s E, hb⟩).2.2 hm] at this
          · exact .inr (by omega)
        clear hm
        cases O with
        | true =>
          rw [if_pos rfl] at hnum
          have HP := Lib.hid (fun w => hok hD hs rfl w)
          have HN := Lib.hid hnum
          clear hnum hok hov hD HRg
          rcases hends with ⟨hEl, hiE, HM⟩ | hEl
          all_goals
            go_enter Tryz.func50, Tryz.ntmps50
            go_wp2_with (first
              | (go_at_call 69; (with_reducible refine (HS.out _).mono ?_); rintro e w1 ⟨rfl, rfl⟩)
              | (go_at_call 47; (with_reducible refine (HM.out _).mono ?_); rintro e w1 ⟨rfl, rfl⟩))
            refine (HP.out _).mono ?_
            rintro e w1 ⟨rfl, hb1⟩
            have hb0 : Below w.heap.size w w1 := (((Below.refl _ _).alloc (Nat.le_refl _) _).alloc (by simp) _).trans (hb1.mono (by simp; omega))
            have hk4 : Box w1 w.heap.size _ := (box_old (box_new w _) _).next hb1 (by simp; omega)
            clear hb1
            go_wp2_with (refine wpList_keep _ rfl _ _ rfl w.heap.size w hb0 w.heap.size (Nat.le_refl _) _ _ _ _ _ _ rfl rfl hk4 rfl ?_; intro w2 hk5 hb5 _)
            try simp only [Exit.inBlock, Exit.then]
            refine bodyPost_ret (results_tok rfl _ _ _ _ rfl hk5 rfl) rfl ?_
            exact ⟨by rw [HN.out]; unfold nR tkV atR Tk.sh; simp only; rw [HZ.out]; rfl, hb5⟩
        | false =>
          rw [if_neg (by simp)] at hnum
          have HP := Lib.hid (fun w hR => hov hD hs rfl w hR)
          have HN := Lib.hid hnum
          clear hnum hok hov hD HZ
          rcases hends with ⟨hEl, hiE, HM⟩ | hEl
          all_goals
            go_enter Tryz.func50, Tryz.ntmps50
            go_wp2_with (first
              | (go_at_call 69; (with_reducible refine (HS.out _).mono ?_); rintro e w1 ⟨rfl, rfl⟩)
              | (go_at_call 47; (with_reducible refine (HM.out _).mono ?_); rintro e w1 ⟨rfl, rfl⟩))
            refine (HP.out _ (HRg.out.next (((Below.refl _ _).alloc (Nat.le_refl _) _).alloc (by simp) _))).mono ?_
            rintro e w1 ⟨n, N, rfl, hb1⟩
            have hb0 : Below w.heap.size w w1 := (((Below.refl _ _).alloc (Nat.le_refl _) _).alloc (by simp) _).trans (hb1.mono (by simp; omega))
            have hk4 : Box w1 w.heap.size _ := (box_old (box_new w _) _).next hb1 (by simp; omega)
            have hk6 : Box w1 (w.heap.size + 1) #[.int .i64 0, .int .i64 (i : Int), .int .i64 0, .string ⟨#[]⟩, .int .i64 0] := by
              refine Box.next ?_ hb1 (by simp)
              have := box_new (w.alloc (.cells #[.int .i64 0, .int .i64 0, .int .i64 0, .string ⟨#[]⟩, .int .i64 0] 46)) #[.int .i64 0, .int .i64 (i : Int), .int .i64 0, .string ⟨#[]⟩, .int .i64 0]
              simpa using this
            clear hb1
            go_wp2_with (first
              | (refine wpList_fetch _ rfl _ rfl (w.heap.size + 1) _ rfl hk6 rfl ?_)
              | (refine wpList_keep _ rfl _ _ rfl w.heap.size w hb0 w.heap.size (Nat.le_refl _) _ _ _ _ _ _ rfl rfl hk4 rfl ?_; intro w2 hk5 hb5 _))
            try simp only [Exit.inBlock, Exit.then]
            refine bodyPost_ret (results_tok rfl _ _ _ _ rfl hk5 rfl) rfl ?_
            exact ⟨by rw [HN.out]; rfl, hb5⟩
  · have HS : Hid (∀ w, Calls Tryz.prog 69 #[.string s, .int .i64 (i : Int)] w fun e w' => e = .returned (.int .i64 (E : Int)) ∧ w = w') := Lib.hid fun w => by
      have := HS0 w; rw [Nat.add_zero] at this; exact this
    have h45b : ((by8 s i : Int) == 45) = false := by rw [beq_eq_false_iff_ne]; omega
    clear HS0 hsg hdc hmk hc h45 hR
    generalize by8 s i = ci at *
    simp only [Nat.zero_add] at hcut hok hov hnum
    · have hne : ((E : Int) == (i : Int)) = false := by rw [beq_eq_false_iff_ne]; omega
      have HZ : Hid (((D : Nat) : Int) = (E : Int) - (i : Int)) := Lib.hid (by omega)
      have hE1 : i < E := by omega
      have hE2 : E ≤ s.size := by omega
      have hD : 0 < D := by omega
      rw [if_neg (by omega)] at hnum
      clear hE hle hD0 hgl
      cases hm : mk (by8 s E) with
      | true =>
        rw [hm, if_pos rfl] at hnum
        have hEl : E < s.size := by
          rcases Nat.lt_or_ge E s.size with h | h
          · exact h
          · rw [by8_end s E h] at hm; cases hm
        have hiE := fun w => index_of s E (E : Int) rfl hEl w
        have hb := by8_lt s E
        have HM := Lib.hid (fun w => mark_find (by8 s E) hb w)
        have hj := (mark_dig ⟨by8 s E, hb⟩).2.1 hm
        simp only at hj
        have HN := Lib.hid hnum
        generalize mkI (by8 s E) = j at *
        generalize by8 s E = c at *
        clear hnum hm hok hov hcut hb hD HRg HZ
        go_enter Tryz.func50, Tryz.ntmps50
        go_wp2_with (first
          | (go_at_call 69; (with_reducible refine (HS.out _).mono ?_); rintro e w1 ⟨rfl, rfl⟩)
          | (go_at_call 47; (with_reducible refine (HM.out _).mono ?_); rintro e w1 ⟨rfl, rfl⟩))
        go_returns
        exact ⟨by rw [HN.out]; rfl, ((Below.refl _ _).alloc (Nat.le_refl _) _).alloc (by simp) _⟩
      | false =>
        rw [hm, if_neg (by simp)] at hnum
        have hends : (E < s.size ∧ (∀ w, (Instr.index 9 (.string s) (.int .i64 (E : Int))).run Tryz.prog w = .ok (.int .u8 (by8 s E : Int)) w) ∧ Hid (∀ w, Calls Tryz.prog 47 #[.string ⟨#[46, 101, 69]⟩, .int .u8 (by8 s E : Int)] w fun e w' => e = .returned (.int .i64 (-1)) ∧ w = w')) ∨ s.size ≤ E := by
          rcases Nat.lt_or_ge E s.size with h | h
          · refine .inl ⟨h, fun w => index_of s E (E : Int) rfl h w, Lib.hid fun w => ?_⟩
            have hb := by8_lt s E
            have := mark_find (by8 s E) hb w
            rwa [(mark_dig ⟨by8 s E, hb⟩).2.2 hm] at this
          · exact .inr (by omega)
        clear hm
        cases O with
        | true =>
          rw [if_pos rfl] at hnum
          have HP := Lib.hid (fun w => hok hD hs rfl w)
          have HN := Lib.hid hnum
          clear hnum hok hov hD HRg
          rcases hends with ⟨hEl, hiE, HM⟩ | hEl
          all_goals
            go_enter Tryz.func50, Tryz.ntmps50
            go_wp2_with (first
              | (go_at_call 69; (with_reducible refine (HS.out _).mono ?_); rintro e w1 ⟨rfl, rfl⟩)
              | (go_at_call 47; (with_reducible refine (HM.out _).mono ?_); rintro e w1 ⟨rfl, rfl⟩))
            refine (HP.out _).mono ?_
            rintro e w1 ⟨rfl, hb1⟩
            have hb0 : Below w.heap.size w w1 := (((Below.refl _ _).alloc (Nat.le_refl _) _).alloc (by simp) _).trans (hb1.mono (by simp; omega))
            have hk4 : Box w1 w.heap.size _ := (box_old (box_new w _) _).next hb1 (by simp; omega)
            clear hb1
            go_wp2_with (refine wpList_keep _ rfl _ _ rfl w.heap.size w hb0 w.heap.size (Nat.le_refl _) _ _ _ _ _ _ rfl rfl hk4 rfl ?_; intro w2 hk5 hb5 _)
            try simp only [Exit.inBlock, Exit.then]
            refine bodyPost_ret (results_tok rfl _ _ _ _ rfl hk5 rfl) rfl ?_
            exact ⟨by rw [HN.out]; unfold nR tkV atR Tk.sh; simp only; rw [HZ.out]; rfl, hb5⟩
        | false =>
          rw [if_neg (by simp)] at hnum
          have HP := Lib.hid (fun w hR => hov hD hs rfl w hR)
          have HN := Lib.hid hnum
          clear hnum hok hov hD HZ
          rcases hends with ⟨hEl, hiE, HM⟩ | hEl
          all_goals
            go_enter Tryz.func50, Tryz.ntmps50
            go_wp2_with (first
              | (go_at_call 69; (with_reducible refine (HS.out _).mono ?_); rintro e w1 ⟨rfl, rfl⟩)
              | (go_at_call 47; (with_reducible refine (HM.out _).mono ?_); rintro e w1 ⟨rfl, rfl⟩))
            refine (HP.out _ (HRg.out.next (((Below.refl _ _).alloc (Nat.le_refl _) _).alloc (by simp) _))).mono ?_
            rintro e w1 ⟨n, N, rfl, hb1⟩
            have hb0 : Below w.heap.size w w1 := (((Below.refl _ _).alloc (Nat.le_refl _) _).alloc (by simp) _).trans (hb1.mono (by simp; omega))
            have hk4 : Box w1 w.heap.size _ := (box_old (box_new w _) _).next hb1 (by simp; omega)
            have hk6 : Box w1 (w.heap.size + 1) #[.int .i64 0, .int .i64 (i : Int), .int .i64 0, .string ⟨#[]⟩, .int .i64 0] := by
              refine Box.next ?_ hb1 (by simp)
              have := box_new (w.alloc (.cells #[.int .i64 0, .int .i64 0, .int .i64 0, .string ⟨#[]⟩, .int .i64 0] 46)) #[.int .i64 0, .int .i64 (i : Int), .int .i64 0, .string ⟨#[]⟩, .int .i64 0]
              simpa using this
            clear hb1
            go_wp2_with (first
              | (refine wpList_fetch _ rfl _ rfl (w.heap.size + 1) _ rfl hk6 rfl ?_)
              | (refine wpList_keep _ rfl _ _ rfl w.heap.size w hb0 w.heap.size (Nat.le_refl _) _ _ _ _ _ _ rfl rfl hk4 rfl ?_; intro w2 hk5 hb5 _))
            try simp only [Exit.inBlock, Exit.then]
            refine bodyPost_ret (results_tok rfl _ _ _ _ rfl hk5 rfl) rfl ?_
            exact ⟨by rw [HN.out]; rfl, hb5⟩
end Go.Proofs.YtbpofhlnnldceaaGreatDoor.Lx

namespace Go.Proofs.YtbpofhlnnldceaaGreatDoor.Lx
open Go.RowKit Go.Lib Go.Proofs.YtbpofhlnnldceaaGreatDoor.Byt Go.Proofs.YtbpofhlnnldceaaGreatDoor.Quo

/-- What the listed variables give. -/
structure Env (w : World) : Prop where
  tabs : Utf.Tabs w
  syn : Syn w
  rng : Rng w
theorem Env.next {w w' : World} (h : Env w) (hb : Below w.heap.size w w') : Env w' := ⟨h.tabs.next hb, h.syn.next hb, h.rng.next hb⟩

theorem sh_sh (a b : Nat) (t : Tk) : (t.sh b).sh a = t.sh (a + b) := by unfold Tk.sh; simp only; rw [Nat.add_assoc]
theorem nR_good (i : Nat) (t : Tk) : nR (atR i (0, t)) = .tuple #[.agg #[.int .i64 (t.k : Int), .int .i64 ((i + t.o : Nat) : Int), .int .i64 (t.z : Int), .string ⟨t.v.toArray⟩, .int .i64 t.n], .int .i64 0] := rfl
theorem nR_bad (i e o : Nat) : nR (atR i (e, bad o)) = .tuple #[.agg #[.int .i64 0, .int .i64 ((i + o : Nat) : Int), .int .i64 0, .string ⟨#[]⟩, .int .i64 0], .int .i64 (e : Int)] := rfl

set_option maxRecDepth 100000 in
theorem takeText_any (s : ByteArray) (i : Nat) (x : Int) (hx : x = (i : Int)) (hi : i < s.size) (hs : s.size ≤ 8000000) (hc : by8 s i = 34) (w : World) (hE : Env w) :
    Calls Tryz.prog 48 #[.string s, .int .i64 x] w fun e w' => e = .returned (nR (atR i (txt (sf s i)))) ∧ Below w.heap.size w w' := by
  subst hx
  have ht : tQ s (i : Int) = fin [] (i + 1) (tkQ ((sf s i).drop 1)) := by
    unfold tQ
    have hb : Utf.bt s i = 34 := hc
    rw [Int.toNat_natCast, if_pos ⟨by omega, by omega, hb⟩, sf_drop]
    rfl
  have HQ := fun w hS hT => qtake_any s (i : Int) w hS hT hs
  rw [ht] at HQ
  have hS := hE.syn
  have hT := hE.tabs
  unfold txt
  have hin := (tkQ_in ((sf s i).drop 1)).1
  rw [sf_drop, sf_len, ← sf_drop] at hin
  generalize tkQ ((sf s i).drop 1) = R at *
  obtain ⟨e, n, v⟩ := R
  unfold rT fin at HQ
  simp only at HQ ⊢
  by_cases he : e = 0
  · subst he
    rw [if_pos rfl, List.nil_append] at HQ
    rw [if_pos rfl, nR_good]
    have hz : ((n + 1 : Nat) : Int) = ((i + 1 + n : Nat) : Int) - (i : Int) := by omega
    simp only
    rw [hz]
    have H := Lib.hid HQ
    clear HQ ht hz
    generalize (⟨v.toArray⟩ : ByteArray) = V at *
    have hlo : (i : Int) ≤ ((i + 1 + n : Nat) : Int) := by omega
    have hhi : i + 1 + n ≤ s.size := by simp only at hin; omega
    generalize hO : i + 1 + n = O at *
    clear hO hin
    go_enter Tryz.func48, Tryz.ntmps48
    go_wp2_with fail
    refine (H.out _ (hS.next ((Below.refl _ _).alloc (Nat.le_refl _) _)) (hT.next ((Below.refl _ _).alloc (Nat.le_refl _) _))).mono ?_
    rintro e w1 ⟨rfl, hb1⟩
    have hb0 : Below w.heap.size w w1 := ((Below.refl _ _).alloc (Nat.le_refl _) _).trans (hb1.mono (by simp))
    have hk4 : Box w1 w.heap.size _ := (box_new w _).next hb1 (by simp)
    clear hb1
    go_wp2_with (refine wpList_keep _ rfl _ _ rfl w.heap.size w hb0 w.heap.size (Nat.le_refl _) _ _ _ _ _ _ rfl rfl hk4 rfl ?_; intro w2 hk5 hb5 _)
    try simp only [Exit.inBlock, Exit.then]
    refine bodyPost_ret (results_tok rfl _ _ _ _ rfl hk5 rfl) rfl ?_
    exact ⟨rfl, hb5⟩
  · rw [if_neg he] at HQ
    rw [if_neg he, nR_bad, show i + (n + 1) = i + 1 + n by omega]
    have he2 : ((e : Int) != 0) = true := by rw [bne_iff_ne]; omega
    have H := Lib.hid HQ
    clear HQ ht he
    generalize hO : i + 1 + n = O at *
    clear hO
    go_enter Tryz.func48, Tryz.ntmps48
    go_wp2_with fail
    refine (H.out _ (hS.next ((Below.refl _ _).alloc (Nat.le_refl _) _)) (hT.next ((Below.refl _ _).alloc (Nat.le_refl _) _))).mono ?_
    rintro e w1 ⟨rfl, hb1⟩
    have hb0 : Below w.heap.size w w1 := ((Below.refl _ _).alloc (Nat.le_refl _) _).trans (hb1.mono (by simp))
    have hk4 : Box w1 w.heap.size _ := (box_new w _).next hb1 (by simp)
    clear hb1
    go_wp2_with (refine wpList_keep _ rfl _ _ rfl w.heap.size w hb0 w.heap.size (Nat.le_refl _) _ _ _ _ _ _ rfl rfl hk4 rfl ?_; intro w2 hk5 hb5 _)
    try simp only [Exit.inBlock, Exit.then]
    refine bodyPost_ret (results_tok rfl _ _ _ _ rfl hk5 rfl) rfl ?_
    exact ⟨rfl, hb5⟩

/-! ### Next -/
def sgI (c : Nat) : Int := (sg c : Int) - 1
theorem sign_dig : ∀ n : Fin 256, Lib.indexByte [123, 125, 91, 93, 58, 44] (UInt8.ofNat n.val) = sgI n.val := by decide +kernel
theorem sign_find (c : Nat) (hc : c < 256) (w : World) :
    Calls Tryz.prog 47 #[.string ⟨#[123, 125, 91, 93, 58, 44]⟩, .int .u8 (c : Int)] w fun e w' => e = .returned (.int .i64 ((sg c : Int) - 1)) ∧ w = w' :=
  (Tryz.strings_IndexByte _ _ w).mono fun e w' ⟨h1, h2⟩ => ⟨by
    rw [h1, Int.toNat_natCast]
    exact congrArg (fun x => Ending.returned (.int .i64 x)) (sign_dig ⟨c, hc⟩), h2.symm⟩
theorem nR_all (j : Nat) (r : Nat × Tk) : nR (atR j r) = .tuple #[.agg #[.int .i64 (r.2.k : Int), .int .i64 ((j + r.2.o : Nat) : Int), .int .i64 (r.2.z : Int), .string ⟨r.2.v.toArray⟩, .int .i64 r.2.n], .int .i64 (r.1 : Int)] := rfl
/-- The place where Next begins to look. -/
def cl (s : ByteArray) (a : Int) : Nat := (max (min a (s.size : Int)) 0).toNat
theorem cl_le (s : ByteArray) (a : Int) : cl s a ≤ s.size := by unfold cl; omega
theorem cl_in (s : ByteArray) (k : Nat) (h : k ≤ s.size) : cl s (k : Int) = k := by unfold cl; omega
/-- What Next hands back. -/
def nxA (s : ByteArray) (a : Int) : Nat × Tk := atR (cl s a) (nx (sf s (cl s a)))
theorem nxA_tok (s : ByteArray) (a : Int) : nxA s a = atR (cl s a + skp (sf s (cl s a))) (tok (sf s (cl s a + skp (sf s (cl s a))))) := by
  unfold nxA nx atR
  rw [sf_drop]
  simp only [sh_sh]
theorem tok_cases (s : ByteArray) (j : Nat) (h : j ≤ s.size) :
    (j = s.size ∧ tok (sf s j) = (0, bad 0)) ∨ (j < s.size ∧ 0 < sg (by8 s j) ∧ tok (sf s j) = (0, ⟨sg (by8 s j), 0, 1, [], 0⟩)) ∨
    (j < s.size ∧ sg (by8 s j) = 0 ∧ ((by8 s j = 34 ∧ tok (sf s j) = txt (sf s j)) ∨ (by8 s j ≠ 34 ∧ by8 s j = 45 ∧ tok (sf s j) = num (sf s j)) ∨
      (by8 s j ≠ 34 ∧ by8 s j ≠ 45 ∧ dg (by8 s j) = true ∧ tok (sf s j) = num (sf s j)) ∨ (by8 s j ≠ 34 ∧ by8 s j ≠ 45 ∧ dg (by8 s j) = false ∧ tok (sf s j) = wrd (sf s j)))) := by
  by_cases hj : j < s.size
  · right
    have hne : sf s j ≠ [] := fun e => by have := congrArg List.length e; rw [sf_len] at this; simp at this; omega
    unfold tok
    rw [if_neg hne, sf_hd]
    by_cases h1 : sg (by8 s j) = 0
    · right
      refine ⟨hj, h1, ?_⟩
      rw [if_neg (by omega)]
      by_cases h2 : by8 s j = 34
      · left; exact ⟨h2, if_pos h2⟩
      · right
        rw [if_neg h2]
        by_cases h3 : by8 s j = 45
        · left; exact ⟨h2, h3, if_pos (.inl h3)⟩
        · right
          cases h4 : dg (by8 s j) with
          | true => left; exact ⟨h2, h3, rfl, if_pos (.inr rfl)⟩
          | false => right; exact ⟨h2, h3, rfl, if_neg (by simp [h3])⟩
    · left
      exact ⟨hj, by omega, if_pos (by omega)⟩
  · left
    obtain rfl : j = s.size := by omega
    refine ⟨rfl, ?_⟩
    rw [sf_nil s _ (Nat.le_refl _)]; rfl

set_option maxRecDepth 100000 in
set_option maxHeartbeats 2000000 in
theorem next_any (s : ByteArray) (a : Int) (hs : s.size ≤ 8000000) (w : World) (hE : Env w) (hi : -9223372036854775808 ≤ a) (hi' : a ≤ 9223372036854775807) :
    Calls Tryz.prog 33 #[.string s, .int .i64 a] w fun e w' => e = .returned (nR (nxA s a)) ∧ Below w.heap.size w w' := by
  rw [nxA_tok]
  have hcl := cl_le s a
  have hcla : max (min a (s.size : Int)) 0 = (cl s a : Int) := by unfold cl; omega
  have HB := Lib.hid (fun w => skipBlanks_any s (cl s a) _ rfl hcl (by omega) w)
  have hj : cl s a + skp (sf s (cl s a)) ≤ s.size := by
    have := skp_le (sf s (cl s a))
    rw [sf_len] at this
    omega
  generalize hJ : cl s a + skp (sf s (cl s a)) = j at *
  clear hJ
  generalize cl s a = i at *
  have HE := Lib.hid hE
  have hEa : ∀ o, Env (w.alloc o) := fun o => hE.next ((Below.refl _ _).alloc (Nat.le_refl _) _)
  have HEa := Lib.hid hEa
  clear hE hEa
  rcases tok_cases s j hj with ⟨rfl, ht⟩ | ⟨hlt, hsg, ht⟩ | ⟨hlt, hsg, hrest⟩
  · rw [ht, nR_bad]
    clear ht
    go_enter Tryz.func33, Tryz.ntmps33
    go_wp2_with (go_at_call 46; refine (HB.out _).mono ?_; rintro e w1 ⟨rfl, rfl⟩)
    go_returns
    exact ⟨rfl, (Below.refl _ _).alloc (Nat.le_refl _) _⟩
  · rw [ht, nR_good]
    have hix := fun w => index_of s j (j : Int) rfl hlt w
    have hb := by8_lt s j
    have HS := Lib.hid (fun w => sign_find (by8 s j) hb w)
    have h6 := sg_le (by8 s j)
    clear ht
    generalize sg (by8 s j) = g at *
    generalize by8 s j = c at *
    go_enter Tryz.func33, Tryz.ntmps33
    go_wp2_with (first
      | (go_at_call 46; refine (HB.out _).mono ?_; rintro e w1 ⟨rfl, rfl⟩)
      | (go_at_call 47; refine (HS.out _).mono ?_; rintro e w1 ⟨rfl, rfl⟩))
    go_returns
    exact ⟨by simp only [Nat.add_zero]; congr 1 <;> congr <;> omega, (Below.refl _ _).alloc (Nat.le_refl _) _⟩
  · have hix := fun w => index_of s j (j : Int) rfl hlt w
    have hb := by8_lt s j
    have HS : Hid (∀ w, Calls Tryz.prog 47 #[.string ⟨#[123, 125, 91, 93, 58, 44]⟩, .int .u8 (by8 s j : Int)] w fun e w' => e = .returned (.int .i64 (-1)) ∧ w = w') := Lib.hid fun w => by
      have := sign_find (by8 s j) hb w
      rw [hsg] at this
      exact this
    have HD := Lib.hid (fun w => isDigit_any s j (j : Int) rfl w)
    clear hsg
    rcases hrest with ⟨h34, ht⟩ | ⟨h34, h45, ht⟩ | ⟨h34, h45, hd, ht⟩ | ⟨h34, h45, hd, ht⟩
    · have HT0 := fun w hE => takeText_any s j (j : Int) rfl hlt hs h34 w hE
      rw [ht, nR_all]
      rw [nR_all] at HT0
      have HT := Lib.hid HT0
      clear HT0 ht
      generalize (txt (sf s j)).1 = E at *
      generalize (txt (sf s j)).2.k = K at *
      generalize j + (txt (sf s j)).2.o = O at *
      generalize (txt (sf s j)).2.z = Z at *
      generalize (⟨(txt (sf s j)).2.v.toArray⟩ : ByteArray) = V at *
      generalize (txt (sf s j)).2.n = M at *
      rw [h34] at hix
      have HS2 : Hid (∀ w, Calls Tryz.prog 47 #[.string ⟨#[123, 125, 91, 93, 58, 44]⟩, .int .u8 34] w fun e w' => e = .returned (.int .i64 (-1)) ∧ w = w') := Lib.hid fun w => by
        have := HS.out w
        rw [h34] at this
        exact this
      clear HS
      have HS := HS2
      clear HS2
      clear h34 hb HD
      go_enter Tryz.func33, Tryz.ntmps33
      go_wp2_with (first
        | (go_at_call 46; (with_reducible refine (HB.out _).mono ?_); rintro e w1 ⟨rfl, rfl⟩)
        | (go_at_call 47; (with_reducible refine (HS.out _).mono ?_); rintro e w1 ⟨rfl, rfl⟩))
      refine (HT.out _ (HEa.out _)).mono ?_
      rintro e w1 ⟨rfl, hb1⟩
      have hb0 : Below w.heap.size w w1 := ((Below.refl _ _).alloc (Nat.le_refl _) _).trans (hb1.mono (by simp))
      have hk4 : Box w1 w.heap.size _ := (box_new w _).next hb1 (by simp)
      clear hb1
      go_wp2_with (refine wpList_keep _ rfl _ _ rfl w.heap.size w hb0 w.heap.size (Nat.le_refl _) _ _ _ _ _ _ rfl rfl hk4 rfl ?_; intro w2 hk5 hb5 _)
      try simp only [Exit.inBlock, Exit.then]
      refine bodyPost_ret (results_tok rfl _ _ _ _ rfl hk5 rfl) rfl ?_
      exact ⟨rfl, hb5⟩
    · have HT0 := fun w (hE : Env w) => takeNumber_any s j (j : Int) rfl hlt (by omega) (.inl h45) w hE.rng
      rw [ht, nR_all]
      rw [nR_all] at HT0
      have HT := Lib.hid HT0
      clear HT0 ht
      generalize (num (sf s j)).1 = E at *
      generalize (num (sf s j)).2.k = K at *
      generalize j + (num (sf s j)).2.o = O at *
      generalize (num (sf s j)).2.z = Z at *
      generalize (⟨(num (sf s j)).2.v.toArray⟩ : ByteArray) = V at *
      generalize (num (sf s j)).2.n = M at *
      rw [h45] at hix
      have HS2 : Hid (∀ w, Calls Tryz.prog 47 #[.string ⟨#[123, 125, 91, 93, 58, 44]⟩, .int .u8 45] w fun e w' => e = .returned (.int .i64 (-1)) ∧ w = w') := Lib.hid fun w => by
        have := HS.out w
        rw [h45] at this
        exact this
      clear HS
      have HS := HS2
      clear HS2
      clear h34 h45 hb HD
      go_enter Tryz.func33, Tryz.ntmps33
      go_wp2_with (first
        | (go_at_call 46; (with_reducible refine (HB.out _).mono ?_); rintro e w1 ⟨rfl, rfl⟩)
        | (go_at_call 47; (with_reducible refine (HS.out _).mono ?_); rintro e w1 ⟨rfl, rfl⟩))
      refine (HT.out _ (HEa.out _)).mono ?_
      rintro e w1 ⟨rfl, hb1⟩
      have hb0 : Below w.heap.size w w1 := ((Below.refl _ _).alloc (Nat.le_refl _) _).trans (hb1.mono (by simp))
      have hk4 : Box w1 w.heap.size _ := (box_new w _).next hb1 (by simp)
      clear hb1
      go_wp2_with (refine wpList_keep _ rfl _ _ rfl w.heap.size w hb0 w.heap.size (Nat.le_refl _) _ _ _ _ _ _ rfl rfl hk4 rfl ?_; intro w2 hk5 hb5 _)
      try simp only [Exit.inBlock, Exit.then]
      refine bodyPost_ret (results_tok rfl _ _ _ _ rfl hk5 rfl) rfl ?_
      exact ⟨rfl, hb5⟩
    · have HT0 := fun w (hE : Env w) => takeNumber_any s j (j : Int) rfl hlt (by omega) (.inr hd) w hE.rng
      rw [ht, nR_all]
      rw [nR_all] at HT0
      have HT := Lib.hid HT0
      clear HT0 ht
      generalize (num (sf s j)).1 = E at *
      generalize (num (sf s j)).2.k = K at *
      generalize j + (num (sf s j)).2.o = O at *
      generalize (num (sf s j)).2.z = Z at *
      generalize (⟨(num (sf s j)).2.v.toArray⟩ : ByteArray) = V at *
      generalize (num (sf s j)).2.n = M at *
      rw [hd] at HD
      clear hd
      have h34b : ((by8 s j : Int) == 34) = false := by rw [beq_eq_false_iff_ne]; omega
      have h45b : ((by8 s j : Int) == 45) = false := by rw [beq_eq_false_iff_ne]; omega
      generalize by8 s j = c at *
      clear h34 h45 hb
      go_enter Tryz.func33, Tryz.ntmps33
      go_wp2_with (first
        | (go_at_call 46; (with_reducible refine (HB.out _).mono ?_); rintro e w1 ⟨rfl, rfl⟩)
        | (go_at_call 47; (with_reducible refine (HS.out _).mono ?_); rintro e w1 ⟨rfl, rfl⟩)
        | (go_at_call 49; (with_reducible refine (HD.out _).mono ?_); rintro e w1 ⟨rfl, rfl⟩))
      refine (HT.out _ (HEa.out _)).mono ?_
      rintro e w1 ⟨rfl, hb1⟩
      have hb0 : Below w.heap.size w w1 := ((Below.refl _ _).alloc (Nat.le_refl _) _).trans (hb1.mono (by simp))
      have hk4 : Box w1 w.heap.size _ := (box_new w _).next hb1 (by simp)
      clear hb1
      go_wp2_with (refine wpList_keep _ rfl _ _ rfl w.heap.size w hb0 w.heap.size (Nat.le_refl _) _ _ _ _ _ _ rfl rfl hk4 rfl ?_; intro w2 hk5 hb5 _)
      try simp only [Exit.inBlock, Exit.then]
      refine bodyPost_ret (results_tok rfl _ _ _ _ rfl hk5 rfl) rfl ?_
      exact ⟨rfl, hb5⟩
    · have HT0 := fun w (hE : Env w) => takeWord_any s j (j : Int) rfl hj w
      rw [ht, nR_all]
      rw [nR_all] at HT0
      have HT := Lib.hid HT0
      clear HT0 ht
      generalize (wrd (sf s j)).1 = E at *
      generalize (wrd (sf s j)).2.k = K at *
      generalize j + (wrd (sf s j)).2.o = O at *
      generalize (wrd (sf s j)).2.z = Z at *
      generalize (⟨(wrd (sf s j)).2.v.toArray⟩ : ByteArray) = V at *
      generalize (wrd (sf s j)).2.n = M at *
      rw [hd] at HD
      clear hd
      have h34b : ((by8 s j : Int) == 34) = false := by rw [beq_eq_false_iff_ne]; omega
      have h45b : ((by8 s j : Int) == 45) = false := by rw [beq_eq_false_iff_ne]; omega
      generalize by8 s j = c at *
      clear h34 h45 hb
      go_enter Tryz.func33, Tryz.ntmps33
      go_wp2_with (first
        | (go_at_call 46; (with_reducible refine (HB.out _).mono ?_); rintro e w1 ⟨rfl, rfl⟩)
        | (go_at_call 47; (with_reducible refine (HS.out _).mono ?_); rintro e w1 ⟨rfl, rfl⟩)
        | (go_at_call 49; (with_reducible refine (HD.out _).mono ?_); rintro e w1 ⟨rfl, rfl⟩))
      refine (HT.out _ (HEa.out _)).mono ?_
      rintro e w1 ⟨rfl, hb1⟩
      have hb0 : Below w.heap.size w w1 := ((Below.refl _ _).alloc (Nat.le_refl _) _).trans (hb1.mono (by simp))
      have hk4 : Box w1 w.heap.size _ := (box_new w _).next hb1 (by simp)
      clear hb1
      go_wp2_with (refine wpList_keep _ rfl _ _ rfl w.heap.size w hb0 w.heap.size (Nat.le_refl _) _ _ _ _ _ _ rfl rfl hk4 rfl ?_; intro w2 hk5 hb5 _)
      try simp only [Exit.inBlock, Exit.then]
      refine bodyPost_ret (results_tok rfl _ _ _ _ rfl hk5 rfl) rfl ?_
      exact ⟨rfl, hb5⟩
end Go.Proofs.YtbpofhlnnldceaaGreatDoor.Lx
