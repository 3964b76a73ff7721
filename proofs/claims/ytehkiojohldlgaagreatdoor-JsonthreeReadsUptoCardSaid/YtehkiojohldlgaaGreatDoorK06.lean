/- Texts of my own, packed: UtfG1. Conditions: as each theorem states. -/
import Derived.BigQuiet
import Derived.Deep.QuietTactic
import Derived.Handy
import Derived.Test.YtehkiojohldlgaaGreatDoorK01
import Derived.Test.YtehkiojohldlgaaGreatDoorK02
namespace Go.Proofs.YtehkiojohldlgaaGreatDoor.Utf
open Go.RowKit Go.Lib Go.Proofs.YtehkiojohldlgaaGreatDoor.Byt

/-- The two tables of unicode/utf8. -/
def Tabs (w : World) : Prop := Lib.Utf8Tabs 5 6 w
theorem Tabs.next {w w' : World} (h : Tabs w) (hb : Below w.heap.size w w') : Tabs w' := Utf8Tabs_below h hb
theorem next {a b c : World} (h : Below a.heap.size a b) (k : Below b.heap.size b c) : Below a.heap.size a c := h.trans (k.mono h.size)

/-- What Width returns. -/
def wS (s : ByteArray) (i : Nat) : Nat := wL (s.data.toList.drop i)
theorem drop_some (s : ByteArray) (i : Nat) (h : i < s.size) : s.data.toList.drop i ≠ [] := by
  intro h2
  have h3 := List.drop_eq_nil_iff.1 h2
  have : s.data.toList.length = s.size := by simp
  omega
theorem drop_none (s : ByteArray) (i : Nat) (h : s.size ≤ i) : s.data.toList.drop i = [] := List.drop_eq_nil_of_le (by simpa using h)
theorem wS_le (s : ByteArray) (i : Nat) (h : i ≤ s.size) : i + wS s i ≤ s.size := by
  have h1 := wL_le (s.data.toList.drop i)
  have : s.data.toList.length = s.size := by simp
  rw [List.length_drop] at h1
  unfold wS; omega
theorem extract_list (s : ByteArray) (i : Nat) : (s.extract i s.size).data.toList = s.data.toList.drop i := by
  rw [ByteArray.data_extract, Array.toList_extract]
  simp [List.extract_eq_take_drop]
  exact List.take_of_length_le (by simp)
theorem decodeGo_at (s : ByteArray) (i : Nat) (h : i < s.size) : Lib.decodeGo (s.extract i s.size) = decodeL (s.data.toList.drop i) := by
  have hz : (s.extract i s.size).size ≠ 0 := by rw [ByteArray.size_extract]; omega
  unfold Lib.decodeGo
  rw [if_neg hz, ← decodeL_drop, List.drop_zero, extract_list]

theorem width_in (s : ByteArray) (i : Nat) (w : World) (hT : Tabs w) (h : i < s.size) :
    Calls Tryz.prog 160 #[.string s, .int .i64 (i : Int)] w fun e w' => e = .returned (.int .i64 (wS s i : Nat)) ∧ Below w.heap.size w w' := by
  have hsl : ∀ w, (Instr.slice 9 (.string s) (some (.int .i64 (i : Int))) none none).run Tryz.prog w = .ok (.string (s.extract i s.size)) w := fun w => by
    rw [run_slice_string_from_if w 9 s .i64 (i : Int) Tryz.underlying9, if_pos (by omega)]
    simp
  have cD := Lib.hid (fun w hT => Tryz.utf8_DecodeRuneInString (s.extract i s.size) w hT)
  rw [decodeGo_at s i h] at cD
  have hc : (((decodeL (s.data.toList.drop i)).1 : Int) == 65533) = true ∧ (((decodeL (s.data.toList.drop i)).2 : Int) == 1) = true ∧ wS s i = 0
      ∨ (((decodeL (s.data.toList.drop i)).1 : Int) == 65533) = true ∧ (((decodeL (s.data.toList.drop i)).2 : Int) == 1) = false ∧ wS s i = (decodeL (s.data.toList.drop i)).2
      ∨ (((decodeL (s.data.toList.drop i)).1 : Int) == 65533) = false ∧ wS s i = (decodeL (s.data.toList.drop i)).2 := by
    have hl := drop_some s i h
    unfold wS wL
    rw [if_neg hl]
    by_cases h1 : (decodeL (s.data.toList.drop i)).1 = 65533
    · by_cases h2 : (decodeL (s.data.toList.drop i)).2 = 1
      · rw [if_pos ⟨h1, h2⟩, h1, h2]; simp
      · rw [if_neg (fun h => h2 h.2), h1]
        refine .inr (.inl ⟨by simp, ?_, rfl⟩)
        rw [beq_eq_false_iff_ne]; omega
    · rw [if_neg (fun h => h1 h.1)]
      refine .inr (.inr ⟨?_, rfl⟩)
      rw [beq_eq_false_iff_ne]; omega
  generalize (decodeL (s.data.toList.drop i)).1 = R at *
  generalize (decodeL (s.data.toList.drop i)).2 = K at *
  generalize s.extract i s.size = t at *
  have HT := Lib.hid hT
  clear hT
  rcases hc with ⟨h1, h2, h3⟩ | ⟨h1, h2, h3⟩ | ⟨h1, h3⟩
  all_goals
    rw [h3]
    clear h3
    go_enter Tryz.func160, Tryz.ntmps160
    go_wp2_with (go_at_call 177; refine (cD.out _ HT.out).mono ?_; rintro e w' ⟨rfl, hb⟩)
    go_ret
    exact ⟨rfl, hb⟩
/-- What Bad returns. -/
def bI : Option Nat → Int
  | none => -1
  | some k => (k : Int)
/-- Of the rest of a text from i on: where it is bad, counted from the text's begin. -/
def rest (s : ByteArray) (i : Nat) : Option Nat := (badL (s.data.toList.drop i)).map (· + i)
theorem rest_start (s : ByteArray) : rest s 0 = badL s.data.toList := by
  unfold rest; rw [List.drop_zero]; cases badL s.data.toList <;> rfl
theorem rest_end (s : ByteArray) (i : Nat) (h : s.size ≤ i) : rest s i = none := by
  unfold rest; rw [drop_none s i h, badL_nil]; rfl
theorem rest_bad (s : ByteArray) (i : Nat) (h : i < s.size) (h0 : wS s i = 0) : rest s i = some i := by
  unfold rest; rw [badL_zero (drop_some s i h) h0]; simp
theorem rest_step (s : ByteArray) (i : Nat) (h0 : 0 < wS s i) : rest s i = rest s (i + wS s i) := by
  unfold rest
  rw [badL_step (l := s.data.toList.drop i) h0, List.drop_drop, Option.map_map]
  congr 1
  funext k
  show k + wL _ + i = k + (i + wS s i)
  unfold wS; omega

set_option maxHeartbeats 400000 in
theorem bad_any (s : ByteArray) (w : World) (hT : Tabs w) (hs : s.size ≤ 140737488355328) :
    Calls Tryz.prog 132 #[.string s] w fun e w' => e = .returned (.int .i64 (bI (badL s.data.toList))) ∧ Below w.heap.size w w' := by
  rw [← rest_start]
  have HT := Lib.hid hT
  clear hT
  go_enter Tryz.func132, Tryz.ntmps132
  go_wp2_with fail
  go_loopw [3] (fun x wr => ∃ i : Nat, x = .int .i64 (i : Int) ∧ i ≤ s.size ∧ Hid (rest s 0 = rest s i) ∧ Below w.heap.size w wr)
    (fun x _ => s.size - (RowKit.intOf x).toNat)
  case atStart => exact ⟨0, rfl, Nat.zero_le _, Lib.hid rfl, Below.refl _ _⟩
  case round =>
    obtain ⟨i, rfl, hi, hr, hb⟩ := hrel
    by_cases hlt : i < s.size
    · have HW := Lib.hid (fun w' hT => width_in s i w' hT hlt)
      have HB := Lib.hid (HT.out.next hb)
      have hle := wS_le s i hi
      by_cases h0 : wS s i = 0
      · have HR := Lib.hid (hr.out.trans (rest_bad s i hlt h0))
        rw [h0] at HW
        clear h0 hle hr
        go_wp2_with (go_at_call 160; refine (HW.out _ HB.out).mono ?_; rintro e w' ⟨rfl, hb2⟩)
        go_ret
        exact ⟨by rw [HR.out]; rfl, hb.trans (hb2.mono hb.size)⟩
      · have HR := Lib.hid (hr.out.trans (rest_step s i (by omega)))
        obtain ⟨K, hK⟩ : ∃ K, K = wS s i := ⟨_, rfl⟩
        rw [← hK] at HW HR hle h0
        have hk0 : ((K : Int) == 0) = false := by rw [beq_eq_false_iff_ne]; omega
        have hk1 : 0 < K := by omega
        clear hK h0 hr
        go_wp2_with (go_at_call 160; refine (HW.out _ HB.out).mono ?_; rintro e w' ⟨rfl, hb2⟩)
        go_roundw
        case rel => exact ⟨i + K, by go_num, by omega, HR, hb.trans (hb2.mono hb.size)⟩
        case measure => simp [RowKit.intOf]; omega
    · have HR := Lib.hid (hr.out.trans (rest_end s i (by omega)))
      clear hr
      go_wp2_with fail
      go_ret
      exact ⟨by rw [HR.out]; rfl, hb⟩

/-- What Count returns. -/
def cI (l : List UInt8) : Int := if badL l = none then ((rnL l).length : Nat) else -1
/-- Has the number a sequence? -/
def vI (n : Int) : Bool := decide ((0 ≤ n ∧ n < 55296) ∨ (57343 < n ∧ n ≤ 1114111))
end Go.Proofs.YtehkiojohldlgaaGreatDoor.Utf

namespace Go.Proofs.YtehkiojohldlgaaGreatDoor.Utf
open Go.RowKit Go.Lib Go.Proofs.YtehkiojohldlgaaGreatDoor.Byt

theorem below_drewN {B n : Nat} {w W : World} (h : Below B w W) : Below B w (W.drewN n) := ⟨h.os, h.tape, h.output, h.size, h.block⟩
/-! ### Put -/
def pB (l : List Int) : Bool := l.all vI
/-! ### numbers -/
end Go.Proofs.YtehkiojohldlgaaGreatDoor.Utf

namespace Go.Proofs.YtehkiojohldlgaaGreatDoor.Utf
open Go.Lib

/-- The byte at m; 0 behind the end. -/
def bt (s : ByteArray) (m : Nat) : Nat := (s.data.toList.getD m 0).toNat
theorem bt_lt (s : ByteArray) (m : Nat) : bt s m < 256 := UInt8.toNat_lt _
theorem bt_at (s : ByteArray) (m : Nat) (h : m < s.size) : s[m].toNat = bt s m := by
  have h2 : m < s.data.toList.length := by simpa using h
  have : s.data.toList.getD m 0 = s[m] := by
    rw [List.getD, List.getElem?_eq_getElem h2]; rfl
  unfold bt; rw [this]
def inB (s : ByteArray) (m lo hi : Nat) : Bool := decide (m < s.size ∧ lo ≤ bt s m ∧ bt s m ≤ hi)
def tlB (s : ByteArray) (m n : Nat) : Bool := (List.range n).all fun i => inB s (m + i) 128 191
theorem tlB_zero (s : ByteArray) (m : Nat) : tlB s m 0 = true := rfl
theorem tlB_succ (s : ByteArray) (m n : Nat) : tlB s m (n + 1) = (tlB s m n && inB s (m + n) 128 191) := by
  unfold tlB; rw [List.range_succ, List.all_append]; simp
theorem tlB_stop {s : ByteArray} {m k n : Nat} (h : k < n) (hi : inB s (m + k) 128 191 = false) : tlB s m n = false := by
  unfold tlB
  rw [List.all_eq_false]
  exact ⟨k, List.mem_range.2 h, by rw [hi]; decide⟩
theorem tlB_one (s : ByteArray) (m : Nat) : tlB s m 1 = inB s m 128 191 := by rw [tlB_succ, tlB_zero]; simp
theorem tlB_two (s : ByteArray) (m : Nat) : tlB s m 2 = (inB s m 128 191 && inB s (m + 1) 128 191) := by rw [tlB_succ, tlB_one]

/-- The width by numbers. -/
def wN (n b0 b1 b2 b3 : Nat) : Nat := if (decodeN n b0 b1 b2 b3).1 = 65533 ∧ (decodeN n b0 b1 b2 b3).2 = 1 then 0 else (decodeN n b0 b1 b2 b3).2
theorem wN_slow {n b0 b1 b2 b3 sz lo hi : Nat} (hs : slowN n b0 b1 b2 b3 sz lo hi = decodeN n b0 b1 b2 b3) (hsz : sz = 2 ∨ sz = 3 ∨ sz = 4) :
    wN n b0 b1 b2 b3 = if sz ≤ n ∧ (lo ≤ b1 ∧ b1 ≤ hi) ∧ (3 ≤ sz → 128 ≤ b2 ∧ b2 ≤ 191) ∧ (4 ≤ sz → 128 ≤ b3 ∧ b3 ≤ 191) then sz else 0 := by
  unfold wN
  rw [← hs]
  unfold slowN
  rcases hsz with rfl | rfl | rfl
  all_goals
    repeat' split
    all_goals first | rfl | (exfalso; omega) | (simp_all; done) | (simp only at *; omega)
theorem wS_N (s : ByteArray) (i : Nat) (h : i < s.size) : wS s i = wN (s.size - i) (bt s i) (bt s (i + 1)) (bt s (i + 2)) (bt s (i + 3)) := by
  unfold wS wL wN
  rw [if_neg (drop_some s i h), decodeL_N]
  have hl : (s.data.toList.drop i).length = s.size - i := by simp
  rw [hl, getD_dropU, getD_dropU, getD_dropU, getD_dropU]
  rfl
def thLo (c : Nat) : Nat := if c = 224 then 160 else 128
def thHi (c : Nat) : Nat := if c = 237 then 159 else 191
def frLo (c : Nat) : Nat := if c = 240 then 144 else 128
def frHi (c : Nat) : Nat := if c = 244 then 143 else 191
theorem wS_ascii {s : ByteArray} {i : Nat} (h : i < s.size) (hc : bt s i < 128) : wS s i = 1 := by
  rw [wS_N s i h, wN, decodeN, if_pos hc]
  simp only
  rw [if_neg (by omega)]
theorem wS_none {s : ByteArray} {i : Nat} (h : i < s.size) (hc : (128 ≤ bt s i ∧ bt s i < 194) ∨ 244 < bt s i) : wS s i = 0 := by
  have hb := bt_lt s i
  rw [wS_N s i h, wN, decodeN_bad _ _ _ _ _ (by omega)]
  simp
theorem wS_two {s : ByteArray} {i : Nat} (h : i < s.size) (hc : 194 ≤ bt s i ∧ bt s i ≤ 223) : wS s i = if tlB s (i + 1) 1 = true then 2 else 0 := by
  have h1 := bt_lt s (i + 1); have h2 := bt_lt s (i + 2); have h3 := bt_lt s (i + 3)
  rw [wS_N s i h, wN_slow (slow_C2 _ _ _ _ _ (by omega) h1 h2 h3 (by omega)) (.inl rfl), tlB_one, inB]
  simp only [decide_eq_true_eq]
  split <;> split <;> first | rfl | (exfalso; omega)
theorem wS_three {s : ByteArray} {i : Nat} (h : i < s.size) (hc : 224 ≤ bt s i ∧ bt s i ≤ 239) : wS s i = if inB s (i + 1) (thLo (bt s i)) (thHi (bt s i)) = true ∧ tlB s (i + 2) 1 = true then 3 else 0 := by
  have h1 := bt_lt s (i + 1); have h2 := bt_lt s (i + 2); have h3 := bt_lt s (i + 3)
  have key : slowN (s.size - i) (bt s i) (bt s (i + 1)) (bt s (i + 2)) (bt s (i + 3)) 3 (thLo (bt s i)) (thHi (bt s i)) = decodeN (s.size - i) (bt s i) (bt s (i + 1)) (bt s (i + 2)) (bt s (i + 3)) := by
    by_cases c1 : bt s i = 224
    · rw [c1]; exact slow_E0 _ _ _ _ _ (by omega) h1 h2 h3 rfl
    · by_cases c2 : bt s i = 237
      · rw [c2]; exact slow_ED _ _ _ _ _ (by omega) h1 h2 h3 rfl
      · rw [thLo, if_neg c1, thHi, if_neg c2]; exact slow_E1 _ _ _ _ _ (by omega) h1 h2 h3 (by omega)
  rw [wS_N s i h, wN_slow key (.inr (.inl rfl)), tlB_one, inB, inB]
  simp only [decide_eq_true_eq]
  split <;> split <;> first | rfl | (exfalso; omega)
theorem wS_four {s : ByteArray} {i : Nat} (h : i < s.size) (hc : 240 ≤ bt s i ∧ bt s i ≤ 244) : wS s i = if inB s (i + 1) (frLo (bt s i)) (frHi (bt s i)) = true ∧ tlB s (i + 2) 2 = true then 4 else 0 := by
  have h1 := bt_lt s (i + 1); have h2 := bt_lt s (i + 2); have h3 := bt_lt s (i + 3)
  have key : slowN (s.size - i) (bt s i) (bt s (i + 1)) (bt s (i + 2)) (bt s (i + 3)) 4 (frLo (bt s i)) (frHi (bt s i)) = decodeN (s.size - i) (bt s i) (bt s (i + 1)) (bt s (i + 2)) (bt s (i + 3)) := by
    by_cases c1 : bt s i = 240
    · rw [c1]; exact slow_F0 _ _ _ _ _ (by omega) h1 h2 h3 rfl
    · by_cases c2 : bt s i = 244
      · rw [c2]; exact slow_F4 _ _ _ _ _ (by omega) h1 h2 h3 rfl
      · rw [frLo, if_neg c1, frHi, if_neg c2]; exact slow_F1 _ _ _ _ _ (by omega) h1 h2 h3 (by omega)
  rw [wS_N s i h, wN_slow key (.inr (.inr rfl)), tlB_two, inB, inB, inB]
  simp only [decide_eq_true_eq, Bool.and_eq_true]
  rw [show i + 2 + 1 = i + 3 by omega]
  split <;> split <;> first | rfl | (exfalso; omega)

end Go.Proofs.YtehkiojohldlgaaGreatDoor.Utf

namespace Go.Proofs.YtehkiojohldlgaaGreatDoor.Utf
open Go.RowKit Go.Lib Go.Proofs.YtehkiojohldlgaaGreatDoor.Byt

theorem index_at (s : ByteArray) (m : Nat) (x : Int) (hx : x = (m : Int)) (h : m < s.size) (w : World) :
    (Instr.index 9 (.string s) (.int .i64 x)).run Tryz.prog w = .ok (.int .u8 (bt s m : Int)) w := by
  subst hx
  rw [run_index_string w 9 _ .i64 (m : Int) Tryz.underlying9, dif_pos ⟨by omega, by omega⟩, ← bt_at s m h]
  rfl
theorem ret_b {a b : Bool} (h : a = b) : Ending.returned (.bool a) = .returned (.bool b) := by rw [h]

theorem in_any (s : ByteArray) (m lo hi : Nat) (w : World) :
    Calls Tryz.prog 186 #[.string s, .int .i64 (m : Int), .int .u8 (lo : Int), .int .u8 (hi : Int)] w fun e w' => e = .returned (.bool (inB s m lo hi)) ∧ w = w' := by
  by_cases h0 : m < s.size
  · have hx := fun w => index_at s m _ rfl h0 w
    have hb := bt_lt s m
    unfold inB
    obtain ⟨c, hc⟩ : ∃ c, c = bt s m := ⟨_, rfl⟩
    rw [← hc] at hx hb ⊢
    clear hc
    by_cases h1 : lo ≤ c
    · by_cases h2 : c ≤ hi
      · rw [decide_eq_true (by omega)]
        go_enter Tryz.func186, Tryz.ntmps186
        go_wp2_with fail
        go_ret
        exact ⟨rfl, rfl⟩
      · rw [decide_eq_false (by omega)]
        go_enter Tryz.func186, Tryz.ntmps186
        go_wp2_with fail
        go_ret
        exact ⟨rfl, rfl⟩
    · rw [decide_eq_false (by omega)]
      go_enter Tryz.func186, Tryz.ntmps186
      go_wp2_with fail
      go_ret
      exact ⟨rfl, rfl⟩
  · unfold inB
    rw [decide_eq_false (by omega)]
    go_enter Tryz.func186, Tryz.ntmps186
    go_wp2_with fail
    go_ret
    exact ⟨rfl, rfl⟩

theorem tail_any (s : ByteArray) (m n : Nat) (x : Int) (hx : x = (m : Int)) (w : World) (hs : s.size ≤ 140737488355328) (hm : m ≤ s.size + 4) (hn : n ≤ 4) :
    Calls Tryz.prog 184 #[.string s, .int .i64 x, .int .i64 (n : Int)] w fun e w' => e = .returned (.bool (tlB s m n)) ∧ w = w' := by
  subst hx
  go_enter Tryz.func184, Tryz.ntmps184
  go_wp2_with fail
  go_loop [9] (fun i => ∃ k : Nat, i = .int .i64 (k : Int) ∧ k ≤ n ∧ Hid (tlB s m k = true)) (fun i => n - (RowKit.intOf i).toNat)
  case atStart => exact ⟨0, rfl, Nat.zero_le _, Lib.hid rfl⟩
  case round =>
    obtain ⟨k, rfl, hk, ht⟩ := hrel
    by_cases hlt : k < n
    · have HI := Lib.hid (fun w => show Calls Tryz.prog 186 #[.string s, .int .i64 ((m : Int) + (k : Int)), .int .u8 128, .int .u8 191] w fun e w' => e = .returned (.bool (inB s (m + k) 128 191)) ∧ w = w' from by
        have := in_any s (m + k) 128 191 w
        rwa [Int.natCast_add] at this)
      have HT := Lib.hid (tlB_succ s m k)
      have HS := Lib.hid (tlB_stop (s := s) (m := m) hlt)
      cases hv : inB s (m + k) 128 191 with
      | false =>
        have HF := Lib.hid (HS.out hv)
        rw [hv] at HI
        clear hv
        go_wp2_with (go_at_call 186; refine (HI.out _).mono ?_; rintro e w' ⟨rfl, rfl⟩)
        go_ret
        exact ⟨ret_b HF.out.symm, rfl⟩
      | true =>
        have HT2 := HT.out
        rw [ht.out, hv] at HT2
        have HT3 := Lib.hid HT2
        rw [hv] at HI
        clear hv HT2
        go_wp2_with (go_at_call 186; refine (HI.out _).mono ?_; rintro e w' ⟨rfl, rfl⟩)
        go_round
        case rel => exact ⟨k + 1, by go_num, by omega, HT3⟩
        case measure => simp [RowKit.intOf]; omega
    · obtain rfl : k = n := by omega
      go_wp2_with fail
      go_ret
      exact ⟨ret_b ht.out.symm, rfl⟩

theorem three_any (c : Nat) (w : World) : Calls Tryz.prog 185 #[.int .u8 (c : Int)] w fun e w' => e = .returned (.tuple #[.int .u8 (thLo c : Int), .int .u8 (thHi c : Int)]) ∧ w = w' := by
  have hc : ((c : Int) == 224) = true ∧ thLo c = 160 ∧ thHi c = 191 ∨ ((c : Int) == 224) = false ∧ ((c : Int) == 237) = true ∧ thLo c = 128 ∧ thHi c = 159 ∨ ((c : Int) == 224) = false ∧ ((c : Int) == 237) = false ∧ thLo c = 128 ∧ thHi c = 191 := by
    unfold thLo thHi
    by_cases h1 : c = 224
    · subst h1; exact .inl ⟨rfl, rfl, rfl⟩
    · have e1 : ((c : Int) == 224) = false := by rw [beq_eq_false_iff_ne]; omega
      by_cases h2 : c = 237
      · subst h2; exact .inr (.inl ⟨rfl, rfl, rfl, rfl⟩)
      · have e2 : ((c : Int) == 237) = false := by rw [beq_eq_false_iff_ne]; omega
        rw [if_neg h1, if_neg h2]
        exact .inr (.inr ⟨e1, e2, rfl, rfl⟩)
  rcases hc with ⟨h1, h2, h3⟩ | ⟨h1, h2, h3, h4⟩ | ⟨h1, h2, h3, h4⟩
  · rw [h2, h3]
    go_enter Tryz.func185, Tryz.ntmps185
    go_wp2_with fail
    go_ret2
    exact ⟨rfl, rfl⟩
  all_goals
    rw [h3, h4]
    go_enter Tryz.func185, Tryz.ntmps185
    go_wp2_with fail
    go_ret2
    exact ⟨rfl, rfl⟩
theorem four_any (c : Nat) (w : World) : Calls Tryz.prog 187 #[.int .u8 (c : Int)] w fun e w' => e = .returned (.tuple #[.int .u8 (frLo c : Int), .int .u8 (frHi c : Int)]) ∧ w = w' := by
  have hc : ((c : Int) == 240) = true ∧ frLo c = 144 ∧ frHi c = 191 ∨ ((c : Int) == 240) = false ∧ ((c : Int) == 244) = true ∧ frLo c = 128 ∧ frHi c = 143 ∨ ((c : Int) == 240) = false ∧ ((c : Int) == 244) = false ∧ frLo c = 128 ∧ frHi c = 191 := by
    unfold frLo frHi
    by_cases h1 : c = 240
    · subst h1; exact .inl ⟨rfl, rfl, rfl⟩
    · have e1 : ((c : Int) == 240) = false := by rw [beq_eq_false_iff_ne]; omega
      by_cases h2 : c = 244
      · subst h2; exact .inr (.inl ⟨rfl, rfl, rfl, rfl⟩)
      · have e2 : ((c : Int) == 244) = false := by rw [beq_eq_false_iff_ne]; omega
        rw [if_neg h1, if_neg h2]
        exact .inr (.inr ⟨e1, e2, rfl, rfl⟩)
  rcases hc with ⟨h1, h2, h3⟩ | ⟨h1, h2, h3, h4⟩ | ⟨h1, h2, h3, h4⟩
  · rw [h2, h3]
    go_enter Tryz.func187, Tryz.ntmps187
    go_wp2_with fail
    go_ret2
    exact ⟨rfl, rfl⟩
  all_goals
    rw [h3, h4]
    go_enter Tryz.func187, Tryz.ntmps187
    go_wp2_with fail
    go_ret2
    exact ⟨rfl, rfl⟩

set_option maxRecDepth 100000 in
set_option maxHeartbeats 1000000 in
theorem rwidth_in (s : ByteArray) (i : Nat) (w : World) (h : i < s.size) (hs : s.size ≤ 140737488355328) :
    Calls Tryz.prog 171 #[.string s, .int .i64 (i : Int)] w fun e w' => e = .returned (.int .i64 (wS s i : Nat)) ∧ w = w' := by
  have hx := fun w => index_at s i _ rfl h w
  have hb := bt_lt s i
  have f1 := fun h1 => wS_ascii (s := s) (i := i) h h1
  have f2 := fun h1 => wS_none (s := s) (i := i) h h1
  have f3 := fun h1 => wS_two (s := s) (i := i) h h1
  have f4 := fun h1 => wS_three (s := s) (i := i) h h1
  have f5 := fun h1 => wS_four (s := s) (i := i) h h1
  obtain ⟨W, hW⟩ : ∃ W, W = wS s i := ⟨_, rfl⟩
  rw [← hW] at f1 f2 f3 f4 f5 ⊢
  obtain ⟨c, hc⟩ : ∃ c, c = bt s i := ⟨_, rfl⟩
  rw [← hc] at hx hb f1 f2 f3 f4 f5
  clear hc hW
  have T1 := Lib.hid (fun w => tail_any s (i + 1) 1 ((i : Int) + 1) (by omega) w hs (by omega) (by omega))
  have T2 := Lib.hid (fun w => tail_any s (i + 2) 1 ((i : Int) + 2) (by omega) w hs (by omega) (by omega))
  have T3 := Lib.hid (fun w => tail_any s (i + 2) 2 ((i : Int) + 2) (by omega) w hs (by omega) (by omega))
  have I3 := Lib.hid (fun w => show Calls Tryz.prog 186 #[.string s, .int .i64 ((i : Int) + 1), .int .u8 (thLo c : Int), .int .u8 (thHi c : Int)] w fun e w' => e = .returned (.bool (inB s (i + 1) (thLo c) (thHi c))) ∧ w = w' from in_any s (i + 1) (thLo c) (thHi c) w)
  have I4 := Lib.hid (fun w => show Calls Tryz.prog 186 #[.string s, .int .i64 ((i : Int) + 1), .int .u8 (frLo c : Int), .int .u8 (frHi c : Int)] w fun e w' => e = .returned (.bool (inB s (i + 1) (frLo c) (frHi c))) ∧ w = w' from in_any s (i + 1) (frLo c) (frHi c) w)
  have C3 := Lib.hid (fun w => three_any c w)
  have C4 := Lib.hid (fun w => four_any c w)
  generalize tlB s (i + 1) 1 = t1 at *
  generalize tlB s (i + 2) 1 = t2 at *
  generalize tlB s (i + 2) 2 = t3 at *
  generalize inB s (i + 1) (thLo c) (thHi c) = n3 at *
  generalize inB s (i + 1) (frLo c) (frHi c) = n4 at *
  generalize thLo c = lo3 at *
  generalize thHi c = hi3 at *
  generalize frLo c = lo4 at *
  generalize frHi c = hi4 at *
  have cs : c < 128 ∨ (128 ≤ c ∧ c < 194) ∨ (194 ≤ c ∧ c ≤ 223) ∨ (224 ≤ c ∧ c ≤ 239) ∨ (240 ≤ c ∧ c ≤ 244) ∨ 244 < c := by omega
  rcases cs with k | k | k | k | k | k
  · have e := Lib.hid (f1 k)
    clear f1 f2 f3 f4 f5
    go_enter Tryz.func171, Tryz.ntmps171
    go_wp2_with fail
    go_ret
    exact ⟨by rw [e.out]; rfl, rfl⟩
  · have e := Lib.hid (f2 (.inl k))
    clear f1 f2 f3 f4 f5
    obtain ⟨k1, k2⟩ := k
    go_enter Tryz.func171, Tryz.ntmps171
    go_wp2_with fail
    go_ret
    exact ⟨by rw [e.out]; rfl, rfl⟩
  · have e := Lib.hid (f3 k)
    clear f1 f2 f3 f4 f5
    obtain ⟨k1, k2⟩ := k
    cases t1
    all_goals
      go_enter Tryz.func171, Tryz.ntmps171
      go_wp2_with (go_at_call 184; refine (T1.out _).mono ?_; rintro e w' ⟨rfl, rfl⟩)
      go_ret
      exact ⟨by rw [e.out]; rfl, rfl⟩
  · have e := Lib.hid (f4 k)
    clear f1 f2 f3 f4 f5
    obtain ⟨k1, k2⟩ := k
    cases n3 <;> cases t2
    all_goals
      go_enter Tryz.func171, Tryz.ntmps171
      go_wp2_with (first
        | (go_at_call 185; refine (C3.out _).mono ?_; rintro e w' ⟨rfl, rfl⟩)
        | (go_at_call 186; refine (I3.out _).mono ?_; rintro e w' ⟨rfl, rfl⟩)
        | (go_at_call 184; refine (T2.out _).mono ?_; rintro e w' ⟨rfl, rfl⟩))
      go_ret
      exact ⟨by rw [e.out]; rfl, rfl⟩
  · have e := Lib.hid (f5 k)
    clear f1 f2 f3 f4 f5
    obtain ⟨k1, k2⟩ := k
    cases n4 <;> cases t3
    all_goals
      go_enter Tryz.func171, Tryz.ntmps171
      go_wp2_with (first
        | (go_at_call 187; refine (C4.out _).mono ?_; rintro e w' ⟨rfl, rfl⟩)
        | (go_at_call 186; refine (I4.out _).mono ?_; rintro e w' ⟨rfl, rfl⟩)
        | (go_at_call 184; refine (T3.out _).mono ?_; rintro e w' ⟨rfl, rfl⟩))
      go_ret
      exact ⟨by rw [e.out]; rfl, rfl⟩
  · have e := Lib.hid (f2 (.inr k))
    clear f1 f2 f3 f4 f5
    go_enter Tryz.func171, Tryz.ntmps171
    go_wp2_with fail
    go_ret
    exact ⟨by rw [e.out]; rfl, rfl⟩
set_option maxHeartbeats 400000 in
theorem rbad_any (s : ByteArray) (w : World) (hs : s.size ≤ 140737488355328) :
    Calls Tryz.prog 150 #[.string s] w fun e w' => e = .returned (.int .i64 (bI (badL s.data.toList))) ∧ w = w' := by
  rw [← rest_start]
  go_enter Tryz.func150, Tryz.ntmps150
  go_wp2_with fail
  go_loop [3] (fun x => ∃ i : Nat, x = .int .i64 (i : Int) ∧ i ≤ s.size ∧ Hid (rest s 0 = rest s i))
    (fun x => s.size - (RowKit.intOf x).toNat)
  case atStart => exact ⟨0, rfl, Nat.zero_le _, Lib.hid rfl⟩
  case round =>
    obtain ⟨i, rfl, hi, hr⟩ := hrel
    by_cases hlt : i < s.size
    · have HW := Lib.hid (fun w' => rwidth_in s i w' hlt hs)
      have hle := wS_le s i hi
      by_cases h0 : wS s i = 0
      · have HR := Lib.hid (hr.out.trans (rest_bad s i hlt h0))
        rw [h0] at HW
        clear h0 hle hr
        go_wp2_with (go_at_call 171; refine (HW.out _).mono ?_; rintro e w' ⟨rfl, rfl⟩)
        go_ret
        exact ⟨by rw [HR.out]; rfl, rfl⟩
      · have HR := Lib.hid (hr.out.trans (rest_step s i (by omega)))
        obtain ⟨K, hK⟩ : ∃ K, K = wS s i := ⟨_, rfl⟩
        rw [← hK] at HW HR hle h0
        have hk0 : ((K : Int) == 0) = false := by rw [beq_eq_false_iff_ne]; omega
        have hk1 : 0 < K := by omega
        clear hK h0 hr
        go_wp2_with (go_at_call 171; refine (HW.out _).mono ?_; rintro e w' ⟨rfl, rfl⟩)
        go_round
        case rel => exact ⟨i + K, by go_num, by omega, HR⟩
        case measure => simp [RowKit.intOf]; omega
    · have HR := Lib.hid (hr.out.trans (rest_end s i (by omega)))
      clear hr
      go_wp2_with fail
      go_ret
      exact ⟨by rw [HR.out]; rfl, rfl⟩
end Go.Proofs.YtehkiojohldlgaaGreatDoor.Utf
