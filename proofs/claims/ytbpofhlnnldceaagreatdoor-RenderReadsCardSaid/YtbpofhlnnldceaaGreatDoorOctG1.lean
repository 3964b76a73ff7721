/- Contracts of Cut, and of the document's. Conditions: as each theorem states. · Contracts of Put. Conditions: as each theorem states. · Contracts of Take. Conditions: as each theorem states. · Contracts of octet's Take and Cut, and of the document's, one over every input. Conditions: as each theorem states. · Contracts of Hex. Conditions: as each theorem states. · Contracts of Unhex. Conditions: as each theorem states. · The document's answers on hexadecimal digits. Conditions: as each theorem states. -/
import Derived.Test.YtbpofhlnnldceaaGreatDoorRowsA
import Derived.Test.YtbpofhlnnldceaaGreatDoorShelf
import Derived.BigQuiet
import Derived.Deep.QuietTactic
import Derived.Test.YtbpofhlnnldceaaGreatDoorPlainA
import Derived.Laws.Bits64b
import Derived.Laws.BitsAllLaws
namespace Go.Proofs.YtbpofhlnnldceaaGreatDoor.Oct
open Go.RowKit Go.Lib Go.Proofs.YtbpofhlnnldceaaGreatDoor.Byt

theorem clone_any (s : ByteArray) (w : World) (hs : s.size ≤ 281474976710656) :
    Calls Tryz.prog 128 #[.string s] w fun e w' => e = .returned (.string s) ∧ Below w.heap.size w w' := by
  go_enter Tryz.func128, Tryz.ntmps128
  go_wp2_with (go_at_call 119; refine (Tryz.stringslite_Clone _ _ hs).mono ?_; rintro e w' ⟨rfl, hb⟩)
  go_ret
  exact ⟨rfl, hb⟩

/-- Are there n bytes from at on? -/
def has (s : ByteArray) (at_ n : Int) : Bool := decide (0 ≤ at_ ∧ 0 ≤ n ∧ n ≤ (s.size : Int) - at_)

theorem cut_yes (s : ByteArray) (i n : Nat) (w : World) (h : i + n ≤ s.size) (hs : s.size ≤ 140737488355328) :
    Calls Tryz.prog 124 #[.string s, .int .i64 (i : Int), .int .i64 (n : Int)] w fun e w' => e = .returned (.tuple #[.string (cutB s i n), .bool true]) ∧ Below w.heap.size w w' := by
  have hsl := run_cut s i (i + n) i n rfl rfl h
  have hz := cutB_size s i n h
  have hz' : (cutB s i n).size ≤ 281474976710656 := by omega
  clear hz
  go_enter Tryz.func124, Tryz.ntmps124
  go_wp2_with (go_at_call 128; refine (clone_any _ _ hz').mono ?_; rintro e w' ⟨rfl, hb⟩)
  go_ret2
  exact ⟨rfl, hb⟩

theorem cut_no (s : ByteArray) (i n : Int) (w : World) (h : has s i n = false) (hs : s.size ≤ 140737488355328) (hi : -9223372036854775808 ≤ i) (hi' : i ≤ 9223372036854775807) :
    Calls Tryz.prog 124 #[.string s, .int .i64 i, .int .i64 n] w fun e w' => e = .returned (.tuple #[.string ⟨#[]⟩, .bool false]) ∧ w = w' := by
  have h' : i < 0 ∨ (0 ≤ i ∧ n < 0) ∨ (0 ≤ i ∧ 0 ≤ n ∧ (s.size : Int) - i < n) := by
    unfold has at h; simp at h; omega
  clear h
  rcases h' with h | ⟨h0, h⟩ | ⟨h0, h1, h⟩
  all_goals
    go_enter Tryz.func124, Tryz.ntmps124
    go_wp2_with fail
    go_ret2
    exact ⟨rfl, rfl⟩

end Go.Proofs.YtbpofhlnnldceaaGreatDoor.Oct

namespace Go.Proofs.YtbpofhlnnldceaaGreatDoor.Oct
open Go.RowKit Go.Lib Go.Proofs.YtbpofhlnnldceaaGreatDoor.Byt

theorem set_zero (k i : Nat) (b : UInt8) (l : List UInt8) (h : i < k) :
    (List.replicate (k - i) 0 ++ l).set (k - 1 - i) b = List.replicate (k - (i + 1)) 0 ++ b :: l := by
  obtain ⟨m, rfl⟩ : ∃ m, k = m + 1 + i := ⟨k - 1 - i, by omega⟩
  rw [show m + 1 + i - i = m + 1 by omega, show m + 1 + i - 1 - i = m by omega, show m + 1 + i - (i + 1) = m by omega, List.replicate_succ', List.append_assoc, List.set_append_right _ _ (by simp)]
  simp
theorem get_zero (k i : Nat) (l : List UInt8) (h : i < k) : (List.replicate (k - i) (0 : UInt8) ++ l).getD (k - 1 - i) 0 = 0 := by
  rw [List.getD_eq_getElem?_getD, List.getElem?_append_left (by simp; omega), List.getElem?_replicate, if_pos (by omega)]
  rfl

theorem byte_at (n m : Nat) : (n : Int) / 2 ^ (8 * m) % 256 = ((UInt8.ofNat (n / 256 ^ m % 256)).toNat : Int) := by
  have e : (2 : Int) ^ (8 * m) = ((256 ^ m : Nat) : Int) := by rw [Int.pow_mul, Int.natCast_pow]; rfl
  rw [ofNat_toNat _ (by omega), e]
  omega

/-- The byte shifted out. -/
theorem putL_shift (n k : Nat) : UInt8.ofNat (n / 256 ^ k % 256) :: putL n k = putL n (k + 1) := rfl

end Go.Proofs.YtbpofhlnnldceaaGreatDoor.Oct

namespace Go.Proofs.YtbpofhlnnldceaaGreatDoor.Oct
open Go.RowKit Go.Lib Go.Proofs.YtbpofhlnnldceaaGreatDoor.Byt

theorem ret_ub {a b : Int} {c : Bool} (h : a = b) : Ending.returned (.tuple #[.int .u64 a, .bool c]) = .returned (.tuple #[.int .u64 b, .bool c]) := by rw [h]
theorem take_lt (t : ByteArray) (m : Nat) (h : m ≤ 7) : takeL 0 (t.data.toList.take m) < 72057594037927936 := by
  have h1 := takeL_lt (t.data.toList.take m) 0 0 (by decide)
  have h2 : (t.data.toList.take m).length ≤ 7 := by simp; omega
  have h3 : 256 ^ (0 + (t.data.toList.take m).length) ≤ 256 ^ 7 := Nat.pow_le_pow_right (by decide) (by omega)
  exact Nat.lt_of_lt_of_le h1 h3
theorem take_step (t : ByteArray) (m : Nat) (h : m < t.size) : takeL 0 (t.data.toList.take (m + 1)) = takeL 0 (t.data.toList.take m) * 256 + t[m].toNat := by
  have h2 : m < t.data.toList.length := by simpa using h
  rw [List.take_succ_eq_append_getElem h2, takeL_append]
  rfl
theorem or_byte (x b : Nat) (hx : x < 72057594037927936) (hb : b < 256) : bits .or .u64 ((x : Int) * 256) (b : Int) = (x : Int) * 256 + (b : Int) := by
  have h := bits_or_u64_nat (x * 256) b (by omega) (by omega)
  have e : x * 256 ||| b = x * 256 + b := by
    have := Nat.shiftLeft_add_eq_or_of_lt (i := 8) (b := b) (by omega) x
    rw [Nat.shiftLeft_eq] at this
    exact this.symm
  rw [e] at h
  rw [show ((x : Int) * 256) = ((x * 256 : Nat) : Int) by omega, h]
  omega

end Go.Proofs.YtbpofhlnnldceaaGreatDoor.Oct

namespace Go.Proofs.YtbpofhlnnldceaaGreatDoor.Oct
open Go.RowKit Go.Lib Go.Proofs.YtbpofhlnnldceaaGreatDoor.Byt

/-- What Take hands back. -/
def tkB (s : ByteArray) (i k : Int) : Bool := has s i k && decide (1 ≤ k ∧ k ≤ 8)
def tkN (s : ByteArray) (i k : Int) : Nat := if tkB s i k then takeL 0 (cutB s i.toNat k.toNat).data.toList else 0
/-- What Cut hands back. -/
def cutS (s : ByteArray) (i n : Int) : ByteArray := if has s i n then cutB s i.toNat n.toNat else ⟨#[]⟩

theorem has_nat {s : ByteArray} {i n : Int} (h : has s i n = true) : ∃ a b : Nat, i = (a : Int) ∧ n = (b : Int) ∧ a + b ≤ s.size := by
  unfold has at h
  simp at h
  exact ⟨i.toNat, n.toNat, by omega, by omega, by omega⟩

theorem cut_any (s : ByteArray) (i n : Int) (w : World) (hs : s.size ≤ 140737488355328) (hi : -9223372036854775808 ≤ i) (hi' : i ≤ 9223372036854775807) :
    Calls Tryz.prog 124 #[.string s, .int .i64 i, .int .i64 n] w fun e w' => e = .returned (.tuple #[.string (cutS s i n), .bool (has s i n)]) ∧ Below w.heap.size w w' := by
  cases h : has s i n
  · refine (cut_no s i n w h hs hi hi').mono fun e w' ⟨h1, h2⟩ => ⟨?_, h2 ▸ Below.refl _ _⟩
    rw [h1]; unfold cutS; rw [h]; rfl
  · obtain ⟨a, b, rfl, rfl, hab⟩ := has_nat h
    refine (cut_yes s a b w hab hs).mono fun e w' ⟨h1, h2⟩ => ⟨?_, h2⟩
    rw [h1]; unfold cutS; rw [h]; rfl
theorem tkB_no {s : ByteArray} {i k : Int} (h : tkB s i k = false) : has s i k = false ∨ k < 1 ∨ 8 < k := by
  unfold tkB at h
  simp only [Bool.and_eq_false_iff, decide_eq_false_iff_not] at h
  rcases h with h | h
  · exact .inl h
  · exact .inr (by omega)
theorem tkB_yes {s : ByteArray} {i k : Int} (h : tkB s i k = true) : ∃ a b : Nat, i = (a : Int) ∧ k = (b : Int) ∧ a + b ≤ s.size ∧ 1 ≤ b ∧ b ≤ 8 := by
  unfold tkB at h
  simp only [Bool.and_eq_true, decide_eq_true_eq] at h
  obtain ⟨a, b, rfl, rfl, hab⟩ := has_nat h.1
  exact ⟨a, b, rfl, rfl, hab, by omega, by omega⟩
end Go.Proofs.YtbpofhlnnldceaaGreatDoor.Oct

namespace Go.Proofs.YtbpofhlnnldceaaGreatDoor.Oct
open Go.RowKit Go.Lib Go.Proofs.YtbpofhlnnldceaaGreatDoor.Byt

theorem hexL_step (t : ByteArray) (m : Nat) (h : m < t.size) : hexL (t.data.toList.take (m + 1)) = hexL (t.data.toList.take m) ++ [hexd (t[m].toNat / 16), hexd (t[m].toNat % 16)] := by
  have h2 : m < t.data.toList.length := by simpa using h
  rw [List.take_succ_eq_append_getElem h2, hexL_append]
  rfl

theorem digit_at (n : Nat) (i : Int) (hi : i = (n : Int)) (h : n < 16) (w : World) :
    (Instr.index 9 (.string ⟨#[48, 49, 50, 51, 52, 53, 54, 55, 56, 57, 97, 98, 99, 100, 101, 102]⟩) (.int .u8 i)).run Tryz.prog w = .ok (.int .u8 ((hexd n).toNat : Int)) w := by
  subst hi
  have hz : (⟨#[48, 49, 50, 51, 52, 53, 54, 55, 56, 57, 97, 98, 99, 100, 101, 102]⟩ : ByteArray).size = 16 := rfl
  rw [run_index_string w 9 _ .u8 (n : Int) Tryz.underlying9, dif_pos ⟨by omega, by rw [hz]; omega⟩]
  have e : ∀ k : Fin 16, ((⟨#[48, 49, 50, 51, 52, 53, 54, 55, 56, 57, 97, 98, 99, 100, 101, 102]⟩ : ByteArray)[k.val]'k.isLt).toNat = (hexd k.val).toNat := by decide
  have e2 := e ⟨n, h⟩
  simp only [Int.toNat_natCast]
  rw [e2]

theorem and_15 (n : Nat) (h : n < 256) : bits .and .u8 (n : Int) 15 = (n : Int) % 16 := by
  have h1 := u8_and_nat n 15 h (by omega)
  have e : n &&& 15 = n % 16 := Nat.and_two_pow_sub_one_eq_mod n 4
  rw [e] at h1
  have h2 : bits .and .u8 (n : Int) 15 = ((n % 16 : Nat) : Int) := h1
  rw [h2]; omega
theorem ret_str {a b : ByteArray} (h : a = b) : Ending.returned (.string a) = .returned (.string b) := by rw [h]

set_option maxHeartbeats 400000 in
theorem hex_any (s : ByteArray) (w : World) (hs : s.size ≤ 35184372088832) :
    Calls Tryz.prog 98 #[.string s] w fun e w' => e = .returned (.string ⟨(hexL s.data.toList).toArray⟩) ∧ Below w.heap.size w w' := by
  go_enter Tryz.func98, Tryz.ntmps98
  go_wp2_with (with_reducible refine wpList_emptied _ rfl _ _ rfl w.heap.size w (Below.refl _ _) (Nat.le_refl _) _ _ (2 * s.size) rfl rfl rfl (by omega) (by omega) ?_; intro v1 w1 hown1 hb1)
  go_loopw [11, 3, 4] (fun i v j wr => ∃ m : Nat, m ≤ s.size ∧ i = .int .i64 m ∧ Own wr w.heap.size v (hexL (s.data.toList.take m)) ∧ Below w.heap.size w wr)
    (fun i _ _ _ => s.size - (RowKit.intOf i).toNat)
  case atStart => exact ⟨0, Nat.zero_le _, rfl, hown1, hb1⟩
  case round =>
    obtain ⟨m, hm, rfl, hown, hb⟩ := hrel
    by_cases hlt : m < s.size
    · have hb8 : s[m].toNat < 256 := s[m].toNat_lt
      have hb9 : (s[m].toNat : Int) / 16 < 16 := by omega
      have hbl := Own.alloc hown
      have hlen : (hexL (s.data.toList.take m)).length = 2 * m := by rw [hexL_length]; simp; omega
      have hx1 := fun w => digit_at (s[m].toNat / 16) ((s[m].toNat : Int) / 16) (by omega) (by omega) w
      have hx2 := fun w => digit_at (s[m].toNat % 16) ((s[m].toNat : Int) % 16) (by omega) (by omega) w
      have hx3 := and_15 s[m].toNat hb8
      go_wp2_with fail
      go_region_law ((refine step_push _ (by rfl) (.tmp 14) (.tmp 25) (by rfl) w.heap.size w _ _ (by rfl) (by exact hown.alloc _) (by exact (hb.alloc hb.size _).drew) (Nat.le_refl _) _ _ _ (by rfl) _ _ (by exact heap_alloc_new _ _) [hexd (s[m].toNat / 16), hexd (s[m].toNat % 16)] rfl (by rfl) (by rw [hlen]; show 2 * m + 2 ≤ _; omega) ?_; intro v2 w2 hown2 hb2))
      all_goals
        go_wp2
        go_roundw
        case rel => exact ⟨m + 1, by omega, by go_num, by rw [hexL_step s m hlt]; exact hown2, hb2⟩
        case measure => simp [RowKit.intOf]; omega
    · obtain rfl : m = s.size := by omega
      go_wp2_with (with_reducible refine wpList_string _ rfl _ rfl _ _ _ rfl hown ?_)
      go_ret
      exact ⟨ret_str (by rw [List.take_of_length_le (by simp)]), hb⟩
end Go.Proofs.YtbpofhlnnldceaaGreatDoor.Oct

namespace Go.Proofs.YtbpofhlnnldceaaGreatDoor.Oct
open Go.RowKit Go.Lib Go.Proofs.YtbpofhlnnldceaaGreatDoor.Byt

def digits : ByteArray := ⟨#[48, 49, 50, 51, 52, 53, 54, 55, 56, 57, 97, 98, 99, 100, 101, 102]⟩
theorem index_dig : ∀ n : Fin 256, Lib.indexByte [48, 49, 50, 51, 52, 53, 54, 55, 56, 57, 97, 98, 99, 100, 101, 102] (UInt8.ofNat n.val) = if dig (UInt8.ofNat n.val) < 16 then (dig (UInt8.ofNat n.val) : Int) else -1 := by decide +kernel
theorem index_at (c : UInt8) : Lib.indexByte [48, 49, 50, 51, 52, 53, 54, 55, 56, 57, 97, 98, 99, 100, 101, 102] ((c.toNat : Int).toNat.toUInt8) = if dig c < 16 then (dig c : Int) else -1 := by
  have h := index_dig ⟨c.toNat, c.toNat_lt⟩
  simp only [UInt8.ofNat_toNat] at h
  rw [Int.toNat_natCast, ← h]
  congr 1
  exact UInt8.ofNat_toNat
theorem find_yes (c : UInt8) (h : dig c < 16) (w : World) :
    Calls Tryz.prog 47 #[.string ⟨#[48, 49, 50, 51, 52, 53, 54, 55, 56, 57, 97, 98, 99, 100, 101, 102]⟩, .int .u8 (c.toNat : Int)] w fun e w' => e = .returned (.int .i64 (dig c : Nat)) ∧ w = w' :=
  (Tryz.strings_IndexByte _ _ w).mono fun e w' ⟨h1, h2⟩ => ⟨by rw [h1]; exact congrArg (fun x => Ending.returned (.int .i64 x)) ((index_at c).trans (if_pos h)), h2.symm⟩
theorem find_no (c : UInt8) (h : ¬ dig c < 16) (w : World) :
    Calls Tryz.prog 47 #[.string ⟨#[48, 49, 50, 51, 52, 53, 54, 55, 56, 57, 97, 98, 99, 100, 101, 102]⟩, .int .u8 (c.toNat : Int)] w fun e w' => e = .returned (.int .i64 (-1)) ∧ w = w' :=
  (Tryz.strings_IndexByte _ _ w).mono fun e w' ⟨h1, h2⟩ => ⟨by rw [h1]; exact congrArg (fun x => Ending.returned (.int .i64 x)) ((index_at c).trans (if_neg h)), h2.symm⟩

/-- What Unhex hands back. -/
def unS (s : ByteArray) : ByteArray := ⟨((unL s.data.toList).getD []).toArray⟩
def unB (s : ByteArray) : Bool := (unL s.data.toList).isSome
theorem unS_some {s : ByteArray} {u : List UInt8} (h : unL s.data.toList = some u) : unS s = ⟨u.toArray⟩ ∧ unB s = true := by unfold unS unB; rw [h]; exact ⟨rfl, rfl⟩
theorem unS_none {s : ByteArray} (h : unL s.data.toList = none) : unS s = ⟨#[]⟩ ∧ unB s = false := by unfold unS unB; rw [h]; exact ⟨rfl, rfl⟩

theorem ret_sb {a b : ByteArray} {c d : Bool} (h : a = b) (h' : c = d) : Ending.returned (.tuple #[.string a, .bool c]) = .returned (.tuple #[.string b, .bool d]) := by rw [h, h']
theorem get_opt (s : ByteArray) (m : Nat) (h : m < s.size) : s.data.toList[m]? = some s[m] := by
  have h2 : m < s.data.toList.length := by simpa using h
  rw [List.getElem?_eq_getElem h2]; rfl

theorem unL_step2 (l : List UInt8) (j : Nat) (u : List UInt8) (a b : UInt8) (h2 : j % 2 = 0) (h : unL (l.take j) = some u) (ha : l[j]? = some a) (hb : l[j + 1]? = some b) (hd : dig a < 16 ∧ dig b < 16) :
    unL (l.take (j + 2)) = some (u ++ [UInt8.ofNat (16 * dig a + dig b)]) := by
  obtain ⟨k, rfl⟩ : ∃ k, j = 2 * k := ⟨j / 2, by omega⟩
  exact unL_step l k u a b h ha hb hd
theorem unL_stop2 (l : List UInt8) (j : Nat) (u : List UInt8) (a b : UInt8) (h2 : j % 2 = 0) (h : unL (l.take j) = some u) (ha : l[j]? = some a) (hb : l[j + 1]? = some b) (hd : ¬ (dig a < 16 ∧ dig b < 16)) : unL l = none := by
  obtain ⟨k, rfl⟩ : ∃ k, j = 2 * k := ⟨j / 2, by omega⟩
  exact unL_stop l k u a b h ha hb hd
theorem un_len (s : ByteArray) (j : Nat) (u : List UInt8) (hj : j ≤ s.size) (h : Hid (unL (s.data.toList.take j) = some u)) : 2 * u.length ≤ s.size := by
  have := unL_length _ _ h.out
  simp at this; omega
theorem or_half (x y : Nat) (hx : x < 16) (hy : y < 16) : bits .or .i64 ((x : Int) * 16) (y : Int) = (x : Int) * 16 + (y : Int) :=
  bits_join .i64 8 (by decide) (fun n h0 h1 => by rw [IntKind.wrap_i64]; omega) 4 _ _ (by omega) (by omega) (by omega) (by omega) (by omega) (by omega)
theorem byte_one (x : Int) (b : UInt8) (h : x = (b.toNat : Int)) : (#[Value.int .u8 x]).toList = byteCells [b] := by subst h; rfl

end Go.Proofs.YtbpofhlnnldceaaGreatDoor.Oct

namespace Go.Proofs.YtbpofhlnnldceaaGreatDoor.Oct
open Go.RowKit Go.Lib Go.Proofs.YtbpofhlnnldceaaGreatDoor.Byt

theorem ret_u8 {a b : Int} (h : a = b) : Ending.returned (.int .u8 a) = .returned (.int .u8 b) := by rw [h]
theorem ret_u8b {a b : Int} {c : Bool} (h : a = b) : Ending.returned (.tuple #[.int .u8 a, .bool c]) = .returned (.tuple #[.int .u8 b, .bool c]) := by rw [h]

end Go.Proofs.YtbpofhlnnldceaaGreatDoor.Oct
