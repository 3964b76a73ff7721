/- Contracts of Unhex. Conditions: as each theorem states. -/
import Derived.Test.YtgofeakhkpnibaaOctD
namespace Go.Proofs.Ytgofeakhkpnibaa.Oct
open Go.RowKit Go.Lib Go.Proofs.Ytgofeakhkpnibaa.Byt

def digits : ByteArray := ⟨#[48, 49, 50, 51, 52, 53, 54, 55, 56, 57, 97, 98, 99, 100, 101, 102]⟩
theorem index_dig : ∀ n : Fin 256, Lib.indexByte [48, 49, 50, 51, 52, 53, 54, 55, 56, 57, 97, 98, 99, 100, 101, 102] (UInt8.ofNat n.val) = if dig (UInt8.ofNat n.val) < 16 then (dig (UInt8.ofNat n.val) : Int) else -1 := by decide +kernel
theorem index_at (c : UInt8) : Lib.indexByte [48, 49, 50, 51, 52, 53, 54, 55, 56, 57, 97, 98, 99, 100, 101, 102] ((c.toNat : Int).toNat.toUInt8) = if dig c < 16 then (dig c : Int) else -1 := by
  have h := index_dig ⟨c.toNat, c.toNat_lt⟩
  simp only [UInt8.ofNat_toNat] at h
  rw [Int.toNat_natCast, ← h]
  congr 1
  exact UInt8.ofNat_toNat
theorem find_yes (c : UInt8) (h : dig c < 16) (w : World) :
    Calls Try.prog 18 #[.string ⟨#[48, 49, 50, 51, 52, 53, 54, 55, 56, 57, 97, 98, 99, 100, 101, 102]⟩, .int .u8 (c.toNat : Int)] w fun e w' => e = .returned (.int .i64 (dig c : Nat)) ∧ w = w' :=
  (Try.strings_IndexByte _ _ w).mono fun e w' ⟨h1, h2⟩ => ⟨by rw [h1]; exact congrArg (fun x => Ending.returned (.int .i64 x)) ((index_at c).trans (if_pos h)), h2.symm⟩
theorem find_no (c : UInt8) (h : ¬ dig c < 16) (w : World) :
    Calls Try.prog 18 #[.string ⟨#[48, 49, 50, 51, 52, 53, 54, 55, 56, 57, 97, 98, 99, 100, 101, 102]⟩, .int .u8 (c.toNat : Int)] w fun e w' => e = .returned (.int .i64 (-1)) ∧ w = w' :=
  (Try.strings_IndexByte _ _ w).mono fun e w' ⟨h1, h2⟩ => ⟨by rw [h1]; exact congrArg (fun x => Ending.returned (.int .i64 x)) ((index_at c).trans (if_neg h)), h2.symm⟩

/-- What Unhex hands back. -/
def unS (s : ByteArray) : ByteArray := ⟨((unL s.data.toList).getD []).toArray⟩
def unB (s : ByteArray) : Bool := (unL s.data.toList).isSome
theorem unS_some {s : ByteArray} {u : List UInt8} (h : unL s.data.toList = some u) : unS s = ⟨u.toArray⟩ ∧ unB s = true := by unfold unS unB; rw [h]; exact ⟨rfl, rfl⟩
theorem unS_none {s : ByteArray} (h : unL s.data.toList = none) : unS s = ⟨#[]⟩ ∧ unB s = false := by unfold unS unB; rw [h]; exact ⟨rfl, rfl⟩

theorem ret_sb {a b : ByteArray} {c d : Bool} (h : a = b) (h' : c = d) : Ending.returned (.tuple #[.string a, .bool c]) = .returned (.tuple #[.string b, .bool d]) := by rw [h, h']
theorem get_opt (s : ByteArray) (m : Nat) (h : m < s.size) : s.data.toList[m]? = some s[m] := by
  have h2 : m < s.data.toList.length := by simpa using h
  rw [List.getElem?_eq_getElem h2]; rfl

theorem unL_step2 (l : List UInt8) (j : Nat) (u : List UInt8) (a b : UInt8) (h2 : j % 2 = 0) (h : unL (l.take j) = some u) (ha : l[j]? = some a) (hb : l[j + 1]? = some b) (hd : dig a < 16 ∧ dig b < 16) :
    unL (l.take (j + 2)) = some (u ++ [UInt8.ofNat (16 * dig a + dig b)]) := by
  obtain ⟨k, rfl⟩ : ∃ k, j = 2 * k := ⟨j / 2, by omega⟩
  exact unL_step l k u a b h ha hb hd
theorem unL_stop2 (l : List UInt8) (j : Nat) (u : List UInt8) (a b : UInt8) (h2 : j % 2 = 0) (h : unL (l.take j) = some u) (ha : l[j]? = some a) (hb : l[j + 1]? = some b) (hd : ¬ (dig a < 16 ∧ dig b < 16)) : unL l = none := by
  obtain ⟨k, rfl⟩ : ∃ k, j = 2 * k := ⟨j / 2, by omega⟩
  exact unL_stop l k u a b h ha hb hd
theorem un_len (s : ByteArray) (j : Nat) (u : List UInt8) (hj : j ≤ s.size) (h : Hid (unL (s.data.toList.take j) = some u)) : 2 * u.length ≤ s.size := by
  have := unL_length _ _ h.out
  simp at this; omega
theorem or_half (x y : Nat) (hx : x < 16) (hy : y < 16) : bits .or .i64 ((x : Int) * 16) (y : Int) = (x : Int) * 16 + (y : Int) :=
  bits_join .i64 8 (by decide) (fun n h0 h1 => by rw [IntKind.wrap_i64]; omega) 4 _ _ (by omega) (by omega) (by omega) (by omega) (by omega) (by omega)
theorem byte_one (x : Int) (b : UInt8) (h : x = (b.toNat : Int)) : (#[Value.int .u8 x]).toList = byteCells [b] := by subst h; rfl

set_option maxHeartbeats 1000000 in
theorem unhex_any (s : ByteArray) (w : World) (hs : s.size ≤ 140737488355328) :
    Calls Try.prog 11 #[.string s] w fun e w' => e = .returned (.tuple #[.string (unS s), .bool (unB s)]) ∧ Below w.heap.size w w' := by
  by_cases hodd : s.size % 2 = 1
  · have hn : unL s.data.toList = none := unL_odd _ (by simpa using hodd)
    have hb : (s.size : Int) % 2 = 1 := by omega
    rw [(unS_none hn).1, (unS_none hn).2]
    clear hn hodd
    go_enter Try.func11, Try.ntmps11
    go_wp2_with fail
    go_ret2
    exact ⟨rfl, Below.refl _ _⟩
  · have hev : (s.size : Int) % 2 = 0 := by omega
    go_enter Try.func11, Try.ntmps11
    go_wp2_with (with_reducible refine wpList_emptied _ rfl _ _ rfl w.heap.size w (Below.refl _ _) (Nat.le_refl _) _ _ (s.size / 2) rfl rfl rfl (by omega) (by omega) ?_; intro v1 w1 hown1 hb1)
    go_loopw [5, 4] (fun i v wr => ∃ j : Nat, ∃ u : List UInt8, j ≤ s.size ∧ j % 2 = 0 ∧ i = .int .i64 (j : Int) ∧ Own wr w.heap.size v u ∧ Hid (unL (s.data.toList.take j) = some u) ∧ Below w.heap.size w wr)
      (fun i _ _ => s.size - (RowKit.intOf i).toNat)
    case atStart => exact ⟨0, [], Nat.zero_le _, rfl, rfl, hown1, (Lib.hid rfl), hb1⟩
    case round =>
      obtain ⟨j, u, hm, h2, rfl, hown, hu, hb⟩ := hrel
      by_cases hlt : j < s.size
      · have hlt1 : j + 1 < s.size := by omega
        have hA := Lib.hid (get_opt s j hlt)
        have hB := Lib.hid (get_opt s (j + 1) hlt1)
        have ul := un_len s j u hm hu
        by_cases da : dig s[j] < 16
        · by_cases db : dig s[j + 1] < 16
          · have hor := or_half (dig s[j]) (dig s[j + 1]) da db
            have HA := Lib.hid (fun w => find_yes s[j] da w)
            have HB := Lib.hid (fun w => find_yes s[j + 1] db w)
            have HU := Lib.hid (unL_step2 _ j u _ _ h2 hu.out hA.out hB.out ⟨da, db⟩)
            go_wp2_with (first
              | (go_at_call 18; first | ((with_reducible refine (HA.out _).mono ?_); rintro e w' ⟨rfl, rfl⟩) | ((with_reducible refine (HB.out _).mono ?_); rintro e w' ⟨rfl, rfl⟩))
              | (with_reducible refine wpList_push _ rfl _ _ rfl w.heap.size w _ _ rfl (hown.alloc _) (hb.alloc hb.size _) (Nat.le_refl _) _ _ _ rfl _ _ (heap_alloc_new _ _) [UInt8.ofNat (16 * dig s[j] + dig s[j + 1])] rfl (byte_one _ _ (by rw [ofNat_toNat _ (by omega)]; omega)) (by show u.length + 1 ≤ _; omega) ?_; intro v2 w2 hown2 hb2))
            go_roundw
            case rel => exact ⟨j + 2, _, by omega, by omega, by go_num, hown2, HU, hb2⟩
            case measure => simp [RowKit.intOf]; omega
          · have HA := Lib.hid (fun w => find_yes s[j] da w)
            have HB := Lib.hid (fun w => find_no s[j + 1] db w)
            have HU := Lib.hid (unS_none (unL_stop2 _ j u _ _ h2 hu.out hA.out hB.out (fun h => db h.2)))
            go_wp2_with (go_at_call 18; first | ((with_reducible refine (HA.out _).mono ?_); rintro e w' ⟨rfl, rfl⟩) | ((with_reducible refine (HB.out _).mono ?_); rintro e w' ⟨rfl, rfl⟩))
            go_ret2
            exact ⟨ret_sb HU.out.1.symm HU.out.2.symm, hb⟩
        · have HA := Lib.hid (fun w => find_no s[j] da w)
          have HU := Lib.hid (unS_none (unL_stop2 _ j u _ _ h2 hu.out hA.out hB.out (fun h => da h.1)))
          by_cases db : dig s[j + 1] < 16
          · have HB := Lib.hid (fun w => find_yes s[j + 1] db w)
            go_wp2_with (go_at_call 18; first | ((with_reducible refine (HA.out _).mono ?_); rintro e w' ⟨rfl, rfl⟩) | ((with_reducible refine (HB.out _).mono ?_); rintro e w' ⟨rfl, rfl⟩))
            go_ret2
            exact ⟨ret_sb HU.out.1.symm HU.out.2.symm, hb⟩
          · have HB := Lib.hid (fun w => find_no s[j + 1] db w)
            go_wp2_with (go_at_call 18; first | ((with_reducible refine (HA.out _).mono ?_); rintro e w' ⟨rfl, rfl⟩) | ((with_reducible refine (HB.out _).mono ?_); rintro e w' ⟨rfl, rfl⟩))
            go_ret2
            exact ⟨ret_sb HU.out.1.symm HU.out.2.symm, hb⟩
      · obtain rfl : j = s.size := by omega
        have hu2 : unL s.data.toList = some u := by have := hu.out; rwa [List.take_of_length_le (by simp)] at this
        have HU := Lib.hid (unS_some hu2)
        clear hu2
        go_wp2_with (with_reducible refine wpList_string _ rfl _ rfl _ _ _ rfl hown ?_)
        go_ret2
        exact ⟨ret_sb HU.out.1.symm HU.out.2.symm, hb⟩
end Go.Proofs.Ytgofeakhkpnibaa.Oct
