/- Contracts of Unhex. Conditions: as each theorem states. -/
import Derived.Test.YtggahjhjapnfeaaDoorOctD
namespace Go.Proofs.YtggahjhjapnfeaaDoor.Oct
open Go.RowKit Go.Lib Go.Proofs.YtggahjhjapnfeaaDoor.Byt

def digits : ByteArray := ⟨#[48, 49, 50, 51, 52, 53, 54, 55, 56, 57, 97, 98, 99, 100, 101, 102]⟩
theorem index_dig : ∀ n : Fin 256, Lib.indexByte [48, 49, 50, 51, 52, 53, 54, 55, 56, 57, 97, 98, 99, 100, 101, 102] (UInt8.ofNat n.val) = if dig (UInt8.ofNat n.val) < 16 then (dig (UInt8.ofNat n.val) : Int) else -1 := by decide +kernel
theorem index_at (c : UInt8) : Lib.indexByte [48, 49, 50, 51, 52, 53, 54, 55, 56, 57, 97, 98, 99, 100, 101, 102] ((c.toNat : Int).toNat.toUInt8) = if dig c < 16 then (dig c : Int) else -1 := by
  have h := index_dig ⟨c.toNat, c.toNat_lt⟩
  simp only [UInt8.ofNat_toNat] at h
  rw [Int.toNat_natCast, ← h]
  congr 1
  exact UInt8.ofNat_toNat
theorem find_yes (c : UInt8) (h : dig c < 16) (w : World) :
    Calls Tryd.prog 21 #[.string ⟨#[48, 49, 50, 51, 52, 53, 54, 55, 56, 57, 97, 98, 99, 100, 101, 102]⟩, .int .u8 (c.toNat : Int)] w fun e w' => e = .returned (.int .i64 (dig c : Nat)) ∧ w = w' :=
  (Tryd.strings_IndexByte _ _ w).mono fun e w' ⟨h1, h2⟩ => ⟨by rw [h1]; exact congrArg (fun x => Ending.returned (.int .i64 x)) ((index_at c).trans (if_pos h)), h2.symm⟩
theorem find_no (c : UInt8) (h : ¬ dig c < 16) (w : World) :
    Calls Tryd.prog 21 #[.string ⟨#[48, 49, 50, 51, 52, 53, 54, 55, 56, 57, 97, 98, 99, 100, 101, 102]⟩, .int .u8 (c.toNat : Int)] w fun e w' => e = .returned (.int .i64 (-1)) ∧ w = w' :=
  (Tryd.strings_IndexByte _ _ w).mono fun e w' ⟨h1, h2⟩ => ⟨by rw [h1]; exact congrArg (fun x => Ending.returned (.int .i64 x)) ((index_at c).trans (if_neg h)), h2.symm⟩

/-- What Unhex hands back. -/
def unS (s : ByteArray) : ByteArray := ⟨((unL s.data.toList).getD []).toArray⟩
def unB (s : ByteArray) : Bool := (unL s.data.toList).isSome
theorem unS_some {s : ByteArray} {u : List UInt8} (h : unL s.data.toList = some u) : unS s = ⟨u.toArray⟩ ∧ unB s = true := by unfold unS unB; rw [h]; exact ⟨rfl, rfl⟩
theorem unS_none {s : ByteArray} (h : unL s.data.toList = none) : unS s = ⟨#[]⟩ ∧ unB s = false := by unfold unS unB; rw [h]; exact ⟨rfl, rfl⟩

theorem ret_sb {a b : ByteArray} {c d : Bool} (h : a = b) (h' : c = d) : Ending.returned (.tuple #[.string a, .bool c]) = .returned (.tuple #[.string b, .bool d]) := by rw [h, h']
theorem get_opt (s : ByteArray) (m : Nat) (h : m < s.size) : s.data.toList[m]? = some s[m] := by
  have h2 : m < s.data.toList.length := by simpa using h
  rw [List.getElem?_eq_getElem h2]; rfl

theorem unL_step2 (l : List UInt8) (j : Nat) (u : List UInt8) (a b : UInt8) (h2 : j % 2 = 0) (h : unL (l.take j) = some u) (ha : l[j]? = some a) (hb : l[j + 1]? = some b) (hd : dig a < 16 ∧ dig b < 16) :
    unL (l.take (j + 2)) = some (u ++ [UInt8.ofNat (16 * dig a + dig b)]) := by
  obtain ⟨k, rfl⟩ : ∃ k, j = 2 * k := ⟨j / 2, by omega⟩
  exact unL_step l k u a b h ha hb hd
theorem unL_stop2 (l : List UInt8) (j : Nat) (u : List UInt8) (a b : UInt8) (h2 : j % 2 = 0) (h : unL (l.take j) = some u) (ha : l[j]? = some a) (hb : l[j + 1]? = some b) (hd : ¬ (dig a < 16 ∧ dig b < 16)) : unL l = none := by
  obtain ⟨k, rfl⟩ : ∃ k, j = 2 * k := ⟨j / 2, by omega⟩
  exact unL_stop l k u a b h ha hb hd
theorem un_len (s : ByteArray) (j : Nat) (u : List UInt8) (hj : j ≤ s.size) (h : Hid (unL (s.data.toList.take j) = some u)) : 2 * u.length ≤ s.size := by
  have := unL_length _ _ h.out
  simp at this; omega
theorem or_half (x y : Nat) (hx : x < 16) (hy : y < 16) : bits .or .i64 ((x : Int) * 16) (y : Int) = (x : Int) * 16 + (y : Int) :=
  bits_join .i64 8 (by decide) (fun n h0 h1 => by rw [IntKind.wrap_i64]; omega) 4 _ _ (by omega) (by omega) (by omega) (by omega) (by omega) (by omega)
theorem byte_one (x : Int) (b : UInt8) (h : x = (b.toNat : Int)) : (#[Value.int .u8 x]).toList = byteCells [b] := by subst h; rfl

end Go.Proofs.YtggahjhjapnfeaaDoor.Oct
