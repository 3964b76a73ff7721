/- The statement CrcLinear as a contract over every input. Conditions: the table of effects reads as the program lays it. -/
import Derived.Test.YtnknchadlhcdbaaDoorCrcC
import Derived.StillTailTactics
import Derived.Deep.CutRange
namespace Go.Proofs.YtnknchadlhcdbaaDoor.Crc
open Go.RowKit Go.Lib Go.Proofs.YtnknchadlhcdbaaDoor.Byt

theorem below_drewN {B n : Nat} {w W : World} (h : Below B w W) : Below B w (W.drewN n) := ⟨h.os, h.tape, h.output, h.size, h.block⟩
theorem tab_below {w W : World} (h : Tab w) (hb : Below w.heap.size w W) : Tab W := fun i hi => by
  have hc := h i hi
  have hlt : 0 < w.heap.size := by
    rcases Nat.lt_or_ge 0 w.heap.size with h' | h'
    · exact h'
    · simp [World.cell?, Array.getElem?_eq_none h'] at hc
  exact (hb.cell (p := ⟨_, i, none⟩) hlt).trans hc
theorem tab_drewN {w : World} (h : Tab w) (n : Nat) : Tab (w.drewN n) := h

theorem over_zip : ∀ l m : List UInt8, over l m = List.zipWith (· ^^^ ·) l m
  | [], _ => by simp [over]
  | _ :: _, [] => by simp [over]
  | a :: l, b :: m => by rw [over, over_zip l m]; rfl
/-- A row that is filled from the left. -/
def fill (L : List UInt8) (m : Nat) : List UInt8 := L.take m ++ List.replicate (L.length - m) 0
theorem fill_zero (L : List UInt8) : fill L 0 = List.replicate L.length 0 := by simp [fill]
theorem fill_all (L : List UInt8) : fill L L.length = L := by simp [fill]
theorem fill_step (L : List UInt8) (m : Nat) (b : UInt8) (h : L[m]? = some b) : (fill L m).set m b = fill L (m + 1) := by
  obtain ⟨hlt, hb⟩ := List.getElem?_eq_some_iff.1 h
  unfold fill
  rw [List.set_append_right _ _ (by simp; omega), show m - (L.take m).length = 0 by simp; omega, List.take_succ_eq_append_getElem hlt, hb, List.append_assoc]
  congr 1
  rw [show L.length - m = (L.length - (m + 1)) + 1 by omega, List.replicate_succ]
  rfl
/-- Three strings laid over one another, up to k. -/
def three (s t u : ByteArray) (k : Nat) : List UInt8 := over (over (cutB s 0 k).data.toList (cutB t 0 k).data.toList) (cutB u 0 k).data.toList
theorem cut_len (s : ByteArray) (k : Nat) (h : k ≤ s.size) : (cutB s 0 k).data.toList.length = k := by
  have := cutB_size s 0 k (by omega)
  simpa using this
theorem cut_get (s : ByteArray) (k m : Nat) (h : m < k) (hm : m < s.size) : (cutB s 0 k).data.toList[m]? = some s[m] := by
  unfold cutB
  rw [List.drop_zero, List.toList_toArray, List.getElem?_take_of_lt h]
  have h2 : m < s.data.toList.length := by simpa using hm
  rw [List.getElem?_eq_getElem h2]
  rfl
theorem three_len (s t u : ByteArray) (k : Nat) (hs : k ≤ s.size) (ht : k ≤ t.size) (hu : k ≤ u.size) : (three s t u k).length = k := by
  have e1 := cut_len s k hs
  have e2 := cut_len t k ht
  have e3 := cut_len u k hu
  have e4 := over_length _ _ (e1.trans e2.symm)
  unfold three
  rw [over_length _ _ (by rw [e4, e1, e3]), e4, e1]
theorem three_get (s t u : ByteArray) (k m : Nat) (h : m < k) (hs : m < s.size) (ht : m < t.size) (hu : m < u.size) : (three s t u k)[m]? = some (s[m] ^^^ t[m] ^^^ u[m]) := by
  unfold three
  rw [over_zip, List.getElem?_zipWith, over_zip, List.getElem?_zipWith, cut_get s k m h hs, cut_get t k m h ht, cut_get u k m h hu]
theorem three_mr (s t u : ByteArray) (k : Nat) (hs : k ≤ s.size) (ht : k ≤ t.size) (hu : k ≤ u.size) :
    mr 0 (three s t u k) = mr 0 (cutB s 0 k).data.toList ^^^ mr 0 (cutB t 0 k).data.toList ^^^ mr 0 (cutB u 0 k).data.toList :=
  mr_three _ _ _ ((cut_len s k hs).trans (cut_len t k ht).symm) ((cut_len s k hs).trans (cut_len u k hu).symm)
theorem byte_xor3 (a b c : UInt8) : bits .xor .u8 (bits .xor .u8 (a.toNat : Int) (b.toNat : Int)) (c.toNat : Int) = ((a ^^^ b ^^^ c).toNat : Int) := by
  rw [u8_xor_nat a.toNat b.toNat a.toNat_lt b.toNat_lt, ← UInt8.toNat_xor, u8_xor_nat _ c.toNat (UInt8.toNat_lt _) c.toNat_lt, ← UInt8.toNat_xor]
attribute [irreducible] three fill
end Go.Proofs.YtnknchadlhcdbaaDoor.Crc
