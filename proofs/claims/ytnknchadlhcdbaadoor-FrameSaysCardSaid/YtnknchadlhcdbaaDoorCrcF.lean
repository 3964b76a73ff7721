/- Plain facts for CrcFinds: a string's bytes in a block of their own, bytes that are turned. Conditions: as each theorem states. -/
import Derived.Test.YtnknchadlhcdbaaDoorCrcE
namespace Go.Proofs.YtnknchadlhcdbaaDoor.Crc
open Go.RowKit Go.Lib Go.Proofs.YtnknchadlhcdbaaDoor.Byt

theorem below_next {w W W' : World} {B : Nat} (h : Below B w W) (hB : B ≤ W.heap.size) (hb : Below W.heap.size W W') : Below B w W' := h.trans (hb.mono hB)
/-- The first cells of block g are the bytes l, and may be written. -/
def Blk (w : World) (g : Nat) (l : List UInt8) : Prop := ∀ j, j < l.length → w.cell? ⟨g, j, none⟩ = some (.int .u8 ((l.getD j 0).toNat : Int)) ∧ w.frozen? ⟨g, j, none⟩ = false
theorem Blk.drew {w : World} {g : Nat} {l : List UInt8} (h : Blk w g l) : Blk w.drew g l := h
theorem Blk.drewN {w : World} {g : Nat} {l : List UInt8} (h : Blk w g l) (n : Nat) : Blk (w.drewN n) g l := h
theorem Blk.set_ {w : World} {g : Nat} {l : List UInt8} (h : Blk w g l) (j : Nat) (hj : j < l.length) (b : UInt8) (x : Int) (hx : x = (b.toNat : Int)) : Blk (w.setCell ⟨g, j, none⟩ (.int .u8 x)) g (l.set j b) := by
  subst hx
  intro i hi
  rw [List.length_set] at hi
  refine ⟨?_, by rw [World.frozen?_setCell]; exact (h i hi).2⟩
  by_cases e : j = i
  · subst e
    rw [World.cell?_setCell_same (h := (h j hj).1)]
    simp [hj]
  · rw [World.cell?_setCell_other (h := fun q => e (by injection q)), (h i hi).1]
    rw [List.getD_eq_getElem?_getD, List.getD_eq_getElem?_getD, List.getElem?_set_ne e]
theorem Blk.string {w : World} {g cap : Nat} {l : List UInt8} (h : Blk w g l) : (convert 32 9 (.slice (some ⟨g, 0, none⟩) l.length cap)).run Tryd.prog w = .ok (.string ⟨l.toArray⟩) w :=
  run_convert_bytes_back w 32 9 5 ⟨g, 0, none⟩ cap l Tryd.underlying32 Tryd.underlying5 Tryd.underlying9 (fun j hj => by
    rw [add_at, (h j hj).1]
    simp [hj])
/-- Behind '[]byte(s)'. -/
theorem Blk.new (w : World) (s : ByteArray) (cap : Nat) (t : TypeId) : Blk (w.alloc (.cells (bytesRow s cap) t ((bytesRow s cap).size, (bytesRow s cap).size + 1))) w.heap.size s.data.toList := by
  intro j hj
  have hj2 : j < s.data.size := by simpa using hj
  refine ⟨?_, ?_⟩
  · rw [World.cell?_alloc_mark, bytesRow_at s cap j hj2, List.getD_eq_getElem?_getD, List.getElem?_eq_getElem hj]
    simp
  · rw [World.frozen?_alloc_mark]
    have : j < (bytesRow s cap).size := by unfold bytesRow; rw [Array.size_append, Array.size_map]; omega
    rw [decide_eq_false (by omega), Bool.false_and]

theorem over_set : ∀ (l m : List UInt8) (i : Nat) (a x : UInt8), l[i]? = some a → m[i]? = some 0 → over l (m.set i x) = (over l m).set i (a ^^^ x)
  | [], _, i, a, x, h, _ => by simp at h
  | _ :: _, [], i, a, x, _, h => by simp at h
  | b :: l, c :: m, 0, a, x, h, h2 => by
    simp at h h2
    subst h h2
    rw [List.set_cons_zero, over, over, List.set_cons_zero]
  | b :: l, c :: m, i + 1, a, x, h, h2 => by
    rw [List.set_cons_succ, over, over, List.set_cons_succ, over_set l m i a x (by simpa using h) (by simpa using h2)]
theorem over_zero : ∀ l : List UInt8, over l (List.replicate l.length 0) = l
  | [] => rfl
  | a :: l => by rw [List.length_cons, List.replicate_succ, over, over_zero l, UInt8.xor_zero]
/-- Where bytes are turned: behind a, by d; n in all. -/
def mask (n a : Nat) (d : List UInt8) : List UInt8 := List.replicate a 0 ++ d ++ List.replicate (n - a - d.length) 0
theorem mask_nil (n a : Nat) (h : a ≤ n) : mask n a [] = List.replicate n 0 := by
  unfold mask
  rw [List.append_nil, List.replicate_append_replicate]
  congr 1
  simp; omega
theorem mask_len (n a : Nat) (d : List UInt8) (h : a + d.length ≤ n) : (mask n a d).length = n := by unfold mask; simp; omega
theorem mask_step (n a : Nat) (d : List UInt8) (x : UInt8) (h : a + d.length < n) : (mask n a d).set (a + d.length) x = mask n a (d ++ [x]) := by
  unfold mask
  rw [List.set_append_right _ _ (by simp), show a + d.length - (List.replicate a (0 : UInt8) ++ d).length = 0 by simp, List.length_append, List.length_singleton,
    show n - a - d.length = (n - a - (d.length + 1)) + 1 by omega, List.replicate_succ, List.set_cons_zero]
  simp
theorem mask_get (n a : Nat) (d : List UInt8) (h : a + d.length < n) : (mask n a d)[a + d.length]? = some 0 := by
  unfold mask
  rw [List.getElem?_append_right (by simp), show a + d.length - (List.replicate a (0 : UInt8) ++ d).length = 0 by simp, List.getElem?_replicate, if_pos (by omega)]
/-- The bytes l with the first m of xs laid over them, from a on. -/
def turn (l : List UInt8) (a : Nat) (xs : List UInt8) (m : Nat) : List UInt8 := over l (mask l.length a (xs.take m))
theorem turn_zero (l : List UInt8) (a : Nat) (xs : List UInt8) (h : a ≤ l.length) : turn l a xs 0 = l := by
  unfold turn
  rw [List.take_zero, mask_nil _ _ h, over_zero]
theorem turn_len (l : List UInt8) (a : Nat) (xs : List UInt8) (m : Nat) (h : a + m ≤ l.length) : (turn l a xs m).length = l.length := by
  have e := mask_len l.length a (xs.take m) (by simp; omega)
  unfold turn
  rw [over_length _ _ e.symm]
theorem turn_get (l : List UInt8) (a : Nat) (xs : List UInt8) (m : Nat) (h : a + m < l.length) (hm : m ≤ xs.length) : (turn l a xs m).getD (a + m) 0 = l.getD (a + m) 0 := by
  have e : (xs.take m).length = m := by simp; omega
  have g := mask_get l.length a (xs.take m) (by omega)
  rw [e] at g
  unfold turn
  rw [List.getD_eq_getElem?_getD, List.getD_eq_getElem?_getD, over_zip, List.getElem?_zipWith, g, List.getElem?_eq_getElem h]
  simp
theorem turn_step (l : List UInt8) (a : Nat) (xs : List UInt8) (m : Nat) (h : a + m < l.length) (hm : m < xs.length) : (turn l a xs m).set (a + m) (l.getD (a + m) 0 ^^^ xs.getD m 0) = turn l a xs (m + 1) := by
  have e : (xs.take m).length = m := by simp; omega
  have g := mask_get l.length a (xs.take m) (by omega)
  have s := mask_step l.length a (xs.take m) xs[m] (by omega)
  rw [e] at g s
  have e2 : xs.take (m + 1) = xs.take m ++ [xs[m]] := List.take_succ_eq_append_getElem hm
  have e3 : xs.getD m 0 = xs[m] := by simp [hm]
  have e4 : l[a + m]? = some (l.getD (a + m) 0) := by rw [List.getElem?_eq_getElem h]; simp [h]
  unfold turn
  rw [e2, ← s, e3, over_set _ _ _ _ _ e4 g]
theorem turn_finds (l : List UInt8) (a : Nat) (xs : List UInt8) (m : Nat) (h : a + m ≤ l.length) (hm : m ≤ 4) : mr 0 (turn l a xs m) = mr 0 l ↔ turn l a xs m = l := by
  constructor
  · intro e
    have hd : (xs.take m).length ≤ m := by rw [List.length_take]; omega
    have hz := mr_burst a (l.length - a - (xs.take m).length) l (xs.take m) (by omega) (by omega) e
    have e2 : mask l.length a (xs.take m) = List.replicate l.length 0 := by
      rw [List.eq_replicate_iff]
      refine ⟨mask_len _ _ _ (by omega), fun b hb => ?_⟩
      unfold mask at hb
      rcases List.mem_append.1 hb with hb | hb
      · rcases List.mem_append.1 hb with hb | hb
        · exact (List.mem_replicate.1 hb).2
        · exact hz b hb
      · exact (List.mem_replicate.1 hb).2
    unfold turn
    rw [e2, over_zero]
  · intro e; rw [e]
theorem byte_xor (a b : UInt8) : bits .xor .u8 (a.toNat : Int) (b.toNat : Int) = ((a ^^^ b).toNat : Int) := by
  rw [u8_xor_nat a.toNat b.toNat a.toNat_lt b.toNat_lt, ← UInt8.toNat_xor]
attribute [irreducible] turn mask
end Go.Proofs.YtnknchadlhcdbaaDoor.Crc
