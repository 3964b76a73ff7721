/- Contracts of Runes, Put and numbers. Conditions: the two tables of unicode/utf8 are as its text lays them; as each theorem states. -/
import Derived.Test.YtafelidejkppkaaDoorUtfA
import Derived.Test.YtafelidejkppkaaDoorNum
import Derived.Handy
namespace Go.Proofs.YtafelidejkppkaaDoor.Utf
open Go.RowKit Go.Lib Go.Proofs.YtafelidejkppkaaDoor.Byt

/-- What Runes returns. -/
def rB (l : List UInt8) : Bool := (badL l).isNone
def rZ (l : List UInt8) : List Int := if badL l = none then (rnL l).map fun n : Nat => (n : Int) else []

theorem below_drewN {B n : Nat} {w W : World} (h : Below B w W) : Below B w (W.drewN n) := ⟨h.os, h.tape, h.output, h.size, h.block⟩
theorem one_int (x y : Int) (h : x = y) : (#[Value.int .i64 x]).toList = [y].map (Value.int .i64) := by subst h; rfl
theorem iter_alloc {w : World} {k : Nat} {s : ByteArray} {pos : Nat} (o : Obj) (h : w.heap[k]? = some (Obj.stringIter s pos)) : (w.alloc o).heap[k]? = some (Obj.stringIter s pos) :=
  (Below.heap_alloc w o k (Array.getElem?_eq_some_iff.1 h).1).trans h
theorem decode_wn (s : ByteArray) (pos : Nat) (h : 0 < wS s pos) : Utf8.decode s pos = (nL (s.data.toList.drop pos), wS s pos) := by
  rw [← decodeL_drop]
  exact Prod.ext rfl (wL_good h).2.2.symm
theorem nL_le (l : List UInt8) : nL l ≤ 1114111 := decodeL_rune l
theorem ret_vb {v : Value} {a b : Bool} (h : a = b) : Ending.returned (.tuple #[v, .bool a]) = .returned (.tuple #[v, .bool b]) := by rw [h]

/-! ### Put -/
def encZ (l : List Int) : List UInt8 := l.flatMap fun n : Int => encodeRune n
def pB (l : List Int) : Bool := l.all vI
def pS (l : List Int) : ByteArray := if pB l = true then ⟨(encZ l).toArray⟩ else ⟨#[]⟩
theorem encZ_step (l : List Int) (i : Nat) (h : i < l.length) : encZ (l.take (i + 1)) = encZ (l.take i) ++ encodeRune (l.getD i 0) := by
  rw [List.take_add_one, encZ, List.flatMap_append, List.getElem?_eq_getElem h]
  simp [encZ, h]
theorem all_step (l : List Int) (i : Nat) (h : i < l.length) : (l.take (i + 1)).all vI = ((l.take i).all vI && vI (l.getD i 0)) := by
  rw [List.take_add_one, List.all_append, List.getElem?_eq_getElem h]
  simp [h]
theorem all_stop (l : List Int) (i : Nat) (h : i < l.length) (hv : vI (l.getD i 0) = false) : pB l = false := by
  unfold pB
  rw [List.all_eq_false]
  refine ⟨l.getD i 0, ?_, by rw [hv]; decide⟩
  simp [h]
theorem encZ_len (l : List Int) : (encZ l).length ≤ 4 * l.length := by
  induction l with
  | nil => simp [encZ]
  | cons n ns ih =>
    have h := encodeRuneZ_length n
    have e : encZ (n :: ns) = encodeRune n ++ encZ ns := by simp [encZ]
    rw [e, List.length_append, List.length_cons]
    have : (encodeRune n).length ≤ 4 := by simpa [encodeRune] using h.2
    omega
theorem pS_yes {l : List Int} (h : pB l = true) : pS l = ⟨(encZ l).toArray⟩ := by unfold pS; rw [if_pos h]
theorem pS_no {l : List Int} (h : pB l = false) : pS l = ⟨#[]⟩ := by unfold pS; rw [if_neg (by rw [h]; simp)]
theorem ret_sb {a b : ByteArray} {c d : Bool} (h : a = b) (h' : c = d) : Ending.returned (.tuple #[.string a, .bool c]) = .returned (.tuple #[.string b, .bool d]) := by rw [h, h']

/-! ### numbers -/
end Go.Proofs.YtafelidejkppkaaDoor.Utf
