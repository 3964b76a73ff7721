/- Contracts of the library's Join at "/" and of route's Join. Conditions: as each theorem states. · Contracts of route's Join and of the document's. Conditions: as each theorem states. -/
import Derived.Test.YthkopnobekohcaaGreatDoorRouG1
import Derived.Test.YthkopnobekohcaaGreatDoorBldG
import Derived.Lib.Join
namespace Go.Proofs.YthkopnobekohcaaGreatDoor.Rou
open Go.RowKit Go.Lib Go.Proofs.YthkopnobekohcaaGreatDoor.Byt Go.Proofs.YthkopnobekohcaaGreatDoor.Bld

def dts (l : List ByteArray) : List (List UInt8) := l.map fun x => x.data.toList
theorem dts_len (l : List ByteArray) : (dts l).length = l.length := List.length_map _
/-- Behind the first k pieces. -/
def jt (l : List (List UInt8)) : List UInt8 := Lib.joinTail [47] l
theorem sj_cons (p : List UInt8) (l : List (List UInt8)) : sj (p :: l) = p ++ jt l := by
  induction l generalizing p with
  | nil => show p = _; unfold jt Lib.joinTail; simp
  | cons q l ih =>
    show p ++ 47 :: sj (q :: l) = _
    rw [ih q]
    unfold jt Lib.joinTail
    simp
theorem jt_snoc {l : List (List UInt8)} {k : Nat} {y : List UInt8} (h : l[k]? = some y) : jt (l.take (k + 1)) = jt (l.take k) ++ [47] ++ y := Lib.joinTail_take_succ [47] l k y h
theorem jt_len (l : List (List UInt8)) : (jt l).length = l.length + Lib.lens l := by unfold jt; rw [Lib.joinTail_length]; simp
theorem ret_s {a b : ByteArray} (h : a = b) : Ending.returned (.string a) = .returned (.string b) := by rw [h]
/-- The parts l with a slash between two. -/
def sjB (l : List ByteArray) : ByteArray := mk (sj (dts l))
section
variable (l : List ByteArray) (a : Option Addr) (c : Nat) (w : World)
end
end Go.Proofs.YthkopnobekohcaaGreatDoor.Rou

namespace Go.Proofs.YthkopnobekohcaaGreatDoor.Rou
open Go.RowKit Go.Lib Go.Proofs.YthkopnobekohcaaGreatDoor.Byt

theorem app_data (a b : ByteArray) : (a ++ b).data.toList = a.data.toList ++ b.data.toList := by simp
theorem ext_data {a b : ByteArray} (h : a.data.toList = b.data.toList) : a = b := ByteArray.ext (Array.toList_inj.1 h)
theorem add_run (a b c : ByteArray) (h : a ++ b = c) (hs : c.size ≤ 8388608) : ∀ W, (Op.stringOp .add a b).run Tryz.prog W = .ok (.string c) W := by
  intro W
  subst h
  rw [ByteArray.size_append] at hs
  exact run_string_add W a b (by omega) (by omega)
/-- The row of the parts l. -/
def joB (l : List ByteArray) : ByteArray := mk (jP (dts l))
theorem joB_is (l : List ByteArray) : ⟨#[47]⟩ ++ sjB l = joB l := by
  refine ext_data ?_
  rw [app_data]
  unfold sjB joB
  rw [dt_mk, dt_mk, jP_sj]; rfl
theorem joB_size (l : List ByteArray) : (joB l).size = (sj (dts l)).length + 1 := by
  unfold joB
  rw [sz_mk, jP_sj]; rfl
/-! ### the document's -/
theorem jn_snoc {l : List (List UInt8)} {k : Nat} {y : List UInt8} (h : l[k]? = some y) : jn (l.take (k + 1)) = jn (l.take k) ++ (47 :: y) := by
  rw [List.take_add_one, h, jn_app]
  congr 1
  rw [Option.toList_some, jn_cons]
  simp [jn]
theorem jn_take_le (l : List (List UInt8)) (k : Nat) : (jn (l.take k)).length ≤ (jn l).length := by
  have := congrArg List.length (jn_app (l.take k) (l.drop k))
  rw [List.take_append_drop, List.length_append] at this
  omega
theorem jP_ne {l : List (List UInt8)} (h : l ≠ []) : jP l = jn l := by unfold jP; rw [if_neg h]
end Go.Proofs.YthkopnobekohcaaGreatDoor.Rou
