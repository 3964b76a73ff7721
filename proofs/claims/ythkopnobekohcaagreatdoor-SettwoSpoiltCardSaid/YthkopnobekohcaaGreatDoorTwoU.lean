/- The three laws of sets of rules of version 2. Conditions: as each theorem states. -/
import Derived.Test.YthkopnobekohcaaGreatDoorTwoCC
import Derived.Test.YthkopnobekohcaaGreatDoorTwoL
import Derived.Test.YthkopnobekohcaaGreatDoorTwoV
import Derived.Test.YthkopnobekohcaaGreatDoorTwoY
import Derived.Test.YthkopnobekohcaaGreatDoorTwoK
import Derived.Test.YthkopnobekohcaaGreatDoorTwoTabs
import Derived.Laws.Cover2
namespace Go.Proofs.YthkopnobekohcaaGreatDoor.Two
open Go.RowKit Go.Lib Go.ChangeAt Go.WideShapes Go.ChangeShapes

theorem canon_any : CnP := canon_of1 canon1_any own_any
theorem is_any : IsP := is_of canon_any
theorem awake_any : AwP := awake_of check_any canon_any kind_any kindof_any
theorem u8_of {q : Int} (wq : (Lit.int .u8 q).wf = true) : 0 ≤ q ∧ q ≤ 255 := by
  simp only [Lit.wf, IntKind.min, IntKind.max, IntKind.signed, IntKind.bits, Bool.and_eq_true] at wq
  exact ⟨by simp at wq; omega, by simp at wq; omega⟩
theorem says_law (L : List Rw) (k : Int) (s : ByteArray) {v : Value} {W : World} (hr : Row W v L) (hl : L.length ≤ 9223372036854775807) (hs : ∀ x ∈ L, Fits x) (_ : (Lit.int .i64 k).wf = true) (ws : s.size ≤ maxLen) (hE : Ev W) :
    Calls Tryz.prog 3 #[v, .int .i64 k, .string s] W fun e w' => e = .returned (.bool true) ∧ Below W.heap.size W w' :=
  says_of check_any canon_any is_any kind_any kindof_any awake_any L v k s W hr hl (fit_of hs) (by unfold maxLen at ws; omega) hE
theorem mx_of {W : World} (hs : W.ShapedOpen Tryz.prog) : Ptr.Mx W := Tryz.laysM138.s1_3 W hs -- wants 4
theorem evx_of {W : World} (h : laidMetH Tryz.prog tabs W) (hs : W.ShapedOpen Tryz.prog) : Ev W ∧ Ptr.Mx W := ⟨ev_of h, mx_of hs⟩ -- wants 4
theorem spoilt_law (L : List Rw) (k q : Int) {v : Value} {W : World} (hr : Row W v L) (hl : L.length ≤ 9223372036854775807) (hs : ∀ x ∈ L, Fits x) (wk : (Lit.int .u8 k).wf = true) (wq : (Lit.int .u8 q).wf = true) (hE : Ev W ∧ Ptr.Mx W) :
    Calls Tryz.prog 4 #[v, .int .u8 k, .int .u8 q] W fun e w' => e = .returned (.bool true) ∧ Below W.heap.size W w' :=
  spoilt_of check_any awake_any L v k q W hr hl (fit_of hs) hE.1 hE.2 (u8_of wk).1 (u8_of wk).2 (u8_of wq).1 (u8_of wq).2
end Go.Proofs.YthkopnobekohcaaGreatDoor.Two
