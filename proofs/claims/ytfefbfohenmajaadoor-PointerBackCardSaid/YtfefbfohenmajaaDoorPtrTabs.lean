/- From a row's listed variables, and the world's shape, to what the walks ask; the three laws. Conditions: as each theorem states. -/
import Derived.Test.YtfefbfohenmajaaDoorPtrN
import Derived.Test.YtfefbfohenmajaaDoorOpenStrs
import Derived.LaidMore
import Derived.Stop.LaidErr
import Derived.Lib.LaidTab
namespace Go.Proofs.YtfefbfohenmajaaDoor.Ptr
open Go.ChangeShapes Go.WideShapes Go.ChangeAt Go.RowKit Go.Lib
open Go.Proofs.YtfefbfohenmajaaDoor.Tre (Vt OkT InV)

theorem star : "*" ++ "errors.errorString" = "*errors.errorString" := by decide
theorem row_err (u : TypeId) (h : Tryd.prog.typeName? 3 u = some "*errors.errorString") : u = 106 :=
  typeName_ptr_named (nm := "errors.errorString") (by rw [star]; kernel_rfl) (by kernel_rfl) (by decide) u (by rw [star]; exact h)
theorem env_of {W : World} (h : laidMetH Tryd.prog Rows.pointerSaysRow.laid W) (hs : W.ShapedOpen Tryd.prog) : Env W := by
  rw [MakeChecks.laidMetH_plain _ _ _ (by kernel_rfl)] at h
  have e3 : (Rows.laid_internal_strconv_uint64pow10 : DataW Unit) = Lib.tabData .u64 Lib.pow10Tab := by kernel_rfl
  refine ⟨Tryd.laysM138.s1_3 W hs, ?_, ?_, ?_⟩
  · have h3 := h.tail.tail
    rw [e3] at h3
    exact Lib.tabIs_of_head (n := 20) (g := 5) (by kernel_rfl) rfl (by kernel_rfl) Tryd.underlying94 (by kernel_rfl) (by kernel_rfl) h3
  · obtain ⟨a, s, hv, _⟩ := laid_sentinel h.tail.tail.tail.tail.tail (g := 3) (ti := 54) (tp := 106) (te := 108) (by kernel_rfl) (by kernel_rfl) Tryd.underlying54 row_err Tryd.underlying106 Tryd.underlying108 rfl rfl Tryd.underlying9 (by kernel_rfl) (by kernel_rfl)
    exact ⟨_, _, by simpa using World.var?_cell (show Tryd.prog.globalNamed "strconv.ErrSyntax" = some 3 by kernel_rfl) hv 0⟩
  · obtain ⟨a, s, hv, _⟩ := laid_sentinel h.tail.tail.tail.tail (g := 4) (ti := 54) (tp := 106) (te := 108) (by kernel_rfl) (by kernel_rfl) Tryd.underlying54 row_err Tryd.underlying106 Tryd.underlying108 rfl rfl Tryd.underlying9 (by kernel_rfl) (by kernel_rfl)
    exact ⟨_, _, by simpa using World.var?_cell (show Tryd.prog.globalNamed "strconv.ErrRange" = some 4 by kernel_rfl) hv 0⟩
theorem w_first {H : Type} {ts : List TypeId} {ds : List (DataW H)} (h : (DataW.weightsEach Tryd.prog ts ds).all (· ≤ reachBytes) = true) {t : TypeId} {d : DataW H} (ht : ts[0]? = some t) (hd : ds[0]? = some d) : Tre.Light t d := Tre.w_arg h ht hd
theorem w_third {H : Type} {ts : List TypeId} {ds : List (DataW H)} (h : (DataW.weightsEach Tryd.prog ts ds).all (· ≤ reachBytes) = true) {t : TypeId} {d : DataW H} (ht : ts[2]? = some t) (hd : ds[2]? = some d) : Tre.Light t d := Tre.w_arg h ht hd
theorem says_law {W : World} {lv : Value} {Q : Prop} (l : List ByteArray) (s : ByteArray) (v : Vt) (cs : List Value) (hr : Strs.Row W lv l) (hl : l.length ≤ 9223372036854775807) (_ : Q) (ws : s.size ≤ maxLen) (hi : InV W v cs) (hv : OkT v) (hE : Env W) :
    Calls Tryd.prog 3 #[lv, .string s, .agg cs.toArray] W fun e W' => e = .returned (.bool true) ∧ Below W.heap.size W W' := says_any l lv s v hv cs W hr hl hi hE (by unfold maxLen at ws; omega)
theorem back_law {W : World} {lv mv : Value} {Q R : Prop} (l m : List ByteArray) (s : ByteArray) (hr : Strs.Row W lv l) (hl : l.length ≤ 9223372036854775807) (_ : Q) (hr2 : Strs.Row W mv m) (hm : m.length ≤ 9223372036854775807) (_ : R) (ws : s.size ≤ maxLen) (hE : Env W) :
    Calls Tryd.prog 4 #[lv, mv, .string s] W fun e W' => e = .returned (.bool true) ∧ Below W.heap.size W W' := back_any l m lv mv s W hr hr2 hl hm hE (by unfold maxLen at ws; omega)
theorem goes_law {W : World} {lv mv : Value} {Q R : Prop} (v : Vt) (cs : List Value) (l m : List ByteArray) (hi : InV W v cs) (hv : OkT v) (hr : Strs.Row W lv l) (hl : l.length ≤ 9223372036854775807) (_ : Q) (hr2 : Strs.Row W mv m) (hm : m.length ≤ 9223372036854775807) (_ : R) (hE : Env W) :
    Calls Tryd.prog 5 #[.agg cs.toArray, lv, mv] W fun e W' => e = .returned (.bool true) ∧ Below W.heap.size W W' := goes_any v hv cs l m lv mv W hi hr hr2 hl hm hE
end Go.Proofs.YtfefbfohenmajaaDoor.Ptr
