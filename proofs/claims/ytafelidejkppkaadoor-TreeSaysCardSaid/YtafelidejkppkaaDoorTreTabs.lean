/- From a row's listed variables to the two tables of unicode/utf8; the laws. Conditions: as each theorem states. -/
import Derived.Test.YtafelidejkppkaaDoorTreY
import Derived.LaidMore
import Derived.Lib.LaidU8T
import Derived.PinnedBridge
namespace Go.Proofs.YtafelidejkppkaaDoor.Tre
open Go.ChangeShapes Go.WideShapes Go.ChangeAt Go.RowKit Go.Lib Go.Proofs.YtafelidejkppkaaDoor.Utf

theorem tabs_of {W : World} (h : laidMetH Tryd.prog Rows.treeSortsRow.laid W) : Tabs W := by
  rw [MakeChecks.laidMetH_plain _ _ _ (by kernel_rfl)] at h
  have e1 : (Rows.laid_unicode_utf8_acceptRanges : DataW Unit) = Lib.acceptData := by kernel_rfl
  have e2 : Rows.laid_unicode_utf8_first = Lib.firstData := Pinned.utf8First_eq
  have h1 := Lib.laidMet.reads h (.head _)
  have h2 := Lib.laidMet.reads h (.tail _ (.head _))
  rw [e1] at h1
  rw [e2] at h2
  exact utf8Tabs_of_readsT (U8Types.of260 Tryd.lays260) ⟨by kernel_rfl, by kernel_rfl, by kernel_rfl, by kernel_rfl, by kernel_rfl, by kernel_rfl, by kernel_rfl⟩ h2 h1
theorem w_first {H : Type} {ts : List TypeId} {ds : List (DataW H)} (h : (DataW.weightsEach Tryd.prog ts ds).all (· ≤ reachBytes) = true) {t : TypeId} {d : DataW H} (ht : ts[0]? = some t) (hd : ds[0]? = some d) : Light t d := w_arg h ht hd
theorem w_second {H : Type} {ts : List TypeId} {ds : List (DataW H)} (h : (DataW.weightsEach Tryd.prog ts ds).all (· ≤ reachBytes) = true) {t : TypeId} {d : DataW H} (ht : ts[1]? = some t) (hd : ds[1]? = some d) : Light t d := w_arg h ht hd
theorem sorts_law {W : World} (v : Vt) (cs : List Value) (h : InV W v cs) (hv : OkT v) (hT : Tabs W) :
    Calls Tryd.prog 4 #[.agg cs.toArray] W fun e w' => e = .returned (.bool true) ∧ Below W.heap.size W w' := sorts_any v hv cs W h hT
end Go.Proofs.YtafelidejkppkaaDoor.Tre
