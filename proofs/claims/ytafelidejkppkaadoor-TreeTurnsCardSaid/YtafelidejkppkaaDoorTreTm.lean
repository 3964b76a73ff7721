/- TreeTurns: the law by its arguments. Conditions: as each theorem states. -/
import Derived.Test.YtafelidejkppkaaDoorTreTabs
import Derived.Test.YtafelidejkppkaaDoorTreTc
import Derived.Test.YtafelidejkppkaaDoorOpn
namespace Go.Proofs.YtafelidejkppkaaDoor.Tre
open Go.ChangeShapes Go.WideShapes Go.ChangeAt Go.RowKit Go.Lib Go.Proofs.YtafelidejkppkaaDoor.Utf

theorem tabs_turns {W : World} (h : laidMetH Tryd.prog Rows.treeTurnsRow.laid W) : Tabs W := by
  rw [MakeChecks.laidMetH_plain _ _ _ (by kernel_rfl)] at h
  have e1 : (Rows.laid_unicode_utf8_acceptRanges : DataW Unit) = Lib.acceptData := by kernel_rfl
  have e2 : Rows.laid_unicode_utf8_first = Lib.firstData := Pinned.utf8First_eq
  have h1 := Lib.laidMet.reads h (.head _)
  have h2 := Lib.laidMet.reads h (.tail _ (.head _))
  rw [e1] at h1
  rw [e2] at h2
  exact utf8Tabs_of_readsT (U8Types.of260 Tryd.lays260) ⟨by kernel_rfl, by kernel_rfl, by kernel_rfl, by kernel_rfl, by kernel_rfl, by kernel_rfl, by kernel_rfl⟩ h2 h1
theorem turns_law {W : World} (v : Vt) (cs : List Value) (a : Int) (h : InV W v cs) (hv : OkT v) (wa : (Lit.int .u8 a).wf = true) (hT : Tabs W) :
    Calls Tryd.prog 5 #[.agg cs.toArray, .int .u8 a] W fun e W' => e = .returned (.bool true) ∧ Below W.heap.size W W' := by
  obtain ⟨k, rfl, hk⟩ := Opn.u8_nat wa
  exact turns_any v hv cs k (by omega) W h hT
end Go.Proofs.YtafelidejkppkaaDoor.Tre
