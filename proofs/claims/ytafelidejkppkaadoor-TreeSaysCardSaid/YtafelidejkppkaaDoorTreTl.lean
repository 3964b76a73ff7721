/- TreeSays: the law by its arguments. Conditions: as each theorem states. -/
import Derived.Test.YtafelidejkppkaaDoorTreTabs
import Derived.Test.YtafelidejkppkaaDoorTreTa
namespace Go.Proofs.YtafelidejkppkaaDoor.Tre
open Go.ChangeShapes Go.WideShapes Go.ChangeAt Go.RowKit Go.Lib Go.Proofs.YtafelidejkppkaaDoor.Utf

theorem tabs_says {W : World} (h : laidMetH Tryd.prog Rows.treeSaysRow.laid W) : Tabs W := by
  rw [MakeChecks.laidMetH_plain _ _ _ (by kernel_rfl)] at h
  have e1 : (Rows.laid_unicode_utf8_acceptRanges : DataW Unit) = Lib.acceptData := by kernel_rfl
  have e2 : Rows.laid_unicode_utf8_first = Lib.firstData := Pinned.utf8First_eq
  have h1 := Lib.laidMet.reads h (.head _)
  have h2 := Lib.laidMet.reads h (.tail _ (.head _))
  rw [e1] at h1
  rw [e2] at h2
  exact utf8Tabs_of_readsT (U8Types.of260 Tryd.lays260) ⟨by kernel_rfl, by kernel_rfl, by kernel_rfl, by kernel_rfl, by kernel_rfl, by kernel_rfl, by kernel_rfl⟩ h2 h1
theorem says_law {W : World} {Q : Prop} (a : Vt) (ca : List Value) (b : Vt) (cb : List Value) (s : ByteArray) (h : InV W a ca) (ha : OkT a) (k : InV W b cb) (hb : OkT b) (_ : Q) (hT : Tabs W) :
    Calls Tryd.prog 3 #[.agg ca.toArray, .agg cb.toArray, .string s] W fun e W' => e = .returned (.bool true) ∧ Below W.heap.size W W' := says_any a b ha hb ca cb s W h k hT
end Go.Proofs.YtafelidejkppkaaDoor.Tre
