/- From a row's listed variables to what the walks ask: the two tables of unicode/utf8, the table of powers; the laws. Conditions: as each theorem states. -/
import Derived.Test.YtbpofhlnnldceaaDoorRenH
import Derived.Test.YtbpofhlnnldceaaDoorUpto
import Derived.LaidMore
import Derived.Stop.LaidErr
import Derived.Lib.LaidTab
import Derived.Lib.LaidU8T
import Derived.PinnedBridge
namespace Go.Proofs.YtbpofhlnnldceaaDoor.Ren
open Go.ChangeShapes Go.WideShapes Go.ChangeAt Go.RowKit Go.Lib Go.Proofs.YtbpofhlnnldceaaDoor.Utf
open Go.Proofs.YtbpofhlnnldceaaDoor.Tre (Vt OkT InV)

theorem en_of {W : World} (h : laidMetH Tryd.prog Rows.renderUnlikeUptoRow.laid W) : En W := by
  rw [MakeChecks.laidMetH_plain _ _ _ (by kernel_rfl)] at h
  have e1 : (Rows.laid_unicode_utf8_acceptRanges : DataW Unit) = Lib.acceptData := by kernel_rfl
  have e2 : Rows.laid_unicode_utf8_first = Lib.firstData := Pinned.utf8First_eq
  have e3 : (Rows.laid_internal_strconv_uint64pow10 : DataW Unit) = Lib.tabData .u64 Lib.pow10Tab := by kernel_rfl
  have h1 := Lib.laidMet.reads h (.tail _ (.tail _ (.tail _ (.head _))))
  have h2 := Lib.laidMet.reads h (.tail _ (.tail _ (.tail _ (.tail _ (.head _)))))
  rw [e1] at h1
  rw [e2] at h2
  refine ⟨utf8Tabs_of_readsT (U8Types.of260 Tryd.lays260) ⟨by kernel_rfl, by kernel_rfl, by kernel_rfl, by kernel_rfl, by kernel_rfl, by kernel_rfl, by kernel_rfl⟩ h2 h1, ?_⟩
  have h3 := h.tail.tail
  rw [e3] at h3
  exact Lib.tabIs_of_head (n := 20) (g := 0) (by kernel_rfl) rfl (by kernel_rfl) Tryd.underlying65 (by kernel_rfl) (by kernel_rfl) h3
theorem w_first {H : Type} {ts : List TypeId} {ds : List (DataW H)} (h : (DataW.weightsEach Tryd.prog ts ds).all (· ≤ reachBytes) = true) {t : TypeId} {d : DataW H} (ht : ts[0]? = some t) (hd : ds[0]? = some d) : Tre.Light t d := Tre.w_arg h ht hd
theorem w_second {H : Type} {ts : List TypeId} {ds : List (DataW H)} (h : (DataW.weightsEach Tryd.prog ts ds).all (· ≤ reachBytes) = true) {t : TypeId} {d : DataW H} (ht : ts[1]? = some t) (hd : ds[1]? = some d) : Tre.Light t d := Tre.w_arg h ht hd
theorem unlike_law {W : World} {H : Type} {d0 d1 : DataW H} (v : Vt) (c1 : List Value) (u : Vt) (c2 : List Value) (i1 : InV W v c1) (o1 : OkT v) (s1 : cw v ≤ Rows.uptoBulk d0) (i2 : InV W u c2) (o2 : OkT u) (s2 : cw u ≤ Rows.uptoBulk d1) (hE : En W) (hk : Rows.uptoSmall H [d0, d1] = true) :
    Calls Tryd.prog 4 #[.agg c1.toArray, .agg c2.toArray] W fun e w' => e = .returned (.bool true) ∧ Below W.heap.size W w' := unlike_any v u o1 o2 (Nat.le_trans s1 (Upto.one hk)) (Nat.le_trans s2 (Upto.two hk)) c1 c2 W i1 i2 hE
end Go.Proofs.YtbpofhlnnldceaaDoor.Ren
