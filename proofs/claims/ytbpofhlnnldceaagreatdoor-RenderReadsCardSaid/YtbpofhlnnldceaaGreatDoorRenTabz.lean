/- From a row's listed variables to what the walks ask: the tables of unicode/utf8 and of powers, and that strconv.ErrSyntax and strconv.ErrRange hold errors; the laws. Conditions: as each theorem states. -/
import Derived.Test.YtbpofhlnnldceaaGreatDoorRenQ
import Derived.Test.YtbpofhlnnldceaaGreatDoorRenR
import Derived.Test.YtbpofhlnnldceaaGreatDoorOpn
import Derived.Test.YtbpofhlnnldceaaGreatDoorUpto
import Derived.LaidMore
import Derived.Stop.LaidErr
import Derived.Lib.LaidTab
import Derived.Lib.LaidU8T
import Derived.PinnedBridge
namespace Go.Proofs.YtbpofhlnnldceaaGreatDoor.Ren
open Go.ChangeShapes Go.WideShapes Go.ChangeAt Go.RowKit Go.Lib Go.Proofs.YtbpofhlnnldceaaGreatDoor.Utf
open Go.Proofs.YtbpofhlnnldceaaGreatDoor.Tre (Vt OkT InV)

theorem star : "*" ++ "errors.errorString" = "*errors.errorString" := by decide
theorem row_err (u : TypeId) (h : Tryz.prog.typeName? 3 u = some "*errors.errorString") : u = 147 :=
  typeName_ptr_named (nm := "errors.errorString") (by rw [star]; kernel_rfl) (by kernel_rfl) (by decide) u (by rw [star]; exact h)
theorem ev_of {W : World} (h : laidMetH Tryz.prog Rows.renderReadsRow.laid W) : Ev W := by
  rw [MakeChecks.laidMetH_plain _ _ _ (by kernel_rfl)] at h
  have e1 : (Rows.laid_unicode_utf8_acceptRanges : DataW Unit) = Lib.acceptData := by kernel_rfl
  have e2 : Rows.laid_unicode_utf8_first = Lib.firstData := Pinned.utf8First_eq
  have e3 : (Rows.laid_internal_strconv_uint64pow10 : DataW Unit) = Lib.tabData .u64 Lib.pow10Tab := by kernel_rfl
  have h1 := Lib.laidMet.reads h (.tail _ (.tail _ (.tail _ (.head _))))
  have h2 := Lib.laidMet.reads h (.tail _ (.tail _ (.tail _ (.tail _ (.tail _ (.tail _ (.head _)))))))
  rw [e1] at h1
  rw [e2] at h2
  refine ⟨⟨utf8Tabs_of_readsT (U8Types.of260 Tryz.lays260) ⟨by kernel_rfl, by kernel_rfl, by kernel_rfl, by kernel_rfl, by kernel_rfl, by kernel_rfl, by kernel_rfl⟩ h2 h1, ?_, ?_⟩, ?_⟩
  · obtain ⟨a, s, hv, _⟩ := laid_sentinel h.tail.tail.tail.tail.tail (g := 2) (ti := 75) (tp := 147) (te := 149) (by kernel_rfl) (by kernel_rfl) Tryz.underlying75 row_err Tryz.underlying147 Tryz.underlying149 rfl rfl Tryz.underlying9 (by kernel_rfl) (by kernel_rfl)
    exact ⟨_, _, by simpa using World.var?_cell (show Tryz.prog.globalNamed "strconv.ErrSyntax" = some 2 by kernel_rfl) hv 0⟩
  · obtain ⟨a, s, hv, _⟩ := laid_sentinel h.tail.tail.tail.tail (g := 3) (ti := 75) (tp := 147) (te := 149) (by kernel_rfl) (by kernel_rfl) Tryz.underlying75 row_err Tryz.underlying147 Tryz.underlying149 rfl rfl Tryz.underlying9 (by kernel_rfl) (by kernel_rfl)
    exact ⟨_, _, by simpa using World.var?_cell (show Tryz.prog.globalNamed "strconv.ErrRange" = some 3 by kernel_rfl) hv 0⟩
  · have h3 := h.tail.tail
    rw [e3] at h3
    exact Lib.tabIs_of_head (n := 20) (g := 0) (by kernel_rfl) rfl (by kernel_rfl) Tryz.underlying101 (by kernel_rfl) (by kernel_rfl) h3
theorem z_first {H : Type} {ts : List TypeId} {ds : List (DataW H)} (h : (DataW.weightsEach Tryz.prog ts ds).all (· ≤ reachBytes) = true) {t : TypeId} {d : DataW H} (ht : ts[0]? = some t) (hd : ds[0]? = some d) : Tre.Light t d := Tre.w_arg h ht hd
theorem reads_law {W : World} (s : ByteArray) (_ws : s.size ≤ maxLen) (hE : Ev W) :
    Calls Tryz.prog 4 #[.string s] W fun e w' => e = .returned (.bool true) ∧ Below W.heap.size W w' := reads_any s W hE
theorem back_law {W : World} {H : Type} {d0 : DataW H} (v : Vt) (cs : List Value) (i : InV W v cs) (o : OkT v) (b : cw v ≤ Rows.uptoBulk d0) (hE : Ev W) (hk : Rows.uptoSmall H [d0] = true) :
    Calls Tryz.prog 3 #[.agg cs.toArray] W fun e w' => e = .returned (.bool true) ∧ Below W.heap.size W w' := back_any v o (Nat.le_trans b (Upto.one hk)) cs W i hE
end Go.Proofs.YtbpofhlnnldceaaGreatDoor.Ren
