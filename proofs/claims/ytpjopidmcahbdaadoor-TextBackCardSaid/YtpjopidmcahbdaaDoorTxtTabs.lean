/- From a row's listed variables to the two tables of unicode/utf8; TextBack's law. Conditions: as each theorem states. -/
import Derived.Test.YtpjopidmcahbdaaDoorTxtD
import Derived.Test.YtpjopidmcahbdaaDoorOpenStrs
import Derived.Test.YtpjopidmcahbdaaDoorOpn
import Derived.LaidMore
import Derived.Lib.LaidU8T
import Derived.PinnedBridge
namespace Go.Proofs.YtpjopidmcahbdaaDoor.Txt
open Go.ChangeShapes Go.WideShapes Go.ChangeAt Go.RowKit Go.Lib Go.Proofs.YtpjopidmcahbdaaDoor.Utf

theorem tabs_of {W : World} (h : laidMetH Tryd.prog Rows.textBackRow.laid W) : Tabs W := by
  rw [MakeChecks.laidMetH_plain _ _ _ (by kernel_rfl)] at h
  have e1 : (Rows.laid_unicode_utf8_acceptRanges : DataW Unit) = Lib.acceptData := by kernel_rfl
  have e2 : Rows.laid_unicode_utf8_first = Lib.firstData := Pinned.utf8First_eq
  have h1 := Lib.laidMet.reads h (.head _)
  have h2 := Lib.laidMet.reads h (.tail _ (.head _))
  rw [e1] at h1
  rw [e2] at h2
  exact utf8Tabs_of_readsT (U8Types.of260 Tryd.lays260) ⟨by kernel_rfl, by kernel_rfl, by kernel_rfl, by kernel_rfl, by kernel_rfl, by kernel_rfl, by kernel_rfl⟩ h2 h1
theorem back_law {W : World} {v : Value} (l : List ByteArray) (a b t : ByteArray) (hr : Strs.Row W v l) (_hl : l.length ≤ 9223372036854775807) (_hw : ∀ n ∈ l, n.size ≤ maxLen) (_wa : a.size ≤ maxLen) (_wb : b.size ≤ maxLen) (_wt : t.size ≤ maxLen) (hT : Tabs W) :
    Calls Tryd.prog 3 #[v, .agg #[.string a, .string b], .string t] W fun e w' => e = .returned (.bool true) ∧ Below W.heap.size W w' := back_walk v l a b t W hr hT
end Go.Proofs.YtpjopidmcahbdaaDoor.Txt
