/- From a row's listed variables to what the walks ask: the two tables of unicode/utf8, and that strconv.ErrSyntax and strconv.ErrRange hold errors; the laws. Conditions: as each theorem states. -/
import Derived.Test.YteinaclkpickaaaGreatDoorParZ
import Derived.Test.YteinaclkpickaaaGreatDoorOpn
import Derived.LaidMore
import Derived.Stop.LaidErr
import Derived.Lib.LaidU8T
import Derived.PinnedBridge
namespace Go.Proofs.YteinaclkpickaaaGreatDoor.Par
open Go.ChangeShapes Go.WideShapes Go.ChangeAt Go.RowKit Go.Lib Go.Proofs.YteinaclkpickaaaGreatDoor.Utf Go.Proofs.YteinaclkpickaaaGreatDoor.Lx

theorem star : "*" ++ "errors.errorString" = "*errors.errorString" := by decide
theorem row_err (u : TypeId) (h : Tryz.prog.typeName? 3 u = some "*errors.errorString") : u = 130 :=
  typeName_ptr_named (nm := "errors.errorString") (by rw [star]; kernel_rfl) (by kernel_rfl) (by decide) u (by rw [star]; exact h)
theorem env_of {W : World} (h : laidMetH Tryz.prog Rows.parseSaysRow.laid W) : Env W := by
  rw [MakeChecks.laidMetH_plain _ _ _ (by kernel_rfl)] at h
  have e1 : (Rows.laid_unicode_utf8_acceptRanges : DataW Unit) = Lib.acceptData := by kernel_rfl
  have e2 : Rows.laid_unicode_utf8_first = Lib.firstData := Pinned.utf8First_eq
  have h1 := Lib.laidMet.reads h (.tail _ (.tail _ (.tail _ (.head _))))
  have h2 := Lib.laidMet.reads h (.tail _ (.tail _ (.tail _ (.tail _ (.tail _ (.tail _ (.head _)))))))
  rw [e1] at h1
  rw [e2] at h2
  refine ⟨utf8Tabs_of_readsT (U8Types.of260 Tryz.lays260) ⟨by kernel_rfl, by kernel_rfl, by kernel_rfl, by kernel_rfl, by kernel_rfl, by kernel_rfl, by kernel_rfl⟩ h2 h1, ?_, ?_⟩
  · obtain ⟨a, s, hv, _⟩ := laid_sentinel h.tail.tail.tail.tail.tail (g := 1) (ti := 81) (tp := 130) (te := 132) (by kernel_rfl) (by kernel_rfl) Tryz.underlying81 row_err Tryz.underlying130 Tryz.underlying132 rfl rfl Tryz.underlying9 (by kernel_rfl) (by kernel_rfl)
    exact ⟨_, _, by simpa using World.var?_cell (show Tryz.prog.globalNamed "strconv.ErrSyntax" = some 1 by kernel_rfl) hv 0⟩
  · obtain ⟨a, s, hv, _⟩ := laid_sentinel h.tail.tail.tail.tail (g := 2) (ti := 81) (tp := 130) (te := 132) (by kernel_rfl) (by kernel_rfl) Tryz.underlying81 row_err Tryz.underlying130 Tryz.underlying132 rfl rfl Tryz.underlying9 (by kernel_rfl) (by kernel_rfl)
    exact ⟨_, _, by simpa using World.var?_cell (show Tryz.prog.globalNamed "strconv.ErrRange" = some 2 by kernel_rfl) hv 0⟩
theorem says_law {W : World} (s : ByteArray) (_ws : s.size ≤ maxLen) (hE : Env W) :
    Calls Tryz.prog 3 #[.string s] W fun e w' => e = .returned (.bool true) ∧ Below W.heap.size W w' := says_walk s W hE
theorem grammar_law {W : World} (s : ByteArray) (_ws : s.size ≤ maxLen) (hE : Env W) :
    Calls Tryz.prog 4 #[.string s] W fun e w' => e = .returned (.bool true) ∧ Below W.heap.size W w' := grammar_walk s W hE
end Go.Proofs.YteinaclkpickaaaGreatDoor.Par
