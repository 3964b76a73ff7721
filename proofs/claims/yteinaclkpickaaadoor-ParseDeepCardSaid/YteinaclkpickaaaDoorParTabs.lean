/- From a row's listed variables to what the walks ask: the two tables of unicode/utf8, and that strconv.ErrSyntax and strconv.ErrRange hold errors; the laws. Conditions: as each theorem states. -/
import Derived.Test.YteinaclkpickaaaDoorParG4
import Derived.Test.YteinaclkpickaaaDoorOpn
import Derived.LaidMore
import Derived.Stop.LaidErr
import Derived.Lib.LaidU8T
import Derived.PinnedBridge
namespace Go.Proofs.YteinaclkpickaaaDoor.Par
open Go.ChangeShapes Go.WideShapes Go.ChangeAt Go.RowKit Go.Lib Go.Proofs.YteinaclkpickaaaDoor.Utf Go.Proofs.YteinaclkpickaaaDoor.Lx

theorem star : "*" ++ "errors.errorString" = "*errors.errorString" := by decide
theorem row_err (u : TypeId) (h : Tryd.prog.typeName? 3 u = some "*errors.errorString") : u = 108 :=
  typeName_ptr_named (nm := "errors.errorString") (by rw [star]; kernel_rfl) (by kernel_rfl) (by decide) u (by rw [star]; exact h)
theorem env_of {W : World} (h : laidMetH Tryd.prog Rows.parseRightRow.laid W) : Env W := by
  rw [MakeChecks.laidMetH_plain _ _ _ (by kernel_rfl)] at h
  have e1 : (Rows.laid_unicode_utf8_acceptRanges : DataW Unit) = Lib.acceptData := by kernel_rfl
  have e2 : Rows.laid_unicode_utf8_first = Lib.firstData := Pinned.utf8First_eq
  have h1 := Lib.laidMet.reads h (.tail _ (.tail _ (.tail _ (.head _))))
  have h2 := Lib.laidMet.reads h (.tail _ (.tail _ (.tail _ (.tail _ (.tail _ (.tail _ (.head _)))))))
  rw [e1] at h1
  rw [e2] at h2
  refine ⟨utf8Tabs_of_readsT (U8Types.of260 Tryd.lays260) ⟨by kernel_rfl, by kernel_rfl, by kernel_rfl, by kernel_rfl, by kernel_rfl, by kernel_rfl, by kernel_rfl⟩ h2 h1, ?_, ?_⟩
  · obtain ⟨a, s, hv, _⟩ := laid_sentinel h.tail.tail.tail.tail.tail (g := 1) (ti := 65) (tp := 108) (te := 110) (by kernel_rfl) (by kernel_rfl) Tryd.underlying65 row_err Tryd.underlying108 Tryd.underlying110 rfl rfl Tryd.underlying9 (by kernel_rfl) (by kernel_rfl)
    exact ⟨_, _, by simpa using World.var?_cell (show Tryd.prog.globalNamed "strconv.ErrSyntax" = some 1 by kernel_rfl) hv 0⟩
  · obtain ⟨a, s, hv, _⟩ := laid_sentinel h.tail.tail.tail.tail (g := 2) (ti := 65) (tp := 108) (te := 110) (by kernel_rfl) (by kernel_rfl) Tryd.underlying65 row_err Tryd.underlying108 Tryd.underlying110 rfl rfl Tryd.underlying9 (by kernel_rfl) (by kernel_rfl)
    exact ⟨_, _, by simpa using World.var?_cell (show Tryd.prog.globalNamed "strconv.ErrRange" = some 2 by kernel_rfl) hv 0⟩
theorem u8_bd {n : Int} (h : (Lit.int .u8 n).wf = true) : 0 ≤ n ∧ n < 256 := by
  obtain ⟨m, rfl, hm⟩ := Opn.u8_nat h
  exact ⟨by omega, by omega⟩
theorem u16_bd {n : Int} (h : (Lit.int .u16 n).wf = true) : 0 ≤ n ∧ n < 65536 := by
  obtain ⟨m, rfl, hm⟩ := Opn.u16_nat h
  exact ⟨by omega, by omega⟩
theorem right_law {W : World} (s : ByteArray) (a : Int) (_ws : s.size ≤ maxLen) (wa : (Lit.int .u8 a).wf = true) (hE : Env W) :
    Calls Tryd.prog 3 #[.string s, .int .u8 a] W fun e w' => e = .returned (.bool true) ∧ Below W.heap.size W w' := right_walk s a W hE (u8_bd wa).1 (u8_bd wa).2
theorem deep_law {W : World} (a : Int) (ob : Bool) (wa : (Lit.int .u16 a).wf = true) (hE : Env W) :
    Calls Tryd.prog 4 #[.int .u16 a, .bool ob] W fun e w' => e = .returned (.bool true) ∧ Below W.heap.size W w' := deep_walk a ob W hE (u16_bd wa).1 (u16_bd wa).2
end Go.Proofs.YteinaclkpickaaaDoor.Par
