/- From a row's listed variables to what the walks ask: the two tables of unicode/utf8, and that strconv.ErrSyntax and strconv.ErrRange hold errors; the four laws. Conditions: as each theorem states. -/
import Derived.Test.YtbikbniaoceodaaDoorLexK
import Derived.Test.YtbikbniaoceodaaDoorLexL
import Derived.Test.YtbikbniaoceodaaDoorLexM
import Derived.Test.YtbikbniaoceodaaDoorLexJ
import Derived.Test.YtbikbniaoceodaaDoorOpn
import Derived.LaidMore
import Derived.Stop.LaidErr
import Derived.Lib.LaidU8T
import Derived.PinnedBridge
namespace Go.Proofs.YtbikbniaoceodaaDoor.Lx
open Go.ChangeShapes Go.WideShapes Go.ChangeAt Go.RowKit Go.Lib Go.Proofs.YtbikbniaoceodaaDoor.Utf

theorem star : "*" ++ "errors.errorString" = "*errors.errorString" := by decide
theorem row_err (u : TypeId) (h : Tryd.prog.typeName? 3 u = some "*errors.errorString") : u = 97 :=
  typeName_ptr_named (nm := "errors.errorString") (by rw [star]; kernel_rfl) (by kernel_rfl) (by decide) u (by rw [star]; exact h)
theorem env_of {W : World} (h : laidMetH Tryd.prog Rows.lexSaysRow.laid W) : Env W := by
  rw [MakeChecks.laidMetH_plain _ _ _ (by kernel_rfl)] at h
  have e1 : (Rows.laid_unicode_utf8_acceptRanges : DataW Unit) = Lib.acceptData := by kernel_rfl
  have e2 : Rows.laid_unicode_utf8_first = Lib.firstData := Pinned.utf8First_eq
  have h1 := Lib.laidMet.reads h (.tail _ (.tail _ (.tail _ (.head _))))
  have h2 := Lib.laidMet.reads h (.tail _ (.tail _ (.tail _ (.tail _ (.tail _ (.tail _ (.head _)))))))
  rw [e1] at h1
  rw [e2] at h2
  refine ⟨utf8Tabs_of_readsT (U8Types.of260 Tryd.lays260) ⟨by kernel_rfl, by kernel_rfl, by kernel_rfl, by kernel_rfl, by kernel_rfl, by kernel_rfl, by kernel_rfl⟩ h2 h1, ?_, ?_⟩
  · obtain ⟨a, s, hv, _⟩ := laid_sentinel h.tail.tail.tail.tail.tail (g := 1) (ti := 46) (tp := 97) (te := 99) (by kernel_rfl) (by kernel_rfl) Tryd.underlying46 row_err Tryd.underlying97 Tryd.underlying99 rfl rfl Tryd.underlying9 (by kernel_rfl) (by kernel_rfl)
    exact ⟨_, _, by simpa using World.var?_cell (show Tryd.prog.globalNamed "strconv.ErrSyntax" = some 1 by kernel_rfl) hv 0⟩
  · obtain ⟨a, s, hv, _⟩ := laid_sentinel h.tail.tail.tail.tail (g := 2) (ti := 46) (tp := 97) (te := 99) (by kernel_rfl) (by kernel_rfl) Tryd.underlying46 row_err Tryd.underlying97 Tryd.underlying99 rfl rfl Tryd.underlying9 (by kernel_rfl) (by kernel_rfl)
    exact ⟨_, _, by simpa using World.var?_cell (show Tryd.prog.globalNamed "strconv.ErrRange" = some 2 by kernel_rfl) hv 0⟩
theorem u8_bd {n : Int} (h : (Lit.int .u8 n).wf = true) : 0 ≤ n ∧ n ≤ 255 := bounds_u8 h

theorem says_law {W : World} (s : ByteArray) (a : Int) (_ws : s.size ≤ maxLen) (wa : (Lit.int .i64 a).wf = true) (hE : Env W) :
    Calls Tryd.prog 3 #[.string s, .int .i64 a] W fun e w' => e = .returned (.bool true) ∧ Below W.heap.size W w' := says_walk s a W hE (Opn.i64_bd wa).1 (Opn.i64_bd wa).2
theorem fills_law {W : World} (s : ByteArray) (_ws : s.size ≤ maxLen) (hE : Env W) :
    Calls Tryd.prog 4 #[.string s] W fun e w' => e = .returned (.bool true) ∧ Below W.heap.size W w' := fills_walk s W hE
theorem again_law {W : World} (s : ByteArray) (a : Int) (_ws : s.size ≤ maxLen) (wa : (Lit.int .u8 a).wf = true) (hE : Env W) :
    Calls Tryd.prog 5 #[.string s, .int .u8 a] W fun e w' => e = .returned (.bool true) ∧ Below W.heap.size W w' := again_walk s a W hE (u8_bd wa).1 (u8_bd wa).2
theorem numbers_law {W : World} (n a : Int) (wn : (Lit.int .i64 n).wf = true) (wa : (Lit.int .u8 a).wf = true) (hE : Env W) :
    Calls Tryd.prog 6 #[.int .i64 n, .int .u8 a] W fun e w' => e = .returned (.bool true) ∧ Below W.heap.size W w' := numbers_walk n a W hE (Opn.i64_bd wn).1 (Opn.i64_bd wn).2 (u8_bd wa).1 (u8_bd wa).2
end Go.Proofs.YtbikbniaoceodaaDoor.Lx
