/- From a row's listed variables to what the walks ask: the two tables of unicode/utf8, and that strconv.ErrSyntax holds an error; the four laws. Conditions: as each theorem states. -/
import Derived.Test.YthnfbajdjkpbpaaDoorQuoH
import Derived.Test.YthnfbajdjkpbpaaDoorOpn
import Derived.LaidMore
import Derived.Stop.LaidErr
import Derived.Lib.LaidU8T
import Derived.PinnedBridge
namespace Go.Proofs.YthnfbajdjkpbpaaDoor.Quo
open Go.ChangeShapes Go.WideShapes Go.ChangeAt Go.RowKit Go.Lib Go.Proofs.YthnfbajdjkpbpaaDoor.Utf

theorem star : "*" ++ "errors.errorString" = "*errors.errorString" := by decide
theorem row_err (u : TypeId) (h : Tryd.prog.typeName? 3 u = some "*errors.errorString") : u = 96 :=
  typeName_ptr_named (nm := "errors.errorString") (by rw [star]; kernel_rfl) (by kernel_rfl) (by decide) u (by rw [star]; exact h)
theorem env_of {W : World} (h : laidMetH Tryd.prog Rows.quoteSaysRow.laid W) : Env W := by
  rw [MakeChecks.laidMetH_plain _ _ _ (by kernel_rfl)] at h
  have e1 : (Rows.laid_unicode_utf8_acceptRanges : DataW Unit) = Lib.acceptData := by kernel_rfl
  have e2 : Rows.laid_unicode_utf8_first = Lib.firstData := Pinned.utf8First_eq
  have h1 := Lib.laidMet.reads h (.tail _ (.tail _ (.tail _ (.head _))))
  have h2 := Lib.laidMet.reads h (.tail _ (.tail _ (.tail _ (.tail _ (.tail _ (.tail _ (.head _)))))))
  rw [e1] at h1
  rw [e2] at h2
  refine ⟨utf8Tabs_of_readsT (U8Types.of260 Tryd.lays260) ⟨by kernel_rfl, by kernel_rfl, by kernel_rfl, by kernel_rfl, by kernel_rfl, by kernel_rfl, by kernel_rfl⟩ h2 h1, ?_⟩
  obtain ⟨a, s, hv, _⟩ := laid_sentinel h.tail.tail.tail.tail.tail (g := 1) (ti := 47) (tp := 96) (te := 98) (by kernel_rfl) (by kernel_rfl) Tryd.underlying47 row_err Tryd.underlying96 Tryd.underlying98 rfl rfl Tryd.underlying9 (by kernel_rfl) (by kernel_rfl)
  exact ⟨_, _, by simpa using World.var?_cell (show Tryd.prog.globalNamed "strconv.ErrSyntax" = some 1 by kernel_rfl) hv 0⟩

theorem says_law {W : World} (s t : ByteArray) (a : Int) (_ws : s.size ≤ maxLen) (_wt : t.size ≤ maxLen) (wa : (Lit.int .i64 a).wf = true) (hE : Env W) :
    Calls Tryd.prog 3 #[.string s, .string t, .int .i64 a] W fun e w' => e = .returned (.bool true) ∧ Below W.heap.size W w' := says_walk s t a W hE (Opn.i64_bd wa).1 (Opn.i64_bd wa).2
theorem back_law {W : World} (s a b : ByteArray) (_ws : s.size ≤ maxLen) (_wa : a.size ≤ maxLen) (_wb : b.size ≤ maxLen) (hE : Env W) :
    Calls Tryd.prog 4 #[.string s, .agg #[.string a, .string b]] W fun e w' => e = .returned (.bool true) ∧ Below W.heap.size W w' := back_walk s a b W hE
theorem takes_law {W : World} (t : ByteArray) (a : Int) (_wt : t.size ≤ maxLen) (wa : (Lit.int .i64 a).wf = true) (hE : Env W) :
    Calls Tryd.prog 5 #[.string t, .int .i64 a] W fun e w' => e = .returned (.bool true) ∧ Below W.heap.size W w' := takes_walk t a W hE (Opn.i64_bd wa).1 (Opn.i64_bd wa).2
theorem digits_law {W : World} (a : Int) (wa : (Lit.int .i64 a).wf = true) (hE : Env W) :
    Calls Tryd.prog 6 #[.int .i64 a] W fun e w' => e = .returned (.bool true) ∧ Below W.heap.size W w' := digits_walk a W hE (Opn.i64_bd wa).1 (Opn.i64_bd wa).2
end Go.Proofs.YthnfbajdjkpbpaaDoor.Quo
