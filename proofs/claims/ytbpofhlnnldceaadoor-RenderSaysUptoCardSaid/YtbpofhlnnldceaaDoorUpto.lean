/- For a statement where what is read is of a bounded bulk: the witness, and what the bound says. Conditions: as each theorem states. -/
import Derived.Test.YtbpofhlnnldceaaDoorRows
import Derived.Deep.DeepHandedRow
import Derived.LaidLaws
namespace Go.Proofs.YtbpofhlnnldceaaDoor.Upto

theorem witness {H : Type} {enc : TypeId × Value → H} {C : Checked} {os : Os} {f : FuncId} {fn : Func} {s : OpenSpec} {conds : List PathCond} {apart : Bool} {laid : List (String × DataW Unit)} (modest : Bool) (w0 : World) (args : Array Value) (hos : w0.os = os)
    (hsh : (w0.forCall (fun _ _ => 0) ⟨#[], args, []⟩).Shaped C.prog)
    (hok : Input.okWideB C.prog (w0.forCall (fun _ _ => 0) ⟨#[], args, []⟩) f ⟨#[], args, []⟩ = true)
    (hrow : s.preRow enc C.prog fn conds apart laid (w0.forCall (fun _ _ => 0) ⟨#[], args, []⟩).memory args) :
    ∃ (w : World) (tape : Tape) (i : Input), w.os = os ∧ (w.forCall tape i).Shaped C.prog ∧ i.vars = [] ∧ Input.okWide C.prog (w.forCall tape i) .any w.heap.size f i ∧
      s.preRow enc C.prog fn conds apart laid (w.forCall tape i).memory i.args ∧ ({ modest := modest } : Assume).holds C.prog (lone (Frame.enter C.prog f i.args .normal) [] (w.forCall tape i)) :=
  ⟨w0, fun _ _ => 0, ⟨#[], args, []⟩, hos, hsh, (Input.okWide_of_okWideB (base := 0) hok).1, (Input.okWide_of_okWideB hok).2, hrow, by
    simp only [Assume.holds]
    exact ⟨by simp, by simp, fun _ => Modest.zero, by simp, by simp⟩⟩
theorem reads {H : Type} {o : Option (List (DataW H) × List (DataW H) × List MemPlace)} (h : o.map (fun x => Rows.uptoSmall H (x.1 ++ x.2.1)) = some true) : ∃ x, o = some x ∧ Rows.uptoSmall H (x.1 ++ x.2.1) = true := by
  cases o with
  | none => cases h
  | some x => exact ⟨x, rfl, Option.some.inj h⟩
theorem bound {H : Type} {l : List (DataW H)} (h : Rows.uptoSmall H l = true) : Rows.uptoBulkAll l ≤ 1048576 := of_decide_eq_true h
theorem one {H : Type} {a : DataW H} {l : List (DataW H)} (h : Rows.uptoSmall H (a :: l) = true) : Rows.uptoBulk a ≤ 1048576 := by
  have := bound h
  simp only [Rows.uptoBulkAll] at this
  omega
theorem two {H : Type} {a b : DataW H} {l : List (DataW H)} (h : Rows.uptoSmall H (a :: b :: l) = true) : Rows.uptoBulk b ≤ 1048576 := by
  have := bound h
  simp only [Rows.uptoBulkAll] at this
  omega
end Go.Proofs.YtbpofhlnnldceaaDoor.Upto
