/- The statements VarintRises and VarintZigs as contracts over every input. Conditions: the arguments fit their kinds. -/
import Derived.Test.YtpjopidmcahbdaaDoorVarD
namespace Go.Proofs.YtpjopidmcahbdaaDoor.Var
open Go.RowKit Go.Lib Go.Proofs.YtpjopidmcahbdaaDoor.Byt

/-- The string that Put gives. -/
def putS (n : Nat) : ByteArray := ⟨(putV n).toArray⟩
theorem putS_size (n : Nat) : (putS n).size = (putV n).length := by
  show (List.toArray _).size = _; simp
theorem putS_list (n : Nat) : (putS n).toList = putV n := ByteArray.toList_mk _
theorem putS_ne {a b : Nat} (h : a ≠ b) : ((putS a).toList == (putS b).toList) = false := by
  rw [putS_list, putS_list, beq_eq_false_iff_ne]; exact fun h2 => h (putV_inj h2)
theorem puts_any (n : Nat) (w : World) (hn : n < 18446744073709551616) :
    Calls Tryd.prog 11 #[.int .u64 (n : Int)] w fun e w' => e = .returned (.string (putS n)) ∧ Below w.heap.size w w' := put_any n w hn

end Go.Proofs.YtpjopidmcahbdaaDoor.Var
