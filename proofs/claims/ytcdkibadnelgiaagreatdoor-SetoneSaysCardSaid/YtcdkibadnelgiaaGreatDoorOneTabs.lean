/- From a row's listed variables to the tables that the walks ask for. Conditions: as each theorem states. -/
import Derived.Test.YtcdkibadnelgiaaGreatDoorOneP3
import Derived.ProofKit
import Derived.OpenShut
import Derived.WideShapes
import Derived.ChangeSlices
import Derived.LaidMore
import Derived.Stop.LaidErr
import Derived.Lib.LaidTab
import Derived.Test.YtcdkibadnelgiaaGreatDoorOneP1
namespace Go.Proofs.YtcdkibadnelgiaaGreatDoor.One
open Go.ChangeShapes Go.WideShapes Go.ChangeAt Go.RowKit Go.Lib

/-- The tables that the rows of this stage list, in their order. -/
def tabs : List (String × DataW Unit) := [("math/bits.deBruijn32tab", Rows.laid_math_bits_deBruijn32tab), ("math/bits.deBruijn64tab", Rows.laid_math_bits_deBruijn64tab), ("internal/strconv.uint64pow10", Rows.laid_internal_strconv_uint64pow10)]
theorem pow_of {W : World} (h : laidMetH Tryz.prog tabs W) : Ren.Pw W := by
  rw [MakeChecks.laidMetH_plain _ _ _ (by kernel_rfl)] at h
  have e3 : (Rows.laid_internal_strconv_uint64pow10 : DataW Unit) = Lib.tabData .u64 Lib.pow10Tab := by kernel_rfl
  have h3 := h.tail.tail
  rw [e3] at h3
  exact Lib.tabIs_of_head (n := 20) (g := 2) (by kernel_rfl) rfl (by kernel_rfl) Tryz.underlying46 (by kernel_rfl) (by kernel_rfl) h3
theorem fit_of {L : List Ro} (h : ∀ x ∈ L, Fits x) : Fit L := fun r hr => ⟨(h r hr).nm, (h r hr).pa, Real.lt_of_wf (h r hr).ps⟩
end Go.Proofs.YtcdkibadnelgiaaGreatDoor.One
