/- From a row's listed variable to the table of effects; how an array of four bytes is opened. Conditions: as each theorem states. -/
import Derived.Test.YtnknchadlhcdbaaDoorFrmH
import Derived.ProofKit
import Derived.OpenShut
import Derived.WideShapes
import Derived.ChangeSlices
import Derived.LaidMore
import Derived.Lib.LaidTab
namespace Go.Proofs.YtnknchadlhcdbaaDoor.Frm
open Go.ChangeShapes Go.WideShapes Go.ChangeAt Go.RowKit Go.Lib Go.Proofs.YtnknchadlhcdbaaDoor.Crc

theorem tab_of {W : World} (h : laidMetH Tryd.prog Rows.frameSaysRow.laid W) : Tab W := by
  rw [MakeChecks.laidMetH_plain _ _ _ (by kernel_rfl)] at h
  have e1 : (Rows.laid_stoplog_crc_effects : DataW Unit) = Lib.tabData .u32 effL := by kernel_rfl
  have h2 : laidMet Tryd.prog [("stoplog/crc.effects", Lib.tabData .u32 effL)] W := by
    rw [← e1]; exact h
  have hT := Lib.tabIs_of_head (n := 16) (g := 0) (by kernel_rfl) rfl (by kernel_rfl) Tryd.underlying38 (by kernel_rfl) (by kernel_rfl) h2
  intro i hi
  exact hT.cell (by kernel_rfl) i hi

theorem open_four {H : Type} {enc : TypeId × Value → H} {W : World} {base b0 : Nat} {held : Bool} {r : Reach} {v : Value} {d : DataW H} {ps : List MemPlace}
    (hval : Value.okWide Tryd.prog W r b0 31 v) (hd : DataW.Trod enc Tryd.prog W base (fun _ => true) held 31 v d ps) :
    ∃ a b c f : Int, v = .agg #[.int .u8 a, .int .u8 b, .int .u8 c, .int .u8 f] ∧ (Lit.int .u8 a).wf = true ∧ (Lit.int .u8 b).wf = true ∧ (Lit.int .u8 c).wf = true ∧ (Lit.int .u8 f).wf = true :=
  Opn.open_int4 Tryd.underlying31 (by kernel_rfl) (by kernel_rfl) Tryd.underlying5 hval hd
end Go.Proofs.YtnknchadlhcdbaaDoor.Frm
