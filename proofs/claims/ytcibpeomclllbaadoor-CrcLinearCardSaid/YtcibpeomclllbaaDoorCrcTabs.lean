/- From a row's listed variable to the table of effects; how an array of four bytes is opened. Conditions: as each theorem states. -/
import Derived.Test.YtcibpeomclllbaaDoorCrcG
import Derived.ProofKit
import Derived.OpenShut
import Derived.WideShapes
import Derived.ChangeSlices
import Derived.LaidMore
import Derived.Lib.LaidTab
namespace Go.Proofs.YtcibpeomclllbaaDoor.Crc
open Go.ChangeShapes Go.WideShapes Go.ChangeAt Go.RowKit Go.Lib

theorem tab_of {W : World} (h : laidMetH Tryd.prog Rows.crcSaysRow.laid W) : Tab W := by
  rw [MakeChecks.laidMetH_plain _ _ _ (by kernel_rfl)] at h
  have e1 : (Rows.laid_stoplog_crc_effects : DataW Unit) = Lib.tabData .u32 effL := by kernel_rfl
  have h2 : laidMet Tryd.prog [("stoplog/crc.effects", Lib.tabData .u32 effL)] W := by
    rw [← e1]; exact h
  have hT := Lib.tabIs_of_head (n := 16) (g := 0) (by kernel_rfl) rfl (by kernel_rfl) Tryd.underlying22 (by kernel_rfl) (by kernel_rfl) h2
  intro i hi
  exact hT.cell (by kernel_rfl) i hi

section
variable {H : Type} {enc : TypeId × Value → H} {P : Program} {W : World} {base : Nat} {sp : Nat → Bool} {held : Bool}
theorem open_int4 {k e : TypeId} {q : IntKind} (hu : P.underlying k = some (.array 4 e)) (one : P.cellsOf e = 1) (size : P.cellsOf k = 4) (he : P.underlying e = some (.int q)) {r : Reach} {b0 : Nat} {v : Value} {d : DataW H} {ps : List MemPlace}
    (hval : Value.okWide P W r b0 k v) (hd : DataW.Trod enc P W base sp held k v d ps) :
    ∃ a b c f : Int, v = .agg #[.int q a, .int q b, .int q c, .int q f] ∧ (Lit.int q a).wf = true ∧ (Lit.int q b).wf = true ∧ (Lit.int q c).wf = true ∧ (Lit.int q f).wf = true := by
  obtain ⟨cs, rfl, hn, fuel, h⟩ := Opn.open_array hu one size hval hd
  match cs, hn with
  | [x, y, z, u], _ =>
    obtain ⟨⟨_, _⟩, h0⟩ := h 0 x rfl
    obtain ⟨⟨_, _⟩, h1⟩ := h 1 y rfl
    obtain ⟨⟨_, _⟩, h2⟩ := h 2 z rfl
    obtain ⟨⟨_, _⟩, h3⟩ := h 3 u rfl
    obtain ⟨a, ea, _, wa⟩ := DataW.trod_int he h0
    obtain ⟨b, eb, _, wb⟩ := DataW.trod_int he h1
    obtain ⟨c, ec, _, wc⟩ := DataW.trod_int he h2
    obtain ⟨f, ef, _, wf⟩ := DataW.trod_int he h3
    simp at ea eb ec ef
    subst ea; subst eb; subst ec; subst ef
    exact ⟨a, b, c, f, rfl, wa, wb, wc, wf⟩
end
theorem open_four {H : Type} {enc : TypeId × Value → H} {W : World} {base b0 : Nat} {held : Bool} {r : Reach} {v : Value} {d : DataW H} {ps : List MemPlace}
    (hval : Value.okWide Tryd.prog W r b0 28 v) (hd : DataW.Trod enc Tryd.prog W base (fun _ => true) held 28 v d ps) :
    ∃ a b c f : Int, v = .agg #[.int .u8 a, .int .u8 b, .int .u8 c, .int .u8 f] ∧ (Lit.int .u8 a).wf = true ∧ (Lit.int .u8 b).wf = true ∧ (Lit.int .u8 c).wf = true ∧ (Lit.int .u8 f).wf = true :=
  open_int4 Tryd.underlying28 (by kernel_rfl) (by kernel_rfl) Tryd.underlying5 hval hd
end Go.Proofs.YtcibpeomclllbaaDoor.Crc
