/- From a row's listed variables to the tables that the walks ask for. Conditions: as each theorem states. -/
import Derived.Test.YtoodiledcphclaaGreatDoorThrP3
import Derived.ProofKit
import Derived.OpenShut
import Derived.WideShapes
import Derived.ChangeSlices
import Derived.LaidMore
import Derived.Stop.LaidErr
import Derived.Lib.LaidTab
import Derived.Lib.LaidU8
import Derived.Lib.LaidU8T
import Derived.PinnedBridge
import Derived.Test.YtoodiledcphclaaGreatDoorRulP4
namespace Go.Proofs.YtoodiledcphclaaGreatDoor.Thr
open Go.ChangeShapes Go.WideShapes Go.ChangeAt Go.RowKit Go.Lib
open Go.Proofs.YtoodiledcphclaaGreatDoor.Rul (Ru)

/-- The tables that the rows of this stage list, in their order. -/
def tabs : List (String × DataW Unit) := [("math/bits.deBruijn32tab", Rows.laid_math_bits_deBruijn32tab), ("math/bits.deBruijn64tab", Rows.laid_math_bits_deBruijn64tab), ("internal/strconv.uint64pow10", Rows.laid_internal_strconv_uint64pow10), ("unicode/utf8.acceptRanges", Rows.laid_unicode_utf8_acceptRanges), ("stoplog/rule.names", Rows.laid_stoplog_rule_names), ("unicode/utf8.first", Rows.laid_unicode_utf8_first)]
theorem utf_of {W : World} (h : laidMetH Tryz.prog tabs W) : Utf.Tabs W := by
  rw [MakeChecks.laidMetH_plain _ _ _ (by kernel_rfl)] at h
  have e1 : (Rows.laid_unicode_utf8_acceptRanges : DataW Unit) = Lib.acceptData := by kernel_rfl
  have e2 : Rows.laid_unicode_utf8_first = Lib.firstData := Pinned.utf8First_eq
  have h1 := Lib.laidMet.reads h (.tail _ (.tail _ (.tail _ (.head _))))
  have h2 := Lib.laidMet.reads h (.tail _ (.tail _ (.tail _ (.tail _ (.tail _ (.head _))))))
  rw [e1] at h1
  rw [e2] at h2
  exact utf8Tabs_of_readsT (U8Types.of260 Tryz.lays260) ⟨by kernel_rfl, by kernel_rfl, by kernel_rfl, by kernel_rfl, by kernel_rfl, by kernel_rfl, by kernel_rfl⟩ h2 h1
theorem tab_of {W : World} (h : laidMetH Tryz.prog tabs W) : Rul.Tab W := by
  rw [MakeChecks.laidMetH_plain _ _ _ (by kernel_rfl)] at h
  obtain ⟨g, t, cs, fuel, p, hg, hty, hvar, hd⟩ := Lib.laidMet.reads h (.tail _ (.tail _ (.tail _ (.tail _ (.head _)))))
  obtain rfl := Option.some.inj ((show Tryz.prog.globalNamed "stoplog/rule.names" = some 0 by kernel_rfl).symm.trans hg)
  obtain rfl := Option.some.inj ((show (Tryz.prog.globals[0]?).map (·.type) = some 83 by kernel_rfl).symm.trans hty)
  have k0 : Tryz.prog.cellsOf 9 = 1 := by kernel_rfl
  intro u hu
  unfold Rows.laid_stoplog_rule_names at hd
  obtain ⟨fuel', d, q, hdi, he⟩ := array_elem Tryz.underlying83 hd u hu
  rw [k0, Nat.mul_one] at he
  obtain ⟨s, hs, rfl⟩ : ∃ s : List UInt8, Rul.kB u = ⟨s.toArray⟩ ∧ d = .lit (.string s) := by
    match u, hu with
    | 0, _ => exact ⟨_, rfl, (Option.some.inj hdi).symm⟩
    | 1, _ => exact ⟨_, rfl, (Option.some.inj hdi).symm⟩
    | 2, _ => exact ⟨_, rfl, (Option.some.inj hdi).symm⟩
    | 3, _ => exact ⟨_, rfl, (Option.some.inj hdi).symm⟩
  rw [hs]
  clear hs hdi
  obtain ⟨s', hs', e', _⟩ := DataW.trod_string Tryz.underlying9 he
  simp only [Prod.mk.injEq, DataW.lit.injEq, Lit.string.injEq] at e'
  have es : (⟨s.toArray⟩ : ByteArray) = s' := by rw [e'.1]
  rw [es]
  have c0 := congrArg (·[0]?) hs'
  simp only [List.getElem?_take, List.getElem?_drop] at c0
  rw [World.var?_cell hg hvar u, ← Array.getElem?_toList]
  simpa using c0
theorem pow_of {W : World} (h : laidMetH Tryz.prog tabs W) : Ren.Pw W := by
  rw [MakeChecks.laidMetH_plain _ _ _ (by kernel_rfl)] at h
  have e3 : (Rows.laid_internal_strconv_uint64pow10 : DataW Unit) = Lib.tabData .u64 Lib.pow10Tab := by kernel_rfl
  have h3 := h.tail.tail
  rw [e3] at h3
  exact Lib.tabIs_of_head (n := 20) (g := 2) (by kernel_rfl) rfl (by kernel_rfl) Tryz.underlying76 (by kernel_rfl) (by kernel_rfl) h3
theorem ev_of {W : World} (h : laidMetH Tryz.prog tabs W) : Ev W := ⟨tab_of h, utf_of h, pow_of h⟩
theorem fit_of {L : List Ru} (h : ∀ x ∈ L, Rul.Fits x) : Fit L := fun r hr => ⟨(h r hr).id, (h r hr).no, (h r hr).ro⟩
end Go.Proofs.YtoodiledcphclaaGreatDoor.Thr
