/- From a row's listed variables to the tables that the walks ask for. Conditions: as each theorem states. -/
import Derived.Test.YthkopnobekohcaaGreatDoorTwoEv
import Derived.ProofKit
import Derived.OpenShut
import Derived.WideShapes
import Derived.ChangeSlices
import Derived.LaidMore
import Derived.Stop.LaidErr
import Derived.Lib.LaidTab
import Derived.Lib.LaidU8
import Derived.Lib.LaidU8T
import Derived.PinnedBridge
import Derived.Test.YthkopnobekohcaaGreatDoorTwoP1
import Derived.Test.YthkopnobekohcaaGreatDoorTwoP2
namespace Go.Proofs.YthkopnobekohcaaGreatDoor.Two
open Go.ChangeShapes Go.WideShapes Go.ChangeAt Go.RowKit Go.Lib

/-- The tables that the rows of this stage list, in their order. -/
def tabs : List (String × DataW Unit) := [("math/bits.deBruijn32tab", Rows.laid_math_bits_deBruijn32tab), ("math/bits.deBruijn64tab", Rows.laid_math_bits_deBruijn64tab), ("internal/strconv.uint64pow10", Rows.laid_internal_strconv_uint64pow10), ("unicode/utf8.acceptRanges", Rows.laid_unicode_utf8_acceptRanges), ("stoplog/unit.units", Rows.laid_stoplog_unit_units), ("stoplog/settwo.names", Rows.laid_stoplog_settwo_names), ("unicode/utf8.first", Rows.laid_unicode_utf8_first)]
theorem utf_of {W : World} (h : laidMetH Tryz.prog tabs W) : Utf.Tabs W := by
  rw [MakeChecks.laidMetH_plain _ _ _ (by kernel_rfl)] at h
  have e1 : (Rows.laid_unicode_utf8_acceptRanges : DataW Unit) = Lib.acceptData := by kernel_rfl
  have e2 : Rows.laid_unicode_utf8_first = Lib.firstData := Pinned.utf8First_eq
  have h1 := Lib.laidMet.reads h (.tail _ (.tail _ (.tail _ (.head _))))
  have h2 := Lib.laidMet.reads h (.tail _ (.tail _ (.tail _ (.tail _ (.tail _ (.tail _ (.head _)))))))
  rw [e1] at h1
  rw [e2] at h2
  exact utf8Tabs_of_readsT (U8Types.of260 Tryz.lays260) ⟨by kernel_rfl, by kernel_rfl, by kernel_rfl, by kernel_rfl, by kernel_rfl, by kernel_rfl, by kernel_rfl⟩ h2 h1
theorem uni_of {W : World} (h : laidMetH Tryz.prog tabs W) : Uni.Tab W := by
  rw [MakeChecks.laidMetH_plain _ _ _ (by kernel_rfl)] at h
  obtain ⟨g, t, cs, fuel, p, hg, hty, hvar, hd⟩ := Lib.laidMet.reads h (.tail _ (.tail _ (.tail _ (.tail _ (.head _)))))
  obtain rfl := Option.some.inj ((show Tryz.prog.globalNamed "stoplog/unit.units" = some 1 by kernel_rfl).symm.trans hg)
  obtain rfl := Option.some.inj ((show (Tryz.prog.globals[1]?).map (·.type) = some 71 by kernel_rfl).symm.trans hty)
  have hc2 : Tryz.prog.cellsOf 70 = 2 := by kernel_rfl
  intro u hu
  unfold Rows.laid_stoplog_unit_units at hd
  obtain ⟨fuel', d, q, hdi, he⟩ := array_elem Tryz.underlying71 hd u hu
  rw [hc2] at he
  obtain ⟨s, z, hs, hz, rfl⟩ : ∃ (s : List UInt8) (z : Int), Uni.nmB u = ⟨s.toArray⟩ ∧ Uni.sz u = z ∧ d = .agg [.lit (.string s), .lit (.int .i64 z)] := by
    match u, hu with
    | 0, _ => exact ⟨_, _, rfl, rfl, (Option.some.inj hdi).symm⟩
    | 1, _ => exact ⟨_, _, rfl, rfl, (Option.some.inj hdi).symm⟩
    | 2, _ => exact ⟨_, _, rfl, rfl, (Option.some.inj hdi).symm⟩
    | 3, _ => exact ⟨_, _, rfl, rfl, (Option.some.inj hdi).symm⟩
  rw [hs, hz]
  clear hs hz hdi
  obtain ⟨xs, n, rfl, hx, hl, hxl, hall⟩ := DataW.trod_struct Tryz.underlying70 he
  have x0 := hall 0 _ rfl
  have x1 := hall 1 _ rfl
  match xs, hxl with
  | [y, z'], _ =>
    have hx2 := congrArg Prod.fst hx
    simp only [List.map_cons, List.map_nil, DataW.agg.injEq, List.cons.injEq, and_true] at hx2
    obtain ⟨e0, e1⟩ := hx2
    obtain ⟨s', hs', rfl, _⟩ := DataW.trod_string Tryz.underlying9 (show _ = some y from x0)
    obtain ⟨z2, hz', rfl, _⟩ := DataW.trod_int Tryz.underlying3 (show _ = some z' from x1)
    simp only [DataW.lit.injEq, Lit.string.injEq, Lit.int.injEq, true_and] at e0 e1
    subst e1
    have k0 : Tryz.prog.cellsOf 9 = 1 := by kernel_rfl
    have k1 : Tryz.prog.cellsOf 3 = 1 := by kernel_rfl
    have h0 : List.take (Tryz.prog.cellsOf 9) (List.drop 0 (List.take 2 (List.drop (u * 2) cs.toList))) = [.string s'] := hs'
    have h1 : List.take (Tryz.prog.cellsOf 3) (List.drop 1 (List.take 2 (List.drop (u * 2) cs.toList))) = [.int .i64 z] := hz'
    rw [k0] at h0
    rw [k1] at h1
    have c0 := congrArg (·[0]?) h0
    have c1 := congrArg (·[0]?) h1
    simp only [List.getElem?_take, List.getElem?_drop] at c0 c1
    have es : (⟨s.toArray⟩ : ByteArray) = s' := by rw [e0]
    rw [es]
    constructor
    · rw [World.var?_cell hg hvar (u * 2), ← Array.getElem?_toList]
      simpa using c0
    · rw [World.var?_cell hg hvar (u * 2 + 1), ← Array.getElem?_toList]
      simpa using c1

theorem pow_of {W : World} (h : laidMetH Tryz.prog tabs W) : Ren.Pw W := by
  rw [MakeChecks.laidMetH_plain _ _ _ (by kernel_rfl)] at h
  have e3 : (Rows.laid_internal_strconv_uint64pow10 : DataW Unit) = Lib.tabData .u64 Lib.pow10Tab := by kernel_rfl
  have h3 := h.tail.tail
  rw [e3] at h3
  exact Lib.tabIs_of_head (n := 20) (g := 3) (by kernel_rfl) rfl (by kernel_rfl) Tryz.underlying84 (by kernel_rfl) (by kernel_rfl) h3
theorem nam_of {W : World} (h : laidMetH Tryz.prog tabs W) : Nt W := by
  rw [MakeChecks.laidMetH_plain _ _ _ (by kernel_rfl)] at h
  obtain ⟨g, t, cs, fuel, p, hg, hty, hvar, hd⟩ := Lib.laidMet.reads h (.tail _ (.tail _ (.tail _ (.tail _ (.tail _ (.head _))))))
  obtain rfl := Option.some.inj ((show Tryz.prog.globalNamed "stoplog/settwo.names" = some 0 by kernel_rfl).symm.trans hg)
  obtain rfl := Option.some.inj ((show (Tryz.prog.globals[0]?).map (·.type) = some 43 by kernel_rfl).symm.trans hty)
  have k0 : Tryz.prog.cellsOf 9 = 1 := by kernel_rfl
  intro u hu
  unfold Rows.laid_stoplog_settwo_names at hd
  obtain ⟨fuel', d, q, hdi, he⟩ := array_elem Tryz.underlying43 hd u hu
  rw [k0, Nat.mul_one] at he
  obtain ⟨s, hs, rfl⟩ : ∃ s : List UInt8, kB u = ⟨s.toArray⟩ ∧ d = .lit (.string s) := by
    match u, hu with
    | 0, _ => exact ⟨_, rfl, (Option.some.inj hdi).symm⟩
    | 1, _ => exact ⟨_, rfl, (Option.some.inj hdi).symm⟩
    | 2, _ => exact ⟨_, rfl, (Option.some.inj hdi).symm⟩
  rw [hs]
  clear hs hdi
  obtain ⟨s', hs', e', _⟩ := DataW.trod_string Tryz.underlying9 he
  simp only [Prod.mk.injEq, DataW.lit.injEq, Lit.string.injEq] at e'
  have es : (⟨s.toArray⟩ : ByteArray) = s' := by rw [e'.1]
  rw [es]
  have c0 := congrArg (·[0]?) hs'
  simp only [List.getElem?_take, List.getElem?_drop] at c0
  rw [World.var?_cell hg hvar u, ← Array.getElem?_toList]
  simpa using c0
theorem ev_of {W : World} (h : laidMetH Tryz.prog tabs W) : Ev W := ⟨utf_of h, uni_of h, pow_of h, nam_of h⟩
theorem fit_of {L : List Rw} (h : ∀ x ∈ L, Fits x) : Fit L := fun r hr => by
  have k := h r hr
  have w := k.wi
  simp only [Lit.wf, IntKind.min, IntKind.max, IntKind.signed, IntKind.bits, Bool.and_eq_true] at w
  exact ⟨k.id, k.no, k.ma, by simp at w; omega, by simp at w; omega⟩
end Go.Proofs.YthkopnobekohcaaGreatDoor.Two
