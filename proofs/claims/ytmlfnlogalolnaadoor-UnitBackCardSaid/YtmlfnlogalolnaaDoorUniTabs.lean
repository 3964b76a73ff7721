/- From a row's listed variable to the table of units. Conditions: as each theorem states. -/
import Derived.Test.YtmlfnlogalolnaaDoorUniD
import Derived.ProofKit
import Derived.OpenShut
import Derived.WideShapes
import Derived.ChangeSlices
import Derived.LaidMore
import Derived.Lib.LaidU8
namespace Go.Proofs.YtmlfnlogalolnaaDoor.Uni
open Go.ChangeShapes Go.WideShapes Go.ChangeAt Go.RowKit Go.Lib

theorem tab_of {W : World} (h : laidMetH Tryd.prog Rows.unitSaysRow.laid W) : Tab W := by
  rw [MakeChecks.laidMetH_plain _ _ _ (by kernel_rfl)] at h
  obtain ⟨g, t, cs, fuel, p, hg, hty, hvar, hd⟩ := Lib.laidMet.reads h (.head _)
  obtain rfl := Option.some.inj ((show Tryd.prog.globalNamed "stoplog/unit.units" = some 0 by kernel_rfl).symm.trans hg)
  obtain rfl := Option.some.inj ((show (Tryd.prog.globals[0]?).map (·.type) = some 36 by kernel_rfl).symm.trans hty)
  have hc2 : Tryd.prog.cellsOf 35 = 2 := by kernel_rfl
  intro u hu
  unfold Rows.laid_stoplog_unit_units at hd
  obtain ⟨fuel', d, q, hdi, he⟩ := array_elem Tryd.underlying36 hd u hu
  rw [hc2] at he
  obtain ⟨s, z, hs, hz, rfl⟩ : ∃ (s : List UInt8) (z : Int), nmB u = ⟨s.toArray⟩ ∧ sz u = z ∧ d = .agg [.lit (.string s), .lit (.int .i64 z)] := by
    match u, hu with
    | 0, _ => exact ⟨_, _, rfl, rfl, (Option.some.inj hdi).symm⟩
    | 1, _ => exact ⟨_, _, rfl, rfl, (Option.some.inj hdi).symm⟩
    | 2, _ => exact ⟨_, _, rfl, rfl, (Option.some.inj hdi).symm⟩
    | 3, _ => exact ⟨_, _, rfl, rfl, (Option.some.inj hdi).symm⟩
  rw [hs, hz]
  clear hs hz hdi
  obtain ⟨xs, n, rfl, hx, hl, hxl, hall⟩ := DataW.trod_struct Tryd.underlying35 he
  have x0 := hall 0 _ rfl
  have x1 := hall 1 _ rfl
  match xs, hxl with
  | [y, z'], _ =>
    have hx2 := congrArg Prod.fst hx
    simp only [List.map_cons, List.map_nil, DataW.agg.injEq, List.cons.injEq, and_true] at hx2
    obtain ⟨e0, e1⟩ := hx2
    obtain ⟨s', hs', rfl, _⟩ := DataW.trod_string Tryd.underlying9 (show _ = some y from x0)
    obtain ⟨z2, hz', rfl, _⟩ := DataW.trod_int Tryd.underlying3 (show _ = some z' from x1)
    simp only [DataW.lit.injEq, Lit.string.injEq, Lit.int.injEq, true_and] at e0 e1
    subst e1
    have k0 : Tryd.prog.cellsOf 9 = 1 := by kernel_rfl
    have k1 : Tryd.prog.cellsOf 3 = 1 := by kernel_rfl
    have h0 : List.take (Tryd.prog.cellsOf 9) (List.drop 0 (List.take 2 (List.drop (u * 2) cs.toList))) = [.string s'] := hs'
    have h1 : List.take (Tryd.prog.cellsOf 3) (List.drop 1 (List.take 2 (List.drop (u * 2) cs.toList))) = [.int .i64 z] := hz'
    rw [k0] at h0
    rw [k1] at h1
    have c0 := congrArg (·[0]?) h0
    have c1 := congrArg (·[0]?) h1
    simp only [List.getElem?_take, List.getElem?_drop] at c0 c1
    have es : (⟨s.toArray⟩ : ByteArray) = s' := by rw [e0]
    rw [es]
    constructor
    · rw [World.var?_cell hg hvar (u * 2), ← Array.getElem?_toList]
      simpa using c0
    · rw [World.var?_cell hg hvar (u * 2 + 1), ← Array.getElem?_toList]
      simpa using c1

theorem says_law {W : World} (n u : Int) (s : ByteArray) (wn : (Lit.int .i64 n).wf = true) (_wu : (Lit.int .i64 u).wf = true) (_ws : s.size ≤ maxLen) (hT : Tab W) :
    Calls Tryd.prog 3 #[.int .i64 n, .int .i64 u, .string s] W fun e W' => e = .returned (.bool true) ∧ Below W.heap.size W W' :=
  says_any n u s W (bounds_i64 wn).1 (bounds_i64 wn).2 hT
theorem back_law {W : World} (t n u : Int) (_wt : (Lit.int .i64 t).wf = true) (wn : (Lit.int .i64 n).wf = true) (_wu : (Lit.int .i64 u).wf = true) (hT : Tab W) :
    Calls Tryd.prog 4 #[.int .i64 t, .int .i64 n, .int .i64 u] W fun e W' => e = .returned (.bool true) ∧ Below W.heap.size W W' :=
  back_any t n u W (bounds_i64 wn).1 (bounds_i64 wn).2 hT
end Go.Proofs.YtmlfnlogalolnaaDoor.Uni
