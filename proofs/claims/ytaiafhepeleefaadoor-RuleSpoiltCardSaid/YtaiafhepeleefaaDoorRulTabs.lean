/- From a row's listed variables to the tables; how a rule that came in is opened; the three laws. Conditions: as each theorem states. -/
import Derived.Test.YtaiafhepeleefaaDoorRulI
import Derived.Test.YtaiafhepeleefaaDoorRulJ
import Derived.Test.YtaiafhepeleefaaDoorRulK
import Derived.ProofKit
import Derived.OpenShut
import Derived.WideShapes
import Derived.ChangeSlices
import Derived.LaidMore
import Derived.Lib.LaidU8
import Derived.Lib.LaidU8T
import Derived.PinnedBridge
namespace Go.Proofs.YtaiafhepeleefaaDoor.Rul
open Go.ChangeShapes Go.WideShapes Go.ChangeAt Go.RowKit Go.Lib

theorem utf_of {W : World} (h : laidMetH Tryd.prog Rows.ruleSaysRow.laid W) : Utf.Tabs W := by
  rw [MakeChecks.laidMetH_plain _ _ _ (by kernel_rfl)] at h
  have e1 : (Rows.laid_unicode_utf8_acceptRanges : DataW Unit) = Lib.acceptData := by kernel_rfl
  have e2 : Rows.laid_unicode_utf8_first = Lib.firstData := Pinned.utf8First_eq
  have h1 := Lib.laidMet.reads h (.head _)
  have h2 := Lib.laidMet.reads h (.tail _ (.tail _ (.head _)))
  rw [e1] at h1
  rw [e2] at h2
  exact utf8Tabs_of_readsT (U8Types.of260 Tryd.lays260) ⟨by kernel_rfl, by kernel_rfl, by kernel_rfl, by kernel_rfl, by kernel_rfl, by kernel_rfl, by kernel_rfl⟩ h2 h1
theorem tab_of {W : World} (h : laidMetH Tryd.prog Rows.ruleSaysRow.laid W) : Tab W := by
  rw [MakeChecks.laidMetH_plain _ _ _ (by kernel_rfl)] at h
  obtain ⟨g, t, cs, fuel, p, hg, hty, hvar, hd⟩ := Lib.laidMet.reads h (.tail _ (.head _))
  obtain rfl := Option.some.inj ((show Tryd.prog.globalNamed "stoplog/rule.names" = some 0 by kernel_rfl).symm.trans hg)
  obtain rfl := Option.some.inj ((show (Tryd.prog.globals[0]?).map (·.type) = some 46 by kernel_rfl).symm.trans hty)
  have k0 : Tryd.prog.cellsOf 9 = 1 := by kernel_rfl
  intro u hu
  unfold Rows.laid_stoplog_rule_names at hd
  obtain ⟨fuel', d, q, hdi, he⟩ := array_elem Tryd.underlying46 hd u hu
  rw [k0, Nat.mul_one] at he
  obtain ⟨s, hs, rfl⟩ : ∃ s : List UInt8, kB u = ⟨s.toArray⟩ ∧ d = .lit (.string s) := by
    match u, hu with
    | 0, _ => exact ⟨_, rfl, (Option.some.inj hdi).symm⟩
    | 1, _ => exact ⟨_, rfl, (Option.some.inj hdi).symm⟩
    | 2, _ => exact ⟨_, rfl, (Option.some.inj hdi).symm⟩
    | 3, _ => exact ⟨_, rfl, (Option.some.inj hdi).symm⟩
  rw [hs]
  clear hs hdi
  obtain ⟨s', hs', e', _⟩ := DataW.trod_string Tryd.underlying9 he
  simp only [Prod.mk.injEq, DataW.lit.injEq, Lit.string.injEq] at e'
  have es : (⟨s.toArray⟩ : ByteArray) = s' := by rw [e'.1]
  rw [es]
  have c0 := congrArg (·[0]?) hs'
  simp only [List.getElem?_take, List.getElem?_drop] at c0
  rw [World.var?_cell hg hvar u, ← Array.getElem?_toList]
  simpa using c0

set_option maxRecDepth 100000 in
/-- A rule that came in. -/
theorem open_rule {H : Type} {enc : TypeId × Value → H} {W : World} {base b0 : Nat} {held : Bool} {v : Value} {d : DataW H} {ps : List MemPlace} {r : Reach}
    (hval : Value.okWide Tryd.prog W r b0 23 v) (hd : DataW.Trod enc Tryd.prog W base (fun _ => true) held 23 v d ps) :
    ∃ x : Ru, v = .agg (ruC x) ∧ x.id.size ≤ 9223372036854775807 ∧ x.no.size ≤ 9223372036854775807 ∧ x.ro.size ≤ 9223372036854775807 := by
  obtain ⟨cs, rfl, hz⟩ := okWide_struct Tryd.underlying23 hval
  obtain ⟨fuel, hf⟩ := hd
  have hc13 : Tryd.prog.cellsOf 23 = 13 := by kernel_rfl
  have i1 : Tryd.prog.cellsOf 9 = 1 := by kernel_rfl
  have i2 : Tryd.prog.cellsOf 3 = 1 := by kernel_rfl
  rw [hc13] at hz
  obtain ⟨xs, n, _, _, _, hxl, hall⟩ := DataW.trod_struct Tryd.underlying23 hf
  simp only [Value.cells] at hall
  obtain ⟨l⟩ := cs
  match l, hz with
  | [c0, c1, c2, c3, c4, c5, c6, c7, c8, c9, c10, c11, c12], _ =>
    match xs, hxl with
    | [y0, y1, y2, y3, y4, y5, y6, y7, y8, y9, y10, y11, y12], _ =>
      have h0 : DataW.trod enc Tryd.prog W base (fun _ => true) held n 9 [c0] = some y0 := by
        have e : DataW.trod enc Tryd.prog W base (fun _ => true) held n 9 (List.take (Tryd.prog.cellsOf 9) (List.drop 0 [c0, c1, c2, c3, c4, c5, c6, c7, c8, c9, c10, c11, c12])) = some y0 := hall 0 _ rfl
        rw [i1] at e
        exact e
      have h1 : DataW.trod enc Tryd.prog W base (fun _ => true) held n 9 [c1] = some y1 := by
        have e : DataW.trod enc Tryd.prog W base (fun _ => true) held n 9 (List.take (Tryd.prog.cellsOf 9) (List.drop 1 [c0, c1, c2, c3, c4, c5, c6, c7, c8, c9, c10, c11, c12])) = some y1 := hall 1 _ rfl
        rw [i1] at e
        exact e
      have h2 : DataW.trod enc Tryd.prog W base (fun _ => true) held n 9 [c2] = some y2 := by
        have e : DataW.trod enc Tryd.prog W base (fun _ => true) held n 9 (List.take (Tryd.prog.cellsOf 9) (List.drop 2 [c0, c1, c2, c3, c4, c5, c6, c7, c8, c9, c10, c11, c12])) = some y2 := hall 2 _ rfl
        rw [i1] at e
        exact e
      have h3 : DataW.trod enc Tryd.prog W base (fun _ => true) held n 3 [c3] = some y3 := by
        have e : DataW.trod enc Tryd.prog W base (fun _ => true) held n 3 (List.take (Tryd.prog.cellsOf 3) (List.drop 3 [c0, c1, c2, c3, c4, c5, c6, c7, c8, c9, c10, c11, c12])) = some y3 := hall 3 _ rfl
        rw [i2] at e
        exact e
      have h4 : DataW.trod enc Tryd.prog W base (fun _ => true) held n 3 [c4] = some y4 := by
        have e : DataW.trod enc Tryd.prog W base (fun _ => true) held n 3 (List.take (Tryd.prog.cellsOf 3) (List.drop 4 [c0, c1, c2, c3, c4, c5, c6, c7, c8, c9, c10, c11, c12])) = some y4 := hall 4 _ rfl
        rw [i2] at e
        exact e
      have h5 : DataW.trod enc Tryd.prog W base (fun _ => true) held n 3 [c5] = some y5 := by
        have e : DataW.trod enc Tryd.prog W base (fun _ => true) held n 3 (List.take (Tryd.prog.cellsOf 3) (List.drop 5 [c0, c1, c2, c3, c4, c5, c6, c7, c8, c9, c10, c11, c12])) = some y5 := hall 5 _ rfl
        rw [i2] at e
        exact e
      have h6 : DataW.trod enc Tryd.prog W base (fun _ => true) held n 3 [c6] = some y6 := by
        have e : DataW.trod enc Tryd.prog W base (fun _ => true) held n 3 (List.take (Tryd.prog.cellsOf 3) (List.drop 6 [c0, c1, c2, c3, c4, c5, c6, c7, c8, c9, c10, c11, c12])) = some y6 := hall 6 _ rfl
        rw [i2] at e
        exact e
      have h7 : DataW.trod enc Tryd.prog W base (fun _ => true) held n 3 [c7] = some y7 := by
        have e : DataW.trod enc Tryd.prog W base (fun _ => true) held n 3 (List.take (Tryd.prog.cellsOf 3) (List.drop 7 [c0, c1, c2, c3, c4, c5, c6, c7, c8, c9, c10, c11, c12])) = some y7 := hall 7 _ rfl
        rw [i2] at e
        exact e
      have h8 : DataW.trod enc Tryd.prog W base (fun _ => true) held n 3 [c8] = some y8 := by
        have e : DataW.trod enc Tryd.prog W base (fun _ => true) held n 3 (List.take (Tryd.prog.cellsOf 3) (List.drop 8 [c0, c1, c2, c3, c4, c5, c6, c7, c8, c9, c10, c11, c12])) = some y8 := hall 8 _ rfl
        rw [i2] at e
        exact e
      have h9 : DataW.trod enc Tryd.prog W base (fun _ => true) held n 3 [c9] = some y9 := by
        have e : DataW.trod enc Tryd.prog W base (fun _ => true) held n 3 (List.take (Tryd.prog.cellsOf 3) (List.drop 9 [c0, c1, c2, c3, c4, c5, c6, c7, c8, c9, c10, c11, c12])) = some y9 := hall 9 _ rfl
        rw [i2] at e
        exact e
      have h10 : DataW.trod enc Tryd.prog W base (fun _ => true) held n 3 [c10] = some y10 := by
        have e : DataW.trod enc Tryd.prog W base (fun _ => true) held n 3 (List.take (Tryd.prog.cellsOf 3) (List.drop 10 [c0, c1, c2, c3, c4, c5, c6, c7, c8, c9, c10, c11, c12])) = some y10 := hall 10 _ rfl
        rw [i2] at e
        exact e
      have h11 : DataW.trod enc Tryd.prog W base (fun _ => true) held n 3 [c11] = some y11 := by
        have e : DataW.trod enc Tryd.prog W base (fun _ => true) held n 3 (List.take (Tryd.prog.cellsOf 3) (List.drop 11 [c0, c1, c2, c3, c4, c5, c6, c7, c8, c9, c10, c11, c12])) = some y11 := hall 11 _ rfl
        rw [i2] at e
        exact e
      have h12 : DataW.trod enc Tryd.prog W base (fun _ => true) held n 3 [c12] = some y12 := by
        have e : DataW.trod enc Tryd.prog W base (fun _ => true) held n 3 (List.take (Tryd.prog.cellsOf 3) (List.drop 12 [c0, c1, c2, c3, c4, c5, c6, c7, c8, c9, c10, c11, c12])) = some y12 := hall 12 _ rfl
        rw [i2] at e
        exact e
      obtain ⟨a0, e0, _, w0⟩ := DataW.trod_string Tryd.underlying9 h0
      obtain ⟨a1, e1, _, w1⟩ := DataW.trod_string Tryd.underlying9 h1
      obtain ⟨a2, e2, _, w2⟩ := DataW.trod_string Tryd.underlying9 h2
      obtain ⟨a3, e3, _, _⟩ := DataW.trod_int Tryd.underlying3 h3
      obtain ⟨a4, e4, _, _⟩ := DataW.trod_int Tryd.underlying3 h4
      obtain ⟨a5, e5, _, _⟩ := DataW.trod_int Tryd.underlying3 h5
      obtain ⟨a6, e6, _, _⟩ := DataW.trod_int Tryd.underlying3 h6
      obtain ⟨a7, e7, _, _⟩ := DataW.trod_int Tryd.underlying3 h7
      obtain ⟨a8, e8, _, _⟩ := DataW.trod_int Tryd.underlying3 h8
      obtain ⟨a9, e9, _, _⟩ := DataW.trod_int Tryd.underlying3 h9
      obtain ⟨a10, e10, _, _⟩ := DataW.trod_int Tryd.underlying3 h10
      obtain ⟨a11, e11, _, _⟩ := DataW.trod_int Tryd.underlying3 h11
      obtain ⟨a12, e12, _, _⟩ := DataW.trod_int Tryd.underlying3 h12
      simp only [List.cons.injEq, and_true] at e0 e1 e2 e3 e4 e5 e6 e7 e8 e9 e10 e11 e12
      subst e0 e1 e2 e3 e4 e5 e6 e7 e8 e9 e10 e11 e12
      exact ⟨⟨a0, a1, a2, a3, a4, a5, a6, a7, a8, a9, a10, a11, a12⟩, rfl, w0, w1, w2⟩

theorem says_law {W : World} (x : Ru) (s : ByteArray) (s1 : x.id.size ≤ 9223372036854775807) (s2 : x.no.size ≤ 9223372036854775807) (s3 : x.ro.size ≤ 9223372036854775807) (_ws : s.size ≤ maxLen) (h : Tab W ∧ Utf.Tabs W) :
    Calls Tryd.prog 3 #[.agg (ruC x), .string s] W fun e W' => e = .returned (.bool true) ∧ Below W.heap.size W W' := says_any x s W h.1 h.2 s1 s2 s3
theorem canon_law {W : World} (x : Ru) (s1 : x.id.size ≤ 9223372036854775807) (s2 : x.no.size ≤ 9223372036854775807) (s3 : x.ro.size ≤ 9223372036854775807) (h : Tab W ∧ Utf.Tabs W) :
    Calls Tryd.prog 4 #[.agg (ruC x)] W fun e W' => e = .returned (.bool true) ∧ Below W.heap.size W W' := canon_law_any x W h.1 h.2 s1 s2 s3
theorem spoilt_law {W : World} (x : Ru) (k n : Int) (s1 : x.id.size ≤ 9223372036854775807) (s2 : x.no.size ≤ 9223372036854775807) (s3 : x.ro.size ≤ 9223372036854775807) (wk : (Lit.int .u8 k).wf = true) (_wn : (Lit.int .i64 n).wf = true) (h : Tab W ∧ Utf.Tabs W) :
    Calls Tryd.prog 5 #[.agg (ruC x), .int .u8 k, .int .i64 n] W fun e W' => e = .returned (.bool true) ∧ Below W.heap.size W W' :=
  spoilt_any x k n W h.1 h.2 s1 s2 s3 (by have := bounds_u8 wk; omega) (by have := bounds_u8 wk; omega)
theorem both_of {W : World} (h : laidMetH Tryd.prog Rows.ruleSaysRow.laid W) : Tab W ∧ Utf.Tabs W := ⟨tab_of h, utf_of h⟩
end Go.Proofs.YtaiafhepeleefaaDoor.Rul
