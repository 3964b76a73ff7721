/- Texts of my own, packed: TreG1. Conditions: as each theorem states. -/
import Derived.ProofKit
import Derived.OpenShut
import Derived.WideShapes
import Derived.ChangeSlices
import Derived.SliceStrings
import Derived.Deep.Slices
import Derived.Deep.Fields
import Derived.Deep.MidRow
import Derived.SizedLaws
import Derived.Laws.CopyOwn
import Derived.Lib.OthersKept
import Derived.Maps.OwnSet
import Derived.Maps.OwnOps
import Derived.StringKeys
import Derived.Test.YtehkiojohldlgaaGreatDoorK01
import Derived.Test.YtehkiojohldlgaaGreatDoorK02
import Derived.Test.YtehkiojohldlgaaGreatDoorK06
namespace Go.Proofs.YtehkiojohldlgaaGreatDoor.Tre
open Go.RowKit Go.Lib Go.Proofs.YtehkiojohldlgaaGreatDoor.Byt

mutual
/-- Five cells hold that value. -/
def InV (w : World) : Vt → List Value → Prop
  | .mk k n s l ns, cs => ∃ a cap c4, cs = [.int .i64 k, .int .i64 n, .string s, .slice a l.length cap, c4] ∧ (l ≠ [] → ∃ b off, a = some ⟨b, off, none⟩ ∧ InL w l b off) ∧ Strs.Row w c4 ns
/-- From place off of block b on lie those values. -/
def InL (w : World) : List Vt → Nat → Nat → Prop
  | [], _, _ => True
  | x :: l, b, off => (∃ cs, w.rangeAt b off cs ∧ InV w x cs) ∧ InL w l b (off + 5)
end
theorem InL_all (w : World) (b : Nat) : ∀ (l : List Vt) (off : Nat), InL w l b off ↔ ∀ j, j < l.length → ∃ cs, w.rangeAt b (off + 5 * j) cs ∧ InV w (l.getD j V0) cs
  | [], off => by rw [InL]; simp
  | x :: l, off => by
    rw [InL, InL_all w b l (off + 5)]
    constructor
    · rintro ⟨h1, h2⟩ j hj
      cases j with
      | zero => exact h1
      | succ j =>
        have := h2 j (by simpa using hj)
        rwa [show off + 5 + 5 * j = off + 5 * (j + 1) by omega] at this
    · intro h
      refine ⟨h 0 (by simp), fun j hj => ?_⟩
      have := h (j + 1) (by simpa using hj)
      rwa [show off + 5 * (j + 1) = off + 5 + 5 * j by omega] at this
theorem InV_iff (w : World) (v : Vt) (cs : List Value) : InV w v cs ↔ ∃ a cap c4, cs = [.int .i64 v.k, .int .i64 v.n, .string v.s, .slice a v.l.length cap, c4] ∧ (∀ j, j < v.l.length → ∃ b off, a = some ⟨b, off, none⟩ ∧ ∃ ds, w.rangeAt b (off + 5 * j) ds ∧ InV w (v.l.getD j V0) ds) ∧ Strs.Row w c4 v.ns := by
  cases v with
  | mk k n s l ns =>
    rw [InV]
    constructor
    · rintro ⟨a, cap, c4, h1, h2, h3⟩
      refine ⟨a, cap, c4, h1, fun j hj => ?_, h3⟩
      obtain ⟨b, off, e, hl⟩ := h2 (by rintro rfl; simp [Vt.l] at hj)
      exact ⟨b, off, e, (InL_all w b l off).1 hl j hj⟩
    · rintro ⟨a, cap, c4, h1, h2, h3⟩
      refine ⟨a, cap, c4, h1, fun hne => ?_, h3⟩
      have hp := List.length_pos_iff.2 hne
      obtain ⟨b, off, e, _⟩ := h2 0 hp
      refine ⟨b, off, e, (InL_all w b l off).2 fun j hj => ?_⟩
      obtain ⟨b2, off2, e2, h⟩ := h2 j hj
      have := Option.some.inj (e.symm.trans e2)
      injection this with hb ho _
      subst hb ho
      exact h
theorem range_next {w w' : World} {b o : Nat} {cs : List Value} (h : w.rangeAt b o cs) (hb : Below w.heap.size w w') : w'.rangeAt b o cs := by
  intro j v hj
  exact (hb.cell (Strs.cell_lt (h j v hj))).trans (h j v hj)
theorem InV_next {w w' : World} (hb : Below w.heap.size w w') (v : Vt) : ∀ cs, InV w v cs → InV w' v cs := by
  refine vt_ind (p := fun v => ∀ cs, InV w v cs → InV w' v cs) ?_ v
  intro v ih cs h
  obtain ⟨a, cap, c4, h1, h2, h3⟩ := (InV_iff w v cs).1 h
  refine (InV_iff w' v cs).2 ⟨a, cap, c4, h1, fun j hj => ?_, h3.next hb⟩
  obtain ⟨b, off, e, ds, h4, h5⟩ := h2 j hj
  have hm : v.l.getD j V0 ∈ v.l := by
    rw [List.getD_eq_getElem?_getD, List.getElem?_eq_getElem hj]
    exact List.getElem_mem hj
  exact ⟨b, off, e, ds, range_next h4 hb, ih _ hm ds h5⟩

/-! ### an argument -/
/-- What every value that came in keeps to. -/
def okV (v : Vt) : Prop := (-9223372036854775808 ≤ v.k ∧ v.k ≤ 9223372036854775807) ∧ (-9223372036854775808 ≤ v.n ∧ v.n ≤ 9223372036854775807) ∧ v.s.size ≤ 140737488351232 ∧ v.l.length * 80 ≤ 140737488351232 ∧ v.ns.length * 16 ≤ 140737488351232 ∧ ∀ m ∈ v.ns, m.size ≤ 140737488351232
inductive OkT : Vt → Prop where
  | mk (v : Vt) (h : okV v) (hl : ∀ x ∈ v.l, OkT x) : OkT v
theorem info_T : Tryz.prog.cellsOf 26 = 5 := by kernel_rfl
section
open Go.ChangeShapes Go.WideShapes Go.ChangeAt
variable {H : Type} {enc : TypeId × Value → H} {w : World} {held : Bool}
/-- No part of a datum weighs more than the form's reach. -/
def Light (t : TypeId) (d : DataW H) : Prop := (d.weights Tryz.prog t).all (· ≤ reachBytes) = true
theorem reach_is : reachBytes = 140737488351232 := by decide
theorem w_arg {ts : List TypeId} {ds : List (DataW H)} (h : (DataW.weightsEach Tryz.prog ts ds).all (· ≤ reachBytes) = true) {j : Nat} {t : TypeId} {d : DataW H} (ht : ts[j]? = some t) (hd : ds[j]? = some d) : Light t d := by
  unfold Light
  rw [List.all_eq_true] at h ⊢
  exact fun n hn => h n (DataW.weights_mem_each ht hd n hn)
theorem w_field {t : TypeId} {fs : Array Field} {parts : List (DataW H)} (hu : Tryz.prog.underlying t = some (.struct fs)) (h : Light t (.agg parts)) {j : Nat} {tj : TypeId} {d : DataW H} (ht : (fs.toList.map (·.type))[j]? = some tj) (hd : parts[j]? = some d) : Light tj d := by
  refine w_arg (ts := fs.toList.map (·.type)) (ds := parts) ?_ ht hd
  unfold Light at h
  simpa only [DataW.weights, hu] using h
theorem w_all {e : TypeId} {ds : List (DataW H)} {d : DataW H} (hd : d ∈ ds) {n : Nat} (hn : n ∈ d.weights Tryz.prog e) : n ∈ DataW.weightsAll Tryz.prog e ds := by
  induction ds with
  | nil => cases hd
  | cons x l ih =>
    rw [DataW.weightsAll, List.mem_append]
    rcases List.mem_cons.1 hd with rfl | hd
    · exact .inl hn
    · exact .inr (ih hd)
theorem w_slice {t e : TypeId} {elems spare : List (DataW H)} (hu : Tryz.prog.underlying t = some (.slice e)) (h : Light t (.slice elems spare)) : (elems.length + spare.length) * Tryz.prog.bytesOf e ≤ reachBytes ∧ ∀ d ∈ elems, Light e d := by
  unfold Light at h
  simp only [DataW.weights, hu, List.all_cons, List.all_append, Bool.and_eq_true, decide_eq_true_eq] at h
  refine ⟨h.1, fun d hd => ?_⟩
  unfold Light
  rw [List.all_eq_true]
  exact fun n hn => List.all_eq_true.1 h.2.1 n (w_all hd hn)
theorem w_str {t : TypeId} {s : List UInt8} (h : Light t (DataW.lit (H := H) (.string s))) : s.length ≤ 140737488351232 := by
  unfold Light at h
  simp only [DataW.weights, List.all_cons, List.all_nil, Bool.and_true, decide_eq_true_eq] at h
  rw [reach_is] at h
  exact h
/-- A row of strings, behind its one cell. -/
theorem open_names {fuel : Nat} {c : Value} {x : DataW H × List MemPlace} (h : DataW.trod enc Tryz.prog w 0 (fun _ => true) held fuel 24 [c] = some x) (hw : Light 24 x.1) :
    ∃ xs : List ByteArray, Strs.Row w c xs ∧ xs.length * 16 ≤ 140737488351232 ∧ ∀ n ∈ xs, n.size ≤ 140737488351232 := by
  rcases open_strings Tryz.underlying24 Tryz.underlying9 (by kernel_rfl) h with ⟨hcs, _⟩ | ⟨a, len, cap, zs, hcs, _, hl, hm, hz, hx, hcell, hwz⟩
  · simp only [List.cons.injEq, and_true] at hcs
    subst hcs
    exact ⟨[], .inl ⟨rfl, _, _, rfl⟩, by simp, fun n hn => by cases hn⟩
  · simp only [List.cons.injEq, and_true] at hcs
    subst hcs hx
    simp only [if_true] at hz
    have hlen : (zs.take len).length = len := by rw [List.length_take]; omega
    obtain ⟨hw1, hw2⟩ := w_slice Tryz.underlying24 hw
    have hb : Tryz.prog.bytesOf 9 = 16 := by kernel_rfl
    rw [hb, reach_is] at hw1
    unfold strs at hw1 hw2
    rw [List.length_map, List.length_map, hlen] at hw1
    refine ⟨zs.take len, ?_, by rw [hlen]; omega, fun n hn => ?_⟩
    · by_cases h0 : len = 0
      · subst h0
        exact .inl ⟨List.take_zero, _, _, rfl⟩
      · obtain ⟨b, off, spot⟩ := a
        have hspot : spot = none := by simpa [Addr.add] using World.cell?_spot (hcell 0 (by omega))
        subst hspot
        refine .inr ⟨b, off, cap, by rw [hlen], fun j hj => ?_⟩
        have hc := hcell j (by omega)
        have e : ((⟨b, off, none⟩ : Addr).add j) = ⟨b, off + j, none⟩ := by
          rcases j with _ | j <;> simp [Addr.add]
        rw [e] at hc
        rw [hc]
        have e2 : (zs.take len).getD j ⟨#[]⟩ = zs.getD j ByteArray.empty := by
          rw [List.getD, List.getD, List.getElem?_take_of_lt (by omega)]
          rfl
        rw [e2]
    · have := w_str (hw2 _ (List.mem_map.2 ⟨n, hn, rfl⟩))
      simpa using this
theorem list_of {P : Nat → Vt → Prop} : ∀ n : Nat, (∀ i, i < n → ∃ v, P i v) → ∃ l : List Vt, l.length = n ∧ ∀ i, i < n → P i (l.getD i V0)
  | 0, _ => ⟨[], rfl, fun i h => by omega⟩
  | n + 1, h => by
    obtain ⟨l, h1, h2⟩ := list_of n fun i hi => h i (by omega)
    obtain ⟨v, hv⟩ := h n (by omega)
    refine ⟨l ++ [v], by simp [h1], fun i hi => ?_⟩
    by_cases hin : i < n
    · have : (l ++ [v]).getD i V0 = l.getD i V0 := by
        rw [List.getD_eq_getElem?_getD, List.getElem?_append_left (by omega), ← List.getD_eq_getElem?_getD]
      rw [this]; exact h2 i hin
    · obtain rfl : i = n := by omega
      have : (l ++ [v]).getD i V0 = v := by
        rw [List.getD_eq_getElem?_getD, List.getElem?_append_right (by omega), h1, Nat.sub_self]; rfl
      rw [this]; exact hv
theorem add_mul (b off i j : Nat) : ((⟨b, off, none⟩ : Addr).add (i * 5)).add j = ⟨b, off + 5 * i + j, none⟩ := by
  rw [Addr.add_mid, Addr.add_mid, Nat.mul_comm i 5]
set_option maxRecDepth 100000 in
theorem open_tree : ∀ (fuel : Nat) (cs : List Value) (x : DataW H × List MemPlace), DataW.trod enc Tryz.prog w 0 (fun _ => true) held fuel 26 cs = some x → Light 26 x.1 → ∃ v, InV w v cs ∧ OkT v := by
  intro fuel
  induction fuel using Nat.strongRecOn with
  | _ fuel ih =>
    intro cs x h hlt
    obtain ⟨xs, n, rfl, hx, hlen, hxl, hf⟩ := DataW.trod_struct Tryz.underlying26 h
    subst hx
    rw [info_T] at hlen
    obtain ⟨c0, c1, c2, c3, c4, rfl⟩ : ∃ c0 c1 c2 c3 c4, cs = [c0, c1, c2, c3, c4] := by
      match cs, hlen with
      | [a, b, c, d, e], _ => exact ⟨a, b, c, d, e, rfl⟩
    have i0 : Tryz.prog.cellsOf 3 = 1 := by kernel_rfl
    have i1 : Tryz.prog.cellsOf 2 = 1 := by kernel_rfl
    have i2 : Tryz.prog.cellsOf 9 = 1 := by kernel_rfl
    have i3 : Tryz.prog.cellsOf 23 = 1 := by kernel_rfl
    have i4 : Tryz.prog.cellsOf 24 = 1 := by kernel_rfl
    obtain ⟨y0, y1, y2, y3, y4, rfl⟩ : ∃ y0 y1 y2 y3 y4, xs = [y0, y1, y2, y3, y4] := by
      match xs, hxl with
      | [a, b, c, d, e], _ => exact ⟨a, b, c, d, e, rfl⟩
    have L2 : Light 9 y2.1 := w_field (j := 2) Tryz.underlying26 hlt rfl rfl
    have L3 : Light 23 y3.1 := w_field (j := 3) Tryz.underlying26 hlt rfl rfl
    have L4 : Light 24 y4.1 := w_field (j := 4) Tryz.underlying26 hlt rfl rfl
    have h0 : DataW.trod enc Tryz.prog w 0 (fun _ => true) held n 3 [c0] = some y0 := by
      have e : DataW.trod enc Tryz.prog w 0 (fun _ => true) held n 3 (List.take (Tryz.prog.cellsOf 3) (List.drop 0 [c0, c1, c2, c3, c4])) = some y0 := hf 0 _ rfl
      rw [i0] at e
      exact e
    have h1 : DataW.trod enc Tryz.prog w 0 (fun _ => true) held n 2 [c1] = some y1 := by
      have e : DataW.trod enc Tryz.prog w 0 (fun _ => true) held n 2 (List.take (Tryz.prog.cellsOf 2) (List.drop 1 [c0, c1, c2, c3, c4])) = some y1 := hf 1 _ rfl
      rw [i1] at e
      exact e
    have h2 : DataW.trod enc Tryz.prog w 0 (fun _ => true) held n 9 [c2] = some y2 := by
      have e : DataW.trod enc Tryz.prog w 0 (fun _ => true) held n 9 (List.take (Tryz.prog.cellsOf 9) (List.drop 2 [c0, c1, c2, c3, c4])) = some y2 := hf 2 _ rfl
      rw [i2] at e
      exact e
    have h3 : DataW.trod enc Tryz.prog w 0 (fun _ => true) held n 23 [c3] = some y3 := by
      have e : DataW.trod enc Tryz.prog w 0 (fun _ => true) held n 23 (List.take (Tryz.prog.cellsOf 23) (List.drop 3 [c0, c1, c2, c3, c4])) = some y3 := hf 3 _ rfl
      rw [i3] at e
      exact e
    have h4 : DataW.trod enc Tryz.prog w 0 (fun _ => true) held n 24 [c4] = some y4 := by
      have e : DataW.trod enc Tryz.prog w 0 (fun _ => true) held n 24 (List.take (Tryz.prog.cellsOf 24) (List.drop 4 [c0, c1, c2, c3, c4])) = some y4 := hf 4 _ rfl
      rw [i4] at e
      exact e
    obtain ⟨k, e0, _, w0⟩ := DataW.trod_int Tryz.underlying3 h0
    obtain ⟨m, e1, _, w1⟩ := DataW.trod_int Tryz.underlying2 h1
    obtain ⟨s, e2, d2, _⟩ := DataW.trod_string Tryz.underlying9 h2
    subst d2
    have w2 : s.size ≤ 140737488351232 := by simpa using w_str L2
    simp only [List.cons.injEq, and_true] at e0 e1 e2
    subst e0 e1 e2
    obtain ⟨ns, hr, hn1, hn2⟩ := open_names h4 L4
    have items : ∃ (l : List Vt) (a : Option Addr) (cap : Nat), c3 = .slice a l.length cap ∧ l.length * 80 ≤ 140737488351232 ∧ ∀ j, j < l.length → (∃ b off, a = some ⟨b, off, none⟩ ∧ ∃ ds, w.rangeAt b (off + 5 * j) ds ∧ InV w (l.getD j V0) ds) ∧ OkT (l.getD j V0) := by
      rcases DataW.trod_slice Tryz.underlying23 h3 with ⟨hcs, _⟩ | ⟨a, len, cap, elems, rest, n', rfl, hcs, d3, _, hl, hm, hel, hall, _⟩
      · simp only [List.cons.injEq, and_true] at hcs
        exact ⟨[], none, 0, hcs, by simp, fun j hj => by simp at hj⟩
      · simp only [List.cons.injEq, and_true] at hcs
        subst d3
        obtain ⟨hw1, hw2⟩ := w_slice Tryz.underlying23 L3
        have hb : Tryz.prog.bytesOf 26 = 80 := by kernel_rfl
        rw [hb, reach_is, List.length_map, List.length_map] at hw1
        rw [info_T] at hall
        have key : ∀ j, j < len → ∃ v, (∃ b off, some a = some (⟨b, off, none⟩ : Addr) ∧ ∃ ds, w.rangeAt b (off + 5 * j) ds ∧ InV w v ds) ∧ OkT v := by
          intro j hj
          have hj2 := hall j hj
          rw [List.getElem?_eq_getElem (by omega)] at hj2
          obtain ⟨ds, hds, ht⟩ := Option.bind_eq_some_iff.1 hj2
          obtain ⟨v, hv1, hv2⟩ := ih n' (by omega) ds _ ht (hw2 _ (List.mem_map.2 ⟨_, List.getElem_mem _, rfl⟩))
          obtain ⟨_, hdl, hdc⟩ := World.cells?_some hds
          obtain ⟨b, off, spot⟩ := a
          have hspot : spot = none := by
            have hz := hall 0 (by omega)
            rw [List.getElem?_eq_getElem (by omega)] at hz
            obtain ⟨ds0, hds0, _⟩ := Option.bind_eq_some_iff.1 hz
            obtain ⟨_, hdl0, hdc0⟩ := World.cells?_some hds0
            have h1 := hdc0 0 (by omega)
            rw [List.getElem?_eq_getElem (by omega)] at h1
            exact World.cell?_spot h1
          subst hspot
          refine ⟨v, ⟨b, off, rfl, ds, fun i u hu => ?_, hv1⟩, hv2⟩
          have hi5 : i < 5 := by rw [← hdl]; exact (List.getElem?_eq_some_iff.1 hu).1
          have := hdc i hi5
          rw [add_mul] at this
          rw [this, hu]
        obtain ⟨l, hll, hlp⟩ := list_of len key
        subst hll
        exact ⟨l, some a, cap, hcs, by omega, hlp⟩
    obtain ⟨l, a, cap, rfl, hll, hit⟩ := items
    refine ⟨.mk k m s l ns, (InV_iff w _ _).2 ⟨a, cap, c4, rfl, fun j hj => (hit j hj).1, hr⟩, .mk _ ⟨bounds_i64 w0, bounds_i64 w1, w2, hll, hn1, hn2⟩ fun x hx => ?_⟩
    obtain ⟨j, hj, rfl⟩ := List.getElem_of_mem hx
    have := (hit j hj).2
    rw [List.getD_eq_getElem?_getD, List.getElem?_eq_getElem (show j < l.length from hj)] at this
    exact this
set_option maxRecDepth 100000 in
/-- An argument that is a value. -/
theorem open_value {r : Reach} {b0 : Nat} {v : Value} {d : DataW H} {p : List MemPlace} (hval : Value.okWide Tryz.prog w r b0 26 v) (h : DataW.Trod enc Tryz.prog w 0 (fun _ => true) held 26 v d p) (hw : Light 26 d) :
    ∃ t cs, v = .agg cs.toArray ∧ InV w t cs ∧ OkT t := by
  obtain ⟨cs, rfl, _⟩ := okWide_struct Tryz.underlying26 hval
  obtain ⟨fuel, hf⟩ := h
  obtain ⟨t, h1, h2⟩ := open_tree fuel _ _ hf hw
  exact ⟨t, _, by simp [Value.cells], h1, h2⟩
end
end Go.Proofs.YtehkiojohldlgaaGreatDoor.Tre

namespace Go.Proofs.YtehkiojohldlgaaGreatDoor.Tre
open Go.RowKit Go.Lib Go.Proofs.YtehkiojohldlgaaGreatDoor.Byt

theorem infoV : (Tryz.prog.info? 26).map (·.size) = some 5 := by kernel_rfl
/-- A value read from a row. -/
theorem wpList_take {ops : Array Oper} {rest : List Oper} {o : Oper} {a : Act} {Q : Exit → Act → World → Prop} (W : World) (hgd : o.guard = none) (x : Operand) (ho : o.op = .load 26 x) (b f : Nat) (cs : List Value)
    (hx : a.eval x = .pointer (some ⟨b, f, none⟩)) (hc : W.rangeAt b f cs) (h5 : cs.length = 5)
    (h : wpList Tryz.prog ops Q rest (a.put o.dst (.agg cs.toArray)) W) : wpList Tryz.prog ops Q (o :: rest) a W :=
  wpList_load_mid hgd _ x ho b f hx cs _ hc Tryz.underlying26 rfl (by rw [infoV, h5]) h
theorem InV_five {w : World} {v : Vt} {cs : List Value} (h : InV w v cs) : cs.length = 5 := by
  obtain ⟨a, cap, c4, rfl, _⟩ := (InV_iff w v cs).1 h
  rfl
theorem next {a b c : World} (h : Below a.heap.size a b) (k : Below b.heap.size b c) : Below a.heap.size a c := h.trans (k.mono h.size)
theorem cntL_take (l : List Vt) (i : Nat) (h : i < l.length) : cntL (l.take (i + 1)) = cntL (l.take i) + cnt (l.getD i V0) := by
  rw [List.take_add_one, List.getElem?_eq_getElem h, Option.toList_some, List.getD_eq_getElem?_getD, List.getElem?_eq_getElem h, cntL_sum, cntL_sum, List.map_append, List.sum_append]
  simp
def wr64 (n : Int) : Int := IntKind.i64.wrap n
theorem wr_add (a b : Int) : IntKind.i64.wrap (wr64 a + wr64 b) = wr64 (a + b) := by
  unfold wr64
  rw [IntKind.wrap_i64, IntKind.wrap_i64, IntKind.wrap_i64, IntKind.wrap_i64]
  omega
theorem wr_bd (a : Int) : -9223372036854775808 ≤ wr64 a ∧ wr64 a ≤ 9223372036854775807 := by
  unfold wr64
  rw [IntKind.wrap_i64]
  omega
attribute [irreducible] wr64
theorem mem_get {l : List Vt} {i : Nat} (h : i < l.length) : l.getD i V0 ∈ l := by
  rw [List.getD_eq_getElem?_getD, List.getElem?_eq_getElem h]
  exact List.getElem_mem h

set_option maxRecDepth 100000 in
theorem rcount_any (v : Vt) : ∀ (cs : List Value) (w : World), InV w v cs → v.l.length ≤ maxLen →
    (∀ x ∈ v.l, ∀ cs w, InV w x cs → Calls Tryz.prog 8 #[.agg cs.toArray] w fun e w' => e = .returned (.int .i64 (wr64 (cnt x : Int))) ∧ Below w.heap.size w w') →
    Calls Tryz.prog 8 #[.agg cs.toArray] w fun e w' => e = .returned (.int .i64 (wr64 (cnt v : Int))) ∧ Below w.heap.size w w' := by
  intro cs w h hmax ih
  obtain ⟨a, cap, c4, rfl, hit, _⟩ := (InV_iff w v cs).1 h
  have HIT := Lib.hid hit
  have HIH := Lib.hid ih
  have hcnt : cnt v = 1 + cntL v.l := by cases v; rw [cnt]; rfl
  have HCN := Lib.hid hcnt
  clear hit ih h hcnt
  generalize v.l = l at *
  generalize cnt v = C at *
  generalize v.k = k at *
  generalize v.n = n at *
  generalize v.s = s at *
  have hmx : l.length ≤ 9223372036854775807 := by unfold maxLen at hmax; omega
  clear hmax
  go_enter Tryz.func8, Tryz.ntmps8
  go_wp2_with fail
  go_loopw [3, 8] (fun y x wr => ∃ (i : Nat) (z : Int), x = .int .i64 (i : Int) ∧ y = .int .i64 z ∧ i ≤ l.length ∧ wr.heap[w.heap.size]? = some (.cells #[.int .i64 k, .int .i64 n, .string s, .slice a l.length cap, c4] 26 (0, 0)) ∧ Below w.heap.size w wr ∧ Hid (z = wr64 ((1 + cntL (l.take i) : Nat) : Int)))
    (fun _ x _ => l.length - (RowKit.intOf x).toNat)
  case atStart => exact ⟨0, 1, by go_num, rfl, by omega, heap_alloc_new _ _, (Below.refl _ _).alloc (Nat.le_refl _) _, Lib.hid (by rw [List.take_zero, cntL]; unfold wr64; rw [IntKind.wrap_i64]; decide)⟩
  case round =>
    obtain ⟨i, z, rfl, rfl, hi, hbx, hb, hz⟩ := hrel
    have hsz := hb.size
    have hlt0 : w.heap.size < wr.heap.size := by
      rcases Nat.lt_or_ge w.heap.size wr.heap.size with h' | h'
      · exact h'
      · simp [Array.getElem?_eq_none h'] at hbx
    by_cases hlt : i < l.length
    · obtain ⟨b, off, rfl, ds, hrg, hin⟩ := HIT.out i hlt
      have hx3 : wr.cell? ⟨w.heap.size, 3, none⟩ = some (.slice (some ⟨b, off, none⟩) l.length cap) := by simp [World.cell?, hbx]
      have hrg2 := range_next hrg hb
      rw [Nat.mul_comm 5 i] at hrg2
      have hin2 := InV_next hb _ ds hin
      have hC := Lib.hid (HIH.out _ (mem_get hlt) ds wr hin2)
      have h5 := InV_five hin
      have hst := cntL_take l i hlt
      generalize l.getD i V0 = X at *
      have hbd := wr_bd (cnt X : Int)
      have hw : IntKind.i64.wrap (z + wr64 (cnt X : Int)) = wr64 ((1 + cntL (l.take (i + 1)) : Nat) : Int) := by
        rw [hz.out, wr_add, hst]
        congr 1
        omega
      have HW := Lib.hid hw
      obtain ⟨z2, hz2⟩ : ∃ z2, z2 = wr64 ((1 + cntL (l.take (i + 1)) : Nat) : Int) := ⟨_, rfl⟩
      rw [← hz2] at hw
      have HZ2 := Lib.hid hz2
      clear hst HIT HIH hz2 HW hz
      go_wp2_with (first
        | (refine wpList_take _ rfl _ rfl b (off + i * 5) ds rfl hrg2 h5 ?_)
        | (go_at_call 8; refine hC.out.mono ?_; rintro e w2 ⟨rfl, hb2⟩))
      go_roundw
      case rel => exact ⟨i + 1, z2, by go_num, rfl, by omega, (hb2.block _ hlt0).trans hbx, hb.trans (hb2.mono hsz), HZ2⟩
      case measure => simp [RowKit.intOf]; omega
    · obtain rfl : i = l.length := by omega
      have hzz := hz.out
      rw [List.take_length] at hzz
      have HZZ := Lib.hid hzz
      clear hz hzz
      go_wp2_with fail
      go_ret
      exact ⟨by rw [HCN.out, ← HZZ.out]; rfl, hb⟩
theorem rcount (v : Vt) (hv : OkT v) : ∀ (cs : List Value) (w : World), InV w v cs → Calls Tryz.prog 8 #[.agg cs.toArray] w fun e w' => e = .returned (.int .i64 (wr64 (cnt v : Int))) ∧ Below w.heap.size w w' := by
  revert hv
  refine vt_ind (p := fun v => OkT v → ∀ (cs : List Value) (w : World), InV w v cs → Calls Tryz.prog 8 #[.agg cs.toArray] w fun e w' => e = .returned (.int .i64 (wr64 (cnt v : Int))) ∧ Below w.heap.size w w') ?_ v
  intro v ih hv cs w h
  obtain ⟨_, h1, h2⟩ := hv
  exact rcount_any v cs w h (by have := h1.2.2.2.1; unfold maxLen; omega) fun x hx => ih x hx (h2 x hx)
end Go.Proofs.YtehkiojohldlgaaGreatDoor.Tre

namespace Go.Proofs.YtehkiojohldlgaaGreatDoor.Tre
open Go.RowKit Go.Lib Go.Proofs.YtehkiojohldlgaaGreatDoor.Byt

/-- A row of strings; its block is one of S. -/
def RowS (S : Nat → Prop) (w : World) (c : Value) (ns : List ByteArray) : Prop := Strs.Row w c ns ∧ (ns ≠ [] → ∀ b, c.ownBlock = some b → S b)
mutual
/-- Five cells hold that value; what they lead to lies in blocks of S. -/
def InS (S : Nat → Prop) (w : World) : Vt → List Value → Prop
  | .mk k n s l ns, cs => ∃ a cap c4, cs = [.int .i64 k, .int .i64 n, .string s, .slice a l.length cap, c4] ∧ (l ≠ [] → ∃ b off, a = some ⟨b, off, none⟩ ∧ S b ∧ InSL S w l b off) ∧ RowS S w c4 ns
def InSL (S : Nat → Prop) (w : World) : List Vt → Nat → Nat → Prop
  | [], _, _ => True
  | x :: l, b, off => (∃ cs, w.rangeAt b off cs ∧ InS S w x cs) ∧ InSL S w l b (off + 5)
end
section
variable {S S' : Nat → Prop} {w w' : World}
theorem InSL_all (b : Nat) : ∀ (l : List Vt) (off : Nat), InSL S w l b off ↔ ∀ j, j < l.length → ∃ cs, w.rangeAt b (off + 5 * j) cs ∧ InS S w (l.getD j V0) cs
  | [], off => by rw [InSL]; simp
  | x :: l, off => by
    rw [InSL, InSL_all b l (off + 5)]
    constructor
    · rintro ⟨h1, h2⟩ j hj
      cases j with
      | zero => exact h1
      | succ j =>
        have := h2 j (by simpa using hj)
        rwa [show off + 5 + 5 * j = off + 5 * (j + 1) by omega] at this
    · intro h
      refine ⟨h 0 (by simp), fun j hj => ?_⟩
      have := h (j + 1) (by simpa using hj)
      rwa [show off + 5 * (j + 1) = off + 5 + 5 * j by omega] at this
theorem InS_iff (v : Vt) (cs : List Value) : InS S w v cs ↔ ∃ a cap c4, cs = [.int .i64 v.k, .int .i64 v.n, .string v.s, .slice a v.l.length cap, c4] ∧ (∀ j, j < v.l.length → ∃ b off, a = some ⟨b, off, none⟩ ∧ S b ∧ ∃ ds, w.rangeAt b (off + 5 * j) ds ∧ InS S w (v.l.getD j V0) ds) ∧ RowS S w c4 v.ns := by
  cases v with
  | mk k n s l ns =>
    rw [InS]
    constructor
    · rintro ⟨a, cap, c4, h1, h2, h3⟩
      refine ⟨a, cap, c4, h1, fun j hj => ?_, h3⟩
      obtain ⟨b, off, e, hs, hl⟩ := h2 (by rintro rfl; simp [Vt.l] at hj)
      exact ⟨b, off, e, hs, (InSL_all b l off).1 hl j hj⟩
    · rintro ⟨a, cap, c4, h1, h2, h3⟩
      refine ⟨a, cap, c4, h1, fun hne => ?_, h3⟩
      have hp := List.length_pos_iff.2 hne
      obtain ⟨b, off, e, hs, _⟩ := h2 0 hp
      refine ⟨b, off, e, hs, (InSL_all b l off).2 fun j hj => ?_⟩
      obtain ⟨b2, off2, e2, _, h⟩ := h2 j hj
      have := Option.some.inj (e.symm.trans e2)
      injection this with hb ho _
      subst hb ho
      exact h
theorem InS_in (v : Vt) : ∀ cs, InS S w v cs → InV w v cs := by
  refine vt_ind (p := fun v => ∀ cs, InS S w v cs → InV w v cs) ?_ v
  intro v ih cs h
  obtain ⟨a, cap, c4, h1, h2, h3⟩ := (InS_iff v cs).1 h
  refine (InV_iff w v cs).2 ⟨a, cap, c4, h1, fun j hj => ?_, h3.1⟩
  obtain ⟨b, off, e, _, ds, hr, hi⟩ := h2 j hj
  exact ⟨b, off, e, ds, hr, ih _ (mem_get hj) ds hi⟩
theorem InS_five {v : Vt} {cs : List Value} (h : InS S w v cs) : cs.length = 5 := InV_five (InS_in v cs h)
theorem range_lt {b o : Nat} {cs : List Value} (h : w.rangeAt b o cs) (h5 : cs.length = 5) : b < w.heap.size :=
  Strs.cell_lt (h 0 _ (List.getElem?_eq_getElem (by omega)))
theorem row_lt {c : Value} {ns : List ByteArray} (h : Strs.Row w c ns) (hne : ns ≠ []) : ∀ b, c.ownBlock = some b → b < w.heap.size := by
  intro b hb
  rcases h with ⟨h, _⟩ | ⟨b2, off, cap, rfl, hc⟩
  · exact absurd h hne
  · have : b2 = b := Option.some.inj hb
    subst this
    exact Strs.cell_lt (hc 0 (List.length_pos_iff.2 hne))
theorem RowS_upd (h : ∀ b, S b → b < w.heap.size → w'.heap[b]? = w.heap[b]? ∧ S' b) {c : Value} {ns : List ByteArray} (hr : RowS S w c ns) : RowS S' w' c ns := by
  obtain ⟨h1, h2⟩ := hr
  by_cases hne : ns = []
  · subst hne
    refine ⟨?_, fun q => absurd rfl q⟩
    rcases h1 with h1 | ⟨b, off, cap, rfl, _⟩
    · exact .inl h1
    · exact .inl ⟨rfl, _, cap, rfl⟩
  · have hl := row_lt h1 hne
    refine ⟨?_, fun _ b hb => (h b (h2 hne b hb) (hl b hb)).2⟩
    rcases h1 with ⟨q, _⟩ | ⟨b, off, cap, rfl, hc⟩
    · exact absurd q hne
    · have hk := (h b (h2 hne b rfl) (hl b rfl)).1
      exact .inr ⟨b, off, cap, rfl, fun j hj => (World.cell?_of_block (a := ⟨b, off + j, none⟩) hk).trans (hc j hj)⟩
theorem InS_upd (h : ∀ b, S b → b < w.heap.size → w'.heap[b]? = w.heap[b]? ∧ S' b) (v : Vt) : ∀ cs, InS S w v cs → InS S' w' v cs := by
  refine vt_ind (p := fun v => ∀ cs, InS S w v cs → InS S' w' v cs) ?_ v
  intro v ih cs hv
  obtain ⟨a, cap, c4, h1, h2, h3⟩ := (InS_iff v cs).1 hv
  refine (InS_iff v cs).2 ⟨a, cap, c4, h1, fun j hj => ?_, RowS_upd h h3⟩
  obtain ⟨b, off, e, hs, ds, hr, hi⟩ := h2 j hj
  obtain ⟨hk, hs'⟩ := h b hs (range_lt hr (InS_five hi))
  exact ⟨b, off, e, hs', ds, fun i u hu => (World.cell?_of_block (a := ⟨b, off + 5 * j + i, none⟩) hk).trans (hr i u hu), ih _ (mem_get hj) ds hi⟩
theorem InS_one {v : Vt} {cs : List Value} (h : InV w v cs) : ∀ u ∈ cs, u.oneCell' = true := by
  obtain ⟨a, cap, c4, rfl, _, h3⟩ := (InV_iff w v cs).1 h
  obtain ⟨a2, cap2, rfl, _⟩ := h3.open_
  intro u hu
  simp only [List.mem_cons, List.not_mem_nil, or_false] at hu
  rcases hu with rfl | rfl | rfl | rfl | rfl <;> rfl
end

/-! ### rows of values -/
theorem info80 : (Tryz.prog.info? 26).map (fun i => (i.zero, i.size, i.bytes)) = some (some (.agg #[.int .i64 0, .int .i64 0, .string ⟨#[]⟩, .slice none 0 0, .slice none 0 0]), 5, 80) := by kernel_rfl
def Five (C : List (List Value)) : Prop := ∀ c ∈ C, c.length = 5
theorem flat_len : ∀ C : List (List Value), Five C → C.flatten.length = C.length * 5
  | [], _ => rfl
  | c :: C, h => by
    rw [List.flatten_cons, List.length_append, flat_len C fun x hx => h x (List.mem_cons_of_mem _ hx), h c List.mem_cons_self, List.length_cons]
    omega
theorem flat_at : ∀ (C : List (List Value)), Five C → ∀ (j f : Nat), j < C.length → f < 5 → C.flatten[j * 5 + f]? = (C.getD j [])[f]?
  | [], _, j, f, hj, _ => by simp at hj
  | c :: C, h, j, f, hj, hf => by
    have h5 := h c List.mem_cons_self
    rw [List.flatten_cons]
    cases j with
    | zero => rw [List.getElem?_append_left (by omega)]; simp
    | succ j =>
      rw [List.getElem?_append_right (by omega), h5, show (j + 1) * 5 + f - 5 = j * 5 + f by omega, flat_at C (fun x hx => h x (List.mem_cons_of_mem _ hx)) j f (by simp at hj; omega) hf]
      rfl
theorem flat_set (u0 u1 u2 u3 u4 : Value) : ∀ (C : List (List Value)), Five C → ∀ j, j < C.length → ((((C.flatten.set (j * 5) u0).set (j * 5 + 1) u1).set (j * 5 + 2) u2).set (j * 5 + 3) u3).set (j * 5 + 4) u4 = (C.set j [u0, u1, u2, u3, u4]).flatten
  | [], _, j, hj => by simp at hj
  | c :: C, h, j, hj => by
    have h5 := h c List.mem_cons_self
    obtain ⟨a, b, x, d, e, rfl⟩ : ∃ a b x d e, c = [a, b, x, d, e] := by
      match c, h5 with
      | [a, b, x, d, e], _ => exact ⟨a, b, x, d, e, rfl⟩
    cases j with
    | zero => simp
    | succ j =>
      have ih := flat_set u0 u1 u2 u3 u4 C (fun x hx => h x (List.mem_cons_of_mem _ hx)) j (by simpa using hj)
      rw [List.set_cons_succ, List.flatten_cons, List.flatten_cons, ← ih]
      simp only [show (j + 1) * 5 = j * 5 + 5 by omega, List.cons_append, List.nil_append]
      simp only [show ∀ m, j * 5 + 5 + m = j * 5 + m + 1 + 1 + 1 + 1 + 1 by intro m; omega, show j * 5 + 5 = j * 5 + 1 + 1 + 1 + 1 + 1 by omega, List.set_cons_succ]
/-- v is the call's own (from block B on) and holds values by their cells. -/
def OwnR (w : World) (B : Nat) (v : Value) (C : List (List Value)) : Prop := Five C ∧ w.ownsRow B 26 5 v C.length C.flatten
theorem below_sets {B g : Nat} (hg : B ≤ g) {a : World} : ∀ (vs : List Value) (o : Nat) (w : World), Below B a w → Below B a (w.setCells g o vs)
  | [], _, _, h => h
  | v :: r, o, w, h => by rw [World.setCells]; exact below_sets hg r (o + 1) _ (below_set h hg o v)
theorem sets_other (g : Nat) {k : Nat} (hk : k ≠ g) : ∀ (vs : List Value) (o : Nat) (w : World), (w.setCells g o vs).heap[k]? = w.heap[k]?
  | [], _, _ => rfl
  | v :: r, o, w => by rw [World.setCells, sets_other g hk r (o + 1) _]; exact heap_setCell_other w ⟨g, o, none⟩ k v (fun e => hk e)
section
variable {w w' : World} {B : Nat} {v : Value} {C : List (List Value)}
theorem OwnR.nil (w : World) (B : Nat) : OwnR w B (.slice none 0 0) [] := ⟨fun c hc => (by cases hc), World.ownsRow_nil _ _ _ _⟩
theorem OwnR.alloc (h : OwnR w B v C) (o : Obj) : OwnR (w.alloc o) B v C := ⟨h.1, World.ownsRow.alloc h.2 o⟩
theorem OwnR.shape (h : OwnR w B v C) : (v = .slice none 0 0 ∧ C = []) ∨ ∃ g cap, v = .slice (some ⟨g, 0, none⟩) C.length cap ∧ B ≤ g ∧ g < w.heap.size := by
  rcases h.2.2 with ⟨hv, hx⟩ | ⟨g, cap, cur, hv, hB, hg, _⟩
  · exact .inl ⟨hv, List.eq_nil_of_length_eq_zero hx⟩
  · exact .inr ⟨g, cap, hv, hB, by
      rcases Nat.lt_or_ge g w.heap.size with h' | h'
      · exact h'
      · simp [Array.getElem?_eq_none h'] at hg⟩
/-- A row at any length: its cells are asked where there are some. -/
theorem OwnR.open_ (h : OwnR w B v C) : ∃ a cap, v = .slice a C.length cap ∧ ∀ j, j < C.length → ∃ g, a = some ⟨g, 0, none⟩ ∧ B ≤ g ∧ g < w.heap.size ∧ w.rangeAt g (j * 5) (C.getD j []) ∧ w.there g (j * 5) 5 := by
  rcases h.shape with ⟨rfl, rfl⟩ | ⟨g, cap, rfl, hB, hg⟩
  · exact ⟨none, 0, rfl, fun j hj => by cases hj⟩
  · refine ⟨_, cap, rfl, fun j hj => ⟨g, rfl, hB, hg, fun f u hu => ?_, fun f hf => ⟨?_, World.ownsRow.frozenAt h.2 _⟩⟩⟩
    · have hm : C.getD j [] ∈ C := by
        rw [List.getD_eq_getElem?_getD, List.getElem?_eq_getElem hj]
        exact List.getElem_mem hj
      have hf5 : f < 5 := by
        rw [← h.1 _ hm]
        exact (List.getElem?_eq_some_iff.1 hu).1
      rw [World.ownsRow.cellAt h.2 (j * 5 + f) (by omega), flat_at C h.1 j f hj hf5, hu]
    · rw [World.ownsRow.cellAt h.2 (j * 5 + f) (by omega), List.getElem?_eq_getElem (by rw [flat_len C h.1]; omega)]
      rfl
theorem OwnR.set_ {g n cap : Nat} (h : OwnR w B (.slice (some ⟨g, 0, none⟩) n cap) C) {j : Nat} (hj : j < C.length) {c : List Value} (h5 : c.length = 5) :
    OwnR (w.setCells g (j * 5) c) B (.slice (some ⟨g, 0, none⟩) n cap) (C.set j c) := by
  obtain ⟨a, b, x, d, e, rfl⟩ : ∃ a b x d e, c = [a, b, x, d, e] := by
    match c, h5 with
    | [a, b, x, d, e], _ => exact ⟨a, b, x, d, e, rfl⟩
  have hn : C.length = n := by
    rcases h.shape with ⟨q, _⟩ | ⟨g', cap', q, _⟩
    · cases q
    · injection q with _ q2 _; exact q2.symm
  obtain ⟨hF, hO⟩ := h
  refine ⟨fun y hy => ?_, ?_⟩
  · rcases List.mem_or_eq_of_mem_set hy with hy | rfl
    · exact hF y hy
    · rfl
  · rw [List.length_set, ← flat_set a b x d e C hF j hj, hn]
    rw [hn] at hO
    exact (World.ownsRow.stored (World.ownsRow.stored (World.ownsRow.stored (World.ownsRow.stored (World.ownsRow.stored hO (j * 5) a).1 (j * 5 + 1) b).1 (j * 5 + 2) x).1 (j * 5 + 3) d).1 (j * 5 + 4) e).1
theorem OwnR.beside (h : OwnR w B v C) (hb : ∀ k, v.ownBlock = some k → w'.heap[k]? = w.heap[k]?) : OwnR w' B v C := by
  refine ⟨h.1, h.2.1, ?_⟩
  rcases h.2.2 with hn | ⟨g, cap, cur, hv, hbg, hg, rest⟩
  · exact .inl hn
  · exact .inr ⟨g, cap, cur, hv, hbg, (hb g (by rw [hv]; rfl)).trans hg, rest⟩
theorem OwnR.next (h : OwnR w B v C) (hb : Below w.heap.size w w') : OwnR w' B v C := h.beside fun k hk => by
  rcases h.shape with ⟨rfl, _⟩ | ⟨g, cap, rfl, _, hg⟩
  · cases hk
  · have : g = k := Option.some.inj hk
    subst this
    exact hb.block g hg
end

/-- Each value lies in its cells. -/
def Lie (S : Nat → Prop) (w : World) (l : List Vt) (C : List (List Value)) : Prop := C.length = l.length ∧ ∀ j, j < l.length → InS S w (l.getD j V0) (C.getD j [])
theorem Lie.upd {S S' : Nat → Prop} {w w' : World} {l : List Vt} {C : List (List Value)} (h : Lie S w l C) (k : ∀ b, S b → b < w.heap.size → w'.heap[b]? = w.heap[b]? ∧ S' b) : Lie S' w' l C :=
  ⟨h.1, fun j hj => InS_upd k _ _ (h.2 j hj)⟩
/-- A value made by a call of its parts. -/
theorem made {S : Nat → Prop} {w : World} {B : Nat} {c3 c4 : Value} {C : List (List Value)} {l : List Vt} {ns : List ByteArray} (k n : Int) (s : ByteArray) (h3 : OwnR w B c3 C) (hl : Lie S w l C) (h4 : RowS S w c4 ns) (hS : ∀ b, B ≤ b → S b) :
    InS S w (.mk k n s l ns) [.int .i64 k, .int .i64 n, .string s, c3, c4] := by
  obtain ⟨a, cap, rfl, ho⟩ := h3.open_
  rw [hl.1] at ho ⊢
  refine (InS_iff _ _).2 ⟨a, cap, c4, rfl, fun j hj => ?_, h4⟩
  obtain ⟨g, e, hB, _, hr, _⟩ := ho j hj
  refine ⟨g, 0, e, hS g hB, _, ?_, hl.2 j hj⟩
  rwa [Nat.zero_add, Nat.mul_comm 5 j]

/-! ### a value in a variable of its own -/
/-- Block g holds those cells. -/
def Box (w : World) (g : Nat) (cs : Array Value) : Prop := w.heap[g]? = some (.cells cs 26 (0, 0))
theorem Box.next {w w' : World} {B g : Nat} {cs : Array Value} (h : Box w g cs) (hb : Below B w w') (hg : g < B) : Box w' g cs := (hb.block g hg).trans h
theorem Box.lt {w : World} {g : Nat} {cs : Array Value} (h : Box w g cs) : g < w.heap.size := by
  rcases Nat.lt_or_ge g w.heap.size with h' | h'
  · exact h'
  · unfold Box at h; simp [Array.getElem?_eq_none h'] at h
theorem Box.cell {w : World} {g : Nat} {cs : Array Value} (h : Box w g cs) (j : Nat) : w.cell? ⟨g, j, none⟩ = cs[j]? := by
  unfold Box at h
  simp [World.cell?, h]
theorem Box.free {w : World} {g : Nat} {cs : Array Value} (h : Box w g cs) (j : Nat) : w.frozen? ⟨g, j, none⟩ = false := frozen_of_row w g j cs _ h
theorem box_after {w w1 : World} {o : Obj} (hb : Below (w.alloc o).heap.size (w.alloc o) w1) : w1.heap[w.heap.size]? = some o ∧ Below w.heap.size w w1 := by
  have hs : (w.alloc o).heap.size = w.heap.size + 1 := by simp
  refine ⟨(hb.block _ (by omega)).trans (heap_alloc_new w o), ?_⟩
  exact ((Below.refl w.heap.size w).alloc (Nat.le_refl _) o).trans (hb.mono (by omega))
theorem box_new (w : World) (cs : Array Value) : Box (w.alloc (.cells cs 26)) w.heap.size cs := heap_alloc_new _ _
section
variable {ops : Array Oper} {rest : List Oper} {o : Oper} {a : Act} {Q : Exit → Act → World → Prop}
/-- '*p = v' of a value's variable. -/
theorem wpList_keep (W : World) (hgd : o.guard = none) (x y : Operand) (ho : o.op = .store 26 x y) (B : Nat) (w0 : World) (hb : Below B w0 W) (g : Nat) (hB : B ≤ g) (cs old : Array Value)
    (hx : a.eval x = .pointer (some ⟨g, 0, none⟩)) (hy : a.eval y = .agg cs) (hk : Box W g old) (ho5 : old.size = 5) (hc5 : cs.size = 5) (h1 : ∀ u ∈ cs.toList, u.oneCell' = true)
    (h : ∀ w', Box w' g cs → Below B w0 w' → (∀ k, k ≠ g → w'.heap[k]? = W.heap[k]?) → w'.heap.size = W.heap.size → wpList Tryz.prog ops Q rest (a.put o.dst undef) w') : wpList Tryz.prog ops Q (o :: rest) a W := by
  refine wpList_store_row hgd _ x y ho g cs hx hy _ old hk (by rw [infoV, hc5]) (by omega) (Array.all_eq_true_iff_forall_mem.2 fun u hu => h1 u (by simpa using hu)) ?_
  exact h _ (setRow_heap W g old _ _ _ hk) (below_setRow hb hB _) (fun k hk => setRow_other W g k _ hk) (by simp)
/-- 'x := *p' of a value's variable. -/
theorem wpList_fetch (W : World) (hgd : o.guard = none) (x : Operand) (ho : o.op = .load 26 x) (g : Nat) (cs : Array Value)
    (hx : a.eval x = .pointer (some ⟨g, 0, none⟩)) (hk : Box W g cs) (h5 : cs.size = 5)
    (h : wpList Tryz.prog ops Q rest (a.put o.dst (.agg cs)) W) : wpList Tryz.prog ops Q (o :: rest) a W :=
  wpList_load_row hgd _ x ho g hx _ cs _ _ hk Tryz.underlying26 rfl (by rw [infoV, h5]) h
/-- What a function hands back whose one result is a value in memory. -/
theorem results_val {fn : Func} {p : Tmp} (h : fn.results = #[.cell p 26]) (tmps : Array Value) (w : World) (g : Nat) (cs : Array Value)
    (hp : tmps.getD p undef = .pointer (some ⟨g, 0, none⟩)) (hk : Box w g cs) (h5 : cs.size = 5) : (results fn tmps).run Tryz.prog w = .ok (.agg cs) w := by
  have hl := run_loadVar_row (P := Tryz.prog) w g _ 26 cs _ _ hk Tryz.underlying26 rfl (by rw [infoV, h5])
  have hp' : tmps[p]?.getD undef = .pointer (some ⟨g, 0, none⟩) := by simpa using hp
  simp [results, h, hp', asAddr, hl]
theorem results_val2 {fn : Func} {p t : Tmp} (h : fn.results = #[.cell p 26, .tmp t]) (tmps : Array Value) (w : World) (g : Nat) (cs : Array Value)
    (hp : tmps.getD p undef = .pointer (some ⟨g, 0, none⟩)) (hk : Box w g cs) (h5 : cs.size = 5) : (results fn tmps).run Tryz.prog w = .ok (.tuple #[.agg cs, tmps.getD t undef]) w := by
  have hl := run_loadVar_row (P := Tryz.prog) w g _ 26 cs _ _ hk Tryz.underlying26 rfl (by rw [infoV, h5])
  have hp' : tmps[p]?.getD undef = .pointer (some ⟨g, 0, none⟩) := by simpa using hp
  simp [results, h, hp', asAddr, hl]
end
theorem RowS_own {S : Nat → Prop} {w : World} {B : Nat} {v : Value} {l : List ByteArray} (h : Strs.Own w B v l) (hS : ∀ b, B ≤ b → S b) : RowS S w v l := by
  refine ⟨h.row, fun _ b hb => ?_⟩
  exact hS b (h.cells b hb).1
end Go.Proofs.YtehkiojohldlgaaGreatDoor.Tre

namespace Go.Proofs.YtehkiojohldlgaaGreatDoor.Tre
open Go.RowKit Go.Lib Go.Proofs.YtehkiojohldlgaaGreatDoor.Byt

theorem size_toArray {α : Type} (l : List α) {n : Nat} (h : l.length = n) : l.toArray.size = n := by simpa using h
end Go.Proofs.YtehkiojohldlgaaGreatDoor.Tre

namespace Go.Proofs.YtehkiojohldlgaaGreatDoor.Tre
open Go.RowKit Go.Lib Go.Proofs.YtehkiojohldlgaaGreatDoor.Byt

theorem nests_any (v : Vt) (cs : List Value) (w : World) (h : InV w v cs) :
    Calls Tryz.prog 93 #[.agg cs.toArray] w fun e w' => e = .returned (.bool (decide (v.k = 4 ∨ v.k = 5))) ∧ Below w.heap.size w w' := by
  obtain ⟨a, cap, c4, rfl, _⟩ := (InV_iff w v cs).1 h
  clear h
  generalize v.l.length = l at *
  generalize v.k = k at *
  generalize v.n = n at *
  generalize v.s = s at *
  have hc : (k = 4 ∧ (k == 4) = true ∧ decide (k = 4 ∨ k = 5) = true) ∨ (k ≠ 4 ∧ (k == 4) = false ∧ (k == 5) = decide (k = 4 ∨ k = 5)) := by
    by_cases h4 : k = 4
    · exact .inl ⟨h4, by rw [beq_iff_eq]; exact h4, by rw [decide_eq_true_eq]; exact .inl h4⟩
    · exact .inr ⟨h4, by rw [beq_eq_false_iff_ne]; exact h4, by rw [Bool.eq_iff_iff, beq_iff_eq, decide_eq_true_eq]; exact ⟨.inr, fun q => q.resolve_left h4⟩⟩
  rcases hc with ⟨_, h1, h2⟩ | ⟨_, h1, h2⟩
  · rw [h2]
    clear h2
    go_enter Tryz.func93, Tryz.ntmps93
    go_wp2_with fail
    go_ret
    exact ⟨rfl, (Below.refl _ _).alloc (Nat.le_refl _) _⟩
  · generalize decide (k = 4 ∨ k = 5) = D at *
    go_enter Tryz.func93, Tryz.ntmps93
    go_wp2_with fail
    go_ret
    exact ⟨rfl, (Below.refl _ _).alloc (Nat.le_refl _) _⟩

end Go.Proofs.YtehkiojohldlgaaGreatDoor.Tre

namespace Go.Proofs.YtehkiojohldlgaaGreatDoor.Tre
open Go.RowKit Go.Lib Go.Proofs.YtehkiojohldlgaaGreatDoor.Byt Go.Proofs.YtehkiojohldlgaaGreatDoor.Utf

/-! ### names -/
theorem nm_take (ns : List ByteArray) (i : Nat) (h : i < ns.length) : nmB (ns.take (i + 1)) = (nmB (ns.take i) && textB (ns.getD i ⟨#[]⟩) && decide (∀ x ∈ ns.take i, x ≠ ns.getD i ⟨#[]⟩)) := by
  rw [List.take_add_one, List.getElem?_eq_getElem h, Option.toList_some, List.getD_eq_getElem?_getD, List.getElem?_eq_getElem h]
  unfold nmB
  rw [Bool.eq_iff_iff]
  simp only [List.all_append, List.all_cons, List.all_nil, Bool.and_true, Bool.and_eq_true, decide_eq_true_eq, Option.getD_some, List.nodup_append, List.nodup_cons, List.not_mem_nil, not_false_eq_true, List.nodup_nil, true_and, and_true, List.mem_singleton, forall_eq]
  constructor
  · rintro ⟨⟨a, b⟩, c, d⟩; exact ⟨⟨⟨a, c⟩, b⟩, d⟩
  · rintro ⟨⟨⟨a, c⟩, b⟩, d⟩; exact ⟨⟨a, b⟩, c, d⟩
theorem nm_whole (ns : List ByteArray) (i : Nat) (h : nmB (ns.take i) = false) : nmB ns = false := by
  cases hn : nmB ns with
  | false => rfl
  | true =>
    unfold nmB at hn h
    rw [Bool.and_eq_true, decide_eq_true_eq, List.all_eq_true] at hn
    rw [Bool.and_eq_false_iff, decide_eq_false_iff_not] at h
    rcases h with h | h
    · rw [List.all_eq_false] at h
      obtain ⟨x, hx, hb⟩ := h
      exact absurd (hn.1 x (List.mem_of_mem_take hx)) hb
    · exact absurd (hn.2.sublist (List.take_sublist _ _)) h
end Go.Proofs.YtehkiojohldlgaaGreatDoor.Tre

namespace Go.Proofs.YtehkiojohldlgaaGreatDoor.Tre
open Go.RowKit Go.Lib Go.Maps Go.WideMaps Go.Proofs.YtehkiojohldlgaaGreatDoor.Byt Go.Proofs.YtehkiojohldlgaaGreatDoor.Utf

theorem istext_any (s : ByteArray) (w : World) (hT : Tabs w) (hs : s.size ≤ 140737488351232) :
    Calls Tryz.prog 121 #[.string s] w fun e w' => e = .returned (.bool (textB s)) ∧ Below w.heap.size w w' := by
  have hB := bad_any s w hT (by omega)
  have e : textB s = decide (bI (badL s.data.toList) < 0) := by
    unfold textB
    cases badL s.data.toList with
    | none => rfl
    | some k => show decide (some k = none) = decide ((k : Int) < 0); rw [decide_eq_false (by simp), decide_eq_false (by omega)]
  rw [e]
  clear e hT
  generalize bI (badL s.data.toList) = z at *
  go_enter Tryz.func121, Tryz.ntmps121
  go_wp2_with (go_at_call 132; refine hB.mono ?_; rintro e w1 ⟨rfl, hb1⟩)
  go_ret
  exact ⟨rfl, hb1⟩

/-! ### the names seen so far -/
def hasB (L : List ByteArray) (s : ByteArray) : Bool := L.any fun x => decide (x = s)
theorem hasB_app (L : List ByteArray) (t s : ByteArray) : hasB (L ++ [t]) s = (hasB L s || decide (t = s)) := by unfold hasB; simp
/-- Block b is a map of at most n entries that is true at the strings of L alone. -/
def Seen (w : World) (b n : Nat) (L : List ByteArray) : Prop :=
  ∃ D : DataW Unit, w.ownsMap Tryz.prog 9 (plainElem Tryz.prog 4) b n D ∧ ∀ s : ByteArray, D.atKey (.string s.data.toList) (.lit (.bool false)) = .lit (.bool (hasB L s))
theorem keyS : Keyed Tryz.prog 9 := string_keyed Tryz.underlying9
theorem zeroB (w : World) : (zeroValue 4).run Tryz.prog w = .ok (.bool false) w := by kernel_rfl
theorem run_makeHint (n : Int) (w : World) : (Instr.makeMap 90 (some (.int .i64 n))).run Tryz.prog w = .ok (.map (some w.heap.size)) (w.alloc (.map #[] 0)) := by
  simp [Instr.makeMap, run_underlying Tryz.underlying90, asInt, asIntOf, Result.andThen]
theorem seen_made (w : World) : Seen (w.alloc (.map #[] 0)) w.heap.size 0 [] :=
  ⟨.map [], World.ownsMap_made w _ _ _, fun s => by simp [DataW.atKey, hasB]⟩
section
variable {w w' : World} {b n : Nat} {L : List ByteArray}
theorem Seen.lt (h : Seen w b n L) : b < w.heap.size := h.elim fun _ h => h.1.lt
theorem Seen.next (h : Seen w b n L) (hb : Below w.heap.size w w') : Seen w' b n L := by
  have hlt := h.lt
  obtain ⟨D, ⟨es, clock, hk, rest⟩, h2⟩ := h
  exact ⟨D, ⟨es, clock, (hb.block b hlt).trans hk, rest⟩, h2⟩
set_option maxRecDepth 100000 in
theorem Seen.look (h : Seen w b n L) (s : ByteArray) (hs : s.size ≤ 140737488351232) : (Instr.lookup 90 (.map (some b)) (.string s) false).run Tryz.prog w = .ok (.bool (hasB L s)) w := by
  obtain ⟨D, h1, h2⟩ := h
  obtain ⟨v, ps, hr, hv⟩ := h1.lookup keyS Tryz.underlying90 (zeroB w) (plainElem_bool Tryz.underlying4 false) (keyOf_string_mk Tryz.underlying9 (s := s) (by unfold maxLen; omega))
  rw [h2 s] at hv
  rw [hr]
  unfold plainElem at hv
  rw [Tryz.underlying4] at hv
  cases v <;> simp at hv
  rw [hv.1]
theorem Seen.put {w0 : World} {B : Nat} (h : Seen w b n L) (s : ByteArray) (hs : s.size ≤ 140737488351232) (hn : n ≤ 140737488355328) (hB : B ≤ b) (hb : Below B w0 w) :
    ∃ w', (Instr.mapUpdate 90 (.map (some b)) (.string s) (.bool true)).run Tryz.prog w = .ok () w' ∧ Seen w' b (n + 1) (L ++ [s]) ∧ Below B w0 w' := by
  obtain ⟨D, h1, h2⟩ := h
  obtain ⟨w', hr, h3, h4⟩ := h1.update keyS Tryz.underlying90 (by unfold maxLen; omega) (keyOf_string_mk Tryz.underlying9 (s := s) (by unfold maxLen; omega)) (plainElem_bool Tryz.underlying4 true)
  refine ⟨w', hr, ⟨_, h3, fun t => ?_⟩, ⟨h4.os.trans hb.os, h4.tape.trans hb.tape, h4.output.trans hb.output, Nat.le_trans hb.size h4.size, fun k hk => ?_⟩⟩
  · by_cases hts : t = s
    · subst hts
      rw [atKey_put_same h1.isMap (by trivial), hasB_app]
      simp
    · have hne : Lit.string t.data.toList ≠ Lit.string s.data.toList := by
        intro q
        injection q with q
        exact hts (ByteArray.ext (Array.toList_inj.1 q))
      rw [atKey_put_other hne, h2 t, hasB_app, decide_eq_false (fun q => hts q.symm), Bool.or_false]
  · by_cases hkl : k < w.heap.size
    · exact (h4.block k hkl (by intro q; injection q with q; omega)).trans (hb.block k hk)
    · have := h1.lt; omega
end
theorem nm_next (ns : List ByteArray) (i : Nat) (h : i < ns.length) : nmB (ns.take (i + 1)) = (nmB (ns.take i) && textB (ns.getD i ⟨#[]⟩) && !hasB (ns.take i) (ns.getD i ⟨#[]⟩)) := by
  rw [nm_take ns i h]
  congr 1
  unfold hasB
  rw [Bool.eq_iff_iff]
  simp
theorem take_next (ns : List ByteArray) (i : Nat) (h : i < ns.length) : ns.take (i + 1) = ns.take i ++ [ns.getD i ⟨#[]⟩] := by
  rw [List.take_add_one, List.getElem?_eq_getElem h, Option.toList_some, List.getD_eq_getElem?_getD, List.getElem?_eq_getElem h]
  rfl
theorem ns_mem {ns : List ByteArray} {i : Nat} (h : i < ns.length) : ns.getD i ⟨#[]⟩ ∈ ns := by
  rw [List.getD_eq_getElem?_getD, List.getElem?_eq_getElem h]
  exact List.getElem_mem h
theorem wpList_put {ops : Array Oper} {rest : List Oper} {o : Oper} {a : Act} {Q : Exit → Act → World → Prop} (W : World) (hg : o.guard = none) (m x v : Operand) (hop : o.op = .mapUpdate 90 m x v) (b n : Nat) (L : List ByteArray)
    (hm : a.eval m = .map (some b)) (s : ByteArray) (hx : a.eval x = .string s) (hv : a.eval v = .bool true) (hS : Seen W b n L) (hs : s.size ≤ 140737488351232) (hn : n ≤ 140737488355328) (w0 : World) (B : Nat) (hB : B ≤ b) (hb : Below B w0 W)
    (hK : ∀ w', Seen w' b (n + 1) (L ++ [s]) → Below B w0 w' → wpList Tryz.prog ops Q rest (a.put o.dst undef) w') : wpList Tryz.prog ops Q (o :: rest) a W := by
  refine wpList_plain hg fun K' hK' => ?_
  obtain ⟨w', hrun, r1, r2⟩ := hS.put s hs hn hB hb
  unfold Oper.wp
  simp [execOp, hop, hm, hx, hv, hrun, Result.andThen]
  exact hK' _ _ (hK w' r1 r2)

set_option maxRecDepth 100000 in
theorem names_any (ns : List ByteArray) (c : Value) (w : World) (hr : Strs.Row w c ns) (hT : Tabs w) (hl : ns.length * 16 ≤ 140737488351232) (hm : ∀ m ∈ ns, m.size ≤ 140737488351232) :
    Calls Tryz.prog 122 #[c] w fun e w' => e = .returned (.bool (nmB ns)) ∧ Below w.heap.size w w' := by
  obtain ⟨a, cap, rfl, hc⟩ := hr.open_
  have HC := Lib.hid hc
  have HT := Lib.hid hT
  have HM := Lib.hid hm
  clear hc hr hT hm
  have hmx : ns.length ≤ 9223372036854775807 := by omega
  have hmm := run_makeHint
  go_enter Tryz.func122, Tryz.ntmps122
  go_wp2_with fail
  go_loopw [11] (fun x wr => ∃ i : Nat, x = .int .i64 (i : Int) ∧ i ≤ ns.length ∧ Below w.heap.size w wr ∧ Seen wr w.heap.size i (ns.take i) ∧ Hid (nmB (ns.take i) = true))
    (fun x _ => ns.length - (RowKit.intOf x).toNat)
  case atStart => exact ⟨0, by go_num, by omega, (Below.refl _ _).alloc (Nat.le_refl _) _, by rw [List.take_zero]; exact seen_made _, Lib.hid (by rw [List.take_zero]; rfl)⟩
  case round =>
    obtain ⟨i, rfl, hi, hb, hS, hz⟩ := hrel
    have hsz := hb.size
    by_cases hlt : i < ns.length
    · obtain ⟨b, off, rfl, hcell⟩ := HC.out i hlt
      have hcell2 := (hb.cell (Strs.cell_lt hcell)).trans hcell
      have hst := nm_next ns i hlt
      rw [hz.out, Bool.true_and] at hst
      have htk := Lib.hid (take_next ns i hlt)
      have hsm := HM.out _ (ns_mem hlt)
      generalize ns.getD i ⟨#[]⟩ = s at *
      have hlook := hS.look s hsm
      have hTx := Lib.hid (istext_any s wr (HT.out.next hb) hsm)
      cases hh : hasB (ns.take i) s with
      | true =>
        rw [hh] at hlook hst
        have hst2 : nmB (ns.take (i + 1)) = false := by rw [hst]; simp
        have HF := Lib.hid (nm_whole ns _ hst2)
        clear hst hst2 htk hTx
        go_wp2_with fail
        go_ret
        exact ⟨by rw [HF.out]; rfl, hb⟩
      | false =>
        rw [hh] at hlook hst
        have hst1 : nmB (ns.take (i + 1)) = textB s := by rw [hst]; simp
        clear hst
        cases ht : textB s with
        | false =>
          rw [ht] at hst1 hTx
          have HF := Lib.hid (nm_whole ns _ hst1)
          clear hst1 htk
          go_wp2_with (go_at_call 121; refine hTx.out.mono ?_; rintro e w2 ⟨rfl, hb2⟩)
          go_ret
          exact ⟨by rw [HF.out]; rfl, hb.trans (hb2.mono hsz)⟩
        | true =>
          rw [ht] at hst1 hTx
          have HF := Lib.hid hst1
          clear hst1
          go_wp2_with (first
            | (go_at_call 121; refine hTx.out.mono ?_; rintro e w2 ⟨rfl, hb2⟩)
            | (refine wpList_put _ rfl _ _ _ rfl w.heap.size i (ns.take i) rfl s rfl rfl (hS.next hb2) hsm (by omega) w w.heap.size (Nat.le_refl _) (hb.trans (hb2.mono hsz)) ?_; intro w3 hS3 hb3))
          go_roundw
          case rel => exact ⟨i + 1, by go_num, by omega, hb3, by rw [htk.out]; exact hS3, HF⟩
          case measure => simp [RowKit.intOf]; omega
    · obtain rfl : i = ns.length := by omega
      have hzz := hz.out
      rw [List.take_length] at hzz
      have HZZ := Lib.hid hzz
      clear hz hzz
      go_wp2_with fail
      go_ret
      exact ⟨by rw [HZZ.out]; rfl, hb⟩
end Go.Proofs.YtehkiojohldlgaaGreatDoor.Tre
