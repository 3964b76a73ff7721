/- A tree of values in memory: how it lies there, and how an argument is opened. Conditions: as each theorem states. -/
import Derived.Test.YtafelidejkppkaaDoorTreMath
import Derived.Test.YtafelidejkppkaaDoorStrs
import Derived.ProofKit
import Derived.OpenShut
import Derived.WideShapes
import Derived.ChangeSlices
import Derived.SliceStrings
import Derived.Deep.Slices
import Derived.Deep.Fields
import Derived.Deep.MidRow
import Derived.SizedLaws
namespace Go.Proofs.YtafelidejkppkaaDoor.Tre
open Go.RowKit Go.Lib Go.Proofs.YtafelidejkppkaaDoor.Byt

mutual
/-- Five cells hold that value. -/
def InV (w : World) : Vt → List Value → Prop
  | .mk k n s l ns, cs => ∃ a cap c4, cs = [.int .i64 k, .int .i64 n, .string s, .slice a l.length cap, c4] ∧ (l ≠ [] → ∃ b off, a = some ⟨b, off, none⟩ ∧ InL w l b off) ∧ Strs.Row w c4 ns
/-- From place off of block b on lie those values. -/
def InL (w : World) : List Vt → Nat → Nat → Prop
  | [], _, _ => True
  | x :: l, b, off => (∃ cs, w.rangeAt b off cs ∧ InV w x cs) ∧ InL w l b (off + 5)
end
theorem InL_all (w : World) (b : Nat) : ∀ (l : List Vt) (off : Nat), InL w l b off ↔ ∀ j, j < l.length → ∃ cs, w.rangeAt b (off + 5 * j) cs ∧ InV w (l.getD j V0) cs
  | [], off => by rw [InL]; simp
  | x :: l, off => by
    rw [InL, InL_all w b l (off + 5)]
    constructor
    · rintro ⟨h1, h2⟩ j hj
      cases j with
      | zero => exact h1
      | succ j =>
        have := h2 j (by simpa using hj)
        rwa [show off + 5 + 5 * j = off + 5 * (j + 1) by omega] at this
    · intro h
      refine ⟨h 0 (by simp), fun j hj => ?_⟩
      have := h (j + 1) (by simpa using hj)
      rwa [show off + 5 * (j + 1) = off + 5 + 5 * j by omega] at this
theorem InV_iff (w : World) (v : Vt) (cs : List Value) : InV w v cs ↔ ∃ a cap c4, cs = [.int .i64 v.k, .int .i64 v.n, .string v.s, .slice a v.l.length cap, c4] ∧ (∀ j, j < v.l.length → ∃ b off, a = some ⟨b, off, none⟩ ∧ ∃ ds, w.rangeAt b (off + 5 * j) ds ∧ InV w (v.l.getD j V0) ds) ∧ Strs.Row w c4 v.ns := by
  cases v with
  | mk k n s l ns =>
    rw [InV]
    constructor
    · rintro ⟨a, cap, c4, h1, h2, h3⟩
      refine ⟨a, cap, c4, h1, fun j hj => ?_, h3⟩
      obtain ⟨b, off, e, hl⟩ := h2 (by rintro rfl; simp [Vt.l] at hj)
      exact ⟨b, off, e, (InL_all w b l off).1 hl j hj⟩
    · rintro ⟨a, cap, c4, h1, h2, h3⟩
      refine ⟨a, cap, c4, h1, fun hne => ?_, h3⟩
      have hp := List.length_pos_iff.2 hne
      obtain ⟨b, off, e, _⟩ := h2 0 hp
      refine ⟨b, off, e, (InL_all w b l off).2 fun j hj => ?_⟩
      obtain ⟨b2, off2, e2, h⟩ := h2 j hj
      have := Option.some.inj (e.symm.trans e2)
      injection this with hb ho _
      subst hb ho
      exact h
theorem range_next {w w' : World} {b o : Nat} {cs : List Value} (h : w.rangeAt b o cs) (hb : Below w.heap.size w w') : w'.rangeAt b o cs := by
  intro j v hj
  exact (hb.cell (Strs.cell_lt (h j v hj))).trans (h j v hj)
theorem InV_next {w w' : World} (hb : Below w.heap.size w w') (v : Vt) : ∀ cs, InV w v cs → InV w' v cs := by
  refine vt_ind (p := fun v => ∀ cs, InV w v cs → InV w' v cs) ?_ v
  intro v ih cs h
  obtain ⟨a, cap, c4, h1, h2, h3⟩ := (InV_iff w v cs).1 h
  refine (InV_iff w' v cs).2 ⟨a, cap, c4, h1, fun j hj => ?_, h3.next hb⟩
  obtain ⟨b, off, e, ds, h4, h5⟩ := h2 j hj
  have hm : v.l.getD j V0 ∈ v.l := by
    rw [List.getD_eq_getElem?_getD, List.getElem?_eq_getElem hj]
    exact List.getElem_mem hj
  exact ⟨b, off, e, ds, range_next h4 hb, ih _ hm ds h5⟩

/-! ### an argument -/
/-- What every value that came in keeps to. -/
def okV (v : Vt) : Prop := (-9223372036854775808 ≤ v.k ∧ v.k ≤ 9223372036854775807) ∧ (-9223372036854775808 ≤ v.n ∧ v.n ≤ 9223372036854775807) ∧ v.s.size ≤ 140737488351232 ∧ v.l.length * 80 ≤ 140737488351232 ∧ v.ns.length * 16 ≤ 140737488351232 ∧ ∀ m ∈ v.ns, m.size ≤ 140737488351232
inductive OkT : Vt → Prop where
  | mk (v : Vt) (h : okV v) (hl : ∀ x ∈ v.l, OkT x) : OkT v
theorem info_T : Tryd.prog.cellsOf 25 = 5 := by kernel_rfl
section
open Go.ChangeShapes Go.WideShapes Go.ChangeAt
variable {H : Type} {enc : TypeId × Value → H} {w : World} {held : Bool}
/-- No part of a datum weighs more than the form's reach. -/
def Light (t : TypeId) (d : DataW H) : Prop := (d.weights Tryd.prog t).all (· ≤ reachBytes) = true
theorem reach_is : reachBytes = 140737488351232 := by decide
theorem w_arg {ts : List TypeId} {ds : List (DataW H)} (h : (DataW.weightsEach Tryd.prog ts ds).all (· ≤ reachBytes) = true) {j : Nat} {t : TypeId} {d : DataW H} (ht : ts[j]? = some t) (hd : ds[j]? = some d) : Light t d := by
  unfold Light
  rw [List.all_eq_true] at h ⊢
  exact fun n hn => h n (DataW.weights_mem_each ht hd n hn)
theorem w_field {t : TypeId} {fs : Array Field} {parts : List (DataW H)} (hu : Tryd.prog.underlying t = some (.struct fs)) (h : Light t (.agg parts)) {j : Nat} {tj : TypeId} {d : DataW H} (ht : (fs.toList.map (·.type))[j]? = some tj) (hd : parts[j]? = some d) : Light tj d := by
  refine w_arg (ts := fs.toList.map (·.type)) (ds := parts) ?_ ht hd
  unfold Light at h
  simpa only [DataW.weights, hu] using h
theorem w_all {e : TypeId} {ds : List (DataW H)} {d : DataW H} (hd : d ∈ ds) {n : Nat} (hn : n ∈ d.weights Tryd.prog e) : n ∈ DataW.weightsAll Tryd.prog e ds := by
  induction ds with
  | nil => cases hd
  | cons x l ih =>
    rw [DataW.weightsAll, List.mem_append]
    rcases List.mem_cons.1 hd with rfl | hd
    · exact .inl hn
    · exact .inr (ih hd)
theorem w_slice {t e : TypeId} {elems spare : List (DataW H)} (hu : Tryd.prog.underlying t = some (.slice e)) (h : Light t (.slice elems spare)) : (elems.length + spare.length) * Tryd.prog.bytesOf e ≤ reachBytes ∧ ∀ d ∈ elems, Light e d := by
  unfold Light at h
  simp only [DataW.weights, hu, List.all_cons, List.all_append, Bool.and_eq_true, decide_eq_true_eq] at h
  refine ⟨h.1, fun d hd => ?_⟩
  unfold Light
  rw [List.all_eq_true]
  exact fun n hn => List.all_eq_true.1 h.2.1 n (w_all hd hn)
theorem w_str {t : TypeId} {s : List UInt8} (h : Light t (DataW.lit (H := H) (.string s))) : s.length ≤ 140737488351232 := by
  unfold Light at h
  simp only [DataW.weights, List.all_cons, List.all_nil, Bool.and_true, decide_eq_true_eq] at h
  rw [reach_is] at h
  exact h
/-- A row of strings, behind its one cell. -/
theorem open_names {fuel : Nat} {c : Value} {x : DataW H × List MemPlace} (h : DataW.trod enc Tryd.prog w 0 (fun _ => true) held fuel 23 [c] = some x) (hw : Light 23 x.1) :
    ∃ xs : List ByteArray, Strs.Row w c xs ∧ xs.length * 16 ≤ 140737488351232 ∧ ∀ n ∈ xs, n.size ≤ 140737488351232 := by
  rcases open_strings Tryd.underlying23 Tryd.underlying9 (by kernel_rfl) h with ⟨hcs, _⟩ | ⟨a, len, cap, zs, hcs, _, hl, hm, hz, hx, hcell, hwz⟩
  · simp only [List.cons.injEq, and_true] at hcs
    subst hcs
    exact ⟨[], .inl ⟨rfl, _, _, rfl⟩, by simp, fun n hn => by cases hn⟩
  · simp only [List.cons.injEq, and_true] at hcs
    subst hcs hx
    simp only [if_true] at hz
    have hlen : (zs.take len).length = len := by rw [List.length_take]; omega
    obtain ⟨hw1, hw2⟩ := w_slice Tryd.underlying23 hw
    have hb : Tryd.prog.bytesOf 9 = 16 := by kernel_rfl
    rw [hb, reach_is] at hw1
    unfold strs at hw1 hw2
    rw [List.length_map, List.length_map, hlen] at hw1
    refine ⟨zs.take len, ?_, by rw [hlen]; omega, fun n hn => ?_⟩
    · by_cases h0 : len = 0
      · subst h0
        exact .inl ⟨List.take_zero, _, _, rfl⟩
      · obtain ⟨b, off, spot⟩ := a
        have hspot : spot = none := by simpa [Addr.add] using World.cell?_spot (hcell 0 (by omega))
        subst hspot
        refine .inr ⟨b, off, cap, by rw [hlen], fun j hj => ?_⟩
        have hc := hcell j (by omega)
        have e : ((⟨b, off, none⟩ : Addr).add j) = ⟨b, off + j, none⟩ := by
          rcases j with _ | j <;> simp [Addr.add]
        rw [e] at hc
        rw [hc]
        have e2 : (zs.take len).getD j ⟨#[]⟩ = zs.getD j ByteArray.empty := by
          rw [List.getD, List.getD, List.getElem?_take_of_lt (by omega)]
          rfl
        rw [e2]
    · have := w_str (hw2 _ (List.mem_map.2 ⟨n, hn, rfl⟩))
      simpa using this
theorem list_of {P : Nat → Vt → Prop} : ∀ n : Nat, (∀ i, i < n → ∃ v, P i v) → ∃ l : List Vt, l.length = n ∧ ∀ i, i < n → P i (l.getD i V0)
  | 0, _ => ⟨[], rfl, fun i h => by omega⟩
  | n + 1, h => by
    obtain ⟨l, h1, h2⟩ := list_of n fun i hi => h i (by omega)
    obtain ⟨v, hv⟩ := h n (by omega)
    refine ⟨l ++ [v], by simp [h1], fun i hi => ?_⟩
    by_cases hin : i < n
    · have : (l ++ [v]).getD i V0 = l.getD i V0 := by
        rw [List.getD_eq_getElem?_getD, List.getElem?_append_left (by omega), ← List.getD_eq_getElem?_getD]
      rw [this]; exact h2 i hin
    · obtain rfl : i = n := by omega
      have : (l ++ [v]).getD i V0 = v := by
        rw [List.getD_eq_getElem?_getD, List.getElem?_append_right (by omega), h1, Nat.sub_self]; rfl
      rw [this]; exact hv
theorem add_mul (b off i j : Nat) : ((⟨b, off, none⟩ : Addr).add (i * 5)).add j = ⟨b, off + 5 * i + j, none⟩ := by
  rw [Addr.add_mid, Addr.add_mid, Nat.mul_comm i 5]
theorem open_tree : ∀ (fuel : Nat) (cs : List Value) (x : DataW H × List MemPlace), DataW.trod enc Tryd.prog w 0 (fun _ => true) held fuel 25 cs = some x → Light 25 x.1 → ∃ v, InV w v cs ∧ OkT v := by
  intro fuel
  induction fuel using Nat.strongRecOn with
  | _ fuel ih =>
    intro cs x h hlt
    obtain ⟨xs, n, rfl, hx, hlen, hxl, hf⟩ := DataW.trod_struct Tryd.underlying25 h
    subst hx
    rw [info_T] at hlen
    obtain ⟨c0, c1, c2, c3, c4, rfl⟩ : ∃ c0 c1 c2 c3 c4, cs = [c0, c1, c2, c3, c4] := by
      match cs, hlen with
      | [a, b, c, d, e], _ => exact ⟨a, b, c, d, e, rfl⟩
    have i0 : Tryd.prog.cellsOf 3 = 1 := by kernel_rfl
    have i1 : Tryd.prog.cellsOf 2 = 1 := by kernel_rfl
    have i2 : Tryd.prog.cellsOf 9 = 1 := by kernel_rfl
    have i3 : Tryd.prog.cellsOf 22 = 1 := by kernel_rfl
    have i4 : Tryd.prog.cellsOf 23 = 1 := by kernel_rfl
    obtain ⟨y0, y1, y2, y3, y4, rfl⟩ : ∃ y0 y1 y2 y3 y4, xs = [y0, y1, y2, y3, y4] := by
      match xs, hxl with
      | [a, b, c, d, e], _ => exact ⟨a, b, c, d, e, rfl⟩
    have L2 : Light 9 y2.1 := w_field (j := 2) Tryd.underlying25 hlt rfl rfl
    have L3 : Light 22 y3.1 := w_field (j := 3) Tryd.underlying25 hlt rfl rfl
    have L4 : Light 23 y4.1 := w_field (j := 4) Tryd.underlying25 hlt rfl rfl
    have h0 : DataW.trod enc Tryd.prog w 0 (fun _ => true) held n 3 [c0] = some y0 := by
      have e : DataW.trod enc Tryd.prog w 0 (fun _ => true) held n 3 (List.take (Tryd.prog.cellsOf 3) (List.drop 0 [c0, c1, c2, c3, c4])) = some y0 := hf 0 _ rfl
      rw [i0] at e
      exact e
    have h1 : DataW.trod enc Tryd.prog w 0 (fun _ => true) held n 2 [c1] = some y1 := by
      have e : DataW.trod enc Tryd.prog w 0 (fun _ => true) held n 2 (List.take (Tryd.prog.cellsOf 2) (List.drop 1 [c0, c1, c2, c3, c4])) = some y1 := hf 1 _ rfl
      rw [i1] at e
      exact e
    have h2 : DataW.trod enc Tryd.prog w 0 (fun _ => true) held n 9 [c2] = some y2 := by
      have e : DataW.trod enc Tryd.prog w 0 (fun _ => true) held n 9 (List.take (Tryd.prog.cellsOf 9) (List.drop 2 [c0, c1, c2, c3, c4])) = some y2 := hf 2 _ rfl
      rw [i2] at e
      exact e
    have h3 : DataW.trod enc Tryd.prog w 0 (fun _ => true) held n 22 [c3] = some y3 := by
      have e : DataW.trod enc Tryd.prog w 0 (fun _ => true) held n 22 (List.take (Tryd.prog.cellsOf 22) (List.drop 3 [c0, c1, c2, c3, c4])) = some y3 := hf 3 _ rfl
      rw [i3] at e
      exact e
    have h4 : DataW.trod enc Tryd.prog w 0 (fun _ => true) held n 23 [c4] = some y4 := by
      have e : DataW.trod enc Tryd.prog w 0 (fun _ => true) held n 23 (List.take (Tryd.prog.cellsOf 23) (List.drop 4 [c0, c1, c2, c3, c4])) = some y4 := hf 4 _ rfl
      rw [i4] at e
      exact e
    obtain ⟨k, e0, _, w0⟩ := DataW.trod_int Tryd.underlying3 h0
    obtain ⟨m, e1, _, w1⟩ := DataW.trod_int Tryd.underlying2 h1
    obtain ⟨s, e2, d2, _⟩ := DataW.trod_string Tryd.underlying9 h2
    subst d2
    have w2 : s.size ≤ 140737488351232 := by simpa using w_str L2
    simp only [List.cons.injEq, and_true] at e0 e1 e2
    subst e0 e1 e2
    obtain ⟨ns, hr, hn1, hn2⟩ := open_names h4 L4
    have items : ∃ (l : List Vt) (a : Option Addr) (cap : Nat), c3 = .slice a l.length cap ∧ l.length * 80 ≤ 140737488351232 ∧ ∀ j, j < l.length → (∃ b off, a = some ⟨b, off, none⟩ ∧ ∃ ds, w.rangeAt b (off + 5 * j) ds ∧ InV w (l.getD j V0) ds) ∧ OkT (l.getD j V0) := by
      rcases DataW.trod_slice Tryd.underlying22 h3 with ⟨hcs, _⟩ | ⟨a, len, cap, elems, rest, n', rfl, hcs, d3, _, hl, hm, hel, hall, _⟩
      · simp only [List.cons.injEq, and_true] at hcs
        exact ⟨[], none, 0, hcs, by simp, fun j hj => by simp at hj⟩
      · simp only [List.cons.injEq, and_true] at hcs
        subst d3
        obtain ⟨hw1, hw2⟩ := w_slice Tryd.underlying22 L3
        have hb : Tryd.prog.bytesOf 25 = 80 := by kernel_rfl
        rw [hb, reach_is, List.length_map, List.length_map] at hw1
        rw [info_T] at hall
        have key : ∀ j, j < len → ∃ v, (∃ b off, some a = some (⟨b, off, none⟩ : Addr) ∧ ∃ ds, w.rangeAt b (off + 5 * j) ds ∧ InV w v ds) ∧ OkT v := by
          intro j hj
          have hj2 := hall j hj
          rw [List.getElem?_eq_getElem (by omega)] at hj2
          obtain ⟨ds, hds, ht⟩ := Option.bind_eq_some_iff.1 hj2
          obtain ⟨v, hv1, hv2⟩ := ih n' (by omega) ds _ ht (hw2 _ (List.mem_map.2 ⟨_, List.getElem_mem _, rfl⟩))
          obtain ⟨_, hdl, hdc⟩ := World.cells?_some hds
          obtain ⟨b, off, spot⟩ := a
          have hspot : spot = none := by
            have hz := hall 0 (by omega)
            rw [List.getElem?_eq_getElem (by omega)] at hz
            obtain ⟨ds0, hds0, _⟩ := Option.bind_eq_some_iff.1 hz
            obtain ⟨_, hdl0, hdc0⟩ := World.cells?_some hds0
            have h1 := hdc0 0 (by omega)
            rw [List.getElem?_eq_getElem (by omega)] at h1
            exact World.cell?_spot h1
          subst hspot
          refine ⟨v, ⟨b, off, rfl, ds, fun i u hu => ?_, hv1⟩, hv2⟩
          have hi5 : i < 5 := by rw [← hdl]; exact (List.getElem?_eq_some_iff.1 hu).1
          have := hdc i hi5
          rw [add_mul] at this
          rw [this, hu]
        obtain ⟨l, hll, hlp⟩ := list_of len key
        subst hll
        exact ⟨l, some a, cap, hcs, by omega, hlp⟩
    obtain ⟨l, a, cap, rfl, hll, hit⟩ := items
    refine ⟨.mk k m s l ns, (InV_iff w _ _).2 ⟨a, cap, c4, rfl, fun j hj => (hit j hj).1, hr⟩, .mk _ ⟨bounds_i64 w0, bounds_i64 w1, w2, hll, hn1, hn2⟩ fun x hx => ?_⟩
    obtain ⟨j, hj, rfl⟩ := List.getElem_of_mem hx
    have := (hit j hj).2
    rw [List.getD_eq_getElem?_getD, List.getElem?_eq_getElem (show j < l.length from hj)] at this
    exact this
/-- An argument that is a value. -/
theorem open_value {r : Reach} {b0 : Nat} {v : Value} {d : DataW H} {p : List MemPlace} (hval : Value.okWide Tryd.prog w r b0 25 v) (h : DataW.Trod enc Tryd.prog w 0 (fun _ => true) held 25 v d p) (hw : Light 25 d) :
    ∃ t cs, v = .agg cs.toArray ∧ InV w t cs ∧ OkT t := by
  obtain ⟨cs, rfl, _⟩ := okWide_struct Tryd.underlying25 hval
  obtain ⟨fuel, hf⟩ := h
  obtain ⟨t, h1, h2⟩ := open_tree fuel _ _ hf hw
  exact ⟨t, _, by simp [Value.cells], h1, h2⟩
end
end Go.Proofs.YtafelidejkppkaaDoor.Tre
