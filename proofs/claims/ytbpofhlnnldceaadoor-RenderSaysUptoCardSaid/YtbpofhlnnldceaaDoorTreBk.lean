/- An argument that is a value: its texts and names weigh no more than what the row counts. Conditions: as each theorem states. -/
import Derived.Test.YtbpofhlnnldceaaDoorTreG1
import Derived.Test.YtbpofhlnnldceaaDoorRenCw
import Derived.Test.YtbpofhlnnldceaaDoorRows
namespace Go.Proofs.YtbpofhlnnldceaaDoor.Ren
open Go.RowKit Go.Lib Go.Proofs.YtbpofhlnnldceaaDoor.Utf Go.Proofs.YtbpofhlnnldceaaDoor.Tre
open Go.ChangeShapes Go.WideShapes Go.ChangeAt
variable {H : Type} {enc : TypeId × Value → H} {w : World} {held : Bool}

theorem cwL_cons (x : Vt) (l : List Vt) : cwL (x :: l) = cw x + cwL l := by
  unfold cwL cw
  rw [cntL, wgL]
  omega
theorem bulk_all (l : List (DataW H)) (d : DataW H) (h : d ∈ l) : Rows.uptoBulk d ≤ Rows.uptoBulkAll l := by
  induction l with
  | nil => cases h
  | cons x r ih =>
    simp only [Rows.uptoBulkAll]
    rcases List.mem_cons.1 h with rfl | h
    · omega
    · have := ih h; omega
theorem bulk_strs : ∀ xs : List ByteArray, (xs.map ByteArray.size).sum ≤ Rows.uptoBulkAll (strs (H := H) xs)
  | [] => by simp [strs, Rows.uptoBulkAll]
  | x :: xs => by
    have ih := bulk_strs xs
    unfold strs at ih ⊢
    rw [List.map_cons, List.sum_cons, List.map_cons, Rows.uptoBulkAll]
    have e : x.data.toList.length = x.size := by simp
    simp only [Rows.uptoBulk]
    omega
theorem bulk_vals : ∀ (l : List Vt) (ds : List (DataW H)), l.length = ds.length → (∀ j (_ : j < l.length) (h' : j < ds.length), cw (l.getD j V0) ≤ Rows.uptoBulk (ds[j]'h')) → cwL l ≤ Rows.uptoBulkAll ds
  | [], _, _, _ => Nat.zero_le _
  | _ :: _, [], h, _ => by simp at h
  | x :: l, d :: ds, h, hj => by
    have h0 := hj 0 (by simp) (by simp)
    have ih := bulk_vals l ds (by simpa using h) fun j a b => by
      have := hj (j + 1) (by simpa using a) (by simpa using b)
      simpa using this
    rw [cwL_cons, Rows.uptoBulkAll]
    have h0' : cw x ≤ Rows.uptoBulk d := h0
    omega
/-- A row of strings, behind its one cell. -/
theorem bulk_names {fuel : Nat} {c : Value} {x : DataW H × List MemPlace} (h : DataW.trod enc Tryd.prog w 0 (fun _ => true) held fuel 23 [c] = some x) (hw : Light 23 x.1) :
    ∃ xs : List ByteArray, (Strs.Row w c xs ∧ xs.length * 16 ≤ 140737488351232 ∧ ∀ n ∈ xs, n.size ≤ 140737488351232) ∧ (xs.map ByteArray.size).sum ≤ Rows.uptoBulk x.1 := by
  rcases open_strings Tryd.underlying23 Tryd.underlying9 (by kernel_rfl) h with ⟨hcs, _⟩ | ⟨a, len, cap, zs, hcs, _, hl, hm, hz, hx, hcell, hwz⟩
  · simp only [List.cons.injEq, and_true] at hcs
    subst hcs
    exact ⟨[], ⟨.inl ⟨rfl, _, _, rfl⟩, by simp, fun n hn => by cases hn⟩, by simp⟩
  · simp only [List.cons.injEq, and_true] at hcs
    subst hcs hx
    simp only [if_true] at hz
    have hlen : (zs.take len).length = len := by rw [List.length_take]; omega
    obtain ⟨hw1, hw2⟩ := w_slice Tryd.underlying23 hw
    have hb : Tryd.prog.bytesOf 9 = 16 := by kernel_rfl
    rw [hb, reach_is] at hw1
    have hbk := bulk_strs (H := H) (zs.take len)
    unfold strs at hw1 hw2
    rw [List.length_map, List.length_map, hlen] at hw1
    refine ⟨zs.take len, ⟨?_, by rw [hlen]; omega, fun n hn => ?_⟩, ?_⟩
    · by_cases h0 : len = 0
      · subst h0
        exact .inl ⟨List.take_zero, _, _, rfl⟩
      · obtain ⟨b, off, spot⟩ := a
        have hspot : spot = none := by simpa [Addr.add] using World.cell?_spot (hcell 0 (by omega))
        subst hspot
        refine .inr ⟨b, off, cap, by rw [hlen], fun j hj => ?_⟩
        have hc := hcell j (by omega)
        have e : ((⟨b, off, none⟩ : Addr).add j) = ⟨b, off + j, none⟩ := by
          rcases j with _ | j <;> simp [Addr.add]
        rw [e] at hc
        rw [hc]
        have e2 : (zs.take len).getD j ⟨#[]⟩ = zs.getD j ByteArray.empty := by
          rw [List.getD, List.getD, List.getElem?_take_of_lt (by omega)]
          rfl
        rw [e2]
    · have := w_str (hw2 _ (List.mem_map.2 ⟨n, hn, rfl⟩))
      simpa using this
    · simp only [Rows.uptoBulk]
      omega
set_option maxRecDepth 100000 in
theorem bulk_tree : ∀ (fuel : Nat) (cs : List Value) (x : DataW H × List MemPlace), DataW.trod enc Tryd.prog w 0 (fun _ => true) held fuel 25 cs = some x → Light 25 x.1 → ∃ v, (InV w v cs ∧ OkT v) ∧ cw v ≤ Rows.uptoBulk x.1 := by
  intro fuel
  induction fuel using Nat.strongRecOn with
  | _ fuel ih =>
    intro cs x h hlt
    obtain ⟨xs, n, rfl, hx, hlen, hxl, hf⟩ := DataW.trod_struct Tryd.underlying25 h
    subst hx
    rw [info_T] at hlen
    obtain ⟨c0, c1, c2, c3, c4, rfl⟩ : ∃ c0 c1 c2 c3 c4, cs = [c0, c1, c2, c3, c4] := by
      match cs, hlen with
      | [a, b, c, d, e], _ => exact ⟨a, b, c, d, e, rfl⟩
    have i0 : Tryd.prog.cellsOf 3 = 1 := by kernel_rfl
    have i1 : Tryd.prog.cellsOf 2 = 1 := by kernel_rfl
    have i2 : Tryd.prog.cellsOf 9 = 1 := by kernel_rfl
    have i3 : Tryd.prog.cellsOf 22 = 1 := by kernel_rfl
    have i4 : Tryd.prog.cellsOf 23 = 1 := by kernel_rfl
    obtain ⟨y0, y1, y2, y3, y4, rfl⟩ : ∃ y0 y1 y2 y3 y4, xs = [y0, y1, y2, y3, y4] := by
      match xs, hxl with
      | [a, b, c, d, e], _ => exact ⟨a, b, c, d, e, rfl⟩
    have L2 : Light 9 y2.1 := w_field (j := 2) Tryd.underlying25 hlt rfl rfl
    have L3 : Light 22 y3.1 := w_field (j := 3) Tryd.underlying25 hlt rfl rfl
    have L4 : Light 23 y4.1 := w_field (j := 4) Tryd.underlying25 hlt rfl rfl
    have h0 : DataW.trod enc Tryd.prog w 0 (fun _ => true) held n 3 [c0] = some y0 := by
      have e : DataW.trod enc Tryd.prog w 0 (fun _ => true) held n 3 (List.take (Tryd.prog.cellsOf 3) (List.drop 0 [c0, c1, c2, c3, c4])) = some y0 := hf 0 _ rfl
      rw [i0] at e
      exact e
    have h1 : DataW.trod enc Tryd.prog w 0 (fun _ => true) held n 2 [c1] = some y1 := by
      have e : DataW.trod enc Tryd.prog w 0 (fun _ => true) held n 2 (List.take (Tryd.prog.cellsOf 2) (List.drop 1 [c0, c1, c2, c3, c4])) = some y1 := hf 1 _ rfl
      rw [i1] at e
      exact e
    have h2 : DataW.trod enc Tryd.prog w 0 (fun _ => true) held n 9 [c2] = some y2 := by
      have e : DataW.trod enc Tryd.prog w 0 (fun _ => true) held n 9 (List.take (Tryd.prog.cellsOf 9) (List.drop 2 [c0, c1, c2, c3, c4])) = some y2 := hf 2 _ rfl
      rw [i2] at e
      exact e
    have h3 : DataW.trod enc Tryd.prog w 0 (fun _ => true) held n 22 [c3] = some y3 := by
      have e : DataW.trod enc Tryd.prog w 0 (fun _ => true) held n 22 (List.take (Tryd.prog.cellsOf 22) (List.drop 3 [c0, c1, c2, c3, c4])) = some y3 := hf 3 _ rfl
      rw [i3] at e
      exact e
    have h4 : DataW.trod enc Tryd.prog w 0 (fun _ => true) held n 23 [c4] = some y4 := by
      have e : DataW.trod enc Tryd.prog w 0 (fun _ => true) held n 23 (List.take (Tryd.prog.cellsOf 23) (List.drop 4 [c0, c1, c2, c3, c4])) = some y4 := hf 4 _ rfl
      rw [i4] at e
      exact e
    obtain ⟨k, e0, _, w0⟩ := DataW.trod_int Tryd.underlying3 h0
    obtain ⟨m, e1, _, w1⟩ := DataW.trod_int Tryd.underlying2 h1
    obtain ⟨s, e2, d2, _⟩ := DataW.trod_string Tryd.underlying9 h2
    subst d2
    have w2 : s.size ≤ 140737488351232 := by simpa using w_str L2
    simp only [List.cons.injEq, and_true] at e0 e1 e2
    subst e0 e1 e2
    obtain ⟨ns, ⟨hr, hn1, hn2⟩, hnb⟩ := bulk_names h4 L4
    have items : ∃ (l : List Vt) (a : Option Addr) (cap : Nat), c3 = .slice a l.length cap ∧ l.length * 80 ≤ 140737488351232 ∧ (∀ j, j < l.length → (∃ b off, a = some ⟨b, off, none⟩ ∧ ∃ ds, w.rangeAt b (off + 5 * j) ds ∧ InV w (l.getD j V0) ds) ∧ OkT (l.getD j V0)) ∧ cwL l ≤ Rows.uptoBulk y3.1 := by
      rcases DataW.trod_slice Tryd.underlying22 h3 with ⟨hcs, _⟩ | ⟨a, len, cap, elems, rest, n', rfl, hcs, d3, _, hl, hm, hel, hall, _⟩
      · simp only [List.cons.injEq, and_true] at hcs
        exact ⟨[], none, 0, hcs, by simp, fun j hj => by simp at hj, Nat.zero_le _⟩
      · simp only [List.cons.injEq, and_true] at hcs
        subst d3
        obtain ⟨hw1, hw2⟩ := w_slice Tryd.underlying22 L3
        have hb : Tryd.prog.bytesOf 25 = 80 := by kernel_rfl
        rw [hb, reach_is, List.length_map, List.length_map] at hw1
        rw [info_T] at hall
        have key : ∀ j, j < len → ∃ v, ((∃ b off, some a = some (⟨b, off, none⟩ : Addr) ∧ ∃ ds, w.rangeAt b (off + 5 * j) ds ∧ InV w v ds) ∧ OkT v) ∧ ∀ h' : j < elems.length, cw v ≤ Rows.uptoBulk (elems[j]'h').1 := by
          intro j hj
          have hj2 := hall j hj
          rw [List.getElem?_eq_getElem (by omega)] at hj2
          obtain ⟨ds, hds, ht⟩ := Option.bind_eq_some_iff.1 hj2
          obtain ⟨v, ⟨hv1, hv2⟩, hv3⟩ := ih n' (by omega) ds _ ht (hw2 _ (List.mem_map.2 ⟨_, List.getElem_mem _, rfl⟩))
          obtain ⟨_, hdl, hdc⟩ := World.cells?_some hds
          obtain ⟨b, off, spot⟩ := a
          have hspot : spot = none := by
            have hz := hall 0 (by omega)
            rw [List.getElem?_eq_getElem (by omega)] at hz
            obtain ⟨ds0, hds0, _⟩ := Option.bind_eq_some_iff.1 hz
            obtain ⟨_, hdl0, hdc0⟩ := World.cells?_some hds0
            have h1 := hdc0 0 (by omega)
            rw [List.getElem?_eq_getElem (by omega)] at h1
            exact World.cell?_spot h1
          subst hspot
          refine ⟨v, ⟨⟨b, off, rfl, ds, fun i u hu => ?_, hv1⟩, hv2⟩, fun _ => hv3⟩
          have hi5 : i < 5 := by rw [← hdl]; exact (List.getElem?_eq_some_iff.1 hu).1
          have := hdc i hi5
          rw [add_mul] at this
          rw [this, hu]
        obtain ⟨l, hll, hlp⟩ := list_of len key
        subst hll
        refine ⟨l, some a, cap, hcs, by omega, fun j hj => (hlp j hj).1, ?_⟩
        have hb2 := bulk_vals l (elems.map (·.1)) (by rw [List.length_map]; omega) fun j h1 h2 => by
          have := (hlp j h1).2 (by simpa using h2)
          simpa using this
        simp only [Rows.uptoBulk]
        omega
    obtain ⟨l, a, cap, rfl, hll, hit, hib⟩ := items
    refine ⟨.mk k m s l ns, ⟨(InV_iff w _ _).2 ⟨a, cap, c4, rfl, fun j hj => (hit j hj).1, hr⟩, .mk _ ⟨bounds_i64 w0, bounds_i64 w1, w2, hll, hn1, hn2⟩ fun x hx => ?_⟩, ?_⟩
    rotate_left
    · have es : s.data.toList.length = s.size := by simp
      rw [cw_mk]
      unfold nmz
      simp only [List.map_cons, List.map_nil, Rows.uptoBulk, Rows.uptoBulkAll]
      omega
    obtain ⟨j, hj, rfl⟩ := List.getElem_of_mem hx
    have := (hit j hj).2
    rw [List.getD_eq_getElem?_getD, List.getElem?_eq_getElem (show j < l.length from hj)] at this
    exact this
set_option maxRecDepth 100000 in
/-- An argument that is a value. -/
theorem bulk_value {r : Reach} {b0 : Nat} {v : Value} {d : DataW H} {p : List MemPlace} (hval : Value.okWide Tryd.prog w r b0 25 v) (h : DataW.Trod enc Tryd.prog w 0 (fun _ => true) held 25 v d p) (hw : Light 25 d) :
    ∃ t cs, v = .agg cs.toArray ∧ InV w t cs ∧ OkT t ∧ cw t ≤ Rows.uptoBulk d := by
  obtain ⟨cs, rfl, _⟩ := okWide_struct Tryd.underlying25 hval
  obtain ⟨fuel, hf⟩ := h
  obtain ⟨t, ⟨h1, h2⟩, h3⟩ := bulk_tree fuel _ _ hf hw
  exact ⟨t, _, by simp [Value.cells], h1, h2, h3⟩
end Go.Proofs.YtbpofhlnnldceaaDoor.Ren
