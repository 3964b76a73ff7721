/- Texts of my own, packed: TreBk, JsnZ, JsnXk. Conditions: as each theorem states. -/
import Derived.Test.YtehkiojohldlgaaGreatDoorRows
import Derived.Deep.RegionLaw
import Derived.Deep.CutRange
import Derived.Test.YtehkiojohldlgaaGreatDoorK07
import Derived.Test.YtehkiojohldlgaaGreatDoorK37
import Derived.Test.YtehkiojohldlgaaGreatDoorK41
import Derived.Test.YtehkiojohldlgaaGreatDoorK46
namespace Go.Proofs.YtehkiojohldlgaaGreatDoor.Ren
open Go.RowKit Go.Lib Go.Proofs.YtehkiojohldlgaaGreatDoor.Utf Go.Proofs.YtehkiojohldlgaaGreatDoor.Tre
open Go.ChangeShapes Go.WideShapes Go.ChangeAt
variable {H : Type} {enc : TypeId × Value → H} {w : World} {held : Bool}

theorem cwL_cons (x : Vt) (l : List Vt) : cwL (x :: l) = cw x + cwL l := by
  unfold cwL cw
  rw [cntL, wgL]
  omega
theorem bulk_strs : ∀ xs : List ByteArray, (xs.map ByteArray.size).sum ≤ Rows.uptoBulkAll (strs (H := H) xs)
  | [] => by simp [strs, Rows.uptoBulkAll]
  | x :: xs => by
    have ih := bulk_strs xs
    unfold strs at ih ⊢
    rw [List.map_cons, List.sum_cons, List.map_cons, Rows.uptoBulkAll]
    have e : x.data.toList.length = x.size := by simp
    simp only [Rows.uptoBulk]
    omega
theorem bulk_vals : ∀ (l : List Vt) (ds : List (DataW H)), l.length = ds.length → (∀ j (_ : j < l.length) (h' : j < ds.length), cw (l.getD j V0) ≤ Rows.uptoBulk (ds[j]'h')) → cwL l ≤ Rows.uptoBulkAll ds
  | [], _, _, _ => Nat.zero_le _
  | _ :: _, [], h, _ => by simp at h
  | x :: l, d :: ds, h, hj => by
    have h0 := hj 0 (by simp) (by simp)
    have ih := bulk_vals l ds (by simpa using h) fun j a b => by
      have := hj (j + 1) (by simpa using a) (by simpa using b)
      simpa using this
    rw [cwL_cons, Rows.uptoBulkAll]
    have h0' : cw x ≤ Rows.uptoBulk d := h0
    omega
/-- A row of strings, behind its one cell. -/
theorem bulk_names {fuel : Nat} {c : Value} {x : DataW H × List MemPlace} (h : DataW.trod enc Tryz.prog w 0 (fun _ => true) held fuel 24 [c] = some x) (hw : Light 24 x.1) :
    ∃ xs : List ByteArray, (Strs.Row w c xs ∧ xs.length * 16 ≤ 140737488351232 ∧ ∀ n ∈ xs, n.size ≤ 140737488351232) ∧ (xs.map ByteArray.size).sum ≤ Rows.uptoBulk x.1 := by
  rcases open_strings Tryz.underlying24 Tryz.underlying9 (by kernel_rfl) h with ⟨hcs, _⟩ | ⟨a, len, cap, zs, hcs, _, hl, hm, hz, hx, hcell, hwz⟩
  · simp only [List.cons.injEq, and_true] at hcs
    subst hcs
    exact ⟨[], ⟨.inl ⟨rfl, _, _, rfl⟩, by simp, fun n hn => by cases hn⟩, by simp⟩
  · simp only [List.cons.injEq, and_true] at hcs
    subst hcs hx
    simp only [if_true] at hz
    have hlen : (zs.take len).length = len := by rw [List.length_take]; omega
    obtain ⟨hw1, hw2⟩ := w_slice Tryz.underlying24 hw
    have hb : Tryz.prog.bytesOf 9 = 16 := by kernel_rfl
    rw [hb, reach_is] at hw1
    have hbk := bulk_strs (H := H) (zs.take len)
    unfold strs at hw1 hw2
    rw [List.length_map, List.length_map, hlen] at hw1
    refine ⟨zs.take len, ⟨?_, by rw [hlen]; omega, fun n hn => ?_⟩, ?_⟩
    · by_cases h0 : len = 0
      · subst h0
        exact .inl ⟨List.take_zero, _, _, rfl⟩
      · obtain ⟨b, off, spot⟩ := a
        have hspot : spot = none := by simpa [Addr.add] using World.cell?_spot (hcell 0 (by omega))
        subst hspot
        refine .inr ⟨b, off, cap, by rw [hlen], fun j hj => ?_⟩
        have hc := hcell j (by omega)
        have e : ((⟨b, off, none⟩ : Addr).add j) = ⟨b, off + j, none⟩ := by
          rcases j with _ | j <;> simp [Addr.add]
        rw [e] at hc
        rw [hc]
        have e2 : (zs.take len).getD j ⟨#[]⟩ = zs.getD j ByteArray.empty := by
          rw [List.getD, List.getD, List.getElem?_take_of_lt (by omega)]
          rfl
        rw [e2]
    · have := w_str (hw2 _ (List.mem_map.2 ⟨n, hn, rfl⟩))
      simpa using this
    · simp only [Rows.uptoBulk]
      omega
set_option maxRecDepth 100000 in
theorem bulk_tree : ∀ (fuel : Nat) (cs : List Value) (x : DataW H × List MemPlace), DataW.trod enc Tryz.prog w 0 (fun _ => true) held fuel 26 cs = some x → Light 26 x.1 → ∃ v, (InV w v cs ∧ OkT v) ∧ cw v ≤ Rows.uptoBulk x.1 := by
  intro fuel
  induction fuel using Nat.strongRecOn with
  | _ fuel ih =>
    intro cs x h hlt
    obtain ⟨xs, n, rfl, hx, hlen, hxl, hf⟩ := DataW.trod_struct Tryz.underlying26 h
    subst hx
    rw [info_T] at hlen
    obtain ⟨c0, c1, c2, c3, c4, rfl⟩ : ∃ c0 c1 c2 c3 c4, cs = [c0, c1, c2, c3, c4] := by
      match cs, hlen with
      | [a, b, c, d, e], _ => exact ⟨a, b, c, d, e, rfl⟩
    have i0 : Tryz.prog.cellsOf 3 = 1 := by kernel_rfl
    have i1 : Tryz.prog.cellsOf 2 = 1 := by kernel_rfl
    have i2 : Tryz.prog.cellsOf 9 = 1 := by kernel_rfl
    have i3 : Tryz.prog.cellsOf 23 = 1 := by kernel_rfl
    have i4 : Tryz.prog.cellsOf 24 = 1 := by kernel_rfl
    obtain ⟨y0, y1, y2, y3, y4, rfl⟩ : ∃ y0 y1 y2 y3 y4, xs = [y0, y1, y2, y3, y4] := by
      match xs, hxl with
      | [a, b, c, d, e], _ => exact ⟨a, b, c, d, e, rfl⟩
    have L2 : Light 9 y2.1 := w_field (j := 2) Tryz.underlying26 hlt rfl rfl
    have L3 : Light 23 y3.1 := w_field (j := 3) Tryz.underlying26 hlt rfl rfl
    have L4 : Light 24 y4.1 := w_field (j := 4) Tryz.underlying26 hlt rfl rfl
    have h0 : DataW.trod enc Tryz.prog w 0 (fun _ => true) held n 3 [c0] = some y0 := by
      have e : DataW.trod enc Tryz.prog w 0 (fun _ => true) held n 3 (List.take (Tryz.prog.cellsOf 3) (List.drop 0 [c0, c1, c2, c3, c4])) = some y0 := hf 0 _ rfl
      rw [i0] at e
      exact e
    have h1 : DataW.trod enc Tryz.prog w 0 (fun _ => true) held n 2 [c1] = some y1 := by
      have e : DataW.trod enc Tryz.prog w 0 (fun _ => true) held n 2 (List.take (Tryz.prog.cellsOf 2) (List.drop 1 [c0, c1, c2, c3, c4])) = some y1 := hf 1 _ rfl
      rw [i1] at e
      exact e
    have h2 : DataW.trod enc Tryz.prog w 0 (fun _ => true) held n 9 [c2] = some y2 := by
      have e : DataW.trod enc Tryz.prog w 0 (fun _ => true) held n 9 (List.take (Tryz.prog.cellsOf 9) (List.drop 2 [c0, c1, c2, c3, c4])) = some y2 := hf 2 _ rfl
      rw [i2] at e
      exact e
    have h3 : DataW.trod enc Tryz.prog w 0 (fun _ => true) held n 23 [c3] = some y3 := by
      have e : DataW.trod enc Tryz.prog w 0 (fun _ => true) held n 23 (List.take (Tryz.prog.cellsOf 23) (List.drop 3 [c0, c1, c2, c3, c4])) = some y3 := hf 3 _ rfl
      rw [i3] at e
      exact e
    have h4 : DataW.trod enc Tryz.prog w 0 (fun _ => true) held n 24 [c4] = some y4 := by
      have e : DataW.trod enc Tryz.prog w 0 (fun _ => true) held n 24 (List.take (Tryz.prog.cellsOf 24) (List.drop 4 [c0, c1, c2, c3, c4])) = some y4 := hf 4 _ rfl
      rw [i4] at e
      exact e
    obtain ⟨k, e0, _, w0⟩ := DataW.trod_int Tryz.underlying3 h0
    obtain ⟨m, e1, _, w1⟩ := DataW.trod_int Tryz.underlying2 h1
    obtain ⟨s, e2, d2, _⟩ := DataW.trod_string Tryz.underlying9 h2
    subst d2
    have w2 : s.size ≤ 140737488351232 := by simpa using w_str L2
    simp only [List.cons.injEq, and_true] at e0 e1 e2
    subst e0 e1 e2
    obtain ⟨ns, ⟨hr, hn1, hn2⟩, hnb⟩ := bulk_names h4 L4
    have items : ∃ (l : List Vt) (a : Option Addr) (cap : Nat), c3 = .slice a l.length cap ∧ l.length * 80 ≤ 140737488351232 ∧ (∀ j, j < l.length → (∃ b off, a = some ⟨b, off, none⟩ ∧ ∃ ds, w.rangeAt b (off + 5 * j) ds ∧ InV w (l.getD j V0) ds) ∧ OkT (l.getD j V0)) ∧ cwL l ≤ Rows.uptoBulk y3.1 := by
      rcases DataW.trod_slice Tryz.underlying23 h3 with ⟨hcs, _⟩ | ⟨a, len, cap, elems, rest, n', rfl, hcs, d3, _, hl, hm, hel, hall, _⟩
      · simp only [List.cons.injEq, and_true] at hcs
        exact ⟨[], none, 0, hcs, by simp, fun j hj => by simp at hj, Nat.zero_le _⟩
      · simp only [List.cons.injEq, and_true] at hcs
        subst d3
        obtain ⟨hw1, hw2⟩ := w_slice Tryz.underlying23 L3
        have hb : Tryz.prog.bytesOf 26 = 80 := by kernel_rfl
        rw [hb, reach_is, List.length_map, List.length_map] at hw1
        rw [info_T] at hall
        have key : ∀ j, j < len → ∃ v, ((∃ b off, some a = some (⟨b, off, none⟩ : Addr) ∧ ∃ ds, w.rangeAt b (off + 5 * j) ds ∧ InV w v ds) ∧ OkT v) ∧ ∀ h' : j < elems.length, cw v ≤ Rows.uptoBulk (elems[j]'h').1 := by
          intro j hj
          have hj2 := hall j hj
          rw [List.getElem?_eq_getElem (by omega)] at hj2
          obtain ⟨ds, hds, ht⟩ := Option.bind_eq_some_iff.1 hj2
          obtain ⟨v, ⟨hv1, hv2⟩, hv3⟩ := ih n' (by omega) ds _ ht (hw2 _ (List.mem_map.2 ⟨_, List.getElem_mem _, rfl⟩))
          obtain ⟨_, hdl, hdc⟩ := World.cells?_some hds
          obtain ⟨b, off, spot⟩ := a
          have hspot : spot = none := by
            have hz := hall 0 (by omega)
            rw [List.getElem?_eq_getElem (by omega)] at hz
            obtain ⟨ds0, hds0, _⟩ := Option.bind_eq_some_iff.1 hz
            obtain ⟨_, hdl0, hdc0⟩ := World.cells?_some hds0
            have h1 := hdc0 0 (by omega)
            rw [List.getElem?_eq_getElem (by omega)] at h1
            exact World.cell?_spot h1
          subst hspot
          refine ⟨v, ⟨⟨b, off, rfl, ds, fun i u hu => ?_, hv1⟩, hv2⟩, fun _ => hv3⟩
          have hi5 : i < 5 := by rw [← hdl]; exact (List.getElem?_eq_some_iff.1 hu).1
          have := hdc i hi5
          rw [add_mul] at this
          rw [this, hu]
        obtain ⟨l, hll, hlp⟩ := list_of len key
        subst hll
        refine ⟨l, some a, cap, hcs, by omega, fun j hj => (hlp j hj).1, ?_⟩
        have hb2 := bulk_vals l (elems.map (·.1)) (by rw [List.length_map]; omega) fun j h1 h2 => by
          have := (hlp j h1).2 (by simpa using h2)
          simpa using this
        simp only [Rows.uptoBulk]
        omega
    obtain ⟨l, a, cap, rfl, hll, hit, hib⟩ := items
    refine ⟨.mk k m s l ns, ⟨(InV_iff w _ _).2 ⟨a, cap, c4, rfl, fun j hj => (hit j hj).1, hr⟩, .mk _ ⟨bounds_i64 w0, bounds_i64 w1, w2, hll, hn1, hn2⟩ fun x hx => ?_⟩, ?_⟩
    rotate_left
    · have es : s.data.toList.length = s.size := by simp
      rw [cw_mk]
      unfold nmz
      simp only [List.map_cons, List.map_nil, Rows.uptoBulk, Rows.uptoBulkAll]
      omega
    obtain ⟨j, hj, rfl⟩ := List.getElem_of_mem hx
    have := (hit j hj).2
    rw [List.getD_eq_getElem?_getD, List.getElem?_eq_getElem (show j < l.length from hj)] at this
    exact this
set_option maxRecDepth 100000 in
/-- An argument that is a value. -/
theorem bulk_value {r : Reach} {b0 : Nat} {v : Value} {d : DataW H} {p : List MemPlace} (hval : Value.okWide Tryz.prog w r b0 26 v) (h : DataW.Trod enc Tryz.prog w 0 (fun _ => true) held 26 v d p) (hw : Light 26 d) :
    ∃ t cs, v = .agg cs.toArray ∧ InV w t cs ∧ OkT t ∧ cw t ≤ Rows.uptoBulk d := by
  obtain ⟨cs, rfl, _⟩ := okWide_struct Tryz.underlying26 hval
  obtain ⟨fuel, hf⟩ := h
  obtain ⟨t, ⟨h1, h2⟩, h3⟩ := bulk_tree fuel _ _ hf hw
  exact ⟨t, _, by simp [Value.cells], h1, h2, h3⟩
end Go.Proofs.YtehkiojohldlgaaGreatDoor.Ren

namespace Go.Proofs.YtehkiojohldlgaaGreatDoor.Jsn
open Go.RowKit Go.Lib
open Go.Proofs.YtehkiojohldlgaaGreatDoor.Tre (Vt V0 InV InS InS_upd InS_iff OwnR Box box_new box_set box_set4 set_other own_in own_apart)
open Go.Proofs.YtehkiojohldlgaaGreatDoor.Rul (Ru ruC Bx kB)

/-- The object's variable, and its rows. -/
structure Oj (N g : Nat) (m : List (ByteArray × Vt)) (c3 c4 : Value) (W : World) : Prop where
  vb : Box W g #[.int .i64 5, .int .i64 0, .string ⟨#[]⟩, c3, c4]
  ob : Ob N W m c3 c4
  ng : ¬ own2 c3 c4 g
theorem Oj.next {N g : Nat} {m : List (ByteArray × Vt)} {c3 c4 : Value} {W W' : World} (h : Oj N g m c3 c4 W) (hb : Below W.heap.size W W') : Oj N g m c3 c4 W' :=
  ⟨h.vb.next hb h.vb.lt, h.ob.keep fun b hb' => hb.block b (h.ob.in_ hb').2, h.ng⟩
/-- While a member is put on: its name may stand already. -/
structure Px (N g : Nat) (W0 : World) (c3 c4 : Value) (D : List (List Value)) (ns : List ByteArray) (d3 d4 : Value) (W : World) : Prop where
  r3 : OwnR W N d3 D
  r4 : Strs.Own W N d4 ns
  bx : Box W g #[.int .i64 5, .int .i64 0, .string ⟨#[]⟩, d3, d4]
  n3 : ∀ b, d3.ownBlock = some b → c3.ownBlock = some b ∨ W0.heap.size ≤ b
  n4 : ∀ b, d4.ownBlock = some b → c4.ownBlock = some b ∨ W0.heap.size ≤ b
  ng : ¬ own2 d3 d4 g
  ch : Ch (fun b => b = g ∨ own2 c3 c4 b) W0 W
  hN : N ≤ W0.heap.size
section
variable {N g : Nat} {W0 W w4 W' : World} {c3 c4 d3 d4 v' : Value} {D : List (List Value)} {ns : List ByteArray} {t : ByteArray} {es : List Value}
theorem Px.next (h : Px N g W0 c3 c4 D ns d3 d4 W) (hb : Below W.heap.size W W') : Px N g W0 c3 c4 D ns d3 d4 W' :=
  ⟨h.r3.next hb, Strs.Own.next h.r4 hb, h.bx.next hb h.bx.lt, h.n3, h.n4, h.ng, h.ch.trans (S' := fun _ => False) (Ch.of hb) fun _ _ q => q.elim, h.hN⟩
theorem Px.pushN (h : Px N g W0 c3 c4 D ns d3 d4 W) (hv : Strs.Own w4 N v' (ns ++ [t])) (hg : W.grownBy w4 d4.ownBlock) (hk : ∀ b, v'.ownBlock = some b → d4.ownBlock = some b ∨ b = W.heap.size) :
    Box w4 g #[.int .i64 5, .int .i64 0, .string ⟨#[]⟩, d3, d4] ∧ Px N g W0 c3 c4 D (ns ++ [t]) d3 v' (w4.setCell ⟨g, 4, none⟩ v') := by
  have hs4 := hg.size
  have hs0 := h.ch.size
  have hgl := h.bx.lt
  have keep : ∀ b, b < W.heap.size → d4.ownBlock ≠ some b → w4.heap[b]? = W.heap[b]? := fun b hb hne => hg.block b hb (fun q => hne q.symm)
  have bx : Box w4 g #[.int .i64 5, .int .i64 0, .string ⟨#[]⟩, d3, d4] := (keep _ h.bx.lt (fun q => h.ng (.inr q))).trans h.bx
  have n4 : ∀ b, v'.ownBlock = some b → c4.ownBlock = some b ∨ W0.heap.size ≤ b := fun b hb => by
    rcases hk b hb with q | q
    · exact h.n4 b q
    · right; omega
  have ng : ¬ own2 d3 v' g := fun q => by
    rcases q with q | q
    · exact h.ng (.inl q)
    · rcases hk g q with q | q
      · exact h.ng (.inr q)
      · omega
  have fin : ∀ b, b ≠ g → (w4.setCell ⟨g, 4, none⟩ v').heap[b]? = w4.heap[b]? := fun b hb => set_other v' hb
  refine ⟨bx, ⟨?_, ?_, box_set4 bx v', h.n3, n4, ng, ?_, h.hN⟩⟩
  · refine h.r3.beside fun b hb => (fin b fun q => h.ng (.inl (q ▸ hb))).trans (keep b (own_in h.r3 hb).2 ?_)
    exact own_apart h.r3 h.r4 hb
  · exact str_keep hv fun b hb => fin b fun q => ng (.inr (q ▸ hb))
  · refine h.ch.trans (S' := fun b => d4.ownBlock = some b ∨ b = g) ⟨hg.os, hg.tape, hg.output, by simp; omega, fun b hb hn => ?_⟩ ?_
    · exact (fin b fun q => hn (.inr q)).trans (keep b hb fun q => hn (.inl q))
    · rintro x hx (q | q)
      · rcases h.n4 x q with k | k
        · exact .inr (.inr k)
        · omega
      · exact .inl q
theorem Px.pushV (h : Px N g W0 c3 c4 D ns d3 d4 W) (hv : OwnR w4 N v' (D ++ [es])) (hg : Ch (fun b => d3.ownBlock = some b) W w4) (hk : ∀ b, v'.ownBlock = some b → d3.ownBlock = some b ∨ b = W.heap.size) :
    Box w4 g #[.int .i64 5, .int .i64 0, .string ⟨#[]⟩, d3, d4] ∧ Px N g W0 c3 c4 (D ++ [es]) ns v' d4 (w4.setCell ⟨g, 3, none⟩ v') := by
  have hs4 := hg.size
  have hs0 := h.ch.size
  have hgl := h.bx.lt
  have keep : ∀ b, b < W.heap.size → d3.ownBlock ≠ some b → w4.heap[b]? = W.heap[b]? := fun b hb hne => hg.block b hb hne
  have bx : Box w4 g #[.int .i64 5, .int .i64 0, .string ⟨#[]⟩, d3, d4] := (keep _ h.bx.lt (fun q => h.ng (.inl q))).trans h.bx
  have n3 : ∀ b, v'.ownBlock = some b → c3.ownBlock = some b ∨ W0.heap.size ≤ b := fun b hb => by
    rcases hk b hb with q | q
    · exact h.n3 b q
    · right; omega
  have ng : ¬ own2 v' d4 g := fun q => by
    rcases q with q | q
    · rcases hk g q with q | q
      · exact h.ng (.inl q)
      · omega
    · exact h.ng (.inr q)
  have fin : ∀ b, b ≠ g → (w4.setCell ⟨g, 3, none⟩ v').heap[b]? = w4.heap[b]? := fun b hb => set_other v' hb
  refine ⟨bx, ⟨?_, ?_, box_set bx v', n3, h.n4, ng, ?_, h.hN⟩⟩
  · exact hv.beside fun b hb => fin b fun q => ng (.inl (q ▸ hb))
  · refine str_keep h.r4 fun b hb => (fin b fun q => h.ng (.inr (q ▸ hb))).trans (keep b (str_in h.r4 hb).2 fun q => ?_)
    exact own_apart h.r3 h.r4 q hb
  · refine h.ch.trans (S' := fun b => d3.ownBlock = some b ∨ b = g) ⟨hg.os, hg.tape, hg.output, by simp; omega, fun b hb hn => ?_⟩ ?_
    · exact (fin b fun q => hn (.inr q)).trans (keep b hb fun q => hn (.inl q))
    · rintro x hx (q | q)
      · rcases h.n3 x q with k | k
        · exact .inr (.inl k)
        · omega
      · exact .inl q
theorem Px.start {m : List (ByteArray × Vt)} (h : Oj N g m c3 c4 W0) (hN : N ≤ W0.heap.size) : ∃ D, D.length = m.length ∧ (∀ j, j < m.length → ∀ W, InS (fun _ => False) W (m.getD j (⟨#[]⟩, V0)).2 (D.getD j [])) ∧ Px N g W0 c3 c4 D (m.map Prod.fst) c3 c4 W0 := by
  obtain ⟨D, h1, h2, h3, h4⟩ := h.ob
  exact ⟨D, h2, fun j hj W => InS_leaf (h3 j hj), ⟨h1, h4, h.vb, fun b hb => .inl hb, fun b hb => .inl hb, h.ng, Ch.refl _ _, hN⟩⟩
theorem Px.out {m : List (ByteArray × Vt)} {x : Vt} {nm : ByteArray} (h : Px N g W0 c3 c4 (D ++ [es]) (m.map Prod.fst ++ [nm]) d3 d4 W) (hl : D.length = m.length) (hi : ∀ j, j < m.length → ∀ W, InS (fun _ => False) W (m.getD j (⟨#[]⟩, V0)).2 (D.getD j [])) (hx : ∀ W, InS (fun _ => False) W x es) :
    Oj N g (m ++ [(nm, x)]) d3 d4 W ∧ (∀ b, own2 d3 d4 b → own2 c3 c4 b ∨ W0.heap.size ≤ b) ∧ Ch (fun b => b = g ∨ own2 c3 c4 b) W0 W := by
  refine ⟨⟨h.bx, ⟨D ++ [es], h.r3, by rw [List.length_append, List.length_append, hl]; rfl, fun j hj => ?_, by rw [map_fst]; exact h.r4⟩, h.ng⟩, ?_, h.ch⟩
  · rw [getD_snoc, getD_snoc]
    by_cases hji : j < m.length
    · rw [if_pos hji, if_pos (by omega)]
      exact hi j hji W
    · have hj2 : j = m.length := by rw [List.length_append] at hj; simp at hj; omega
      rw [if_neg hji, if_pos hj2, if_neg (by omega), if_pos (by omega)]
      exact hx W
  · rintro b (q | q)
    · rcases h.n3 b q with k | k
      · exact .inl (.inl k)
      · exact .inr k
    · rcases h.n4 b q with k | k
      · exact .inl (.inr k)
      · exact .inr k
end
theorem Ch.mono {S S' : Nat → Prop} {w w' : World} (h : Ch S w w') (k : ∀ b, S b → S' b) : Ch S' w w' := ⟨h.os, h.tape, h.output, h.size, fun b hb hn => h.block b hb fun q => hn (k b q)⟩
theorem Px.done {N g : Nat} {w W : World} {o : Obj} {c3 c4 : Value} {a3 : Option Addr} {n3 p3 : Nat} {a4 : Option Addr} {n4 p4 : Nat} {D : List (List Value)} {es : List Value} {m : List (ByteArray × Vt)} {x : Vt} {nm : ByteArray} (h : Px N g (w.alloc o) c3 c4 (D ++ [es]) (m.map Prod.fst ++ [nm]) (.slice a3 n3 p3) (.slice a4 n4 p4) W) (hl : D.length = m.length) (hi : ∀ j, j < m.length → ∀ W, InS (fun _ => False) W (m.getD j (⟨#[]⟩, V0)).2 (D.getD j [])) (hx : ∀ W, InS (fun _ => False) W x es) :
    ∃ a3 n3 p3 a4 n4 p4, Oj N g (m ++ [(nm, x)]) (.slice a3 n3 p3) (.slice a4 n4 p4) W ∧ (∀ b, own2 (.slice a3 n3 p3) (.slice a4 n4 p4) b → own2 c3 c4 b ∨ w.heap.size ≤ b) ∧ Ch (fun b => b = g ∨ own2 c3 c4 b) w W := by
  obtain ⟨h1, h2, h3⟩ := h.out hl hi hx
  refine ⟨_, _, _, _, _, _, h1, fun b hb => (h2 b hb).imp id fun q => ?_, (Ch.of (S := fun b => b = g ∨ own2 c3 c4 b) ((Below.refl w.heap.size w).alloc (Nat.le_refl _) o)).trans h3 fun _ _ q => q⟩
  rw [World.size_alloc] at q
  omega
theorem names_new (w : World) (a b : Obj) : ((w.alloc a).alloc b).heap[w.heap.size + 1]? = some b := by
  have h := heap_alloc_new (w.alloc a) b
  rw [World.size_alloc] at h
  exact h
theorem grown_ch {W w4 : World} {v : Value} (hg : W.grownBy w4 v.ownBlock) : Ch (fun b => v.ownBlock = some b) W w4 := ⟨hg.os, hg.tape, hg.output, hg.size, fun b hb hn => hg.block b hb (fun q => hn q.symm)⟩
/-- Behind the append of a zero item: the row's block, its last five cells and what a store there is asked. -/
theorem own_new {N : Nat} {W : World} {v : Value} {D : List (List Value)} {z : List Value} (h : OwnR W N v (D ++ [z])) : ∃ g cap, v = .slice (some ⟨g, 0, none⟩) (D.length + 1) cap ∧ N ≤ g ∧ g < W.heap.size := by
  rcases h.shape with ⟨_, q⟩ | ⟨g, cap, rfl, h1, h2⟩
  · exact absurd q (by simp)
  · exact ⟨g, cap, by rw [List.length_append]; rfl, h1, h2⟩
/-- The five cells of an item in a row, and what the walk asks of a store there. -/
theorem own_cells5 {W : World} {B g n cap : Nat} {D : List (List Value)} (h : OwnR W B (.slice (some ⟨g, 0, none⟩) n cap) D) {i : Nat} (hi : i < D.length) : ∃ z0 z1 z2 z3 z4, D.getD i [] = [z0, z1, z2, z3, z4] ∧ W.cell? ⟨g, i * 5, none⟩ = some z0 ∧ W.cell? ⟨g, i * 5 + 1, none⟩ = some z1 ∧ W.cell? ⟨g, i * 5 + 2, none⟩ = some z2 ∧ W.cell? ⟨g, i * 5 + 3, none⟩ = some z3 ∧ W.cell? ⟨g, i * 5 + 4, none⟩ = some z4 ∧
    (∀ u0, (W.setCell ⟨g, i * 5, none⟩ u0).cell? ⟨g, i * 5 + 1, none⟩ = some z1) ∧ (∀ u0 u1, ((W.setCell ⟨g, i * 5, none⟩ u0).setCell ⟨g, i * 5 + 1, none⟩ u1).cell? ⟨g, i * 5 + 2, none⟩ = some z2) ∧
    (∀ u0 u1 u2, (((W.setCell ⟨g, i * 5, none⟩ u0).setCell ⟨g, i * 5 + 1, none⟩ u1).setCell ⟨g, i * 5 + 2, none⟩ u2).cell? ⟨g, i * 5 + 3, none⟩ = some z3) ∧
    (∀ u0 u1 u2 u3, ((((W.setCell ⟨g, i * 5, none⟩ u0).setCell ⟨g, i * 5 + 1, none⟩ u1).setCell ⟨g, i * 5 + 2, none⟩ u2).setCell ⟨g, i * 5 + 3, none⟩ u3).cell? ⟨g, i * 5 + 4, none⟩ = some z4) ∧ ∀ j, W.frozen? ⟨g, j, none⟩ = false := by
  obtain ⟨a, cp, e, ho⟩ := h.open_
  injection e with e _ _
  obtain ⟨g', e2, _, _, hr, _⟩ := ho i hi
  rw [← e] at e2
  injection e2 with e2
  injection e2 with e2
  subst e2
  have h5 : (D.getD i []).length = 5 := h.1 _ ((by rw [List.getD_eq_getElem?_getD, List.getElem?_eq_getElem hi]; exact List.getElem_mem hi))
  obtain ⟨z0, z1, z2, z3, z4, hz⟩ : ∃ z0 z1 z2 z3 z4, D.getD i [] = [z0, z1, z2, z3, z4] := by
    match D.getD i [], h5 with
    | [a, b, x, d, e], _ => exact ⟨a, b, x, d, e, rfl⟩
  rw [hz] at hr
  have ne : ∀ {x y : Nat}, x ≠ y → (⟨g, x, none⟩ : Addr) ≠ ⟨g, y, none⟩ := fun h q => h (by injection q)
  have k1 : W.cell? ⟨g, i * 5 + 1, none⟩ = some z1 := hr 1 z1 rfl
  have k2 : W.cell? ⟨g, i * 5 + 2, none⟩ = some z2 := hr 2 z2 rfl
  have k3 : W.cell? ⟨g, i * 5 + 3, none⟩ = some z3 := hr 3 z3 rfl
  have k4 : W.cell? ⟨g, i * 5 + 4, none⟩ = some z4 := hr 4 z4 rfl
  refine ⟨z0, z1, z2, z3, z4, hz, hr 0 z0 rfl, k1, k2, k3, k4, fun u0 => ?_, fun u0 u1 => ?_, fun u0 u1 u2 => ?_, fun u0 u1 u2 u3 => ?_, fun j => World.ownsRow.frozenAt (by
    have hn : D.length = n := by
      rcases h.shape with ⟨q, _⟩ | ⟨g', cap', q, _⟩
      · cases q
      · injection q with _ q2 _; exact q2.symm
    have := h.2
    rw [hn] at this
    exact this) j⟩
  · rw [World.cell?_setCell_other _ _ _ _ (ne (by omega))]; exact k1
  · rw [World.cell?_setCell_other _ _ _ _ (ne (by omega)), World.cell?_setCell_other _ _ _ _ (ne (by omega))]; exact k2
  · rw [World.cell?_setCell_other _ _ _ _ (ne (by omega)), World.cell?_setCell_other _ _ _ _ (ne (by omega)), World.cell?_setCell_other _ _ _ _ (ne (by omega))]; exact k3
  · rw [World.cell?_setCell_other _ _ _ _ (ne (by omega)), World.cell?_setCell_other _ _ _ _ (ne (by omega)), World.cell?_setCell_other _ _ _ _ (ne (by omega)), World.cell?_setCell_other _ _ _ _ (ne (by omega))]; exact k4
theorem ch_sets (W : World) (g o : Nat) (vs : List Value) : Ch (fun b => b = g) W (W.setCells g o vs) := by
  have h := Tre.below_sets (Nat.le_refl g) vs o W (Below.refl g W)
  exact ⟨h.os, h.tape, h.output, h.size, fun b _ hb => Tre.sets_other g hb vs o W⟩
theorem set_last (D : List (List Value)) (z e : List Value) : (D ++ [z]).set D.length e = D ++ [e] := by simp
/-- The row's new item is stored behind the field. -/
theorem Px.setRow {N g g9 n cap : Nat} {W0 W : World} {c3 c4 d4 : Value} {D : List (List Value)} {z es : List Value} {ns : List ByteArray} (h : Px N g W0 c3 c4 (D ++ [z]) ns (.slice (some ⟨g9, 0, none⟩) n cap) d4 W) (h5 : es.length = 5) : Px N g W0 c3 c4 (D ++ [es]) ns (.slice (some ⟨g9, 0, none⟩) n cap) d4 (W.setCells g9 (D.length * 5) es) := by
  have hc := ch_sets W g9 (D.length * 5) es
  have hg9 : g ≠ g9 := fun q => h.ng (.inl (by rw [q]; rfl))
  have ho := h.r3.set_ (j := D.length) (by simp) h5
  rw [set_last] at ho
  refine ⟨ho, str_keep h.r4 fun b hb => Tre.sets_other g9 (fun q => own_apart h.r3 h.r4 (by rw [q]; rfl) hb) _ _ _, (Tre.sets_other g9 hg9 _ _ _).trans h.bx, h.n3, h.n4, h.ng, h.ch.trans hc ?_, h.hN⟩
  rintro x hx rfl
  rcases h.n3 x rfl with q | q
  · exact .inr (.inl q)
  · omega
/-- Behind the append of a zero item: the item and the field are stored, in one order or the other. -/
theorem Px.item {N g g9 n cap : Nat} {W0 W w4 : World} {c3 c4 d3 d4 : Value} {D : List (List Value)} {z : List Value} {ns : List ByteArray} (h : Px N g W0 c3 c4 D ns d3 d4 W) (hv : OwnR w4 N (.slice (some ⟨g9, 0, none⟩) n cap) (D ++ [z])) (hg : W.grownBy w4 d3.ownBlock) (hk : ∀ b, (Value.slice (some ⟨g9, 0, none⟩) n cap).ownBlock = some b → d3.ownBlock = some b ∨ b = W.heap.size) (e0 e1 e2 e3 e4 : Value) :
    Px N g W0 c3 c4 (D ++ [[e0, e1, e2, e3, e4]]) ns (.slice (some ⟨g9, 0, none⟩) n cap) d4 ((((((w4.setCell ⟨g9, D.length * 5, none⟩ e0).setCell ⟨g9, D.length * 5 + 1, none⟩ e1).setCell ⟨g9, D.length * 5 + 2, none⟩ e2).setCell ⟨g9, D.length * 5 + 3, none⟩ e3).setCell ⟨g9, D.length * 5 + 4, none⟩ e4).setCell ⟨g, 3, none⟩ (.slice (some ⟨g9, 0, none⟩) n cap)) ∧
    Px N g W0 c3 c4 (D ++ [[e0, e1, e2, e3, e4]]) ns (.slice (some ⟨g9, 0, none⟩) n cap) d4 ((((((w4.setCell ⟨g, 3, none⟩ (.slice (some ⟨g9, 0, none⟩) n cap)).setCell ⟨g9, D.length * 5, none⟩ e0).setCell ⟨g9, D.length * 5 + 1, none⟩ e1).setCell ⟨g9, D.length * 5 + 2, none⟩ e2).setCell ⟨g9, D.length * 5 + 3, none⟩ e3).setCell ⟨g9, D.length * 5 + 4, none⟩ e4) ∧
    ((((((w4.setCell ⟨g9, D.length * 5, none⟩ e0).setCell ⟨g9, D.length * 5 + 1, none⟩ e1).setCell ⟨g9, D.length * 5 + 2, none⟩ e2).setCell ⟨g9, D.length * 5 + 3, none⟩ e3).setCell ⟨g9, D.length * 5 + 4, none⟩ e4).cell? ⟨g, 3, none⟩ = some d3 ∧ w4.cell? ⟨g, 3, none⟩ = some d3 ∧ (∀ j, w4.frozen? ⟨g, j, none⟩ = false)) ∧ OwnR (w4.setCell ⟨g, 3, none⟩ (.slice (some ⟨g9, 0, none⟩) n cap)) N (.slice (some ⟨g9, 0, none⟩) n cap) (D ++ [z]) := by
  have hc := ch_sets w4 g9 (D.length * 5) [e0, e1, e2, e3, e4]
  have ho := hv.set_ (j := D.length) (c := [e0, e1, e2, e3, e4]) (by simp) rfl
  rw [set_last] at ho
  have hB := Px.pushV h hv (grown_ch hg) hk
  have hA := Px.pushV h ho ((grown_ch hg).trans hc (by
    rintro x hx rfl
    rcases hk x rfl with q | q
    · exact q
    · omega)) hk
  exact ⟨hA.2, hB.2.setRow rfl, ⟨hA.1.cell 3, hB.1.cell 3, fun j => hB.1.free j⟩, hB.2.r3⟩
set_option maxHeartbeats 8000000 in
set_option maxRecDepth 100000 in
theorem put_any1 {N g : Nat} {w : World} {m : List (ByteArray × Vt)} {c3 c4 : Value} (h : Oj N g m c3 c4 w) (hN : N ≤ w.heap.size) (hm : m.length ≤ 50) (nm : ByteArray) (x : Vt) (k n : Int) (s : ByteArray) (hx : ∀ W, InS (fun _ => False) W x [.int .i64 k, .int .i64 n, .string s, .slice none 0 0, .slice none 0 0]) :
    Calls Tryz.prog 94 #[.pointer (some ⟨g, 0, none⟩), .string nm, .agg #[.int .i64 k, .int .i64 n, .string s, .slice none 0 0, .slice none 0 0]] w fun e w' => e = .returned (.tuple #[]) ∧ ∃ a3 n3 p3 a4 n4 p4, Oj N g (m ++ [(nm, x)]) (.slice a3 n3 p3) (.slice a4 n4 p4) w' ∧ (∀ b, own2 (.slice a3 n3 p3) (.slice a4 n4 p4) b → own2 c3 c4 b ∨ w.heap.size ≤ b) ∧ Ch (fun b => b = g ∨ own2 c3 c4 b) w w' := by
  have hb0 : Below w.heap.size w (w.alloc (.cells #[.int .i64 k, .int .i64 n, .string s, .slice none 0 0, .slice none 0 0] 26)) := (Below.refl _ _).alloc (Nat.le_refl _) _
  have bx0 := box_new w #[.int .i64 k, .int .i64 n, .string s, .slice none 0 0, .slice none 0 0]
  have hgl := h.vb.lt
  have hin := fun b => @Ob.in_ _ _ _ _ _ h.ob b
  obtain ⟨D, h2, h3, hP⟩ := Px.start (h.next hb0) (by simp; omega)
  have hs0 : (w.alloc (.cells #[.int .i64 k, .int .i64 n, .string s, .slice none 0 0, .slice none 0 0] 26)).heap.size = w.heap.size + 1 := by simp
  obtain ⟨b3, q3, rfl, -⟩ := hP.r3.open_
  obtain ⟨b4, l4, q4, rfl⟩ := slc4 hP.r4
  have y4 : (w.alloc (.cells #[.int .i64 k, .int .i64 n, .string s, .slice none 0 0, .slice none 0 0] 26)).cell? ⟨g, 4, none⟩ = some (.slice b4 l4 q4) := hP.bx.cell 4
  have S0 := Lib.hid fun o => hP.next ((Below.refl _ _).alloc (Nat.le_refl _) o)
  have OFF := Lib.hid fun b (hb : own2 (.slice b3 D.length q3) (.slice b4 l4 q4) b) => hin b hb
  have H2 := Lib.hid h2
  have H3 := Lib.hid h3
  have HX := Lib.hid hx
  have X0 := Lib.hid bx0
  have HB0 := Lib.hid hb0
  have hl4 := Lib.hid (show ((m.map Prod.fst).length + 1) * 16 ≤ 140737488355328 by rw [List.length_map]; omega)
  have hl3 := Lib.hid (show (D.length + 1) * 80 ≤ 140737488355328 by omega)
  have HN := Lib.hid hN
  have HG := Lib.hid hgl
  clear h h2 h3 hP hx hb0 bx0 hN hm hin hgl
  go_enter Tryz.func94, Tryz.ntmps94
  go_wp2_with (first
    | (refine wpList_np _ rfl (.tmp 10) (.tmp 12) rfl N (.slice b4 l4 q4) (m.map Prod.fst) rfl (S0.out _).r4 (by have := HN.out; simp; omega) _ _ rfl nm (0, 0) (names_new _ _ _) hl4.out ?_; intro v1 w1 hv1 hg1 hk1; obtain ⟨a9, n9, p9, e9⟩ := slc4 hv1; subst e9; have X1 := Px.pushN (S0.out _) hv1 hg1 hk1; have S1 := Lib.hid X1.2; have f4 := X1.1.free 4; have z4 := X1.1.cell 4; clear X1 hv1 hg1 hk1))
  obtain ⟨DZ, hDZ⟩ : ∃ DZ, DZ = D := ⟨_, rfl⟩
  generalize w1.setCell ⟨g, 4, none⟩ (.slice a9 n9 p9) = w2 at *
  have y3 : w2.drew.cell? ⟨g, 3, none⟩ = some (.slice b3 D.length q3) := S1.out.bx.cell 3
  have hsz1 : w.heap.size + 1 ≤ w2.heap.size := by have := S1.out.ch.size; omega
  have X2 : Hid (Box w2.drew w.heap.size #[.int .i64 k, .int .i64 n, .string s, .slice none 0 0, .slice none 0 0]) := Lib.hid ((S1.out.ch.block w.heap.size (by omega) (by
    rintro (q | q)
    · have := HG.out; omega
    · have := (OFF.out _ q).2; omega)).trans X0.out)
  obtain ⟨i0, i1, i2, i3, i4⟩ : w2.drew.cell? ⟨w.heap.size, 0, none⟩ = some (.int .i64 k) ∧ w2.drew.cell? ⟨w.heap.size, 1, none⟩ = some (.int .i64 n) ∧ w2.drew.cell? ⟨w.heap.size, 2, none⟩ = some (.string s) ∧ w2.drew.cell? ⟨w.heap.size, 3, none⟩ = some (.slice none 0 0) ∧ w2.drew.cell? ⟨w.heap.size, 4, none⟩ = some (.slice none 0 0) :=
    ⟨X2.out.cell 0, X2.out.cell 1, X2.out.cell 2, X2.out.cell 3, X2.out.cell 4⟩
  have S2 := Lib.hid fun o => S1.out.next (((Below.refl _ _).drew.alloc (Nat.le_refl _) o : Below w2.heap.size w2 (w2.drew.alloc o)))
  have XA := Lib.hid fun o => X2.out.next ((Below.refl w2.drew.heap.size w2.drew).alloc (Nat.le_refl _) o) X2.out.lt
  have a0 : ∀ o, (w2.alloc o).cell? ⟨w.heap.size, 0, none⟩ = some (.int .i64 k) := fun o => (XA.out o).cell 0
  have a1 : ∀ o, (w2.alloc o).cell? ⟨w.heap.size, 1, none⟩ = some (.int .i64 n) := fun o => (XA.out o).cell 1
  have a2 : ∀ o, (w2.alloc o).cell? ⟨w.heap.size, 2, none⟩ = some (.string s) := fun o => (XA.out o).cell 2
  have a3 : ∀ o, (w2.alloc o).cell? ⟨w.heap.size, 3, none⟩ = some (.slice none 0 0) := fun o => (XA.out o).cell 3
  have a4 : ∀ o, (w2.alloc o).cell? ⟨w.heap.size, 4, none⟩ = some (.slice none 0 0) := fun o => (XA.out o).cell 4
  have y3' : ∀ o, (w2.alloc o).cell? ⟨g, 3, none⟩ = some (.slice b3 D.length q3) := fun o => (S2.out o).bx.cell 3
  have hbd : (D.length : Int) < (D.length : Int) + 1 := by omega
  have ZO : ∀ u ∈ [Value.int .i64 0, .int .i64 0, .string ⟨#[]⟩, .slice none 0 0, .slice none 0 0], u.oneCell' = true := by
    intro u hu
    simp only [List.mem_cons, List.not_mem_nil, or_false] at hu
    rcases hu with rfl | rfl | rfl | rfl | rfl <;> rfl
  go_region_law (first
    | (refine Tre.step_vpush _ (by rfl) (.tmp 19) (.tmp 22) (by rfl) N (.slice b3 D.length q3) D (by rfl) (S2.out _).r3 (by have := HN.out; simp; omega) _ _ (by rfl) [.int .i64 0, .int .i64 0, .string ⟨#[]⟩, .slice none 0 0, .slice none 0 0] (by exact box_new _ _) (by rfl) ZO hl3.out ?_; intro v' w4 hv4 hg4 hk4; obtain ⟨g9, cap9, e9, hN9, hg9⟩ := own_new hv4; subst e9; obtain ⟨pa, pb, ⟨f3, f3', fz⟩, ob⟩ := Px.item (S2.out _) hv4 hg4 hk4 (.int .i64 k) (.int .i64 n) (.string s) (.slice none 0 0) (.slice none 0 0); have PA := Lib.hid (pa.done H2.out H3.out HX.out); have PB := Lib.hid (pb.done H2.out H3.out HX.out); obtain ⟨z0, z1, z2, z3, z4', -, r0, r1, r2, r3, r4, s1, s2, s3, s4, fr⟩ := own_cells5 hv4 (i := D.length) (by simp); obtain ⟨_, _, _, _, _, -, t0, t1, t2, t3, t4, u1, u2, u3, u4, ft⟩ := own_cells5 ob (i := D.length) (by simp); clear pa pb hv4 hg4 hk4 ob))
  all_goals
    go_wp2_with fail
    go_end0
    refine ⟨rfl, ?_⟩
    first
      | (with_reducible exact PA.out)
      | (with_reducible exact PB.out)
end Go.Proofs.YtehkiojohldlgaaGreatDoor.Jsn

namespace Go.Proofs.YtehkiojohldlgaaGreatDoor.Jsn
open Go.RowKit Go.Lib
open Go.Proofs.YtehkiojohldlgaaGreatDoor.Tre (Vt V0 find OkT OkT_iff InV InV_iff InV_next InS_one Box box_new)

set_option maxHeartbeats 4000000 in
set_option maxRecDepth 100000 in
theorem known_any : KnP := by
  intro v hv names cs nv w h hn hm hz
  have HAM := Lib.hid fun W (k : Strs.Row W nv names) => among_any names nv W k hm hz
  have HAL := Lib.hid fun g W (hI : InV W v cs) (k : Kn names g W) => allknown_any v hv names cs g W hI k
  obtain ⟨a, cap, c4, rfl, hit, hr⟩ := (InV_iff w v cs).1 h
  obtain ⟨a2, cap2, rfl, hs⟩ := hr.open_
  obtain ⟨a3, cap3, rfl, -⟩ := hn.open_
  have hd0 : Below w.heap.size w (w.alloc (.cells #[.int .i64 v.k, .int .i64 v.n, .string v.s, .slice a v.l.length cap, .slice a2 v.ns.length cap2] 26)).drew := ((Below.refl _ _).alloc (Nat.le_refl _) _).drew
  have HI := Lib.hid fun W (hb : Below w.heap.size w W) => InV_next hb v _ h
  have HN := Lib.hid (hn.next hd0)
  have HB0 := Lib.hid hd0
  have HX : Hid (Box (w.alloc (.cells #[.int .i64 v.k, .int .i64 v.n, .string v.s, .slice a v.l.length cap, .slice a2 v.ns.length cap2] 26)).drew w.heap.size #[.int .i64 v.k, .int .i64 v.n, .string v.s, .slice a v.l.length cap, .slice a2 v.ns.length cap2]) := Lib.hid (box_new w _)
  generalize (unk v.ns names).getD ⟨#[]⟩ = ys at *
  generalize (unk v.ns names).isNone = yb at *
  generalize v.k = vk at *
  generalize v.n = vn at *
  generalize v.s = vs at *
  generalize v.l.length = vl at *
  generalize v.ns.length = vm at *
  generalize names.length = ll at *
  clear h hit hr hn hs hv hd0 hm hz
  go_enter Tryz.func20, Tryz.ntmps20
  go_upto_region 1 with (fail)
  generalize w.alloc (.cells #[.int .i64 vk, .int .i64 vn, .string vs, .slice a vl cap, .slice a2 vm cap2] 26) = w1 at *
  have p0 : w1.drew.cell? ⟨w.heap.size, 0, none⟩ = some (.int .i64 vk) := HX.out.cell 0
  have p1 : w1.drew.cell? ⟨w.heap.size, 1, none⟩ = some (.int .i64 vn) := HX.out.cell 1
  have p2 : w1.drew.cell? ⟨w.heap.size, 2, none⟩ = some (.string vs) := HX.out.cell 2
  have p3 : w1.drew.cell? ⟨w.heap.size, 3, none⟩ = some (.slice a vl cap) := HX.out.cell 3
  have p4 : w1.drew.cell? ⟨w.heap.size, 4, none⟩ = some (.slice a2 vm cap2) := HX.out.cell 4
  go_region_law (first
    | (go_simp; go_at_call 31; (with_reducible refine (HAM.out _ HN.out).mono ?_); rintro e w2 ⟨g, rfl, hk2, hb2⟩; have K2 := Lib.hid hk2; have B2 := Lib.hid (HB0.out.trans (hb2.mono HB0.out.size)); have q0 := (hb2.cell (Strs.cell_lt p0)).trans p0; have q1 := (hb2.cell (Strs.cell_lt p1)).trans p1; have q2 := (hb2.cell (Strs.cell_lt p2)).trans p2; have q3 := (hb2.cell (Strs.cell_lt p3)).trans p3; have q4 := (hb2.cell (Strs.cell_lt p4)).trans p4; clear hk2 hb2)
    | (go_simp; go_at_call 41; (with_reducible refine (HAL.out _ _ (HI.out _ B2.out) K2.out).mono ?_); rintro e w3 ⟨rfl, hb3⟩))
  all_goals
    go_wp2_with fail
    go_ret2
    exact ⟨rfl, B2.out.trans (hb3.mono B2.out.size)⟩
end Go.Proofs.YtehkiojohldlgaaGreatDoor.Jsn
