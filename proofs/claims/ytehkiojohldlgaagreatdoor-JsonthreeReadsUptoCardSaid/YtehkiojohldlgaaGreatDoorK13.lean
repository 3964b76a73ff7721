/- Texts of my own, packed: TreQ. Conditions: as each theorem states. -/
import Derived.Test.YtehkiojohldlgaaGreatDoorK12
namespace Go.Proofs.YtehkiojohldlgaaGreatDoor.Tre
open Go.RowKit Go.Lib Go.Proofs.YtehkiojohldlgaaGreatDoor.Byt

theorem own_base {w : World} {B B' sz n : Nat} {e : TypeId} {v : Value} {xs : List Value} (h : w.ownsRow B e sz v n xs) (hB : B' ≤ B) : w.ownsRow B' e sz v n xs := by
  refine ⟨h.1, ?_⟩
  rcases h.2 with hn | ⟨g, cap, cur, hv, hbg, rest⟩
  · exact .inl hn
  · exact .inr ⟨g, cap, cur, hv, by omega, rest⟩
section
variable {w : World} {B g n cap : Nat}
theorem num_len {L : List Int} (h : Num.Own w B (.slice (some ⟨g, 0, none⟩) n cap) L) : L.length = n := by
  rcases h.2 with ⟨q, _⟩ | ⟨g', cap', cur, q, _⟩
  · cases q
  · injection q with _ q2 _; exact q2.symm
theorem num_cell {L : List Int} (h : Num.Own w B (.slice (some ⟨g, 0, none⟩) n cap) L) (j : Nat) (hj : j < n) : w.cell? ⟨g, j, none⟩ = some (.int .i64 (L.getD j 0)) := by
  have hn := num_len h
  unfold Num.Own at h
  rw [hn] at h
  rw [World.ownsRow.cellAt h j (by omega)]
  simp [show j < L.length by omega]
theorem num_free {L : List Int} (h : Num.Own w B (.slice (some ⟨g, 0, none⟩) n cap) L) (j : Nat) : w.frozen? ⟨g, j, none⟩ = false := by
  have hn := num_len h
  unfold Num.Own at h
  rw [hn] at h
  exact World.ownsRow.frozenAt h j
theorem num_set {L : List Int} (h : Num.Own w B (.slice (some ⟨g, 0, none⟩) n cap) L) (j : Nat) (x : Int) : Num.Own (w.setCell ⟨g, j, none⟩ (.int .i64 x)) B (.slice (some ⟨g, 0, none⟩) n cap) (L.set j x) := by
  have hn := num_len h
  unfold Num.Own at h ⊢
  rw [hn] at h
  rw [List.length_set, hn]
  have := (World.ownsRow.stored h j (.int .i64 x)).1
  rwa [show (L.map (Value.int .i64)).set j (.int .i64 x) = (L.set j x).map (Value.int .i64) by simp [List.map_set]] at this
theorem strs_len {L : List ByteArray} (h : Strs.Own w B (.slice (some ⟨g, 0, none⟩) n cap) L) : L.length = n := by
  rcases h.2 with ⟨q, _⟩ | ⟨g', cap', cur, q, _⟩
  · cases q
  · injection q with _ q2 _; exact q2.symm
theorem strs_cell {L : List ByteArray} (h : Strs.Own w B (.slice (some ⟨g, 0, none⟩) n cap) L) (j : Nat) (hj : j < n) : w.cell? ⟨g, j, none⟩ = some (.string (L.getD j ⟨#[]⟩)) := by
  have hn := strs_len h
  unfold Strs.Own at h
  rw [hn] at h
  rw [World.ownsRow.cellAt h j (by omega)]
  simp [show j < L.length by omega]
theorem strs_free {L : List ByteArray} (h : Strs.Own w B (.slice (some ⟨g, 0, none⟩) n cap) L) (j : Nat) : w.frozen? ⟨g, j, none⟩ = false := by
  have hn := strs_len h
  unfold Strs.Own at h
  rw [hn] at h
  exact World.ownsRow.frozenAt h j
theorem strs_set {L : List ByteArray} (h : Strs.Own w B (.slice (some ⟨g, 0, none⟩) n cap) L) (j : Nat) (x : ByteArray) : Strs.Own (w.setCell ⟨g, j, none⟩ (.string x)) B (.slice (some ⟨g, 0, none⟩) n cap) (L.set j x) := by
  have hn := strs_len h
  unfold Strs.Own at h ⊢
  rw [hn] at h
  rw [List.length_set, hn]
  have := (World.ownsRow.stored h j (.string x)).1
  rwa [show (L.map (Value.string)).set j (.string x) = (L.set j x).map (Value.string) by simp [List.map_set]] at this
end
theorem own_lt {w : World} {B sz n g cap m : Nat} {e : TypeId} {xs : List Value} (h : w.ownsRow B e sz (.slice (some ⟨g, 0, none⟩) n cap) m xs) : g < w.heap.size := by
  rcases h.2 with ⟨q, _⟩ | ⟨g', cap', cur, q, _, hg, _⟩
  · cases q
  · injection q with q _ _
    injection q with q
    injection q with q
    subst q
    exact (Array.getElem?_eq_some_iff.1 hg).1
theorem own_next {w w' : World} {B sz n g cap m : Nat} {e : TypeId} {xs : List Value} (h : w.ownsRow B e sz (.slice (some ⟨g, 0, none⟩) n cap) m xs) (hb : RowKit.Below w.heap.size w w') : w'.ownsRow B e sz (.slice (some ⟨g, 0, none⟩) n cap) m xs :=
  own_keep h fun k hk => by
    have : g = k := Option.some.inj hk
    subst this
    exact hb.block g (own_lt h)
theorem sets5 (W : World) (g o : Nat) (a b c d e : Value) : W.setCells g o [a, b, c, d, e] = ((((W.setCell ⟨g, o, none⟩ a).setCell ⟨g, o + 1, none⟩ b).setCell ⟨g, o + 2, none⟩ c).setCell ⟨g, o + 3, none⟩ d).setCell ⟨g, o + 4, none⟩ e := by
  simp only [World.setCells]
theorem row_at {w : World} {c : Value} {ns : List ByteArray} (hr : Strs.Row w c ns) : ∃ a cap b off, c = .slice a ns.length cap ∧ (0 < ns.length → a = some ⟨b, off, none⟩ ∧ b < w.heap.size ∧ ∀ j, j < ns.length → w.cell? ⟨b, off + j, none⟩ = some (.string (ns.getD j ⟨#[]⟩))) := by
  rcases hr with ⟨rfl, a, cap, rfl⟩ | ⟨b, off, cap, rfl, hc⟩
  · exact ⟨a, cap, 0, 0, rfl, fun h => absurd h (Nat.lt_irrefl 0)⟩
  · exact ⟨_, cap, b, off, rfl, fun h => ⟨rfl, Strs.cell_lt (hc 0 h), hc⟩⟩
/-- Five cells of a value's shape. -/
def Shp (c : List Value) : Prop := ∃ k n s a l p a2 l2 p2, c = [.int .i64 k, .int .i64 n, .string s, .slice a l p, .slice a2 l2 p2]
theorem InV_shp {w : World} {v : Vt} {cs : List Value} (h : InV w v cs) : Shp cs := by
  obtain ⟨a, cap, c4, rfl, _, h3⟩ := (InV_iff w v cs).1 h
  obtain ⟨a2, cap2, rfl, _⟩ := h3.open_
  exact ⟨_, _, _, _, _, _, _, _, _, rfl⟩
theorem getD_seti (C : List Int) (i j : Nat) (x : Int) (h : i < C.length) : (C.set i x).getD j 0 = if j = i then x else C.getD j 0 := getD_set C i j x 0 h
theorem plc_at {ns : List ByteArray} {i : Nat} (h : i < ns.length) : (plc ns).getD i 0 < ns.length := by
  have hl := plc_len ns
  rw [List.getD_eq_getElem?_getD, List.getElem?_eq_getElem (by omega)]
  exact plc_lt (List.getElem_mem _)

set_option maxHeartbeats 4000000 in
set_option maxRecDepth 100000 in
theorem members_any (ns : List ByteArray) (c v : Value) (C : List (List Value)) (B0 : Nat) (w : World) (hr : Strs.Row w c ns) (ho : OwnR w B0 v C) (hone : ∀ c ∈ C, Shp c) (hl : C.length = ns.length) (hz : ns.length * 80 ≤ 140737488351232) :
    Calls Tryz.prog 50 #[c, v] w fun e w' => ∃ c2 v2, e = .returned (.tuple #[c2, v2]) ∧ Strs.Own w' w.heap.size c2 ((plc ns).map (nm ns)) ∧ OwnR w' w.heap.size v2 ((plc ns).map fun i => C.getD i []) ∧ RowKit.Below w.heap.size w w' := by
  obtain ⟨a, cap, b, off, rfl, hrow⟩ := row_at hr
  obtain ⟨a3, cap3, hv, hval⟩ := ho.open_
  rw [hl] at hv hval
  subst hv
  have HR := Lib.hid hrow
  have HV := Lib.hid hval
  have hmx : ns.length ≤ 9223372036854775807 := by omega
  have hz8 : ns.length * 8 ≤ 140737488355328 := by omega
  have hz16 : ns.length * 16 ≤ 140737488355328 := by omega
  have hz80 : ns.length * 80 ≤ 140737488355328 := by omega
  have HF5 := Lib.hid ho.1
  have HON := Lib.hid hone
  clear hr ho hrow hval hone
  go_enter Tryz.func50, Tryz.ntmps50
  go_wp2_with (first
    | (refine wpList_ints _ rfl _ _ rfl (w.heap.size + 1) _ (RowKit.Below.refl _ _) (by simp) ns.length rfl rfl hz8 ?_; intro w1 G hG hp1 hb1 hbb1))
  have hG1 : w.heap.size + 1 ≤ G := by simpa using hG
  clear hG hbb1
  go_loopw [17] (fun x wr => ∃ (i : Nat) (L : List Int), x = .int .i64 (i : Int) ∧ i ≤ ns.length ∧ Num.Own wr (w.heap.size + 1) (.slice (some ⟨G, 0, none⟩) ns.length ns.length) L ∧ RowKit.Below (w.heap.size + 1) (w.alloc (.cells #[.slice a ns.length cap] 24)) wr ∧ Hid (∀ j, j < i → L.getD j 0 = (j : Int)))
    (fun x _ => ns.length - (RowKit.intOf x).toNat)
  case atStart => exact ⟨0, _, by go_num, by omega, hp1, hb1, Lib.hid fun j hj => absurd hj (Nat.not_lt_zero _)⟩
  case round =>
    clear hp1 hb1
    obtain ⟨i, L, rfl, hi, hp, hb, hj⟩ := hrel
    have hL := num_len hp
    by_cases hlt : i < ns.length
    · have hcell := num_cell hp i hlt
      have hfree := num_free hp i
      generalize L.getD i 0 = old at hcell
      go_wp2_with fail
      go_roundw
      case rel =>
        refine ⟨i + 1, _, by go_num, by omega, num_set hp i (i : Int), below_set hb hG1 i _, Lib.hid fun j hj' => ?_⟩
        rw [getD_seti _ _ _ _ (by omega)]
        by_cases e : j = i
        · rw [if_pos e, e]
        · rw [if_neg e]; exact hj.out j (by omega)
      case measure => simp [RowKit.intOf]; omega
    · obtain rfl : i = ns.length := by omega
      have hLr : L = (List.range ns.length).map fun (i : Nat) => (i : Int) := by
        refine List.ext_getElem (by simp [hL]) fun k h1 h2 => ?_
        have := hj.out k (by omega)
        rw [List.getD_eq_getElem?_getD, List.getElem?_eq_getElem h1] at this
        simpa using this
      subst hLr
      have hbx0 : wr.cell? ⟨w.heap.size, 0, none⟩ = some (.slice a ns.length cap) := by
        have := hb.block w.heap.size (by omega)
        rw [heap_alloc_new] at this
        simp [World.cell?, this]
      have hkeep : ∀ k, k < w.heap.size → wr.heap[k]? = w.heap[k]? := fun k hk => (hb.block k (by omega)).trans (RowKit.Below.heap_alloc _ _ _ hk)
      have HSF := Lib.hid (sort_places ns (w.heap.size + 1) G w.heap.size b off cap wr _ hp hb (by omega) (by omega) (fun hpos => by
        obtain ⟨rfl, hbl, hcs⟩ := HR.out hpos
        refine ⟨by omega, hbx0, fun j hj => ?_⟩
        exact (World.cell?_of_block (a := ⟨b, off + j, none⟩) (hkeep b hbl)).trans (hcs j hj)))
      clear hp hb hj hL hkeep
      go_wp2_with (first
        | (go_at_call 87; refine HSF.out.mono ?_; rintro e w4 ⟨rfl, hp4, hb4, hs4, hk4⟩; have hsz4 : w.heap.size + 1 ≤ w4.heap.size := (by have := hb4.size; simpa using this); have hbx4 : w4.cell? ⟨w.heap.size, 0, none⟩ = some (.slice a ns.length cap) := (by have := hb4.block w.heap.size (by omega); rw [heap_alloc_new] at this; simp [World.cell?, this]))
        | (refine wpList_strs _ rfl _ _ rfl (w.heap.size + 1) _ hb4 hsz4 ns.length rfl rfl hz16 ?_; intro w5 G2 hG2 hs5 hb5 hbb5; have hsz5 : w.heap.size + 1 ≤ w5.heap.size := (by have := hb5.size; simpa using this))
        | (refine wpList_vals _ rfl _ _ rfl (w.heap.size + 1) _ hb5 hsz5 ns.length rfl rfl hz80 ?_; intro w6 G3 hG3 hv6 hb6 hbb6))
      have hp6 := own_next (own_next hp4 hbb5) hbb6
      have hs6 := own_next hs5 hbb6
      have g1 := own_lt hp4
      have g2 := own_lt hs5
      have hPl : ((plc ns).map fun (i : Nat) => (i : Int)).length = ns.length := by rw [List.length_map, plc_len]
      go_loopw [36] (fun x wr => ∃ (i : Nat) (SN : List ByteArray) (SC : List (List Value)), x = .int .i64 (i : Int) ∧ i ≤ ns.length ∧ Num.Own wr (w.heap.size + 1) (.slice (some ⟨G, 0, none⟩) ns.length ns.length) ((plc ns).map fun (i : Nat) => (i : Int)) ∧ Strs.Own wr (w.heap.size + 1) (.slice (some ⟨G2, 0, none⟩) ns.length ns.length) SN ∧ OwnR wr (w.heap.size + 1) (.slice (some ⟨G3, 0, none⟩) ns.length ns.length) SC ∧ SC.length = ns.length ∧ RowKit.Below (w.heap.size + 1) (w.alloc (.cells #[.slice a ns.length cap] 24)) wr ∧ Hid (∀ j, j < i → SN.getD j ⟨#[]⟩ = nm ns ((plc ns).getD j 0) ∧ SC.getD j [] = C.getD ((plc ns).getD j 0) []))
        (fun x _ => ns.length - (RowKit.intOf x).toNat)
      case atStart => exact ⟨0, _, _, by go_num, by omega, hp6, hs6, hv6, by simp, hb6, Lib.hid fun j hj => absurd hj (Nat.not_lt_zero _)⟩
      case round =>
        clear hp4 hs4 hb4 hk4 hbx4 hs5 hb5 hbb5 hv6 hb6 hbb6 hp6 hs6 HSF hbx0
        obtain ⟨i, SN, SC, rfl, hi, hp, hs, hv, hvl, hb, hj⟩ := hrel
        have hSl := strs_len hs
        by_cases hlt : i < ns.length
        · have hpi := plc_at hlt
          have hc1 := num_cell hp i hlt
          have hPi : ((plc ns).map fun (i : Nat) => (i : Int)).getD i 0 = (((plc ns).getD i 0 : Nat) : Int) := by
            have := plc_len ns
            simp [List.getD_eq_getElem?_getD, show i < (plc ns).length by omega]
          rw [hPi] at hc1
          have HJ := Lib.hid hj
          obtain ⟨p, hpp⟩ : ∃ p, p = (plc ns).getD i 0 := ⟨_, rfl⟩
          rw [← hpp] at hc1 hpi
          have HP := Lib.hid hpp
          obtain ⟨rfl, hbl, hcs⟩ := HR.out (by omega)
          obtain ⟨gi, rfl, _, hgi, hrg, _⟩ := HV.out p hpi
          have hkeep : ∀ k, k < w.heap.size → wr.heap[k]? = w.heap[k]? := fun k hk => (hb.block k (by omega)).trans (RowKit.Below.heap_alloc _ _ _ hk)
          have hbx : wr.cell? ⟨w.heap.size, 0, none⟩ = some (.slice (some ⟨b, off, none⟩) ns.length cap) := by
            have := hb.block w.heap.size (by omega)
            rw [heap_alloc_new] at this
            simp [World.cell?, this]
          have hstr := (World.cell?_of_block (a := ⟨b, off + p, none⟩) (hkeep b hbl)).trans (hcs p hpi)
          obtain ⟨s, hs'⟩ : ∃ s, s = ns.getD p ⟨#[]⟩ := ⟨_, rfl⟩
          rw [← hs'] at hstr
          have HSN := Lib.hid hs'
          have hrg2 : wr.rangeAt gi (p * 5) (C.getD p []) := fun f u hu => (World.cell?_of_block (a := ⟨gi, p * 5 + f, none⟩) (hkeep gi hgi)).trans (hrg f u hu)
          have c5 : (C.getD p []).length = 5 := by
            have hm : C.getD p [] ∈ C := get_mem (by omega)
            exact HF5.out _ hm
          obtain ⟨vk, vn, vs, va, vl, vp, va2, vl2, vp2, hu⟩ := HON.out _ (get_mem (C := C) (j := p) (by omega))
          rw [hu] at hrg2
          have HU := Lib.hid hu
          have r0 : wr.cell? ⟨gi, p * 5, none⟩ = some (.int .i64 vk) := hrg2 0 (.int .i64 vk) rfl
          have r1 : wr.cell? ⟨gi, p * 5 + 1, none⟩ = some (.int .i64 vn) := hrg2 1 (.int .i64 vn) rfl
          have r2 : wr.cell? ⟨gi, p * 5 + 2, none⟩ = some (.string vs) := hrg2 2 (.string vs) rfl
          have r3 : wr.cell? ⟨gi, p * 5 + 3, none⟩ = some (.slice va vl vp) := hrg2 3 (.slice va vl vp) rfl
          have r4 : wr.cell? ⟨gi, p * 5 + 4, none⟩ = some (.slice va2 vl2 vp2) := hrg2 4 (.slice va2 vl2 vp2) rfl
          obtain ⟨ax, capx, ex, hox⟩ := hv.open_
          injection ex with ex ex1 ex2
          clear ex1 ex2
          obtain ⟨g3, eg3, _, hg3, rg3, th3⟩ := hox i (by omega)
          rw [← ex] at eg3
          injection eg3 with eg3
          injection eg3 with eg3
          subst eg3
          clear ex hox
          have s5 : (SC.getD i []).length = 5 := hv.1 _ (get_mem (by omega))
          obtain ⟨z0, z1, z2, z3, z4, hzz⟩ : ∃ z0 z1 z2 z3 z4, SC.getD i [] = [z0, z1, z2, z3, z4] := by
            match SC.getD i [], s5 with
            | [a, b, x, d, e], _ => exact ⟨a, b, x, d, e, rfl⟩
          rw [hzz] at rg3
          clear hzz s5
          have k0 := rg3 0 z0 rfl
          have k1 := rg3 1 z1 rfl
          have k2 := rg3 2 z2 rfl
          have k3 := rg3 3 z3 rfl
          have k4 := rg3 4 z4 rfl
          have hne : G2 ≠ G3 := by omega
          have hnb : ∀ {x y : Nat}, (⟨G2, x, none⟩ : Addr) ≠ ⟨G3, y, none⟩ := fun q => hne (by injection q)
          have f0 : wr.frozen? ⟨G3, i * 5, none⟩ = false := (th3 0 (by omega)).2
          have f1 : wr.frozen? ⟨G3, i * 5 + 1, none⟩ = false := (th3 1 (by omega)).2
          have f2 : wr.frozen? ⟨G3, i * 5 + 2, none⟩ = false := (th3 2 (by omega)).2
          have f3 : wr.frozen? ⟨G3, i * 5 + 3, none⟩ = false := (th3 3 (by omega)).2
          have f4 : wr.frozen? ⟨G3, i * 5 + 4, none⟩ = false := (th3 4 (by omega)).2
          have fs := strs_free hs i
          have cs := strs_cell hs i hlt
          generalize SN.getD i ⟨#[]⟩ = sold at cs
          have d0 : (wr.setCell ⟨G2, i, none⟩ (.string s)).cell? ⟨G3, i * 5, none⟩ = some z0 := (World.cell?_setCell_other _ _ _ _ hnb).trans k0
          have d1 : ((wr.setCell ⟨G2, i, none⟩ (.string s)).setCell ⟨G3, i * 5, none⟩ (.int .i64 vk)).cell? ⟨G3, i * 5 + 1, none⟩ = some z1 := (World.cell?_setCell_other _ _ _ _ (by simp)).trans ((World.cell?_setCell_other _ _ _ _ hnb).trans k1)
          have d2 : (((wr.setCell ⟨G2, i, none⟩ (.string s)).setCell ⟨G3, i * 5, none⟩ (.int .i64 vk)).setCell ⟨G3, i * 5 + 1, none⟩ (.int .i64 vn)).cell? ⟨G3, i * 5 + 2, none⟩ = some z2 := (World.cell?_setCell_other _ _ _ _ (by simp)).trans ((World.cell?_setCell_other _ _ _ _ (by simp)).trans ((World.cell?_setCell_other _ _ _ _ hnb).trans k2))
          have d3 : ((((wr.setCell ⟨G2, i, none⟩ (.string s)).setCell ⟨G3, i * 5, none⟩ (.int .i64 vk)).setCell ⟨G3, i * 5 + 1, none⟩ (.int .i64 vn)).setCell ⟨G3, i * 5 + 2, none⟩ (.string vs)).cell? ⟨G3, i * 5 + 3, none⟩ = some z3 := (World.cell?_setCell_other _ _ _ _ (by simp)).trans ((World.cell?_setCell_other _ _ _ _ (by simp)).trans ((World.cell?_setCell_other _ _ _ _ (by simp)).trans ((World.cell?_setCell_other _ _ _ _ hnb).trans k3)))
          have d4 : (((((wr.setCell ⟨G2, i, none⟩ (.string s)).setCell ⟨G3, i * 5, none⟩ (.int .i64 vk)).setCell ⟨G3, i * 5 + 1, none⟩ (.int .i64 vn)).setCell ⟨G3, i * 5 + 2, none⟩ (.string vs)).setCell ⟨G3, i * 5 + 3, none⟩ (.slice va vl vp)).cell? ⟨G3, i * 5 + 4, none⟩ = some z4 := (World.cell?_setCell_other _ _ _ _ (by simp)).trans ((World.cell?_setCell_other _ _ _ _ (by simp)).trans ((World.cell?_setCell_other _ _ _ _ (by simp)).trans ((World.cell?_setCell_other _ _ _ _ (by simp)).trans ((World.cell?_setCell_other _ _ _ _ hnb).trans k4))))
          have HHp := Lib.hid hp
          have HHs := Lib.hid hs
          have HHv := Lib.hid hv
          have HHb := Lib.hid hb
          have H5 := Lib.hid (strs_set hs i s)
          clear hp hs hv hb hj hcs hkeep hrg hrg2 rg3 th3 k0 k1 k2 k3 k4 hPi c5 hnb
          have X1 := Lib.hid hSl
          have X2 := Lib.hid hvl
          have X4 := Lib.hid hl
          clear hSl hvl hPl hl hpp hs' hu
          go_wp2_with fail
          go_region
          all_goals
            go_wp2_with fail
            go_roundw
            case rel =>
              have hne2 : G ≠ G2 := by omega
              have hne3 : G ≠ G3 := by omega
              have cs5 : ([.int .i64 vk, .int .i64 vn, .string vs, .slice va vl vp, .slice va2 vl2 vp2] : List Value).length = 5 := rfl
              have keep : ∀ k, k ≠ G2 → ((wr.setCell ⟨G2, i, none⟩ (.string s)).heap[k]?) = wr.heap[k]? := fun k hk => heap_setCell_other wr ⟨G2, i, none⟩ k _ (fun q => hk q)
              have q1 : Num.Own ((wr.setCell ⟨G2, i, none⟩ (.string s)).setCells G3 (i * 5) [.int .i64 vk, .int .i64 vn, .string vs, .slice va vl vp, .slice va2 vl2 vp2]) (w.heap.size + 1) (.slice (some ⟨G, 0, none⟩) ns.length ns.length) ((plc ns).map fun (i : Nat) => (i : Int)) := own_keep HHp.out fun k hk => by
                have : G = k := Option.some.inj hk
                subst this
                exact (sets_other G3 hne3 _ _ _).trans (keep G hne2)
              have q2 : Strs.Own ((wr.setCell ⟨G2, i, none⟩ (.string s)).setCells G3 (i * 5) [.int .i64 vk, .int .i64 vn, .string vs, .slice va vl vp, .slice va2 vl2 vp2]) (w.heap.size + 1) (.slice (some ⟨G2, 0, none⟩) ns.length ns.length) (SN.set i s) := own_keep H5.out fun k hk => by
                have : G2 = k := Option.some.inj hk
                subst this
                exact sets_other G3 hne _ _ _
              have q3 : OwnR ((wr.setCell ⟨G2, i, none⟩ (.string s)).setCells G3 (i * 5) [.int .i64 vk, .int .i64 vn, .string vs, .slice va vl vp, .slice va2 vl2 vp2]) (w.heap.size + 1) (.slice (some ⟨G3, 0, none⟩) ns.length ns.length) (SC.set i [.int .i64 vk, .int .i64 vn, .string vs, .slice va vl vp, .slice va2 vl2 vp2]) :=
                (HHv.out.beside fun k hk => by
                  have : G3 = k := Option.some.inj hk
                  subst this
                  exact keep G3 (fun q => hne q.symm)).set_ (by rw [X2.out]; exact hlt) cs5
              have q4 := below_sets (g := G3) (by omega) [.int .i64 vk, .int .i64 vn, .string vs, .slice va vl vp, .slice va2 vl2 vp2] (i * 5) _ (below_set HHb.out (show w.heap.size + 1 ≤ G2 by omega) i (.string s))
              rw [← sets5]
              generalize (wr.setCell ⟨G2, i, none⟩ (.string s)).setCells G3 (i * 5) [.int .i64 vk, .int .i64 vn, .string vs, .slice va vl vp, .slice va2 vl2 vp2] = W2 at *
              refine ⟨i + 1, SN.set i s, SC.set i [.int .i64 vk, .int .i64 vn, .string vs, .slice va vl vp, .slice va2 vl2 vp2], by go_num, by omega, World.ownsRow.drew q1, World.ownsRow.drew q2, ⟨q3.1, World.ownsRow.drew q3.2⟩, by rw [List.length_set, X2.out], q4.drew, Lib.hid fun j hj' => ?_⟩
              rw [getD_set _ _ _ _ _ (by rw [X1.out]; exact hlt), getD_set _ _ _ _ _ (by rw [X2.out]; exact hlt)]
              by_cases e : j = i
              · rw [if_pos e, if_pos e, e, ← HP.out]
                exact ⟨HSN.out, HU.out.symm⟩
              · rw [if_neg e, if_neg e]
                exact HJ.out.out j (by omega)
            case measure => simp [RowKit.intOf]; omega
        · obtain rfl : i = ns.length := by omega
          have hSN : SN = (plc ns).map (nm ns) := by
            refine List.ext_getElem (by rw [hSl, List.length_map, plc_len]) fun k h1 h2 => ?_
            have := (hj.out k (by omega)).1
            rw [List.getD_eq_getElem?_getD, List.getElem?_eq_getElem h1, List.getD_eq_getElem?_getD, List.getElem?_eq_getElem (by rw [plc_len]; omega)] at this
            simpa using this
          have hSC : SC = (plc ns).map fun i => C.getD i [] := by
            refine List.ext_getElem (by rw [hvl, List.length_map, plc_len]) fun k h1 h2 => ?_
            have := (hj.out k (by omega)).2
            rw [List.getD_eq_getElem?_getD, List.getElem?_eq_getElem h1, List.getD_eq_getElem?_getD (l := plc ns), List.getElem?_eq_getElem (by rw [plc_len]; omega)] at this
            simpa using this
          have HO1 := Lib.hid hs
          have HO2 := Lib.hid hv
          have HBB := Lib.hid hb
          have HE1 := Lib.hid hSN
          have HE2 := Lib.hid hSC
          clear hs hv hb hSN hSC hj hp
          go_wp2_with fail
          go_ret2
          refine ⟨_, _, rfl, own_base (HE1.out ▸ HO1.out) (by omega), ⟨(HE2.out ▸ HO2.out).1, own_base (HE2.out ▸ HO2.out).2 (by omega)⟩, ?_⟩
          exact ((RowKit.Below.refl w.heap.size w).alloc (Nat.le_refl _) _).trans (HBB.out.mono (by omega))
end Go.Proofs.YtehkiojohldlgaaGreatDoor.Tre
