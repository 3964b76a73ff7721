/- The contract of sortMembers. Conditions: as each theorem states. -/
import Derived.Test.YtfefbfohenmajaaDoorTreO
namespace Go.Proofs.YtfefbfohenmajaaDoor.Tre
open Go.RowKit Go.Lib Go.Proofs.YtfefbfohenmajaaDoor.Byt

theorem own_base {w : World} {B B' sz n : Nat} {e : TypeId} {v : Value} {xs : List Value} (h : w.ownsRow B e sz v n xs) (hB : B' ≤ B) : w.ownsRow B' e sz v n xs := by
  refine ⟨h.1, ?_⟩
  rcases h.2 with hn | ⟨g, cap, cur, hv, hbg, rest⟩
  · exact .inl hn
  · exact .inr ⟨g, cap, cur, hv, by omega, rest⟩
section
variable {w : World} {B g n cap : Nat}
theorem num_len {L : List Int} (h : Num.Own w B (.slice (some ⟨g, 0, none⟩) n cap) L) : L.length = n := by
  rcases h.2 with ⟨q, _⟩ | ⟨g', cap', cur, q, _⟩
  · cases q
  · injection q with _ q2 _; exact q2.symm
theorem num_cell {L : List Int} (h : Num.Own w B (.slice (some ⟨g, 0, none⟩) n cap) L) (j : Nat) (hj : j < n) : w.cell? ⟨g, j, none⟩ = some (.int .i64 (L.getD j 0)) := by
  have hn := num_len h
  unfold Num.Own at h
  rw [hn] at h
  rw [World.ownsRow.cellAt h j (by omega)]
  simp [show j < L.length by omega]
theorem num_free {L : List Int} (h : Num.Own w B (.slice (some ⟨g, 0, none⟩) n cap) L) (j : Nat) : w.frozen? ⟨g, j, none⟩ = false := by
  have hn := num_len h
  unfold Num.Own at h
  rw [hn] at h
  exact World.ownsRow.frozenAt h j
theorem num_set {L : List Int} (h : Num.Own w B (.slice (some ⟨g, 0, none⟩) n cap) L) (j : Nat) (x : Int) : Num.Own (w.setCell ⟨g, j, none⟩ (.int .i64 x)) B (.slice (some ⟨g, 0, none⟩) n cap) (L.set j x) := by
  have hn := num_len h
  unfold Num.Own at h ⊢
  rw [hn] at h
  rw [List.length_set, hn]
  have := (World.ownsRow.stored h j (.int .i64 x)).1
  rwa [show (L.map (Value.int .i64)).set j (.int .i64 x) = (L.set j x).map (Value.int .i64) by simp [List.map_set]] at this
theorem strs_len {L : List ByteArray} (h : Strs.Own w B (.slice (some ⟨g, 0, none⟩) n cap) L) : L.length = n := by
  rcases h.2 with ⟨q, _⟩ | ⟨g', cap', cur, q, _⟩
  · cases q
  · injection q with _ q2 _; exact q2.symm
theorem strs_cell {L : List ByteArray} (h : Strs.Own w B (.slice (some ⟨g, 0, none⟩) n cap) L) (j : Nat) (hj : j < n) : w.cell? ⟨g, j, none⟩ = some (.string (L.getD j ⟨#[]⟩)) := by
  have hn := strs_len h
  unfold Strs.Own at h
  rw [hn] at h
  rw [World.ownsRow.cellAt h j (by omega)]
  simp [show j < L.length by omega]
theorem strs_free {L : List ByteArray} (h : Strs.Own w B (.slice (some ⟨g, 0, none⟩) n cap) L) (j : Nat) : w.frozen? ⟨g, j, none⟩ = false := by
  have hn := strs_len h
  unfold Strs.Own at h
  rw [hn] at h
  exact World.ownsRow.frozenAt h j
theorem strs_set {L : List ByteArray} (h : Strs.Own w B (.slice (some ⟨g, 0, none⟩) n cap) L) (j : Nat) (x : ByteArray) : Strs.Own (w.setCell ⟨g, j, none⟩ (.string x)) B (.slice (some ⟨g, 0, none⟩) n cap) (L.set j x) := by
  have hn := strs_len h
  unfold Strs.Own at h ⊢
  rw [hn] at h
  rw [List.length_set, hn]
  have := (World.ownsRow.stored h j (.string x)).1
  rwa [show (L.map (Value.string)).set j (.string x) = (L.set j x).map (Value.string) by simp [List.map_set]] at this
end
theorem own_lt {w : World} {B sz n g cap m : Nat} {e : TypeId} {xs : List Value} (h : w.ownsRow B e sz (.slice (some ⟨g, 0, none⟩) n cap) m xs) : g < w.heap.size := by
  rcases h.2 with ⟨q, _⟩ | ⟨g', cap', cur, q, _, hg, _⟩
  · cases q
  · injection q with q _ _
    injection q with q
    injection q with q
    subst q
    exact (Array.getElem?_eq_some_iff.1 hg).1
theorem own_next {w w' : World} {B sz n g cap m : Nat} {e : TypeId} {xs : List Value} (h : w.ownsRow B e sz (.slice (some ⟨g, 0, none⟩) n cap) m xs) (hb : RowKit.Below w.heap.size w w') : w'.ownsRow B e sz (.slice (some ⟨g, 0, none⟩) n cap) m xs :=
  own_keep h fun k hk => by
    have : g = k := Option.some.inj hk
    subst this
    exact hb.block g (own_lt h)
theorem sets5 (W : World) (g o : Nat) (a b c d e : Value) : W.setCells g o [a, b, c, d, e] = ((((W.setCell ⟨g, o, none⟩ a).setCell ⟨g, o + 1, none⟩ b).setCell ⟨g, o + 2, none⟩ c).setCell ⟨g, o + 3, none⟩ d).setCell ⟨g, o + 4, none⟩ e := by
  simp only [World.setCells]
theorem row_at {w : World} {c : Value} {ns : List ByteArray} (hr : Strs.Row w c ns) : ∃ a cap b off, c = .slice a ns.length cap ∧ (0 < ns.length → a = some ⟨b, off, none⟩ ∧ b < w.heap.size ∧ ∀ j, j < ns.length → w.cell? ⟨b, off + j, none⟩ = some (.string (ns.getD j ⟨#[]⟩))) := by
  rcases hr with ⟨rfl, a, cap, rfl⟩ | ⟨b, off, cap, rfl, hc⟩
  · exact ⟨a, cap, 0, 0, rfl, fun h => absurd h (Nat.lt_irrefl 0)⟩
  · exact ⟨_, cap, b, off, rfl, fun h => ⟨rfl, Strs.cell_lt (hc 0 h), hc⟩⟩
/-- Five cells of a value's shape. -/
def Shp (c : List Value) : Prop := ∃ k n s a l p a2 l2 p2, c = [.int .i64 k, .int .i64 n, .string s, .slice a l p, .slice a2 l2 p2]
theorem InV_shp {w : World} {v : Vt} {cs : List Value} (h : InV w v cs) : Shp cs := by
  obtain ⟨a, cap, c4, rfl, _, h3⟩ := (InV_iff w v cs).1 h
  obtain ⟨a2, cap2, rfl, _⟩ := h3.open_
  exact ⟨_, _, _, _, _, _, _, _, _, rfl⟩
theorem getD_seti (C : List Int) (i j : Nat) (x : Int) (h : i < C.length) : (C.set i x).getD j 0 = if j = i then x else C.getD j 0 := getD_set C i j x 0 h
theorem plc_at {ns : List ByteArray} {i : Nat} (h : i < ns.length) : (plc ns).getD i 0 < ns.length := by
  have hl := plc_len ns
  rw [List.getD_eq_getElem?_getD, List.getElem?_eq_getElem (by omega)]
  exact plc_lt (List.getElem_mem _)

end Go.Proofs.YtfefbfohenmajaaDoor.Tre
