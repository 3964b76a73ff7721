/- Rows made, places sorted by slices.SortFunc. Conditions: as each theorem states. -/
import Derived.Test.YtfefbfohenmajaaDoorTreL
import Derived.Test.YtfefbfohenmajaaDoorTreM
import Derived.Test.YtfefbfohenmajaaDoorRowsA
import Derived.Lib.OwnBridge
namespace Go.Proofs.YtfefbfohenmajaaDoor.Tre
open Go.RowKit Go.Lib Go.Shelf Go.Proofs.YtfefbfohenmajaaDoor.Byt

theorem own_keep {w w' : World} {B sz n : Nat} {e : TypeId} {v : Value} {xs : List Value} (h : w.ownsRow B e sz v n xs) (hb : ∀ k, v.ownBlock = some k → w'.heap[k]? = w.heap[k]?) : w'.ownsRow B e sz v n xs := by
  refine ⟨h.1, ?_⟩
  rcases h.2 with hn | ⟨g, cap, cur, hv, hbg, hg, rest⟩
  · exact .inl hn
  · exact .inr ⟨g, cap, cur, hv, hbg, (hb g (by rw [hv]; rfl)).trans hg, rest⟩
def zeroC : List Value := [.int .i64 0, .int .i64 0, .string ⟨#[]⟩, .slice none 0 0, .slice none 0 0]
theorem zerosV (n : Nat) : (madeCells (Value.agg #[.int .i64 0, .int .i64 0, .string ⟨#[]⟩, .slice none 0 0, .slice none 0 0]).cells (n * 5)).toList = (List.replicate n zeroC).flatten := by
  have hF : Five (List.replicate n zeroC) := fun c hc => by rw [(List.mem_replicate.1 hc).2]; rfl
  have hl := flat_len _ hF
  rw [List.length_replicate] at hl
  have hz : (Value.agg #[.int .i64 0, .int .i64 0, .string ⟨#[]⟩, .slice none 0 0, .slice none 0 0]).cells = zeroC.toArray := rfl
  rw [hz]
  have hs : zeroC.toArray.size = 5 := rfl
  apply List.ext_getElem?
  intro j
  by_cases hj : j < n * 5
  · have h2 := flat_at _ hF (j / 5) (j % 5) (by rw [List.length_replicate]; omega) (Nat.mod_lt _ (by omega))
    rw [show j / 5 * 5 + j % 5 = j by omega] at h2
    rw [h2]
    have h3 : (List.replicate n zeroC).getD (j / 5) [] = zeroC := by
      rw [List.getD_eq_getElem?_getD, List.getElem?_replicate, if_pos (by omega)]; rfl
    rw [h3]
    have h5 : j % 5 < 5 := Nat.mod_lt _ (by omega)
    obtain ⟨u, hu⟩ : ∃ u, zeroC[j % 5]? = some u := ⟨_, List.getElem?_eq_getElem (show j % 5 < zeroC.length from h5)⟩
    simp [madeCells, hj, hs, hu]
  · have hm : (madeCells zeroC.toArray (n * 5)).toList.length = n * 5 := by simp [madeCells]
    rw [List.getElem?_eq_none (by omega), List.getElem?_eq_none (by omega)]
section
variable {ops : Array Oper} {rest : List Oper} {o : Oper} {a : Act} {Q : Exit → Act → World → Prop}
/-- 'make([]string, n)'. -/
theorem wpList_strs (W : World) (hg : o.guard = none) (x y : Operand) (ho : o.op = .makeSlice 22 x y) (B : Nat) (w0 : World) (hb : Below B w0 W) (hB : B ≤ W.heap.size) (n : Nat) (hx : a.eval x = .int .i64 (n : Int)) (hy : a.eval y = .int .i64 (n : Int)) (hlim : n * 16 ≤ 140737488355328)
    (h : ∀ w' G, W.heap.size ≤ G → Strs.Own w' B (.slice (some ⟨G, 0, none⟩) n n) (List.replicate n ⟨#[]⟩) → Below B w0 w' → Below W.heap.size W w' → wpList Tryd.prog ops Q rest (a.put o.dst (.slice (some ⟨G, 0, none⟩) n n)) w') : wpList Tryd.prog ops Q (o :: rest) a W := by
  obtain ⟨i0, hi, hz0, hz1, hz2⟩ := info_parts Strs.info16
  refine wpList_make_full W hg x y _ ho B _ i0 _ 1 Tryd.underlying22 hi hz0 hz1 .i64 .i64 _ _ n hx hy rfl rfl (by rw [hz2]; omega) (by unfold maxLen; omega) hB ?_
  intro w' h1 h2
  refine h w' _ (Nat.le_refl _) ?_ (hb.grown h2 hB (fun k hk => by cases hk)) ((Below.refl _ _).grown h2 (Nat.le_refl _) (fun k hk => by cases hk))
  unfold Strs.Own
  rw [Nat.mul_one, show (Value.string ⟨#[]⟩).cells = #[Value.string ⟨#[]⟩] from rfl, toList_madeCells_one] at h1
  simpa using h1
/-- 'make([]api.Value, n)'. -/
theorem wpList_vals (W : World) (hg : o.guard = none) (x y : Operand) (ho : o.op = .makeSlice 23 x y) (B : Nat) (w0 : World) (hb : Below B w0 W) (hB : B ≤ W.heap.size) (n : Nat) (hx : a.eval x = .int .i64 (n : Int)) (hy : a.eval y = .int .i64 (n : Int)) (hlim : n * 80 ≤ 140737488355328)
    (h : ∀ w' G, W.heap.size ≤ G → OwnR w' B (.slice (some ⟨G, 0, none⟩) n n) (List.replicate n zeroC) → Below B w0 w' → Below W.heap.size W w' → wpList Tryd.prog ops Q rest (a.put o.dst (.slice (some ⟨G, 0, none⟩) n n)) w') : wpList Tryd.prog ops Q (o :: rest) a W := by
  obtain ⟨i0, hi, hz0, hz1, hz2⟩ := info_parts info80
  refine wpList_make_full W hg x y _ ho B _ i0 _ 5 Tryd.underlying23 hi hz0 hz1 .i64 .i64 _ _ n hx hy rfl rfl (by rw [hz2]; omega) (by unfold maxLen; omega) hB ?_
  intro w' h1 h2
  refine h w' _ (Nat.le_refl _) ⟨fun c hc => by rw [(List.mem_replicate.1 hc).2]; rfl, ?_⟩ (hb.grown h2 hB (fun k hk => by cases hk)) ((Below.refl _ _).grown h2 (Nat.le_refl _) (fun k hk => by cases hk))
  rw [zerosV] at h1
  simpa using h1
end

/-! ### places sorted -/
def nm (ns : List ByteArray) (i : Nat) : ByteArray := ns.getD i ⟨#[]⟩
end Go.Proofs.YtfefbfohenmajaaDoor.Tre
