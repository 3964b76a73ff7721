/- 'append(l, m...)' of rows of strings. Conditions: as each theorem states. -/
import Derived.Test.YtfefbfohenmajaaDoorRowsA
import Derived.Laws.OwnMore
namespace Go.Proofs.YtfefbfohenmajaaDoor.Strs
open Go.RowKit Go.Lib Go.Proofs.YtfefbfohenmajaaDoor.Byt

theorem run_pushRow (W : World) (ty : TypeId) (B : Nat) (w0 : World) (v : Value) (l : List ByteArray) (hown : Own W B v l) (hb : Below B w0 W) (hB : B ≤ w0.heap.size) (x : Value) (ns : List ByteArray) (hr : Row W x ns) (hlim : l.length + ns.length ≤ 8796093022208) :
    ∃ v' w', (Builtin.append_ #[22, 22] ty #[v, x]).run Tryd.prog W = .ok v' w' ∧ Own w' B v' (l ++ ns) ∧ Below B w0 w' ∧ W.grownBy w' v.ownBlock := by
  obtain ⟨i0, hi, hz0, hz1, hz2⟩ := info_parts info16
  have hsz := hb.size
  have key : ∀ (ad : Addr) (c : Nat), x = .slice (some ad) ns.length c → (∀ j u, (ns.map (Value.string))[j]? = some u → W.cell? (ad.add j) = some u) →
      ∃ v' w', (Builtin.append_ #[22, 22] ty #[v, x]).run Tryd.prog W = .ok v' w' ∧ Own w' B v' (l ++ ns) ∧ Below B w0 w' ∧ W.grownBy w' v.ownBlock := by
    rintro ad c rfl hn
    obtain ⟨v', w', hr', h2, h3, _⟩ := run_append_own (P := Tryd.prog) W B 22 ty 9 i0 (.string ⟨#[]⟩) 1 16 Tryd.underlying22 hi hz0 hz1 hz2 rfl (by omega) v l.length (l.map (Value.string)) hown
      ad ns.length c (ns.map (Value.string)) (by simp) hn (strs_one ns) (by unfold maxLen; omega) (by omega) (by omega)
    refine ⟨v', w', hr', ?_, hb.grown h3 (by omega) (fun k hk => (World.ownsRow.lt hown k hk).1), h3⟩
    unfold Own
    rw [List.length_append, List.map_append]
    exact h2
  rcases hr with ⟨rfl, a, cap, rfl⟩ | ⟨b, off, cap, rfl, hc⟩
  · cases a with
    | some ad => exact key ad cap rfl fun j u hj => by simp at hj
    | none =>
      refine ⟨v, W, ?_, by rw [List.append_nil]; exact hown, hb, ⟨rfl, rfl, rfl, Nat.le_refl _, fun _ _ _ => rfl⟩⟩
      rcases hown.2 with ⟨rfl, hn⟩ | ⟨g, cap', cur, rfl, _, _, hnc, _⟩
      · simp [Builtin.append_, run_underlying Tryd.underlying22, sizeOf, typeInfo, hi, Builtin.lenOf, Builtin.firstCells]
      · simp [Builtin.append_, run_underlying Tryd.underlying22, sizeOf, typeInfo, hi, Builtin.lenOf, Builtin.firstCells, hnc, storeCells]
  · refine key ⟨b, off, none⟩ cap rfl fun j u hj => ?_
    have hlt : j < ns.length := by
      have := (List.getElem?_eq_some_iff.1 hj).1
      simpa using this
    have e : ((⟨b, off, none⟩ : Addr).add j) = ⟨b, off + j, none⟩ := by rcases j with _ | j <;> simp [Addr.add]
    rw [e, hc j hlt]
    simpa [hlt] using hj
theorem Own.lit0 (w : World) (B : Nat) (hB : B ≤ w.heap.size) : Own (w.alloc (.cells #[] 9)) B (.slice (some ⟨w.heap.size, 0, none⟩) 0 0) [] := by
  have := World.ownsRow_lit (base := B) (e := 9) (size := 1) w #[] 0 hB (by decide) rfl
  simpa [Own] using this
section
variable {ops : Array Oper} {rest : List Oper} {o : Oper} {a : Act} {Q : Exit → Act → World → Prop}
/-- In a region, where the guard holds. -/
theorem wpList_pushRow (W : World) (hw : Region.wanted o (yielded ops a.tmps) = true) (s x : Operand) (ho : o.op = .call { callee := .builtin .append, args := #[s, x], argTypes := #[22, 22] })
    (B : Nat) (w0 : World) (v y : Value) (l ns : List ByteArray) (hs : a.eval s = v) (hx : a.eval x = y) (hown : Own W B v l) (hb : Below B w0 W) (hB : B ≤ w0.heap.size) (hr : Row W y ns) (hlim : l.length + ns.length ≤ 8796093022208)
    (h : ∀ v' w', Own w' B v' (l ++ ns) → Below B w0 w' → W.grownBy w' v.ownBlock → wpList Tryd.prog ops Q rest (a.put o.dst v') w') : wpList Tryd.prog ops Q (o :: rest) a W := by
  obtain ⟨v', w', hr', h2, h3, h4⟩ := run_pushRow W o.type B w0 v l hown hb hB y ns hr hlim
  refine wpList_step fun _ hK => ?_
  rw [if_pos hw]
  unfold Oper.wp execOp
  simp only [ho, resolve, invoke, builtin, Sem.run_bind, Sem.run_pure, Result.andThen_ok, List.map_toArray, List.map_cons, List.map_nil, hs, hx, hr']
  exact hK _ _ (h v' w' h2 h3 h4)
variable {K : Act → World → Prop} {E : Prop}
/-- One step of a region that draws. -/
theorem step_pushRow (W : World) (hg : o.guard = none) (s x : Operand) (ho : o.op = .call { callee := .builtin .append, args := #[s, x], argTypes := #[22, 22] })
    (B : Nat) (w0 : World) (v y : Value) (l ns : List ByteArray) (hs : a.eval s = v) (hx : a.eval x = y) (hown : Own W B v l) (hb : Below B w0 W) (hB : B ≤ w0.heap.size) (hr : Row W y ns) (hlim : l.length + ns.length ≤ 8796093022208)
    (h : ∀ v' w', Own w' B v' (l ++ ns) → Below B w0 w' → W.grownBy w' v.ownBlock → K (a.put o.dst v') w') : if Region.wanted o (yielded ops a.tmps) = true then Oper.wp Tryd.prog o a W K Q else E := by
  obtain ⟨v', w', hr', h2, h3, h4⟩ := run_pushRow W o.type B w0 v l hown hb hB y ns hr hlim
  have hw : Region.wanted o (yielded ops a.tmps) = true := by simp [Region.wanted, hg]
  rw [if_pos hw]
  unfold Oper.wp execOp
  simp only [ho, resolve, invoke, builtin, Sem.run_bind, Sem.run_pure, Result.andThen_ok, List.map_toArray, List.map_cons, List.map_nil, hs, hx, hr']
  exact h v' w' h2 h3 h4
end
end Go.Proofs.YtfefbfohenmajaaDoor.Strs
