/- Tokens in memory: one of them, and rows of them. Conditions: as each theorem states. -/
import Derived.Test.YtbikbniaoceodaaDoorLexA
import Derived.Deep.MidRow
import Derived.Laws.CopyOwn
namespace Go.Proofs.YtbikbniaoceodaaDoor.Lx
open Go.RowKit Go.Lib Go.Proofs.YtbikbniaoceodaaDoor.Byt

theorem info5 : (Tryd.prog.info? 28).map (·.size) = some 5 := by kernel_rfl
theorem info48 : (Tryd.prog.info? 28).map (fun i => (i.zero, i.size, i.bytes)) = some (some (.agg #[.int .i64 0, .int .i64 0, .int .i64 0, .string ⟨#[]⟩, .int .i64 0]), 5, 48) := by kernel_rfl
/-- A token's cells. -/
def tkC (t : Tk) : List Value := [.int .i64 (t.k : Int), .int .i64 (t.o : Int), .int .i64 (t.z : Int), .string ⟨t.v.toArray⟩, .int .i64 t.n]
theorem tkV_agg (t : Tk) : tkV t = .agg (tkC t).toArray := rfl
def T0 : Tk := ⟨0, 0, 0, [], 0⟩
/-- Block g holds those cells. -/
def Box (w : World) (g : Nat) (cs : Array Value) : Prop := w.heap[g]? = some (.cells cs 28 (0, 0))
theorem Box.next {w w' : World} {B g : Nat} {cs : Array Value} (h : Box w g cs) (hb : Below B w w') (hg : g < B) : Box w' g cs := (hb.block g hg).trans h
theorem Box.lt {w : World} {g : Nat} {cs : Array Value} (h : Box w g cs) : g < w.heap.size := by
  rcases Nat.lt_or_ge g w.heap.size with h' | h'
  · exact h'
  · unfold Box at h; simp [Array.getElem?_eq_none h'] at h
theorem Box.cell {w : World} {g : Nat} {cs : Array Value} (h : Box w g cs) (j : Nat) : w.cell? ⟨g, j, none⟩ = cs[j]? := by
  unfold Box at h
  simp [World.cell?, h]
theorem box_new (w : World) (cs : Array Value) : Box (w.alloc (.cells cs 28)) w.heap.size cs := heap_alloc_new _ _
theorem box_old {w : World} {g : Nat} {cs : Array Value} (h : Box w g cs) (o : Obj) : Box (w.alloc o) g cs := by
  have := h.lt
  unfold Box at h ⊢
  rw [← h]
  exact ((Below.refl w.heap.size w).alloc (Nat.le_refl _) o).block g this
section
variable {ops : Array Oper} {rest : List Oper} {o : Oper} {a : Act} {Q : Exit → Act → World → Prop}
/-- '*p = t' of a token's variable. -/
theorem wpList_keep (W : World) (hgd : o.guard = none) (x y : Operand) (ho : o.op = .store 28 x y) (B : Nat) (w0 : World) (hb : Below B w0 W) (g : Nat) (hB : B ≤ g) (k p z : Int) (v : ByteArray) (n : Int) (old : Array Value)
    (hx : a.eval x = .pointer (some ⟨g, 0, none⟩)) (hy : a.eval y = .agg #[.int .i64 k, .int .i64 p, .int .i64 z, .string v, .int .i64 n]) (hk : Box W g old) (ho5 : old.size = 5)
    (h : ∀ w', Box w' g #[.int .i64 k, .int .i64 p, .int .i64 z, .string v, .int .i64 n] → Below B w0 w' → (∀ k, k ≠ g → w'.heap[k]? = W.heap[k]?) → wpList Tryd.prog ops Q rest (a.put o.dst undef) w') : wpList Tryd.prog ops Q (o :: rest) a W := by
  refine wpList_store_row hgd _ x y ho g _ hx hy _ old hk info5 ho5 (by simp [Value.oneCell']) ?_
  refine h _ (setRow_heap W g old _ _ _ hk) (below_setRow hb hB _) (fun k hk => setRow_other W g k _ hk)
/-- 'x := *p' of a token's variable. -/
theorem wpList_fetch (W : World) (hgd : o.guard = none) (x : Operand) (ho : o.op = .load 28 x) (g : Nat) (cs : Array Value)
    (hx : a.eval x = .pointer (some ⟨g, 0, none⟩)) (hk : Box W g cs) (h5 : cs.size = 5)
    (h : wpList Tryd.prog ops Q rest (a.put o.dst (.agg cs)) W) : wpList Tryd.prog ops Q (o :: rest) a W :=
  wpList_load_row hgd _ x ho g hx _ cs _ _ hk Tryd.underlying28 rfl (by rw [info5, h5]) h
/-- What a function hands back whose first result is a token in memory. -/
theorem results_tok {fn : Func} {p t : Tmp} (h : fn.results = #[.cell p 28, .tmp t]) (tmps : Array Value) (w : World) (g : Nat) (cs : Array Value)
    (hp : tmps.getD p undef = .pointer (some ⟨g, 0, none⟩)) (hk : Box w g cs) (h5 : cs.size = 5) : (results fn tmps).run Tryd.prog w = .ok (.tuple #[.agg cs, tmps.getD t undef]) w := by
  have hl := run_loadVar_row (P := Tryd.prog) w g _ 28 cs _ _ hk Tryd.underlying28 rfl (by rw [info5, h5])
  have hp' : tmps[p]?.getD undef = .pointer (some ⟨g, 0, none⟩) := by simpa using hp
  simp [results, h, hp', asAddr, hl]
end

/-! ### rows of tokens -/
def rowC (L : List Tk) : List Value := L.flatMap tkC
theorem rowC_len (L : List Tk) : (rowC L).length = L.length * 5 := by
  induction L with
  | nil => rfl
  | cons t L ih => unfold rowC at ih ⊢; rw [List.flatMap_cons, List.length_append, ih, List.length_cons]; show 5 + _ = _; omega
theorem rowC_app (x y : List Tk) : rowC (x ++ y) = rowC x ++ rowC y := by unfold rowC; simp
theorem rowC_one (t : Tk) : rowC [t] = tkC t := by unfold rowC; simp
theorem tkC_one (t : Tk) : ∀ u ∈ tkC t, u.oneCell' = true := by
  intro u hu
  unfold tkC at hu
  simp only [List.mem_cons, List.not_mem_nil, or_false] at hu
  rcases hu with rfl | rfl | rfl | rfl | rfl <;> rfl
theorem rowC_at (L : List Tk) : ∀ (j f : Nat), j < L.length → f < 5 → (rowC L)[j * 5 + f]? = (tkC (L.getD j T0))[f]? := by
  induction L with
  | nil => intro j f h; simp at h
  | cons t L ih =>
    intro j f hj hf
    have e : rowC (t :: L) = tkC t ++ rowC L := by unfold rowC; simp
    have hl : (tkC t).length = 5 := rfl
    rw [e]
    cases j with
    | zero => rw [List.getElem?_append_left (by omega)]; simp
    | succ j =>
      rw [List.getElem?_append_right (by omega), hl, show (j + 1) * 5 + f - 5 = j * 5 + f by omega, ih j f (by simp at hj; omega) hf]
      rfl
/-- v can be read as the tokens L. -/
def Row (w : World) (v : Value) (L : List Tk) : Prop :=
  (L = [] ∧ ∃ a cap, v = .slice a 0 cap) ∨ ∃ b cap, v = .slice (some ⟨b, 0, none⟩) L.length cap ∧ ∀ j, j < L.length → w.rangeAt b (j * 5) (tkC (L.getD j T0))
theorem rangeAt_next {w w' : World} {b o : Nat} {cs : List Value} (h : w.rangeAt b o cs) (hb : Below w.heap.size w w') : w'.rangeAt b o cs := by
  intro j v hj
  exact (hb.cell (Lib.lt_of_cell (h j v hj))).trans (h j v hj)
theorem Row.next {w w' : World} {v : Value} {L : List Tk} (h : Row w v L) (hb : Below w.heap.size w w') : Row w' v L := by
  rcases h with h | ⟨b, cap, h1, h2⟩
  · exact .inl h
  · exact .inr ⟨b, cap, h1, fun j hj => rangeAt_next (h2 j hj) hb⟩
theorem Row.nil (w : World) : Row w (.slice none 0 0) [] := .inl ⟨rfl, _, _, rfl⟩
/-- A row at any length: its cells are asked where there are some. -/
theorem Row.open_ {w : World} {v : Value} {L : List Tk} (h : Row w v L) : ∃ a cap, v = .slice a L.length cap ∧ ∀ j, j < L.length → ∃ b, a = some ⟨b, 0, none⟩ ∧ w.rangeAt b (j * 5) (tkC (L.getD j T0)) := by
  rcases h with ⟨rfl, a, cap, rfl⟩ | ⟨b, cap, rfl, hc⟩
  · exact ⟨a, cap, rfl, fun j hj => by cases hj⟩
  · exact ⟨_, cap, rfl, fun j hj => ⟨b, rfl, hc j hj⟩⟩
/-- v is the call's own (from block B on) and holds the tokens L. -/
def Own (w : World) (B : Nat) (v : Value) (L : List Tk) : Prop := w.ownsRow B 28 5 v L.length (rowC L)
section
variable {w w' : World} {B : Nat} {v : Value} {L : List Tk}
theorem Own.nil (w : World) (B : Nat) : Own w B (.slice none 0 0) [] := World.ownsRow_nil _ _ _ _
theorem Own.alloc (h : Own w B v L) (o : Obj) : Own (w.alloc o) B v L := World.ownsRow.alloc h o
theorem Own.row (h : Own w B v L) : Row w v L := by
  rcases h.2 with ⟨hv, hx⟩ | ⟨g, cap, cur, hv, _⟩
  · obtain rfl : L = [] := List.eq_nil_of_length_eq_zero hx
    subst hv
    exact Row.nil w
  · subst hv
    refine .inr ⟨g, cap, rfl, fun j hj f u hf => ?_⟩
    have hf5 : f < 5 := by
      have : f < (tkC (L.getD j T0)).length := (List.getElem?_eq_some_iff.1 hf).1
      exact this
    rw [World.ownsRow.cellAt h (j * 5 + f) (by omega), rowC_at L j f hj hf5, hf]
theorem Own.next (h : Own w B v L) (hb : Below w.heap.size w w') : Own w' B v L := by
  refine ⟨h.1, ?_⟩
  rcases h.2 with hn | ⟨g, cap, cur, hv, hbg, hg, rest⟩
  · exact .inl hn
  · have hg2 : g < w.heap.size := by
      rcases Nat.lt_or_ge g w.heap.size with h' | h'
      · exact h'
      · simp [Array.getElem?_eq_none h'] at hg
    exact .inr ⟨g, cap, cur, hv, hbg, (hb.block g hg2).trans hg, rest⟩
/-- A row over a store into another block. -/
theorem Own.beside (h : Own w B v L) (hb : ∀ k, v.ownBlock = some k → w'.heap[k]? = w.heap[k]?) : Own w' B v L := by
  refine ⟨h.1, ?_⟩
  rcases h.2 with hn | ⟨g, cap, cur, hv, hbg, hg, rest⟩
  · exact .inl hn
  · exact .inr ⟨g, cap, cur, hv, hbg, (hb g (by rw [hv]; rfl)).trans hg, rest⟩
end
section
variable {ops : Array Oper} {rest : List Oper} {o : Oper} {a : Act} {Q : Exit → Act → World → Prop}
theorem run_push (W : World) (ty : TypeId) (B : Nat) (w0 : World) (v : Value) (L : List Tk) (hown : Own W B v L) (hb : Below B w0 W) (hB : B ≤ w0.heap.size)
    (g c : Nat) (t : Tk) (cs : Array Value) (fr : Nat × Nat) (hblk : W.heap[g]? = some (.cells cs 28 fr)) (hcs : cs.toList = tkC t) (hlim : L.length + 1 ≤ 2932031007402) :
    ∃ v' w', (Builtin.append_ #[23, 23] ty #[v, .slice (some ⟨g, 0, none⟩) 1 c]).run Tryd.prog W = .ok v' w' ∧ Own w' B v' (L ++ [t]) ∧ Below B w0 w' ∧ ∀ g2 cs2, Box W g2 cs2 → v.ownBlock ≠ some g2 → Box w' g2 cs2 := by
  obtain ⟨i0, hi, hz0, hz1, hz2⟩ := info_parts info48
  have hsz := hb.size
  have hnews : ∀ j u, (tkC t)[j]? = some u → W.cell? ((⟨g, 0, none⟩ : Addr).add j) = some u := by
    intro j u hj
    rw [← hcs] at hj
    rw [add_at g j, World.cell?, hblk]
    simpa using hj
  obtain ⟨v', w', hr, h2, h3, _⟩ := run_append_own (P := Tryd.prog) W B 23 ty 28 i0 (.agg #[.int .i64 0, .int .i64 0, .int .i64 0, .string ⟨#[]⟩, .int .i64 0]) 5 48 Tryd.underlying23 hi hz0 hz1 hz2 rfl (by omega) v L.length (rowC L) hown
    ⟨g, 0, none⟩ 1 c (tkC t) rfl hnews (tkC_one t) (by unfold maxLen; omega) (by omega) (by omega)
  refine ⟨v', w', hr, ?_, hb.grown h3 (by omega) (fun k hk => (World.ownsRow.lt hown k hk).1), fun g2 cs2 hk hne => (h3.block g2 hk.lt hne.symm).trans hk⟩
  unfold Own
  rw [List.length_append, rowC_app, rowC_one]
  exact h2
theorem wpList_push (W : World) (hg : o.guard = none) (s x : Operand) (ho : o.op = .call { callee := .builtin .append, args := #[s, x], argTypes := #[23, 23] })
    (B : Nat) (w0 : World) (v : Value) (L : List Tk) (hs : a.eval s = v) (hown : Own W B v L) (hb : Below B w0 W) (hB : B ≤ w0.heap.size)
    (g c : Nat) (hx : a.eval x = .slice (some ⟨g, 0, none⟩) 1 c) (t : Tk) (cs : Array Value) (fr : Nat × Nat) (hblk : W.heap[g]? = some (.cells cs 28 fr)) (hcs : cs.toList = tkC t) (hlim : L.length + 1 ≤ 2932031007402)
    (h : ∀ v' w', Own w' B v' (L ++ [t]) → Below B w0 w' → (∀ g2 cs2, Box W g2 cs2 → v.ownBlock ≠ some g2 → Box w' g2 cs2) → wpList Tryd.prog ops Q rest (a.put o.dst v') w') : wpList Tryd.prog ops Q (o :: rest) a W := by
  obtain ⟨v', w', hr, h2, h3, h4⟩ := run_push W o.type B w0 v L hown hb hB g c t cs fr hblk hcs hlim
  refine wpList_plain hg fun K hK => ?_
  unfold Oper.wp execOp
  simp only [ho, resolve, invoke, builtin, Sem.run_bind, Sem.run_pure, Result.andThen_ok, List.map_toArray, List.map_cons, List.map_nil, hs, hx, hr]
  exact hK _ _ (h v' w' h2 h3 h4)
end
end Go.Proofs.YtbikbniaoceodaaDoor.Lx
