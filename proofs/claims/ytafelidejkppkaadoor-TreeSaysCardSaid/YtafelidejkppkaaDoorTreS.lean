/- Values in memory by the blocks they lie in, and rows of values that a call makes itself. Conditions: as each theorem states. -/
import Derived.Test.YtafelidejkppkaaDoorTreA
import Derived.Laws.CopyOwn
import Derived.Lib.OthersKept
namespace Go.Proofs.YtafelidejkppkaaDoor.Tre
open Go.RowKit Go.Lib Go.Proofs.YtafelidejkppkaaDoor.Byt

/-- A row of strings; its block is one of S. -/
def RowS (S : Nat → Prop) (w : World) (c : Value) (ns : List ByteArray) : Prop := Strs.Row w c ns ∧ (ns ≠ [] → ∀ b, c.ownBlock = some b → S b)
mutual
/-- Five cells hold that value; what they lead to lies in blocks of S. -/
def InS (S : Nat → Prop) (w : World) : Vt → List Value → Prop
  | .mk k n s l ns, cs => ∃ a cap c4, cs = [.int .i64 k, .int .i64 n, .string s, .slice a l.length cap, c4] ∧ (l ≠ [] → ∃ b off, a = some ⟨b, off, none⟩ ∧ S b ∧ InSL S w l b off) ∧ RowS S w c4 ns
def InSL (S : Nat → Prop) (w : World) : List Vt → Nat → Nat → Prop
  | [], _, _ => True
  | x :: l, b, off => (∃ cs, w.rangeAt b off cs ∧ InS S w x cs) ∧ InSL S w l b (off + 5)
end
section
variable {S S' : Nat → Prop} {w w' : World}
theorem InSL_all (b : Nat) : ∀ (l : List Vt) (off : Nat), InSL S w l b off ↔ ∀ j, j < l.length → ∃ cs, w.rangeAt b (off + 5 * j) cs ∧ InS S w (l.getD j V0) cs
  | [], off => by rw [InSL]; simp
  | x :: l, off => by
    rw [InSL, InSL_all b l (off + 5)]
    constructor
    · rintro ⟨h1, h2⟩ j hj
      cases j with
      | zero => exact h1
      | succ j =>
        have := h2 j (by simpa using hj)
        rwa [show off + 5 + 5 * j = off + 5 * (j + 1) by omega] at this
    · intro h
      refine ⟨h 0 (by simp), fun j hj => ?_⟩
      have := h (j + 1) (by simpa using hj)
      rwa [show off + 5 * (j + 1) = off + 5 + 5 * j by omega] at this
theorem InS_iff (v : Vt) (cs : List Value) : InS S w v cs ↔ ∃ a cap c4, cs = [.int .i64 v.k, .int .i64 v.n, .string v.s, .slice a v.l.length cap, c4] ∧ (∀ j, j < v.l.length → ∃ b off, a = some ⟨b, off, none⟩ ∧ S b ∧ ∃ ds, w.rangeAt b (off + 5 * j) ds ∧ InS S w (v.l.getD j V0) ds) ∧ RowS S w c4 v.ns := by
  cases v with
  | mk k n s l ns =>
    rw [InS]
    constructor
    · rintro ⟨a, cap, c4, h1, h2, h3⟩
      refine ⟨a, cap, c4, h1, fun j hj => ?_, h3⟩
      obtain ⟨b, off, e, hs, hl⟩ := h2 (by rintro rfl; simp [Vt.l] at hj)
      exact ⟨b, off, e, hs, (InSL_all b l off).1 hl j hj⟩
    · rintro ⟨a, cap, c4, h1, h2, h3⟩
      refine ⟨a, cap, c4, h1, fun hne => ?_, h3⟩
      have hp := List.length_pos_iff.2 hne
      obtain ⟨b, off, e, hs, _⟩ := h2 0 hp
      refine ⟨b, off, e, hs, (InSL_all b l off).2 fun j hj => ?_⟩
      obtain ⟨b2, off2, e2, _, h⟩ := h2 j hj
      have := Option.some.inj (e.symm.trans e2)
      injection this with hb ho _
      subst hb ho
      exact h
theorem InS_in (v : Vt) : ∀ cs, InS S w v cs → InV w v cs := by
  refine vt_ind (p := fun v => ∀ cs, InS S w v cs → InV w v cs) ?_ v
  intro v ih cs h
  obtain ⟨a, cap, c4, h1, h2, h3⟩ := (InS_iff v cs).1 h
  refine (InV_iff w v cs).2 ⟨a, cap, c4, h1, fun j hj => ?_, h3.1⟩
  obtain ⟨b, off, e, _, ds, hr, hi⟩ := h2 j hj
  exact ⟨b, off, e, ds, hr, ih _ (mem_get hj) ds hi⟩
theorem InS_five {v : Vt} {cs : List Value} (h : InS S w v cs) : cs.length = 5 := InV_five (InS_in v cs h)
theorem range_lt {b o : Nat} {cs : List Value} (h : w.rangeAt b o cs) (h5 : cs.length = 5) : b < w.heap.size :=
  Strs.cell_lt (h 0 _ (List.getElem?_eq_getElem (by omega)))
theorem row_lt {c : Value} {ns : List ByteArray} (h : Strs.Row w c ns) (hne : ns ≠ []) : ∀ b, c.ownBlock = some b → b < w.heap.size := by
  intro b hb
  rcases h with ⟨h, _⟩ | ⟨b2, off, cap, rfl, hc⟩
  · exact absurd h hne
  · have : b2 = b := Option.some.inj hb
    subst this
    exact Strs.cell_lt (hc 0 (List.length_pos_iff.2 hne))
theorem RowS_upd (h : ∀ b, S b → b < w.heap.size → w'.heap[b]? = w.heap[b]? ∧ S' b) {c : Value} {ns : List ByteArray} (hr : RowS S w c ns) : RowS S' w' c ns := by
  obtain ⟨h1, h2⟩ := hr
  by_cases hne : ns = []
  · subst hne
    refine ⟨?_, fun q => absurd rfl q⟩
    rcases h1 with h1 | ⟨b, off, cap, rfl, _⟩
    · exact .inl h1
    · exact .inl ⟨rfl, _, cap, rfl⟩
  · have hl := row_lt h1 hne
    refine ⟨?_, fun _ b hb => (h b (h2 hne b hb) (hl b hb)).2⟩
    rcases h1 with ⟨q, _⟩ | ⟨b, off, cap, rfl, hc⟩
    · exact absurd q hne
    · have hk := (h b (h2 hne b rfl) (hl b rfl)).1
      exact .inr ⟨b, off, cap, rfl, fun j hj => (World.cell?_of_block (a := ⟨b, off + j, none⟩) hk).trans (hc j hj)⟩
theorem InS_upd (h : ∀ b, S b → b < w.heap.size → w'.heap[b]? = w.heap[b]? ∧ S' b) (v : Vt) : ∀ cs, InS S w v cs → InS S' w' v cs := by
  refine vt_ind (p := fun v => ∀ cs, InS S w v cs → InS S' w' v cs) ?_ v
  intro v ih cs hv
  obtain ⟨a, cap, c4, h1, h2, h3⟩ := (InS_iff v cs).1 hv
  refine (InS_iff v cs).2 ⟨a, cap, c4, h1, fun j hj => ?_, RowS_upd h h3⟩
  obtain ⟨b, off, e, hs, ds, hr, hi⟩ := h2 j hj
  obtain ⟨hk, hs'⟩ := h b hs (range_lt hr (InS_five hi))
  exact ⟨b, off, e, hs', ds, fun i u hu => (World.cell?_of_block (a := ⟨b, off + 5 * j + i, none⟩) hk).trans (hr i u hu), ih _ (mem_get hj) ds hi⟩
theorem in_InS (v : Vt) : ∀ cs, InV w v cs → InS (fun b => b < w.heap.size) w v cs := by
  refine vt_ind (p := fun v => ∀ cs, InV w v cs → InS (fun b => b < w.heap.size) w v cs) ?_ v
  intro v ih cs h
  obtain ⟨a, cap, c4, h1, h2, h3⟩ := (InV_iff w v cs).1 h
  refine (InS_iff v cs).2 ⟨a, cap, c4, h1, fun j hj => ?_, h3, fun hne => row_lt h3 hne⟩
  obtain ⟨b, off, e, ds, hr, hi⟩ := h2 j hj
  exact ⟨b, off, e, range_lt hr (InV_five hi), ds, hr, ih _ (mem_get hj) ds hi⟩
theorem InS_one {v : Vt} {cs : List Value} (h : InV w v cs) : ∀ u ∈ cs, u.oneCell' = true := by
  obtain ⟨a, cap, c4, rfl, _, h3⟩ := (InV_iff w v cs).1 h
  obtain ⟨a2, cap2, rfl, _⟩ := h3.open_
  intro u hu
  simp only [List.mem_cons, List.not_mem_nil, or_false] at hu
  rcases hu with rfl | rfl | rfl | rfl | rfl <;> rfl
end

/-! ### rows of values -/
theorem info80 : (Tryd.prog.info? 25).map (fun i => (i.zero, i.size, i.bytes)) = some (some (.agg #[.int .i64 0, .int .i64 0, .string ⟨#[]⟩, .slice none 0 0, .slice none 0 0]), 5, 80) := by kernel_rfl
def Five (C : List (List Value)) : Prop := ∀ c ∈ C, c.length = 5
theorem flat_len : ∀ C : List (List Value), Five C → C.flatten.length = C.length * 5
  | [], _ => rfl
  | c :: C, h => by
    rw [List.flatten_cons, List.length_append, flat_len C fun x hx => h x (List.mem_cons_of_mem _ hx), h c List.mem_cons_self, List.length_cons]
    omega
theorem flat_at : ∀ (C : List (List Value)), Five C → ∀ (j f : Nat), j < C.length → f < 5 → C.flatten[j * 5 + f]? = (C.getD j [])[f]?
  | [], _, j, f, hj, _ => by simp at hj
  | c :: C, h, j, f, hj, hf => by
    have h5 := h c List.mem_cons_self
    rw [List.flatten_cons]
    cases j with
    | zero => rw [List.getElem?_append_left (by omega)]; simp
    | succ j =>
      rw [List.getElem?_append_right (by omega), h5, show (j + 1) * 5 + f - 5 = j * 5 + f by omega, flat_at C (fun x hx => h x (List.mem_cons_of_mem _ hx)) j f (by simp at hj; omega) hf]
      rfl
theorem flat_set (u0 u1 u2 u3 u4 : Value) : ∀ (C : List (List Value)), Five C → ∀ j, j < C.length → ((((C.flatten.set (j * 5) u0).set (j * 5 + 1) u1).set (j * 5 + 2) u2).set (j * 5 + 3) u3).set (j * 5 + 4) u4 = (C.set j [u0, u1, u2, u3, u4]).flatten
  | [], _, j, hj => by simp at hj
  | c :: C, h, j, hj => by
    have h5 := h c List.mem_cons_self
    obtain ⟨a, b, x, d, e, rfl⟩ : ∃ a b x d e, c = [a, b, x, d, e] := by
      match c, h5 with
      | [a, b, x, d, e], _ => exact ⟨a, b, x, d, e, rfl⟩
    cases j with
    | zero => simp
    | succ j =>
      have ih := flat_set u0 u1 u2 u3 u4 C (fun x hx => h x (List.mem_cons_of_mem _ hx)) j (by simpa using hj)
      rw [List.set_cons_succ, List.flatten_cons, List.flatten_cons, ← ih]
      simp only [show (j + 1) * 5 = j * 5 + 5 by omega, List.cons_append, List.nil_append]
      simp only [show ∀ m, j * 5 + 5 + m = j * 5 + m + 1 + 1 + 1 + 1 + 1 by intro m; omega, show j * 5 + 5 = j * 5 + 1 + 1 + 1 + 1 + 1 by omega, List.set_cons_succ]
/-- v is the call's own (from block B on) and holds values by their cells. -/
def OwnR (w : World) (B : Nat) (v : Value) (C : List (List Value)) : Prop := Five C ∧ w.ownsRow B 25 5 v C.length C.flatten
theorem below_sets {B g : Nat} (hg : B ≤ g) {a : World} : ∀ (vs : List Value) (o : Nat) (w : World), Below B a w → Below B a (w.setCells g o vs)
  | [], _, _, h => h
  | v :: r, o, w, h => by rw [World.setCells]; exact below_sets hg r (o + 1) _ (below_set h hg o v)
theorem sets_other (g : Nat) {k : Nat} (hk : k ≠ g) : ∀ (vs : List Value) (o : Nat) (w : World), (w.setCells g o vs).heap[k]? = w.heap[k]?
  | [], _, _ => rfl
  | v :: r, o, w => by rw [World.setCells, sets_other g hk r (o + 1) _]; exact heap_setCell_other w ⟨g, o, none⟩ k v (fun e => hk e)
section
variable {w w' : World} {B : Nat} {v : Value} {C : List (List Value)}
theorem OwnR.nil (w : World) (B : Nat) : OwnR w B (.slice none 0 0) [] := ⟨fun c hc => (by cases hc), World.ownsRow_nil _ _ _ _⟩
theorem OwnR.alloc (h : OwnR w B v C) (o : Obj) : OwnR (w.alloc o) B v C := ⟨h.1, World.ownsRow.alloc h.2 o⟩
theorem OwnR.shape (h : OwnR w B v C) : (v = .slice none 0 0 ∧ C = []) ∨ ∃ g cap, v = .slice (some ⟨g, 0, none⟩) C.length cap ∧ B ≤ g ∧ g < w.heap.size := by
  rcases h.2.2 with ⟨hv, hx⟩ | ⟨g, cap, cur, hv, hB, hg, _⟩
  · exact .inl ⟨hv, List.eq_nil_of_length_eq_zero hx⟩
  · exact .inr ⟨g, cap, hv, hB, by
      rcases Nat.lt_or_ge g w.heap.size with h' | h'
      · exact h'
      · simp [Array.getElem?_eq_none h'] at hg⟩
/-- A row at any length: its cells are asked where there are some. -/
theorem OwnR.open_ (h : OwnR w B v C) : ∃ a cap, v = .slice a C.length cap ∧ ∀ j, j < C.length → ∃ g, a = some ⟨g, 0, none⟩ ∧ B ≤ g ∧ g < w.heap.size ∧ w.rangeAt g (j * 5) (C.getD j []) ∧ w.there g (j * 5) 5 := by
  rcases h.shape with ⟨rfl, rfl⟩ | ⟨g, cap, rfl, hB, hg⟩
  · exact ⟨none, 0, rfl, fun j hj => by cases hj⟩
  · refine ⟨_, cap, rfl, fun j hj => ⟨g, rfl, hB, hg, fun f u hu => ?_, fun f hf => ⟨?_, World.ownsRow.frozenAt h.2 _⟩⟩⟩
    · have hm : C.getD j [] ∈ C := by
        rw [List.getD_eq_getElem?_getD, List.getElem?_eq_getElem hj]
        exact List.getElem_mem hj
      have hf5 : f < 5 := by
        rw [← h.1 _ hm]
        exact (List.getElem?_eq_some_iff.1 hu).1
      rw [World.ownsRow.cellAt h.2 (j * 5 + f) (by omega), flat_at C h.1 j f hj hf5, hu]
    · rw [World.ownsRow.cellAt h.2 (j * 5 + f) (by omega), List.getElem?_eq_getElem (by rw [flat_len C h.1]; omega)]
      rfl
theorem OwnR.set_ {g n cap : Nat} (h : OwnR w B (.slice (some ⟨g, 0, none⟩) n cap) C) {j : Nat} (hj : j < C.length) {c : List Value} (h5 : c.length = 5) :
    OwnR (w.setCells g (j * 5) c) B (.slice (some ⟨g, 0, none⟩) n cap) (C.set j c) := by
  obtain ⟨a, b, x, d, e, rfl⟩ : ∃ a b x d e, c = [a, b, x, d, e] := by
    match c, h5 with
    | [a, b, x, d, e], _ => exact ⟨a, b, x, d, e, rfl⟩
  have hn : C.length = n := by
    rcases h.shape with ⟨q, _⟩ | ⟨g', cap', q, _⟩
    · cases q
    · injection q with _ q2 _; exact q2.symm
  obtain ⟨hF, hO⟩ := h
  refine ⟨fun y hy => ?_, ?_⟩
  · rcases List.mem_or_eq_of_mem_set hy with hy | rfl
    · exact hF y hy
    · rfl
  · rw [List.length_set, ← flat_set a b x d e C hF j hj, hn]
    rw [hn] at hO
    exact (World.ownsRow.stored (World.ownsRow.stored (World.ownsRow.stored (World.ownsRow.stored (World.ownsRow.stored hO (j * 5) a).1 (j * 5 + 1) b).1 (j * 5 + 2) x).1 (j * 5 + 3) d).1 (j * 5 + 4) e).1
theorem OwnR.beside (h : OwnR w B v C) (hb : ∀ k, v.ownBlock = some k → w'.heap[k]? = w.heap[k]?) : OwnR w' B v C := by
  refine ⟨h.1, h.2.1, ?_⟩
  rcases h.2.2 with hn | ⟨g, cap, cur, hv, hbg, hg, rest⟩
  · exact .inl hn
  · exact .inr ⟨g, cap, cur, hv, hbg, (hb g (by rw [hv]; rfl)).trans hg, rest⟩
theorem OwnR.next (h : OwnR w B v C) (hb : Below w.heap.size w w') : OwnR w' B v C := h.beside fun k hk => by
  rcases h.shape with ⟨rfl, _⟩ | ⟨g, cap, rfl, _, hg⟩
  · cases hk
  · have : g = k := Option.some.inj hk
    subst this
    exact hb.block g hg
end

/-- Each value lies in its cells. -/
def Lie (S : Nat → Prop) (w : World) (l : List Vt) (C : List (List Value)) : Prop := C.length = l.length ∧ ∀ j, j < l.length → InS S w (l.getD j V0) (C.getD j [])
theorem Lie.upd {S S' : Nat → Prop} {w w' : World} {l : List Vt} {C : List (List Value)} (h : Lie S w l C) (k : ∀ b, S b → b < w.heap.size → w'.heap[b]? = w.heap[b]? ∧ S' b) : Lie S' w' l C :=
  ⟨h.1, fun j hj => InS_upd k _ _ (h.2 j hj)⟩
/-- A value made by a call of its parts. -/
theorem made {S : Nat → Prop} {w : World} {B : Nat} {c3 c4 : Value} {C : List (List Value)} {l : List Vt} {ns : List ByteArray} (k n : Int) (s : ByteArray) (h3 : OwnR w B c3 C) (hl : Lie S w l C) (h4 : RowS S w c4 ns) (hS : ∀ b, B ≤ b → S b) :
    InS S w (.mk k n s l ns) [.int .i64 k, .int .i64 n, .string s, c3, c4] := by
  obtain ⟨a, cap, rfl, ho⟩ := h3.open_
  rw [hl.1] at ho ⊢
  refine (InS_iff _ _).2 ⟨a, cap, c4, rfl, fun j hj => ?_, h4⟩
  obtain ⟨g, e, hB, _, hr, _⟩ := ho j hj
  refine ⟨g, 0, e, hS g hB, _, ?_, hl.2 j hj⟩
  rwa [Nat.zero_add, Nat.mul_comm 5 j]

/-! ### a value in a variable of its own -/
/-- Block g holds those cells. -/
def Box (w : World) (g : Nat) (cs : Array Value) : Prop := w.heap[g]? = some (.cells cs 25 (0, 0))
theorem Box.next {w w' : World} {B g : Nat} {cs : Array Value} (h : Box w g cs) (hb : Below B w w') (hg : g < B) : Box w' g cs := (hb.block g hg).trans h
theorem Box.lt {w : World} {g : Nat} {cs : Array Value} (h : Box w g cs) : g < w.heap.size := by
  rcases Nat.lt_or_ge g w.heap.size with h' | h'
  · exact h'
  · unfold Box at h; simp [Array.getElem?_eq_none h'] at h
theorem Box.cell {w : World} {g : Nat} {cs : Array Value} (h : Box w g cs) (j : Nat) : w.cell? ⟨g, j, none⟩ = cs[j]? := by
  unfold Box at h
  simp [World.cell?, h]
theorem Box.free {w : World} {g : Nat} {cs : Array Value} (h : Box w g cs) (j : Nat) : w.frozen? ⟨g, j, none⟩ = false := frozen_of_row w g j cs _ h
theorem box_after {w w1 : World} {o : Obj} (hb : Below (w.alloc o).heap.size (w.alloc o) w1) : w1.heap[w.heap.size]? = some o ∧ Below w.heap.size w w1 := by
  have hs : (w.alloc o).heap.size = w.heap.size + 1 := by simp
  refine ⟨(hb.block _ (by omega)).trans (heap_alloc_new w o), ?_⟩
  exact ((Below.refl w.heap.size w).alloc (Nat.le_refl _) o).trans (hb.mono (by omega))
theorem box_new (w : World) (cs : Array Value) : Box (w.alloc (.cells cs 25)) w.heap.size cs := heap_alloc_new _ _
section
variable {ops : Array Oper} {rest : List Oper} {o : Oper} {a : Act} {Q : Exit → Act → World → Prop}
/-- '*p = v' of a value's variable. -/
theorem wpList_keep (W : World) (hgd : o.guard = none) (x y : Operand) (ho : o.op = .store 25 x y) (B : Nat) (w0 : World) (hb : Below B w0 W) (g : Nat) (hB : B ≤ g) (cs old : Array Value)
    (hx : a.eval x = .pointer (some ⟨g, 0, none⟩)) (hy : a.eval y = .agg cs) (hk : Box W g old) (ho5 : old.size = 5) (hc5 : cs.size = 5) (h1 : ∀ u ∈ cs.toList, u.oneCell' = true)
    (h : ∀ w', Box w' g cs → Below B w0 w' → (∀ k, k ≠ g → w'.heap[k]? = W.heap[k]?) → w'.heap.size = W.heap.size → wpList Tryd.prog ops Q rest (a.put o.dst undef) w') : wpList Tryd.prog ops Q (o :: rest) a W := by
  refine wpList_store_row hgd _ x y ho g cs hx hy _ old hk (by rw [infoV, hc5]) (by omega) (Array.all_eq_true_iff_forall_mem.2 fun u hu => h1 u (by simpa using hu)) ?_
  exact h _ (setRow_heap W g old _ _ _ hk) (below_setRow hb hB _) (fun k hk => setRow_other W g k _ hk) (by simp)
/-- 'x := *p' of a value's variable. -/
theorem wpList_fetch (W : World) (hgd : o.guard = none) (x : Operand) (ho : o.op = .load 25 x) (g : Nat) (cs : Array Value)
    (hx : a.eval x = .pointer (some ⟨g, 0, none⟩)) (hk : Box W g cs) (h5 : cs.size = 5)
    (h : wpList Tryd.prog ops Q rest (a.put o.dst (.agg cs)) W) : wpList Tryd.prog ops Q (o :: rest) a W :=
  wpList_load_row hgd _ x ho g hx _ cs _ _ hk Tryd.underlying25 rfl (by rw [infoV, h5]) h
/-- What a function hands back whose one result is a value in memory. -/
theorem results_val {fn : Func} {p : Tmp} (h : fn.results = #[.cell p 25]) (tmps : Array Value) (w : World) (g : Nat) (cs : Array Value)
    (hp : tmps.getD p undef = .pointer (some ⟨g, 0, none⟩)) (hk : Box w g cs) (h5 : cs.size = 5) : (results fn tmps).run Tryd.prog w = .ok (.agg cs) w := by
  have hl := run_loadVar_row (P := Tryd.prog) w g _ 25 cs _ _ hk Tryd.underlying25 rfl (by rw [infoV, h5])
  have hp' : tmps[p]?.getD undef = .pointer (some ⟨g, 0, none⟩) := by simpa using hp
  simp [results, h, hp', asAddr, hl]
theorem results_val2 {fn : Func} {p t : Tmp} (h : fn.results = #[.cell p 25, .tmp t]) (tmps : Array Value) (w : World) (g : Nat) (cs : Array Value)
    (hp : tmps.getD p undef = .pointer (some ⟨g, 0, none⟩)) (hk : Box w g cs) (h5 : cs.size = 5) : (results fn tmps).run Tryd.prog w = .ok (.tuple #[.agg cs, tmps.getD t undef]) w := by
  have hl := run_loadVar_row (P := Tryd.prog) w g _ 25 cs _ _ hk Tryd.underlying25 rfl (by rw [infoV, h5])
  have hp' : tmps[p]?.getD undef = .pointer (some ⟨g, 0, none⟩) := by simpa using hp
  simp [results, h, hp', asAddr, hl]
end
theorem RowS_own {S : Nat → Prop} {w : World} {B : Nat} {v : Value} {l : List ByteArray} (h : Strs.Own w B v l) (hS : ∀ b, B ≤ b → S b) : RowS S w v l := by
  refine ⟨h.row, fun _ b hb => ?_⟩
  exact hS b (h.cells b hb).1
end Go.Proofs.YtafelidejkppkaaDoor.Tre
