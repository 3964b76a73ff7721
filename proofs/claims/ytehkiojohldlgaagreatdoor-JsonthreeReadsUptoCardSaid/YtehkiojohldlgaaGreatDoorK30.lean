/- Texts of my own, packed: JsnE. Conditions: as each theorem states. -/
import Derived.Test.YtehkiojohldlgaaGreatDoorK08
import Derived.Test.YtehkiojohldlgaaGreatDoorK16
namespace Go.Proofs.YtehkiojohldlgaaGreatDoor.Jsn
open Go.RowKit Go.Lib
open Go.Proofs.YtehkiojohldlgaaGreatDoor.Tre (Vt V0 InV InS InS_upd InS_iff OwnR Box box_new box_set box_set4 set_other wpList_keep wpList_fetch results_val made RowS_own own_in own_apart)

section
variable {W W' : World} {N : Nat} {c4 : Value} {ns : List ByteArray}
theorem str_in (h : Strs.Own W N c4 ns) {b : Nat} (hb : c4.ownBlock = some b) : N ≤ b ∧ b < W.heap.size := by
  obtain ⟨h1, c, hc⟩ := h.cells b hb
  refine ⟨h1, ?_⟩
  rcases Nat.lt_or_ge b W.heap.size with h' | h'
  · exact h'
  · simp [Array.getElem?_eq_none h'] at hc
theorem str_keep (h : Strs.Own W N c4 ns) (k : ∀ b, c4.ownBlock = some b → W'.heap[b]? = W.heap[b]?) : Strs.Own W' N c4 ns := by
  refine ⟨h.1, ?_⟩
  rcases h.2 with hn | ⟨g, cap, cur, hv, hbg, hg, rest⟩
  · exact .inl hn
  · exact .inr ⟨g, cap, cur, hv, hbg, (k g (by rw [hv]; rfl)).trans hg, rest⟩
end
theorem getD_snoc {α : Type} (C : List α) (x d : α) (j : Nat) : (C ++ [x]).getD j d = if j < C.length then C.getD j d else if j = C.length then x else d := by
  rw [List.getD_eq_getElem?_getD, List.getD_eq_getElem?_getD]
  by_cases h : j < C.length
  · rw [if_pos h, List.getElem?_append_left h]
  · rw [if_neg h, List.getElem?_append_right (by omega)]
    by_cases h2 : j = C.length
    · subst h2; simp
    · rw [if_neg h2, List.getElem?_eq_none (by simp; omega)]; rfl
/-- What a call may have changed: blocks of S alone, and new ones. -/
structure Ch (S : Nat → Prop) (w w' : World) : Prop where
  os : w'.os = w.os
  tape : w'.tape = w.tape
  output : w'.output = w.output
  size : w.heap.size ≤ w'.heap.size
  block : ∀ b, b < w.heap.size → ¬ S b → w'.heap[b]? = w.heap[b]?
theorem Ch.of {S : Nat → Prop} {w w' : World} (h : Below w.heap.size w w') : Ch S w w' := ⟨h.os, h.tape, h.output, h.size, fun b hb _ => h.block b hb⟩
theorem Ch.trans {S S' : Nat → Prop} {a b c : World} (h : Ch S a b) (k : Ch S' b c) (hs : ∀ x, x < a.heap.size → S' x → S x) : Ch S a c :=
  ⟨k.os.trans h.os, k.tape.trans h.tape, k.output.trans h.output, Nat.le_trans h.size k.size, fun x hx hn => (k.block x (Nat.lt_of_lt_of_le hx h.size) fun q => hn (hs x hx q)).trans (h.block x hx hn)⟩
theorem Ch.below {S : Nat → Prop} {w w' : World} {N : Nat} (h : Ch S w w') (hS : ∀ b, S b → N ≤ b) (hN : N ≤ w.heap.size) : Below N w w' :=
  ⟨h.os, h.tape, h.output, h.size, fun b hb => h.block b (by omega) fun q => by have := hS b q; omega⟩
def own2 (c3 c4 : Value) (b : Nat) : Prop := c3.ownBlock = some b ∨ c4.ownBlock = some b
/-- An object that is being put together: its rows are the caller's own, its items have no parts. -/
def Ob (N : Nat) (W : World) (m : List (ByteArray × Vt)) (c3 c4 : Value) : Prop := ∃ D, OwnR W N c3 D ∧ D.length = m.length ∧ (∀ j, j < m.length → InS (fun _ => False) W (m.getD j (⟨#[]⟩, V0)).2 (D.getD j [])) ∧ Strs.Own W N c4 (m.map Prod.fst)
theorem Ob.nil (N : Nat) (W : World) : Ob N W [] (.slice none 0 0) (.slice none 0 0) := ⟨[], OwnR.nil _ _, rfl, fun _ hj => absurd hj (Nat.not_lt_zero _), Strs.Own.nil _ _⟩
theorem Ob.in_ {N : Nat} {W : World} {m : List (ByteArray × Vt)} {c3 c4 : Value} (h : Ob N W m c3 c4) {b : Nat} (hb : own2 c3 c4 b) : N ≤ b ∧ b < W.heap.size := by
  obtain ⟨D, h1, -, -, h4⟩ := h
  rcases hb with hb | hb
  · exact own_in h1 hb
  · exact str_in h4 hb
theorem InS_leaf {W W' : World} {S : Nat → Prop} {v : Vt} {cs : List Value} (h : InS (fun _ => False) W v cs) : InS S W' v cs := InS_upd (fun _ hb _ => absurd hb (fun q => q)) v cs h
theorem Ob.keep {N : Nat} {W W' : World} {m : List (ByteArray × Vt)} {c3 c4 : Value} (h : Ob N W m c3 c4) (k : ∀ b, own2 c3 c4 b → W'.heap[b]? = W.heap[b]?) : Ob N W' m c3 c4 := by
  obtain ⟨D, h1, h2, h3, h4⟩ := h
  exact ⟨D, h1.beside fun b hb => k b (.inl hb), h2, fun j hj => InS_leaf (h3 j hj), str_keep h4 fun b hb => k b (.inr hb)⟩
theorem map_fst (m : List (ByteArray × Vt)) (x : ByteArray × Vt) : (m ++ [x]).map Prod.fst = m.map Prod.fst ++ [x.1] := by rw [List.map_append]; rfl
theorem Ob.made {N : Nat} {W : World} {m : List (ByteArray × Vt)} {c3 c4 : Value} (h : Ob N W m c3 c4) : InS (fun b => N ≤ b) W (obj m) [.int .i64 5, .int .i64 0, .string ⟨#[]⟩, c3, c4] := by
  obtain ⟨D, h1, h2, h3, h4⟩ := h
  refine Tre.made 5 0 ⟨#[]⟩ h1 ⟨by rw [h2, List.length_map], fun j hj => ?_⟩ (RowS_own h4 fun _ hb => hb) (fun _ hb => hb)
  rw [List.length_map] at hj
  have := h3 j hj
  rw [show (m.map Prod.snd).getD j V0 = (m.getD j (⟨#[]⟩, V0)).2 by rw [List.getD_eq_getElem?_getD, List.getD_eq_getElem?_getD, List.getElem?_map, List.getElem?_eq_getElem hj]; rfl]
  exact InS_leaf this

section
variable {ops : Array Oper} {rest : List Oper} {o : Oper} {a : Act} {Q : Exit → Act → World → Prop}
theorem wpList_np (W : World) (hg : o.guard = none) (s x : Operand) (ho : o.op = .call { callee := .builtin .append, args := #[s, x], argTypes := #[24, 24] })
    (B : Nat) (v : Value) (l : List ByteArray) (hs : a.eval s = v) (hown : Strs.Own W B v l) (hB : B ≤ W.heap.size)
    (g c : Nat) (hx : a.eval x = .slice (some ⟨g, 0, none⟩) 1 c) (t : ByteArray) (fr : Nat × Nat) (hblk : W.heap[g]? = some (.cells #[.string t] 9 fr)) (hlim : (l.length + 1) * 16 ≤ 140737488355328)
    (h : ∀ v' w', Strs.Own w' B v' (l ++ [t]) → W.grownBy w' v.ownBlock → (∀ b, v'.ownBlock = some b → v.ownBlock = some b ∨ b = W.heap.size) → wpList Tryz.prog ops Q rest (a.put o.dst v') w') : wpList Tryz.prog ops Q (o :: rest) a W := by
  obtain ⟨v', w', hr, h2, h3, h4⟩ := Tre.run_npush W o.type B v l hown hB g c t fr hblk hlim
  refine wpList_plain hg fun K hK => ?_
  unfold Oper.wp execOp
  simp only [ho, resolve, invoke, builtin, Sem.run_bind, Sem.run_pure, Result.andThen_ok, List.map_toArray, List.map_cons, List.map_nil, hs, hx, hr]
  exact hK _ _ (h v' w' h2 h3 h4)
theorem wpList_vp (W : World) (hg : o.guard = none) (s x : Operand) (ho : o.op = .call { callee := .builtin .append, args := #[s, x], argTypes := #[23, 23] })
    (B : Nat) (v : Value) (C : List (List Value)) (hs : a.eval s = v) (hown : OwnR W B v C) (hB : B ≤ W.heap.size)
    (g c : Nat) (hx : a.eval x = .slice (some ⟨g, 0, none⟩) 1 c) (cs : List Value) (hblk : Box W g cs.toArray) (h5 : cs.length = 5) (h1 : ∀ u ∈ cs, u.oneCell' = true) (hlim : (C.length + 1) * 80 ≤ 140737488355328)
    (h : ∀ v' w', OwnR w' B v' (C ++ [cs]) → W.grownBy w' v.ownBlock → (∀ b, v'.ownBlock = some b → v.ownBlock = some b ∨ b = W.heap.size) → wpList Tryz.prog ops Q rest (a.put o.dst v') w') : wpList Tryz.prog ops Q (o :: rest) a W := by
  obtain ⟨v', w', hr, h2, h3, h4⟩ := Tre.run_vpush W o.type B v C hown hB g c cs hblk h5 h1 hlim
  refine wpList_plain hg fun K hK => ?_
  unfold Oper.wp execOp
  simp only [ho, resolve, invoke, builtin, Sem.run_bind, Sem.run_pure, Result.andThen_ok, List.map_toArray, List.map_cons, List.map_nil, hs, hx, hr]
  exact hK _ _ (h v' w' h2 h3 h4)
end

/-- The call's two variables and the object's rows, while a member is put on. -/
structure Sx (N : Nat) (w : World) (c3 c4 : Value) (D : List (List Value)) (ns : List ByteArray) (d3 d4 : Value) (W : World) : Prop where
  r3 : OwnR W N d3 D
  r4 : Strs.Own W N d4 ns
  bx : Box W w.heap.size #[.int .i64 5, .int .i64 0, .string ⟨#[]⟩, d3, d4]
  zx : Box W (w.heap.size + 1) Tre.zeroC.toArray
  n3 : ∀ b, d3.ownBlock = some b → c3.ownBlock = some b ∧ b < w.heap.size ∨ w.heap.size + 2 ≤ b
  n4 : ∀ b, d4.ownBlock = some b → c4.ownBlock = some b ∧ b < w.heap.size ∨ w.heap.size + 2 ≤ b
  ch : Ch (own2 c3 c4) w W
  sz : w.heap.size + 2 ≤ W.heap.size
  hN : N ≤ w.heap.size
theorem Sx.new {N : Nat} {w : World} {c3 c4 : Value} {D : List (List Value)} {ns : List ByteArray} (h3 : OwnR w N c3 D) (h4 : Strs.Own w N c4 ns) (hN : N ≤ w.heap.size) :
    Sx N w c3 c4 D ns c3 c4 ((w.alloc (.cells #[.int .i64 5, .int .i64 0, .string ⟨#[]⟩, c3, c4] 26)).alloc (.cells Tre.zeroC.toArray 26)) := by
  have b0 : Below w.heap.size w ((w.alloc (.cells #[.int .i64 5, .int .i64 0, .string ⟨#[]⟩, c3, c4] 26)).alloc (.cells Tre.zeroC.toArray 26)) := ((Below.refl _ _).alloc (Nat.le_refl _) _).alloc (by simp) _
  refine ⟨h3.next b0, Strs.Own.next h4 b0, ?_, ?_, fun b hb => .inl ⟨hb, (own_in h3 hb).2⟩, fun b hb => .inl ⟨hb, (str_in h4 hb).2⟩, Ch.of b0, by simp, hN⟩
  · have h0 := box_new w #[.int .i64 5, .int .i64 0, .string ⟨#[]⟩, c3, c4]
    exact h0.next ((Below.refl _ _).alloc (Nat.le_refl _) _) h0.lt
  · have h0 := box_new (w.alloc (.cells #[.int .i64 5, .int .i64 0, .string ⟨#[]⟩, c3, c4] 26)) Tre.zeroC.toArray
    rw [World.size_alloc] at h0
    exact h0
section
variable {N : Nat} {w W w4 : World} {c3 c4 d3 d4 v' : Value} {D : List (List Value)} {ns : List ByteArray} {t : ByteArray} {o : Obj} {es : List Value}
theorem Sx.off3 (h : Sx N w c3 c4 D ns d3 d4 W) {g : Nat} (hg : g = w.heap.size ∨ g = w.heap.size + 1) : d3.ownBlock ≠ some g := fun q => by
  rcases h.n3 g q with k | k <;> omega
theorem Sx.off4 (h : Sx N w c3 c4 D ns d3 d4 W) {g : Nat} (hg : g = w.heap.size ∨ g = w.heap.size + 1) : d4.ownBlock ≠ some g := fun q => by
  rcases h.n4 g q with k | k <;> omega
theorem Sx.pushN (h : Sx N w c3 c4 D ns d3 d4 W) (hv : Strs.Own w4 N v' (ns ++ [t])) (hg : (W.alloc o).grownBy w4 d4.ownBlock) (hk : ∀ b, v'.ownBlock = some b → d4.ownBlock = some b ∨ b = (W.alloc o).heap.size) :
    Box w4 w.heap.size #[.int .i64 5, .int .i64 0, .string ⟨#[]⟩, d3, d4] ∧ Sx N w c3 c4 D (ns ++ [t]) d3 v' (w4.setCell ⟨w.heap.size, 4, none⟩ v') := by
  have hs3 : (W.alloc o).heap.size = W.heap.size + 1 := by simp
  have hs4 := hg.size
  have hsz := h.sz
  have keep : ∀ b, b < W.heap.size → d4.ownBlock ≠ some b → w4.heap[b]? = W.heap[b]? := fun b hb hne => (hg.block b (by omega) (fun q => hne q.symm)).trans (Below.heap_alloc _ _ _ hb)
  have bx : Box w4 w.heap.size #[.int .i64 5, .int .i64 0, .string ⟨#[]⟩, d3, d4] := (keep _ h.bx.lt (h.off4 (.inl rfl))).trans h.bx
  have zx := (keep _ h.zx.lt (h.off4 (.inr rfl))).trans h.zx
  have n4 : ∀ b, v'.ownBlock = some b → c4.ownBlock = some b ∧ b < w.heap.size ∨ w.heap.size + 2 ≤ b := fun b hb => by
    rcases hk b hb with q | q
    · exact h.n4 b q
    · right; omega
  have fin : ∀ b, b ≠ w.heap.size → (w4.setCell ⟨w.heap.size, 4, none⟩ v').heap[b]? = w4.heap[b]? := fun b hb => set_other v' hb
  refine ⟨bx, ⟨?_, ?_, box_set4 bx v', (fin _ (by omega)).trans zx, h.n3, n4, ?_, by simp; omega, h.hN⟩⟩
  · refine h.r3.beside fun b hb => (fin b fun q => h.off3 (.inl q) hb).trans (keep b (own_in h.r3 hb).2 ?_)
    exact own_apart h.r3 h.r4 hb
  · exact str_keep hv fun b hb => fin b fun q => by rcases n4 b hb with k | k <;> omega
  · refine h.ch.trans (S' := fun b => d4.ownBlock = some b ∨ b = w.heap.size) ⟨hg.os, hg.tape, hg.output, by simp; omega, fun b hb hn => ?_⟩ ?_
    · exact (fin b fun q => hn (.inr q)).trans (keep b hb fun q => hn (.inl q))
    · rintro x hx (q | q)
      · rcases h.n4 x q with k | k
        · exact .inr k.1
        · omega
      · omega
theorem Sx.pushV (h : Sx N w c3 c4 D ns d3 d4 W) (hv : OwnR w4 N v' (D ++ [es])) (hg : (W.alloc o).grownBy w4 d3.ownBlock) (hk : ∀ b, v'.ownBlock = some b → d3.ownBlock = some b ∨ b = (W.alloc o).heap.size) :
    Box w4 w.heap.size #[.int .i64 5, .int .i64 0, .string ⟨#[]⟩, d3, d4] ∧ Sx N w c3 c4 (D ++ [es]) ns v' d4 (w4.setCell ⟨w.heap.size, 3, none⟩ v') := by
  have hs3 : (W.alloc o).heap.size = W.heap.size + 1 := by simp
  have hs4 := hg.size
  have hsz := h.sz
  have keep : ∀ b, b < W.heap.size → d3.ownBlock ≠ some b → w4.heap[b]? = W.heap[b]? := fun b hb hne => (hg.block b (by omega) (fun q => hne q.symm)).trans (Below.heap_alloc _ _ _ hb)
  have bx : Box w4 w.heap.size #[.int .i64 5, .int .i64 0, .string ⟨#[]⟩, d3, d4] := (keep _ h.bx.lt (h.off3 (.inl rfl))).trans h.bx
  have zx := (keep _ h.zx.lt (h.off3 (.inr rfl))).trans h.zx
  have n3 : ∀ b, v'.ownBlock = some b → c3.ownBlock = some b ∧ b < w.heap.size ∨ w.heap.size + 2 ≤ b := fun b hb => by
    rcases hk b hb with q | q
    · exact h.n3 b q
    · right; omega
  have fin : ∀ b, b ≠ w.heap.size → (w4.setCell ⟨w.heap.size, 3, none⟩ v').heap[b]? = w4.heap[b]? := fun b hb => set_other v' hb
  refine ⟨bx, ⟨?_, ?_, box_set bx v', (fin _ (by omega)).trans zx, n3, h.n4, ?_, by simp; omega, h.hN⟩⟩
  · exact hv.beside fun b hb => fin b fun q => by rcases n3 b hb with k | k <;> omega
  · refine str_keep h.r4 fun b hb => (fin b fun q => h.off4 (.inl q) hb).trans (keep b (str_in h.r4 hb).2 fun q => ?_)
    exact own_apart h.r3 h.r4 q hb
  · refine h.ch.trans (S' := fun b => d3.ownBlock = some b ∨ b = w.heap.size) ⟨hg.os, hg.tape, hg.output, by simp; omega, fun b hb hn => ?_⟩ ?_
    · exact (fin b fun q => hn (.inr q)).trans (keep b hb fun q => hn (.inl q))
    · rintro x hx (q | q)
      · rcases h.n3 x q with k | k
        · exact .inl k.1
        · omega
      · omega
/-- Behind the store into the result's variable. -/
theorem Sx.out {w9 : World} {m : List (ByteArray × Vt)} {x : Vt} {nm : ByteArray} (h : Sx N w c3 c4 (D ++ [es]) (m.map Prod.fst ++ [nm]) d3 d4 W) (hl : D.length = m.length) (hi : ∀ j, j < m.length → InS (fun _ => False) W (m.getD j (⟨#[]⟩, V0)).2 (D.getD j [])) (hx : InS (fun _ => False) W x es)
    (hb : Below (w.heap.size + 1) W w9) (hk : ∀ k, k ≠ w.heap.size + 1 → w9.heap[k]? = W.heap[k]?) :
    Ob N w9 (m ++ [(nm, x)]) d3 d4 ∧ (∀ b, own2 d3 d4 b → own2 c3 c4 b ∨ w.heap.size ≤ b) ∧ Ch (own2 c3 c4) w w9 := by
  refine ⟨⟨D ++ [es], h.r3.beside fun b hb => hk b fun q => h.off3 (.inr q) hb, by rw [List.length_append, List.length_append, hl]; rfl, fun j hj => ?_, by rw [map_fst]; exact str_keep h.r4 fun b hb => hk b fun q => h.off4 (.inr q) hb⟩, ?_, ?_⟩
  · rw [getD_snoc, getD_snoc]
    by_cases hji : j < m.length
    · rw [if_pos hji, if_pos (by omega)]
      exact InS_leaf (hi j hji)
    · have hj2 : j = m.length := by rw [List.length_append] at hj; simp at hj; omega
      rw [if_neg hji, if_pos hj2, if_neg (by omega), if_pos (by omega)]
      exact InS_leaf hx
  · rintro b (q | q)
    · rcases h.n3 b q with k | k
      · exact .inl (.inl k.1)
      · right; omega
    · rcases h.n4 b q with k | k
      · exact .inl (.inr k.1)
      · right; omega
  · have hsz := h.sz
    refine h.ch.trans (S' := fun b => b = w.heap.size + 1) ⟨hb.os, hb.tape, hb.output, hb.size, fun b _ hn => hk b hn⟩ ?_
    rintro x hx rfl
    omega
end
theorem new3 (w : World) (a b c : Obj) : (((w.alloc a).alloc b).alloc c).heap[w.heap.size + 1 + 1]? = some c := by
  have h := heap_alloc_new ((w.alloc a).alloc b) c
  rw [World.size_alloc, World.size_alloc] at h
  exact h
theorem box_newS (w : World) (p : Addr) (v : Value) (cs : Array Value) : Box ((w.setCell p v).alloc (.cells cs 26)) w.heap.size cs := by
  have h := box_new (w.setCell p v) cs
  rwa [show (w.setCell p v).heap.size = w.heap.size by simp] at h
theorem leaf_T (W : World) (s : ByteArray) : InS (fun _ => False) W (T s) [.int .i64 3, .int .i64 0, .string s, .slice none 0 0, .slice none 0 0] :=
  (InS_iff _ _).2 ⟨none, 0, _, rfl, fun _ hj => absurd hj (Nat.not_lt_zero _), Strs.Row.nil _, fun h => absurd rfl h⟩
theorem leaf_N (W : World) (n : Int) : InS (fun _ => False) W (N n) [.int .i64 2, .int .i64 n, .string ⟨#[]⟩, .slice none 0 0, .slice none 0 0] :=
  (InS_iff _ _).2 ⟨none, 0, _, rfl, fun _ hj => absurd hj (Nat.not_lt_zero _), Strs.Row.nil _, fun h => absurd rfl h⟩
theorem slc3 {W : World} {B : Nat} {v : Value} {C : List (List Value)} (h : OwnR W B v C) : ∃ a n p, v = .slice a n p := by
  obtain ⟨x, y, q, _⟩ := h.open_
  exact ⟨_, _, _, q⟩
theorem slc4 {W : World} {B : Nat} {v : Value} {l : List ByteArray} (h : Strs.Own W B v l) : ∃ a n p, v = .slice a n p := by
  obtain ⟨x, y, q, _⟩ := h.row.open_
  exact ⟨_, _, _, q⟩

set_option maxHeartbeats 4000000 in
set_option maxRecDepth 100000 in
theorem rtext2_any {Nb : Nat} {w : World} {m : List (ByteArray × Vt)} {c3 c4 : Value} (h : Ob Nb w m c3 c4) (hN : Nb ≤ w.heap.size) (hm : m.length ≤ 50) (nm s : ByteArray) :
    Calls Tryz.prog 60 #[.agg #[.int .i64 5, .int .i64 0, .string ⟨#[]⟩, c3, c4], .string nm, .string s] w fun e w' => ∃ a3 n3 p3 a4 n4 p4, e = .returned (.agg #[.int .i64 5, .int .i64 0, .string ⟨#[]⟩, .slice a3 n3 p3, .slice a4 n4 p4]) ∧
      Ob Nb w' (m ++ [(nm, T s)]) (.slice a3 n3 p3) (.slice a4 n4 p4) ∧ (∀ b, own2 (.slice a3 n3 p3) (.slice a4 n4 p4) b → own2 c3 c4 b ∨ w.heap.size ≤ b) ∧ Ch (own2 c3 c4) w w' := by
  obtain ⟨D, h1, h2, h3, h4⟩ := h
  obtain ⟨b3, l3, q3, rfl⟩ := slc3 h1
  obtain ⟨b4, l4, q4, rfl⟩ := slc4 h4
  have S0 := Lib.hid (Sx.new h1 h4 hN)
  have H2 := Lib.hid h2
  have H3 := Lib.hid h3
  have hl4 := Lib.hid (show ((m.map Prod.fst).length + 1) * 16 ≤ 140737488355328 by rw [List.length_map]; omega)
  have hl3 := Lib.hid (show (D.length + 1) * 80 ≤ 140737488355328 by omega)
  have HN := Lib.hid hN
  clear h1 h2 h3 h4 hN hm
  go_enter Tryz.func60, Tryz.ntmps60
  go_wp2_with (first
    | (refine wpList_np _ rfl (.tmp 8) (.tmp 10) rfl Nb (.slice b4 l4 q4) (m.map Prod.fst) rfl (S0.out.r4.alloc _) (by have := HN.out; simp; omega) _ _ rfl nm (0, 0) (new3 _ _ _ _) hl4.out ?_; intro v1 w1 hv1 hg1 hk1; obtain ⟨a9, n9, p9, e9⟩ := slc4 hv1; subst e9; have X1 := Sx.pushN S0.out hv1 hg1 hk1; have S1 := Lib.hid X1.2; have y4 := X1.1.cell 4; have f4 := X1.1.free 4; have y3 : (w1.setCell ⟨w.heap.size, 4, none⟩ (.slice a9 n9 p9)).cell? ⟨w.heap.size, 3, none⟩ = some (.slice b3 l3 q3) := X1.2.bx.cell 3; clear X1 hv1 hg1 hk1)
    | (refine wpList_vp _ rfl (.tmp 14) (.tmp 17) rfl Nb (.slice b3 l3 q3) D rfl (S1.out.r3.alloc _) (by have := HN.out; have := S1.out.sz; simp; simp at this; omega) _ _ rfl [.int .i64 3, .int .i64 0, .string s, .slice none 0 0, .slice none 0 0] (box_newS _ _ _ _) rfl (by intro u hu; simp only [List.mem_cons, List.not_mem_nil, or_false] at hu; rcases hu with rfl | rfl | rfl | rfl | rfl <;> rfl) hl3.out ?_; intro v2 w2 hv2 hg2 hk2; obtain ⟨a8, n8, p8, e8⟩ := slc3 hv2; subst e8; have X2 := Sx.pushV S1.out hv2 hg2 hk2; have S2 := Lib.hid X2.2; have z3 := X2.1.cell 3; have f3 := X2.1.free 3; clear X2 hv2 hg2 hk2)
    | (refine wpList_fetch _ rfl _ rfl w.heap.size _ rfl S2.out.bx rfl ?_)
    | (refine wpList_keep _ rfl _ _ rfl (w.heap.size + 1) _ (Below.refl _ _) (w.heap.size + 1) (Nat.le_refl _) _ _ rfl rfl S2.out.zx rfl rfl (by intro u hu; simp only [List.mem_cons, List.not_mem_nil, or_false] at hu; rcases hu with rfl | rfl | rfl | rfl | rfl <;> rfl) ?_; intro w9 bx9 hb9 hk9 hs9; clear hs9))
  refine bodyPost_ret (results_val rfl _ _ _ _ rfl bx9 rfl) rfl ?_
  exact ⟨_, _, _, _, _, _, rfl, S2.out.out H2.out (fun j hj => InS_leaf (H3.out j hj)) (leaf_T _ _) hb9 hk9⟩
set_option maxHeartbeats 4000000 in
set_option maxRecDepth 100000 in
theorem rnumber2_any {Nb : Nat} {w : World} {m : List (ByteArray × Vt)} {c3 c4 : Value} (h : Ob Nb w m c3 c4) (hN : Nb ≤ w.heap.size) (hm : m.length ≤ 50) (nm : ByteArray) (n : Int) :
    Calls Tryz.prog 61 #[.agg #[.int .i64 5, .int .i64 0, .string ⟨#[]⟩, c3, c4], .string nm, .int .i64 n] w fun e w' => ∃ a3 n3 p3 a4 n4 p4, e = .returned (.agg #[.int .i64 5, .int .i64 0, .string ⟨#[]⟩, .slice a3 n3 p3, .slice a4 n4 p4]) ∧
      Ob Nb w' (m ++ [(nm, N n)]) (.slice a3 n3 p3) (.slice a4 n4 p4) ∧ (∀ b, own2 (.slice a3 n3 p3) (.slice a4 n4 p4) b → own2 c3 c4 b ∨ w.heap.size ≤ b) ∧ Ch (own2 c3 c4) w w' := by
  obtain ⟨D, h1, h2, h3, h4⟩ := h
  obtain ⟨b3, l3, q3, rfl⟩ := slc3 h1
  obtain ⟨b4, l4, q4, rfl⟩ := slc4 h4
  have S0 := Lib.hid (Sx.new h1 h4 hN)
  have H2 := Lib.hid h2
  have H3 := Lib.hid h3
  have hl4 := Lib.hid (show ((m.map Prod.fst).length + 1) * 16 ≤ 140737488355328 by rw [List.length_map]; omega)
  have hl3 := Lib.hid (show (D.length + 1) * 80 ≤ 140737488355328 by omega)
  have HN := Lib.hid hN
  clear h1 h2 h3 h4 hN hm
  go_enter Tryz.func61, Tryz.ntmps61
  go_wp2_with (first
    | (refine wpList_np _ rfl (.tmp 8) (.tmp 10) rfl Nb (.slice b4 l4 q4) (m.map Prod.fst) rfl (S0.out.r4.alloc _) (by have := HN.out; simp; omega) _ _ rfl nm (0, 0) (new3 _ _ _ _) hl4.out ?_; intro v1 w1 hv1 hg1 hk1; obtain ⟨a9, n9, p9, e9⟩ := slc4 hv1; subst e9; have X1 := Sx.pushN S0.out hv1 hg1 hk1; have S1 := Lib.hid X1.2; have y4 := X1.1.cell 4; have f4 := X1.1.free 4; have y3 : (w1.setCell ⟨w.heap.size, 4, none⟩ (.slice a9 n9 p9)).cell? ⟨w.heap.size, 3, none⟩ = some (.slice b3 l3 q3) := X1.2.bx.cell 3; clear X1 hv1 hg1 hk1)
    | (refine wpList_vp _ rfl (.tmp 14) (.tmp 17) rfl Nb (.slice b3 l3 q3) D rfl (S1.out.r3.alloc _) (by have := HN.out; have := S1.out.sz; simp; simp at this; omega) _ _ rfl [.int .i64 2, .int .i64 n, .string ⟨#[]⟩, .slice none 0 0, .slice none 0 0] (box_newS _ _ _ _) rfl (by intro u hu; simp only [List.mem_cons, List.not_mem_nil, or_false] at hu; rcases hu with rfl | rfl | rfl | rfl | rfl <;> rfl) hl3.out ?_; intro v2 w2 hv2 hg2 hk2; obtain ⟨a8, n8, p8, e8⟩ := slc3 hv2; subst e8; have X2 := Sx.pushV S1.out hv2 hg2 hk2; have S2 := Lib.hid X2.2; have z3 := X2.1.cell 3; have f3 := X2.1.free 3; clear X2 hv2 hg2 hk2)
    | (refine wpList_fetch _ rfl _ rfl w.heap.size _ rfl S2.out.bx rfl ?_)
    | (refine wpList_keep _ rfl _ _ rfl (w.heap.size + 1) _ (Below.refl _ _) (w.heap.size + 1) (Nat.le_refl _) _ _ rfl rfl S2.out.zx rfl rfl (by intro u hu; simp only [List.mem_cons, List.not_mem_nil, or_false] at hu; rcases hu with rfl | rfl | rfl | rfl | rfl <;> rfl) ?_; intro w9 bx9 hb9 hk9 hs9; clear hs9))
  refine bodyPost_ret (results_val rfl _ _ _ _ rfl bx9 rfl) rfl ?_
  exact ⟨_, _, _, _, _, _, rfl, S2.out.out H2.out (fun j hj => InS_leaf (H3.out j hj)) (leaf_N _ _) hb9 hk9⟩
end Go.Proofs.YtehkiojohldlgaaGreatDoor.Jsn
