/- The contract of the document's Same. Conditions: as each theorem states. · Contracts of Same. Conditions: as each theorem states. · Contracts of slices.Clone, clone. Conditions: as each theorem states. · append to a row of values, told with the block that holds it behind. Conditions: as each theorem states. -/
import Derived.Test.YtbpofhlnnldceaaDoorTreG1
import Derived.StillTailTactics
import Derived.Test.YtbpofhlnnldceaaDoorShelf
import Derived.Laws.OwnMore
namespace Go.Proofs.YtbpofhlnnldceaaDoor.Tre
open Go.RowKit Go.Lib Go.Proofs.YtbpofhlnnldceaaDoor.Byt

/-- The heads of two values, and their items one by one. -/
theorem sm_parts (v u : Vt) : smB v u = (decide (v.k = u.k ∧ v.n = u.n ∧ v.s = u.s ∧ v.ns = u.ns) && smL v.l u.l) := by
  cases v; cases u; rw [smB]; rfl
theorem smL_off : ∀ (l m : List Vt), l.length ≠ m.length → smL l m = false
  | l, m, h => by
    cases hs : smL l m with
    | false => rfl
    | true => exact absurd (smL_len l m hs) h
theorem smL_at : ∀ (l m : List Vt), l.length = m.length → (smL l m = true ↔ ∀ i, i < l.length → smB (l.getD i V0) (m.getD i V0) = true)
  | [], [], _ => by rw [smL]; simp
  | [], _ :: _, h => by simp at h
  | _ :: _, [], h => by simp at h
  | x :: l, y :: m, h => by
    rw [smL, Bool.and_eq_true, smL_at l m (by simpa using h)]
    constructor
    · rintro ⟨h1, h2⟩ i hi
      cases i with
      | zero => exact h1
      | succ i => exact h2 i (by simpa using hi)
    · intro h
      exact ⟨h 0 (by simp), fun i hi => h (i + 1) (by simpa using hi)⟩
theorem smL_stop {l m : List Vt} (h : l.length = m.length) {i : Nat} (hi : i < l.length) (hf : smB (l.getD i V0) (m.getD i V0) = false) : smL l m = false := by
  cases hs : smL l m with
  | false => rfl
  | true => rw [(smL_at l m h).1 hs i hi] at hf; cases hf
theorem ns_at {a b : List ByteArray} (h : a.length = b.length) : a = b ↔ ∀ i, i < a.length → a.getD i ⟨#[]⟩ = b.getD i ⟨#[]⟩ := by
  constructor
  · rintro rfl i _; rfl
  · intro hh
    refine List.ext_getElem h fun i h1 h2 => ?_
    have := hh i h1
    rwa [List.getD_eq_getElem?_getD, List.getD_eq_getElem?_getD, List.getElem?_eq_getElem h1, List.getElem?_eq_getElem h2] at this
end Go.Proofs.YtbpofhlnnldceaaDoor.Tre

namespace Go.Proofs.YtbpofhlnnldceaaDoor.Tre
open Go.RowKit Go.Lib Go.Proofs.YtbpofhlnnldceaaDoor.Byt

theorem below_drewN {B n : Nat} {w W : World} (h : Below B w W) : Below B w (W.drewN n) := ⟨h.os, h.tape, h.output, h.size, h.block⟩
theorem two_boxes {w w3 : World} {x y : Obj} (hb : Below ((w.alloc x).alloc y).heap.size ((w.alloc x).alloc y) w3) : w3.heap[w.heap.size]? = some x ∧ w3.heap[w.heap.size + 1]? = some y ∧ Below w.heap.size w w3 := by
  have hs1 : (w.alloc x).heap.size = w.heap.size + 1 := by simp
  have hs : ((w.alloc x).alloc y).heap.size = w.heap.size + 1 + 1 := by simp
  refine ⟨(hb.block _ (by omega)).trans ((Below.heap_alloc _ _ _ (by omega)).trans (heap_alloc_new w x)), (hb.block _ (by omega)).trans ?_, ?_⟩
  · have := heap_alloc_new (w.alloc x) y
    rwa [hs1] at this
  · exact (((Below.refl w.heap.size w).alloc (Nat.le_refl _) x).alloc (by omega) y).trans (hb.mono (by omega))

end Go.Proofs.YtbpofhlnnldceaaDoor.Tre

namespace Go.Proofs.YtbpofhlnnldceaaDoor.Tre
open Go.RowKit Go.Lib Go.Proofs.YtbpofhlnnldceaaDoor.Byt

theorem cells_of {P : Nat → List Value → Prop} : ∀ n : Nat, (∀ i, i < n → ∃ v, P i v) → ∃ C : List (List Value), C.length = n ∧ ∀ i, i < n → P i (C.getD i [])
  | 0, _ => ⟨[], rfl, fun i h => by omega⟩
  | n + 1, h => by
    obtain ⟨l, h1, h2⟩ := cells_of n fun i hi => h i (by omega)
    obtain ⟨v, hv⟩ := h n (by omega)
    refine ⟨l ++ [v], by simp [h1], fun i hi => ?_⟩
    by_cases hin : i < n
    · have : (l ++ [v]).getD i [] = l.getD i [] := by
        rw [List.getD_eq_getElem?_getD, List.getElem?_append_left (by omega), ← List.getD_eq_getElem?_getD]
      rw [this]; exact h2 i hin
    · obtain rfl : i = n := by omega
      have : (l ++ [v]).getD i [] = v := by
        rw [List.getD_eq_getElem?_getD, List.getElem?_append_right (by omega), h1, Nat.sub_self]; rfl
      rw [this]; exact hv
theorem get_mem {C : List (List Value)} {j : Nat} (h : j < C.length) : C.getD j [] ∈ C := by
  rw [List.getD_eq_getElem?_getD, List.getElem?_eq_getElem h]
  exact List.getElem_mem h
theorem five_of {C : List (List Value)} {l : List Vt} {w : World} (hl : C.length = l.length) (h : ∀ j, j < l.length → InV w (l.getD j V0) (C.getD j [])) : Five C ∧ ∀ u ∈ C.flatten, u.oneCell' = true := by
  have key : ∀ c ∈ C, ∃ v, InV w v c := by
    intro c hc
    obtain ⟨j, hj, rfl⟩ := List.getElem_of_mem hc
    have := h j (by omega)
    rw [List.getD_eq_getElem?_getD (l := C), List.getElem?_eq_getElem hj] at this
    exact ⟨_, this⟩
  refine ⟨fun c hc => ?_, fun u hu => ?_⟩
  · obtain ⟨v, hv⟩ := key c hc; exact InV_five hv
  · obtain ⟨c, hc, hu⟩ := List.mem_flatten.1 hu
    obtain ⟨v, hv⟩ := key c hc
    exact InS_one hv u hu

/-! ### a row whose values are put in one after another -/
theorem getD_set {α : Type} (C : List α) (i j : Nat) (x d : α) (h : i < C.length) : (C.set i x).getD j d = if j = i then x else C.getD j d := by
  rw [List.getD_eq_getElem?_getD, List.getD_eq_getElem?_getD, List.getElem?_set]
  by_cases e : i = j
  · subst e; simp [h]
  · rw [if_neg e, if_neg (fun q => e q.symm)]
/-- The blocks from B on, but for the row's own. -/
def Sv (B : Nat) (v : Value) (b : Nat) : Prop := B ≤ b ∧ ∀ g, v.ownBlock = some g → b ≠ g
/-- The first i values are done. -/
def Half (f : Vt → Vt) (w : World) (B : Nat) (v : Value) (l : List Vt) (C : List (List Value)) (i : Nat) : Prop :=
  ∃ D, OwnR w B v D ∧ D.length = l.length ∧ (∀ j, j < i → InS (Sv B v) w (f (l.getD j V0)) (D.getD j [])) ∧ ∀ j, i ≤ j → D.getD j [] = C.getD j []
theorem Half.start {f : Vt → Vt} {w : World} {B : Nat} {v : Value} {l : List Vt} {C : List (List Value)} (h : OwnR w B v C) (hl : C.length = l.length) : Half f w B v l C 0 :=
  ⟨C, h, hl, fun _ hj => absurd hj (Nat.not_lt_zero _), fun _ _ => rfl⟩
theorem Half.end_ {f : Vt → Vt} {w : World} {B : Nat} {v : Value} {l : List Vt} {C : List (List Value)} (h : Half f w B v l C l.length) : ∃ D, OwnR w B v D ∧ Lie (Sv B v) w (l.map f) D := by
  obtain ⟨D, h1, h2, h3, _⟩ := h
  refine ⟨D, h1, by rw [h2, List.length_map], fun j hj => ?_⟩
  rw [List.length_map] at hj
  have := h3 j hj
  rwa [List.getD_eq_getElem?_getD (l := l.map f), List.getElem?_map, List.getElem?_eq_getElem hj, Option.map_some, Option.getD_some, show l[j] = l.getD j V0 by rw [List.getD_eq_getElem?_getD, List.getElem?_eq_getElem hj]; rfl]
theorem Half.at_ {f : Vt → Vt} {w : World} {B : Nat} {a : Option Addr} {n cap : Nat} {l : List Vt} {C : List (List Value)} {i : Nat} (h : Half f w B (.slice a n cap) l C i) (hi : i < l.length) :
    ∃ g, a = some ⟨g, 0, none⟩ ∧ B ≤ g ∧ g < w.heap.size ∧ w.rangeAt g (i * 5) (C.getD i []) ∧ w.there g (i * 5) 5 := by
  obtain ⟨D, h1, h2, _, h4⟩ := h
  obtain ⟨a', cap', e, ho⟩ := h1.open_
  injection e with e1 e2 e3
  subst e1
  obtain ⟨g, e, hB, hg, hr, ht⟩ := ho i (by omega)
  rw [h4 i (Nat.le_refl _)] at hr
  exact ⟨g, e, hB, hg, hr, ht⟩
theorem Half.step {f : Vt → Vt} {w w3 : World} {B g n cap : Nat} {l : List Vt} {C : List (List Value)} {i : Nat} (h : Half f w B (.slice (some ⟨g, 0, none⟩) n cap) l C i) (hi : i < l.length) (hB : B ≤ w.heap.size) (hb : Below w.heap.size w w3) {ds : List Value}
    (hd : InS (fun b => w.heap.size ≤ b) w3 (f (l.getD i V0)) ds) : Half f (w3.setCells g (i * 5) ds) B (.slice (some ⟨g, 0, none⟩) n cap) l C (i + 1) := by
  obtain ⟨D, h1, h2, h3, h4⟩ := h
  have h5 := InS_five hd
  have hg : g < w.heap.size := by
    rcases h1.shape with ⟨q, _⟩ | ⟨g', cap', q, _, hg⟩
    · cases q
    · injection q with q1 _ _
      injection q1 with q1
      injection q1 with q1
      rw [q1]; exact hg
  refine ⟨D.set i ds, (h1.next hb).set_ (by omega) h5, by rw [List.length_set, h2], fun j hj => ?_, fun j hj => ?_⟩
  · rw [getD_set _ _ _ _ _ (by omega)]
    by_cases e : j = i
    · rw [if_pos e, e]
      refine InS_upd (fun b hb' hl => ?_) _ _ hd
      have hne : b ≠ g := by omega
      exact ⟨sets_other g hne _ _ _, by omega, fun g' e' => by injection e' with e'; rw [← e']; exact hne⟩
    · rw [if_neg e]
      refine InS_upd (fun b hb' hl => ?_) _ _ (h3 j (by omega))
      have hne : b ≠ g := hb'.2 g rfl
      exact ⟨(sets_other g hne _ _ _).trans (hb.block b hl), hb'⟩
  · rw [getD_set _ _ _ _ _ (by omega), if_neg (by omega), h4 j (by omega)]
theorem there_next {w w' : World} {b o n : Nat} (h : w.there b o n) (hl : b < w.heap.size) (hb : Below w.heap.size w w') : w'.there b o n := by
  intro j hj
  have hk := hb.block b hl
  rw [World.cell?_of_block (a := ⟨b, o + j, none⟩) hk, World.frozen?_of_block (a := ⟨b, o + j, none⟩) hk]
  exact h j hj
end Go.Proofs.YtbpofhlnnldceaaDoor.Tre

namespace Go.Proofs.YtbpofhlnnldceaaDoor.Tre
open Go.RowKit Go.Lib Go.Proofs.YtbpofhlnnldceaaDoor.Byt

/-- Where a row lies behind an append: where it lay, or in the newest block. -/
theorem append_block (W : World) (t ty e : TypeId) (i : TypeInfo) (z : Value) (ht : Tryd.prog.underlying t = some (.slice e)) (hi : Tryd.prog.info? e = some i) (hz : i.zero = some z) (B : Nat) (v v' : Value) (w' : World) (n : Nat) (xs : List Value)
    (hown : W.ownsRow B e i.size v n xs) (a : Addr) (c : Nat) (news : List Value) (hl : news.length = 1 * i.size) (hnews : ∀ j u, news[j]? = some u → W.cell? (a.add j) = some u) (h1 : ∀ u ∈ news, u.oneCell' = true) (hbytes : (n + 1) * i.bytes ≤ 140737488355328) (h63 : n + 1 ≤ 9223372036854775807)
    (hr : (Builtin.append_ #[t, t] ty #[v, .slice (some a) 1 c]).run Tryd.prog W = .ok v' w') : ∀ b, v'.ownBlock = some b → v.ownBlock = some b ∨ b = W.heap.size := by
  intro b hb
  rcases hown.2 with ⟨rfl, rfl⟩ | ⟨g, cap, cur, rfl, hB, hg, hnc, hcm, hcs, htake⟩
  · have h2 := run_append_nil (P := Tryd.prog) (w := W) t ty e i z ht hi hz a 1 c news hl hnews (by omega) (by omega) (by omega)
    rw [h2] at hr
    injection hr with hr _
    subst hr
    right
    exact (Option.some.inj hb).symm
  · by_cases hroom : n + 1 ≤ cap
    · obtain ⟨w2, h2, _⟩ := run_append_fits (P := Tryd.prog) (w := W) B t ty e i i.size ht hi rfl g n cap xs hown a 1 c news hl hnews h1 hroom
      rw [h2] at hr
      injection hr with hr _
      subst hr
      exact .inl hb
    · have hcell : ∀ j u, xs[j]? = some u → W.cell? ((⟨g, 0, none⟩ : Addr).add j) = some u := by
        intro j u hj
        have hlt : j < xs.length := (List.getElem?_eq_some_iff.1 hj).1
        rw [hown.1] at hlt
        rw [Addr.add_mid, Nat.zero_add, World.ownsRow.cellAt hown j hlt, hj]
      have h2 := run_append_grow (P := Tryd.prog) (w := W) t ty e i z ht hi hz ⟨g, 0, none⟩ n cap xs hown.1 hcell a 1 c news hl hnews (by omega) (by omega) (Nat.le_trans (Nat.mul_le_mul_right _ (nextslicecap_le (by omega))) (by rw [Nat.mul_assoc]; omega))
      rw [h2] at hr
      injection hr with hr _
      subst hr
      right
      exact (Option.some.inj hb).symm

theorem flat_one (C : List (List Value)) (cs : List Value) : (C ++ [cs]).flatten = C.flatten ++ cs := by simp
/-- Behind 'append(l, x)' of a value: its cells lie in block g. -/
theorem run_vpush (W : World) (ty : TypeId) (B : Nat) (v : Value) (C : List (List Value)) (hown : OwnR W B v C) (hB : B ≤ W.heap.size)
    (g c : Nat) (cs : List Value) (hblk : Box W g cs.toArray) (h5 : cs.length = 5) (h1 : ∀ u ∈ cs, u.oneCell' = true) (hlim : (C.length + 1) * 80 ≤ 140737488355328) :
    ∃ v' w', (Builtin.append_ #[22, 22] ty #[v, .slice (some ⟨g, 0, none⟩) 1 c]).run Tryd.prog W = .ok v' w' ∧ OwnR w' B v' (C ++ [cs]) ∧ W.grownBy w' v.ownBlock ∧ ∀ b, v'.ownBlock = some b → v.ownBlock = some b ∨ b = W.heap.size := by
  obtain ⟨i0, hi, hz0, hz1, hz2⟩ := info_parts info80
  have hnews : ∀ j u, cs[j]? = some u → W.cell? ((⟨g, 0, none⟩ : Addr).add j) = some u := by
    intro j u hj
    rw [Addr.add_mid, Nat.zero_add, hblk.cell j]
    simpa using hj
  obtain ⟨v', w', hr, h2, h3, _⟩ := run_append_own (P := Tryd.prog) W B 22 ty 25 i0 _ 5 80 Tryd.underlying22 hi hz0 hz1 hz2 rfl (by omega) v C.length C.flatten hown.2
    ⟨g, 0, none⟩ 1 c cs (by rw [h5]) hnews h1 (by unfold maxLen; omega) (by omega) hB
  refine ⟨v', w', hr, ⟨fun x hx => ?_, ?_⟩, h3, ?_⟩
  · rcases List.mem_append.1 hx with hx | hx
    · exact hown.1 x hx
    · rw [List.mem_singleton.1 hx]; exact h5
  · rw [List.length_append, flat_one]
    exact h2
  · exact append_block W _ ty _ i0 _ Tryd.underlying22 hi hz0 B v v' w' C.length C.flatten (by rw [hz1]; exact hown.2) ⟨g, 0, none⟩ c cs (by rw [hz1, h5]) hnews h1 (by rw [hz2]; omega) (by omega) hr
/-- The same for names. -/
theorem run_npush (W : World) (ty : TypeId) (B : Nat) (v : Value) (l : List ByteArray) (hown : Strs.Own W B v l) (hB : B ≤ W.heap.size)
    (g c : Nat) (s : ByteArray) (fr : Nat × Nat) (hblk : W.heap[g]? = some (.cells #[.string s] 9 fr)) (hlim : (l.length + 1) * 16 ≤ 140737488355328) :
    ∃ v' w', (Builtin.append_ #[23, 23] ty #[v, .slice (some ⟨g, 0, none⟩) 1 c]).run Tryd.prog W = .ok v' w' ∧ Strs.Own w' B v' (l ++ [s]) ∧ W.grownBy w' v.ownBlock ∧ ∀ b, v'.ownBlock = some b → v.ownBlock = some b ∨ b = W.heap.size := by
  obtain ⟨i0, hi, hz0, hz1, hz2⟩ := info_parts Strs.info16
  have hnews : ∀ j u, ([.string s] : List Value)[j]? = some u → W.cell? ((⟨g, 0, none⟩ : Addr).add j) = some u := by
    intro j u hj
    rw [Addr.add_mid, Nat.zero_add, World.cell?, hblk]
    simpa using hj
  have h1 : ∀ u ∈ ([.string s] : List Value), u.oneCell' = true := by
    intro u hu
    rw [List.mem_singleton.1 hu]; rfl
  obtain ⟨v', w', hr, h2, h3, _⟩ := run_append_own (P := Tryd.prog) W B 23 ty 9 i0 (.string ⟨#[]⟩) 1 16 Tryd.underlying23 hi hz0 hz1 hz2 rfl (by omega) v l.length (l.map (Value.string)) hown
    ⟨g, 0, none⟩ 1 c [.string s] rfl hnews h1 (by unfold maxLen; omega) (by omega) hB
  refine ⟨v', w', hr, ?_, h3, ?_⟩
  · unfold Strs.Own
    rw [List.length_append, List.map_append]
    exact h2
  · exact append_block W _ ty _ i0 _ Tryd.underlying23 hi hz0 B v v' w' l.length (l.map (Value.string)) (by rw [hz1]; exact hown) ⟨g, 0, none⟩ c [.string s] (by rw [hz1]; rfl) hnews h1 (by rw [hz2]; omega) (by omega) hr
section
variable {ops : Array Oper} {o : Oper} {a : Act} {Q : Exit → Act → World → Prop} {K : Act → World → Prop} {E : Prop}
/-- One step of a region that draws. -/
theorem step_vpush (W : World) (hg : o.guard = none) (s x : Operand) (ho : o.op = .call { callee := .builtin .append, args := #[s, x], argTypes := #[22, 22] })
    (B : Nat) (v : Value) (C : List (List Value)) (hs : a.eval s = v) (hown : OwnR W B v C) (hB : B ≤ W.heap.size)
    (g c : Nat) (hx : a.eval x = .slice (some ⟨g, 0, none⟩) 1 c) (cs : List Value) (hblk : Box W g cs.toArray) (h5 : cs.length = 5) (h1 : ∀ u ∈ cs, u.oneCell' = true) (hlim : (C.length + 1) * 80 ≤ 140737488355328)
    (h : ∀ v' w', OwnR w' B v' (C ++ [cs]) → W.grownBy w' v.ownBlock → (∀ b, v'.ownBlock = some b → v.ownBlock = some b ∨ b = W.heap.size) → K (a.put o.dst v') w') : if Region.wanted o (yielded ops a.tmps) = true then Oper.wp Tryd.prog o a W K Q else E := by
  obtain ⟨v', w', hr, h2, h3, h4⟩ := run_vpush W o.type B v C hown hB g c cs hblk h5 h1 hlim
  have hw : Region.wanted o (yielded ops a.tmps) = true := by simp [Region.wanted, hg]
  rw [if_pos hw]
  unfold Oper.wp execOp
  simp only [ho, resolve, invoke, builtin, Sem.run_bind, Sem.run_pure, Result.andThen_ok, List.map_toArray, List.map_cons, List.map_nil, hs, hx, hr]
  exact h v' w' h2 h3 h4
theorem step_npush (W : World) (hg : o.guard = none) (s x : Operand) (ho : o.op = .call { callee := .builtin .append, args := #[s, x], argTypes := #[23, 23] })
    (B : Nat) (v : Value) (l : List ByteArray) (hs : a.eval s = v) (hown : Strs.Own W B v l) (hB : B ≤ W.heap.size)
    (g c : Nat) (hx : a.eval x = .slice (some ⟨g, 0, none⟩) 1 c) (t : ByteArray) (fr : Nat × Nat) (hblk : W.heap[g]? = some (.cells #[.string t] 9 fr)) (hlim : (l.length + 1) * 16 ≤ 140737488355328)
    (h : ∀ v' w', Strs.Own w' B v' (l ++ [t]) → W.grownBy w' v.ownBlock → (∀ b, v'.ownBlock = some b → v.ownBlock = some b ∨ b = W.heap.size) → K (a.put o.dst v') w') : if Region.wanted o (yielded ops a.tmps) = true then Oper.wp Tryd.prog o a W K Q else E := by
  obtain ⟨v', w', hr, h2, h3, h4⟩ := run_npush W o.type B v l hown hB g c t fr hblk hlim
  have hw : Region.wanted o (yielded ops a.tmps) = true := by simp [Region.wanted, hg]
  rw [if_pos hw]
  unfold Oper.wp execOp
  simp only [ho, resolve, invoke, builtin, Sem.run_bind, Sem.run_pure, Result.andThen_ok, List.map_toArray, List.map_cons, List.map_nil, hs, hx, hr]
  exact h v' w' h2 h3 h4
end
end Go.Proofs.YtbpofhlnnldceaaDoor.Tre
