/- Rows of rows as the document makes them; the contract of none. Conditions: as each theorem states. -/
import Derived.Test.YtggahjhjapnfeaaDoorGraU
import Derived.Laws.MakeOwn
namespace Go.Proofs.YtggahjhjapnfeaaDoor.Gr
open Go.RowKit Go.Lib Go.Proofs.YtggahjhjapnfeaaDoor.Byt Go.Proofs.YtggahjhjapnfeaaDoor.Lx

theorem infoInt : (Tryd.prog.info? 3).map (fun i => (i.zero, i.size, i.bytes)) = some (some (.int .i64 0), 1, 8) := by kernel_rfl
theorem infoRow : (Tryd.prog.info? 33).map (fun i => (i.zero, i.size, i.bytes)) = some (some (.slice none 0 0), 1, 24) := by kernel_rfl
/-- Block b holds n + 1 cells of type e. -/
def Ro (W : World) (e : TypeId) (b n : Nat) (h : Nat → Value) : Prop := W.heap[b]? = some (.cells ((List.range (n + 1)).map h).toArray e (0, 0))
section
variable {W W' : World} {e : TypeId} {b n : Nat} {h : Nat → Value}
theorem Ro.cell (k : Ro W e b n h) {p : Nat} (hp : p ≤ n) : W.cell? ⟨b, p, none⟩ = some (h p) := by
  unfold Ro at k
  rw [Lib.cell_of_heap k]
  simp [show p < n + 1 by omega]
theorem Ro.free (k : Ro W e b n h) (p : Nat) : W.frozen? ⟨b, p, none⟩ = false := Lib.frozen_of_heap k p
theorem Ro.lt (k : Ro W e b n h) : b < W.heap.size := by
  rcases Nat.lt_or_ge b W.heap.size with h' | h'
  · exact h'
  · unfold Ro at k; simp [Array.getElem?_eq_none h'] at k
theorem Ro.next (k : Ro W e b n h) (hb : Below W.heap.size W W') : Ro W' e b n h := (hb.block b k.lt).trans k
theorem Ro.congr (k : Ro W e b n h) {h' : Nat → Value} (hh : ∀ p, p ≤ n → h p = h' p) : Ro W e b n h' := by
  unfold Ro at k ⊢
  rw [k]
  congr 3
  exact List.map_congr_left fun p hp => hh p (by have := List.mem_range.1 hp; omega)
theorem Ro.put (k : Ro W e b n h) (j : Nat) (u : Value) : Ro (W.setCell ⟨b, j, none⟩ u) e b n (fun p => if p = j then u else h p) := by
  unfold Ro at k ⊢
  rw [Go.heap_setCell_same W b j _ e u k]
  congr 2
  rw [List.setIfInBounds_toArray]
  congr 1
  apply List.ext_getElem
  · simp
  · intro i h1 h2
    rw [List.getElem_set, List.getElem_map, List.getElem_map, List.getElem_range]
    by_cases hij : j = i
    · rw [if_pos hij, if_pos hij.symm]
    · rw [if_neg hij, if_neg (fun e => hij e.symm)]
theorem Ro.aside (k : Ro W e b n h) {c : Nat} (hc : b ≠ c) (j : Nat) (u : Value) : Ro (W.setCell ⟨c, j, none⟩ u) e b n h := by
  unfold Ro at k ⊢
  rw [Go.heap_setCell_other W ⟨c, j, none⟩ b u hc]
  exact k
end
section
variable {ops : Array Oper} {rest : List Oper} {o : Oper} {a : Act} {Q : Exit → Act → World → Prop}
theorem make_row (W : World) (e : TypeId) (z : Value) (n : Nat) : Ro (W.alloc (.cells (madeCells #[z] (n + 1)) e)) e W.heap.size n (fun _ => z) := by
  unfold Ro
  rw [heap_alloc_new]
  congr 2
  apply Array.toList_inj.1
  rw [toList_madeCells_one, List.map_const', List.length_range]
/-- 'make([]int, n + 1)'. -/
theorem wpList_makeI (W : World) (hg : o.guard = none) (x y : Operand) (ho : o.op = .makeSlice 33 x y) (N : Int) (n : Nat) (hx : a.eval x = .int .i64 N) (hy : a.eval y = .int .i64 N) (hN : N = ((n + 1 : Nat) : Int)) (hn : n ≤ 1000)
    (h : ∀ w', w'.heap.size = W.heap.size + 1 → Ro w' 3 W.heap.size n (fun _ => .int .i64 0) → Below W.heap.size W w' → wpList Tryd.prog ops Q rest (a.put o.dst (.slice (some ⟨W.heap.size, 0, none⟩) (n + 1) (n + 1))) w') : wpList Tryd.prog ops Q (o :: rest) a W := by
  obtain ⟨i0, hi, hz0, hz1, hz2⟩ := info_parts infoInt
  subst hN
  have hr := run_make (P := Tryd.prog) W 33 3 i0 (.int .i64 0) Tryd.underlying33 hi hz0 .i64 .i64 ((n + 1 : Nat) : Int) ((n + 1 : Nat) : Int) (by omega) (Int.le_refl _) (by rw [hz2]; omega) (by omega)
  rw [hz1, Nat.mul_one, Int.toNat_natCast] at hr
  refine wpList_plain hg fun K hK => ?_
  unfold Oper.wp execOp
  simp only [ho, Sem.run_bind, Sem.run_pure, Result.andThen_ok, hx, hy, hr]
  exact hK _ _ (h _ (by rw [World.size_alloc]) (make_row W _ _ n) ((Below.refl _ _).alloc (Nat.le_refl _) _))
/-- 'make([][]int, n + 1)'. -/
theorem wpList_makeR (W : World) (hg : o.guard = none) (x y : Operand) (ho : o.op = .makeSlice 28 x y) (N : Int) (n : Nat) (hx : a.eval x = .int .i64 N) (hy : a.eval y = .int .i64 N) (hN : N = ((n + 1 : Nat) : Int)) (hn : n ≤ 1000)
    (h : ∀ w', w'.heap.size = W.heap.size + 1 → Ro w' 33 W.heap.size n (fun _ => .slice none 0 0) → Below W.heap.size W w' → wpList Tryd.prog ops Q rest (a.put o.dst (.slice (some ⟨W.heap.size, 0, none⟩) (n + 1) (n + 1))) w') : wpList Tryd.prog ops Q (o :: rest) a W := by
  obtain ⟨i0, hi, hz0, hz1, hz2⟩ := info_parts infoRow
  subst hN
  have hr := run_make (P := Tryd.prog) W 28 33 i0 (.slice none 0 0) Tryd.underlying28 hi hz0 .i64 .i64 ((n + 1 : Nat) : Int) ((n + 1 : Nat) : Int) (by omega) (Int.le_refl _) (by rw [hz2]; omega) (by omega)
  rw [hz1, Nat.mul_one, Int.toNat_natCast] at hr
  refine wpList_plain hg fun K hK => ?_
  unfold Oper.wp execOp
  simp only [ho, Sem.run_bind, Sem.run_pure, Result.andThen_ok, hx, hy, hr]
  exact hK _ _ (h _ (by rw [World.size_alloc]) (make_row W _ _ n) ((Below.refl _ _).alloc (Nat.le_refl _) _))
end
/-- A row's value. -/
def rS (b n : Nat) : Value := .slice (some ⟨b, 0, none⟩) (n + 1) (n + 1)
/-- The first i rows are made, and filled. -/
structure Nn (w W : World) (n i : Nat) : Prop where
  z : W.heap.size = w.heap.size + 1 + i
  row : Ro W 33 w.heap.size n (fun p => if p < i then rS (w.heap.size + 1 + p) n else .slice none 0 0)
  int : ∀ p, p < i → Ro W 3 (w.heap.size + 1 + p) n (fun _ => .int .i64 (-1))
  bel : Below w.heap.size w W
/-- In the i-th row, j cells are filled. -/
structure Nj (w W : World) (n i j : Nat) : Prop where
  z : W.heap.size = w.heap.size + 1 + i + 1
  row : Ro W 33 w.heap.size n (fun p => if p < i + 1 then rS (w.heap.size + 1 + p) n else .slice none 0 0)
  int : ∀ p, p < i → Ro W 3 (w.heap.size + 1 + p) n (fun _ => .int .i64 (-1))
  cur : Ro W 3 (w.heap.size + 1 + i) n (fun q => if q < j then .int .i64 (-1) else .int .i64 0)
  bel : Below w.heap.size w W
theorem Nn.start {w W : World} {n : Nat} (h1 : W.heap.size = w.heap.size + 1) (h2 : Ro W 33 w.heap.size n (fun _ => .slice none 0 0)) (h3 : Below w.heap.size w W) : Nn w W n 0 :=
  ⟨h1, h2.congr fun p _ => by simp, fun p hp => by omega, h3⟩
/-- The i-th row is made and laid in. -/
theorem Nn.made {w W W2 : World} {n i : Nat} (h : Nn w W n i) (hz : W2.heap.size = W.heap.size + 1) (hr : Ro W2 3 W.heap.size n (fun _ => .int .i64 0)) (hb : Below W.heap.size W W2) :
    Nj w (W2.setCell ⟨w.heap.size, i, none⟩ (rS W.heap.size n)) n i 0 := by
  have e := h.z
  refine ⟨by rw [World.size_setCell, hz, e], ?_, fun p hp => ?_, ?_, ?_⟩
  · refine ((h.row.next hb).put i _).congr fun p _ => ?_
    by_cases hp : p = i
    · subst hp; simp [e]
    · rw [if_neg hp]
      by_cases h2 : p < i
      · rw [if_pos h2, if_pos (by omega)]
      · rw [if_neg h2, if_neg (by omega)]
  · exact ((h.int p hp).next hb).aside (by omega) _ _
  · have := hr.aside (c := w.heap.size) (by omega) i (rS W.heap.size n)
    rw [e] at this
    rw [e]
    exact this.congr fun q _ => by simp
  · exact ((h.bel.trans (hb.mono h.bel.size)).setCell (p := ⟨w.heap.size, i, none⟩) (Nat.le_refl _) _)
theorem Nj.step {w W : World} {n i j : Nat} (h : Nj w W n i j) : Nj w (W.setCell ⟨w.heap.size + 1 + i, j, none⟩ (.int .i64 (-1))) n i (j + 1) := by
  refine ⟨by rw [World.size_setCell]; exact h.z, h.row.aside (by omega) _ _, fun p hp => (h.int p hp).aside (by omega) _ _, ?_, h.bel.setCell (p := ⟨w.heap.size + 1 + i, j, none⟩) (by show _ ≤ w.heap.size + 1 + i; omega) _⟩
  refine (h.cur.put j _).congr fun q _ => ?_
  by_cases hq : q = j
  · subst hq; simp
  · rw [if_neg hq]
    by_cases h2 : q < j
    · rw [if_pos h2, if_pos (by omega)]
    · rw [if_neg h2, if_neg (by omega)]
theorem Nj.done {w W : World} {n i : Nat} (h : Nj w W n i (n + 1)) : Nn w W n (i + 1) := by
  refine ⟨h.z, h.row, fun p hp => ?_, h.bel⟩
  by_cases hpi : p = i
  · subst hpi; exact h.cur.congr fun q hq => by rw [if_pos (by omega)]
  · exact h.int p (by omega)
set_option maxHeartbeats 2000000 in
set_option maxRecDepth 100000 in
theorem rnone_any (n : Nat) (w : World) (hn : n ≤ 1000) :
    Calls Tryd.prog 10 #[.int .i64 (n : Int)] w fun e w' => e = .returned (.slice (some ⟨w.heap.size, 0, none⟩) (n + 1) (n + 1)) ∧ Nn w w' n (n + 1) := by
  have hw1 : IntKind.i64.wrap ((n : Int) + 1) = (n : Int) + 1 := by rw [IntKind.wrap_i64]; omega
  generalize hH : w.heap.size = H
  have HH := Lib.hid hH
  go_enter Tryd.func10, Tryd.ntmps10
  go_wp2_with (refine wpList_makeR _ rfl _ _ rfl ((n : Int) + 1) n rfl rfl (by omega) hn ?_; intro w1 hz1 hr1 hb1; rw [hH])
  go_loopw [11, 4, 25, 5] (fun x _ _ _ wr => ∃ i : Nat, x = .int .i64 (i : Int) ∧ i ≤ n + 1 ∧ Nn w wr n i) (fun x _ _ _ _ => n + 1 - (RowKit.intOf x).toNat)
  case atStart => exact ⟨0, rfl, Nat.zero_le _, Nn.start hz1 hr1 hb1⟩
  case round =>
    clear hz1 hr1 hb1
    obtain ⟨i, rfl, hi, hN⟩ := hrel
    by_cases hin : i < n + 1
    · have e := hN.z
      have b1 : (0 : Int) ≤ (i : Int) := by omega
      have b2 : (i : Int) < (n : Int) + 1 := by omega
      have hgz : H + 1 + i = wr.heap.size := by omega
      have HC : Hid (∀ w2, w2.heap.size = wr.heap.size + 1 → Ro w2 3 wr.heap.size n (fun _ => .int .i64 0) → Below wr.heap.size wr w2 →
          w2.cell? ⟨H, i, none⟩ = some (.slice none 0 0) ∧ w2.frozen? ⟨H, i, none⟩ = false ∧ Nj w (w2.setCell ⟨H, i, none⟩ (.slice (some ⟨wr.heap.size, 0, none⟩) (n + 1) (n + 1))) n i 0) := Lib.hid fun w2 h1 h2 h3 => by
        have hr := hN.row.next h3
        rw [hH] at hr
        have c := hr.cell (p := i) (by omega)
        rw [if_neg (by omega)] at c
        have hm := hN.made h1 h2 h3
        rw [hH] at hm
        exact ⟨c, hr.free i, hm⟩
      have HF : Hid (∀ W j, Nj w W n i j → W.cell? ⟨H, i, none⟩ = some (.slice (some ⟨wr.heap.size, 0, none⟩) (n + 1) (n + 1)) ∧ (j ≤ n → (∃ u, W.cell? ⟨wr.heap.size, j, none⟩ = some u) ∧ W.frozen? ⟨wr.heap.size, j, none⟩ = false ∧ Nj w (W.setCell ⟨wr.heap.size, j, none⟩ (.int .i64 (-1))) n i (j + 1))) := Lib.hid fun W j h => by
        have hr := h.row
        rw [hH] at hr
        have c := hr.cell (p := i) (by omega)
        rw [if_pos (by omega)] at c
        unfold rS at c
        rw [hgz] at c
        refine ⟨c, fun hj => ?_⟩
        have hc := h.cur
        have hs := h.step
        rw [hH, hgz] at hc hs
        exact ⟨⟨_, hc.cell hj⟩, hc.free j, hs⟩
      clear e hN
      generalize hg : wr.heap.size = g at *
      have HG := Lib.hid hg
      clear hgz
      go_wp2_with (refine wpList_makeI _ rfl _ _ rfl ((n : Int) + 1) n rfl rfl (by omega) hn ?_; intro w2 hz2 hr2 hb2; rw [hg] at hz2 hr2 hb2 ⊢; obtain ⟨k1, k2, nj⟩ := HC.out w2 hz2 hr2 hb2; have k3 := (HF.out _ _ nj).1)
      go_loopw [25, 5] (fun x _ ws => ∃ j : Nat, x = .int .i64 (j : Int) ∧ j ≤ n + 1 ∧ Nj w ws n i j) (fun x _ _ => n + 1 - (RowKit.intOf x).toNat)
      case atStart => exact ⟨0, rfl, Nat.zero_le _, nj⟩
      case round =>
        clear nj k1 k2 k3 hz2 hr2 hb2
        obtain ⟨j, rfl, hj, hM⟩ := hrel
        obtain ⟨k1, k2⟩ := HF.out _ _ hM
        by_cases hjn : j < n + 1
        · obtain ⟨⟨u, k3⟩, k4, k5⟩ := k2 (by omega)
          have b3 : (0 : Int) ≤ (j : Int) := by omega
          have b4 : (j : Int) < (n : Int) + 1 := by omega
          clear k2
          go_wp2_with fail
          go_roundw
          case rel => exact ⟨j + 1, by go_num, by omega, k5⟩
          case measure => simp [RowKit.intOf]; omega
        · obtain rfl : j = n + 1 := by omega
          clear k2
          go_wp2_with fail
          go_roundw
          case rel => exact ⟨i + 1, by go_num, by omega, hM.done⟩
          case measure => simp [RowKit.intOf]; omega
    · obtain rfl : i = n + 1 := by omega
      go_wp2_with fail
      go_ret
      exact ⟨rfl, hN⟩
end Go.Proofs.YtggahjhjapnfeaaDoor.Gr
