/- Texts of my own, packed: TreRc. Conditions: as each theorem states. -/
import Derived.Deep.RegionHeld3
import Derived.Test.YtehkiojohldlgaaGreatDoorK07
import Derived.Test.YtehkiojohldlgaaGreatDoorK10
import Derived.Test.YtehkiojohldlgaaGreatDoorK13
import Derived.Test.YtehkiojohldlgaaGreatDoorK14
import Derived.Test.YtehkiojohldlgaaGreatDoorK15
namespace Go.Proofs.YtehkiojohldlgaaGreatDoor.Tre
open Go.RowKit Go.Lib Go.Proofs.YtehkiojohldlgaaGreatDoor.Byt

/-- A value made by the call: its own rows, and what lies in them beside these. -/
def OwnT (W : World) (B : Nat) (v : Vt) (ds : List Value) : Prop := ∃ c3 c4 D, ds = [.int .i64 v.k, .int .i64 v.n, .string v.s, c3, c4] ∧ OwnR W B c3 D ∧ D.length = v.l.length ∧
  (∀ j, j < v.l.length → InS (fun b => B ≤ b ∧ c3.ownBlock ≠ some b ∧ c4.ownBlock ≠ some b) W (v.l.getD j V0) (D.getD j [])) ∧ Strs.Own W B c4 v.ns
theorem OwnT.ins {W : World} {B : Nat} {v : Vt} {ds : List Value} (h : OwnT W B v ds) : InS (fun b => B ≤ b) W v ds := by
  obtain ⟨c3, c4, D, rfl, h3, hl, hi, h4⟩ := h
  have := made (S := fun b => B ≤ b) (l := v.l) v.k v.n v.s h3 ⟨hl, fun j hj => InS_upd (fun b hb _ => ⟨rfl, hb.1⟩) _ _ (hi j hj)⟩ (RowS_own h4 fun b hb => hb) (fun b hb => hb)
  rwa [← Vt.eta v] at this
/-- While the items are put on. -/
def Cp (w : World) (l : List Vt) (k n : Int) (s : ByteArray) (P : Array Value) (W : World) (i : Nat) (c3 : Value) (D : List (List Value)) : Prop :=
  OwnR W (w.heap.size + 3) c3 D ∧ D.length = i ∧ (∀ j, j < i → InS (fun b => w.heap.size + 3 ≤ b ∧ c3.ownBlock ≠ some b) W (l.getD j V0) (D.getD j [])) ∧ Box W w.heap.size P ∧ Box W (w.heap.size + 1) zeroC.toArray ∧
  Box W (w.heap.size + 2) #[.int .i64 k, .int .i64 n, .string s, c3, .slice none 0 0] ∧ Below w.heap.size w W ∧ w.heap.size + 3 ≤ W.heap.size
theorem getD_app (C : List (List Value)) (x : List Value) (j : Nat) : (C ++ [x]).getD j [] = if j < C.length then C.getD j [] else if j = C.length then x else [] := by
  rw [List.getD_eq_getElem?_getD, List.getD_eq_getElem?_getD]
  by_cases h : j < C.length
  · rw [if_pos h, List.getElem?_append_left h]
  · rw [if_neg h, List.getElem?_append_right (by omega)]
    by_cases h2 : j = C.length
    · subst h2; simp
    · rw [if_neg h2, List.getElem?_eq_none (by simp; omega)]; rfl
theorem own_in {W : World} {B : Nat} {c3 : Value} {D : List (List Value)} (h : OwnR W B c3 D) {b : Nat} (hb : c3.ownBlock = some b) : B ≤ b ∧ b < W.heap.size := by
  rcases h.shape with ⟨rfl, _⟩ | ⟨g, cap, rfl, h1, h2⟩
  · cases hb
  · have : g = b := Option.some.inj hb
    subst this
    exact ⟨h1, h2⟩
theorem box_set {W : World} {g : Nat} {a b c d e : Value} (h : Box W g #[a, b, c, d, e]) (x : Value) : Box (W.setCell ⟨g, 3, none⟩ x) g #[a, b, c, x, e] := heap_setCell_same W g 3 _ _ x h
theorem box_set4 {W : World} {g : Nat} {a b c d e : Value} (h : Box W g #[a, b, c, d, e]) (x : Value) : Box (W.setCell ⟨g, 4, none⟩ x) g #[a, b, c, d, x] := heap_setCell_same W g 4 _ _ x h
theorem set_other {W : World} {g j k : Nat} (x : Value) (hk : k ≠ g) : (W.setCell ⟨g, j, none⟩ x).heap[k]? = W.heap[k]? := heap_setCell_other W ⟨g, j, none⟩ k x (fun q => hk q)
theorem Cp.step {w : World} {l : List Vt} {k n : Int} {s : ByteArray} {P : Array Value} {W w2 w4 : World} {i : Nat} {c3 v' : Value} {D : List (List Value)} {es : List Value} {o : Obj} (h : Cp w l k n s P W i c3 D) (hb2 : Below W.heap.size W w2)
    (hS : InS (fun b => W.heap.size ≤ b) w2 (l.getD i V0) es) (hv : OwnR w4 (w.heap.size + 3) v' (D ++ [es])) (hg : (w2.alloc o).grownBy w4 c3.ownBlock) (hk : ∀ b, v'.ownBlock = some b → c3.ownBlock = some b ∨ b = (w2.alloc o).heap.size) :
    Cp w l k n s P (w4.setCell ⟨w.heap.size + 2, 3, none⟩ v') (i + 1) v' (D ++ [es]) := by
  obtain ⟨h1, h2, h3, h4, h5, h6, h7, h8⟩ := h
  have hs2 := hb2.size
  have hs3 : (w2.alloc o).heap.size = w2.heap.size + 1 := by simp
  have hs4 := hg.size
  have keep : ∀ b, b < w2.heap.size → c3.ownBlock ≠ some b → w4.heap[b]? = w2.heap[b]? := fun b hb hne => (hg.block b (by omega) (fun q => hne q.symm)).trans (Below.heap_alloc _ _ _ hb)
  have low : ∀ b, b < w.heap.size + 3 → w4.heap[b]? = W.heap[b]? := fun b hb => (keep b (by omega) (fun q => by have := (own_in h1 q).1; omega)).trans (hb2.block b (by omega))
  have fin : ∀ b, w.heap.size + 3 ≤ b → (w4.setCell ⟨w.heap.size + 2, 3, none⟩ v').heap[b]? = w4.heap[b]? := fun b hb => set_other v' (by omega)
  have b3 : Box w4 (w.heap.size + 2) #[.int .i64 k, .int .i64 n, .string s, c3, .slice none 0 0] := (low _ (by omega)).trans h6
  refine ⟨hv.beside fun b hb => fin b (own_in hv hb).1, by rw [List.length_append, h2]; rfl, fun j hj => ?_, (set_other v' (by omega)).trans ((low _ (by omega)).trans h4), (set_other v' (by omega)).trans ((low _ (by omega)).trans h5), box_set b3 v', ?_, ?_⟩
  · rw [getD_app]
    by_cases hji : j < D.length
    · rw [if_pos hji]
      refine InS_upd (fun b hb hl => ?_) _ _ (h3 j (by omega))
      refine ⟨(fin b hb.1).trans ((keep b (by omega) hb.2).trans (hb2.block b hl)), hb.1, fun q => ?_⟩
      rcases hk b q with q | q
      · exact hb.2 q
      · omega
    · have hj2 : j = D.length := by omega
      rw [if_neg hji, if_pos hj2, hj2, h2]
      refine InS_upd (fun b hb hl => ?_) _ _ hS
      have hne : c3.ownBlock ≠ some b := fun q => by have := (own_in h1 q).2; omega
      refine ⟨(fin b (by omega)).trans (keep b hl hne), by omega, fun q => ?_⟩
      rcases hk b q with q | q
      · exact hne q
      · omega
  · have e1 : Below w.heap.size w w4 := ⟨hg.os.trans (by have := (hb2.alloc (o := o) hs2).os; exact this.trans h7.os), hg.tape.trans ((hb2.alloc (o := o) hs2).tape.trans h7.tape), hg.output.trans ((hb2.alloc (o := o) hs2).output.trans h7.output), by have := h7.size; omega, fun b hb => (low b (by omega)).trans (h7.block b hb)⟩
    exact below_set e1 (by omega) 3 v'
  · simp; omega

theorem own_apart {W : World} {B : Nat} {c3 c4 : Value} {D : List (List Value)} {ms : List ByteArray} (h : OwnR W B c3 D) (k : Strs.Own W B c4 ms) {g : Nat} (hg : c3.ownBlock = some g) : c4.ownBlock ≠ some g := by
  intro q
  obtain ⟨_, c, hc⟩ := k.cells g q
  rcases h.2.2 with ⟨e, _⟩ | ⟨g', cap, cur, e, _, hh, _⟩
  · rw [e] at hg; cases hg
  · rw [e] at hg
    have : g' = g := Option.some.inj hg
    subst this
    rw [hh] at hc
    injection hc with hc
    injection hc with _ hc _
    exact absurd hc (by decide)
/-- While the names are put on. -/
def Cn (w : World) (l : List Vt) (k n : Int) (s : ByteArray) (P : Array Value) (W : World) (ms : List ByteArray) (c3 : Value) (D : List (List Value)) (c4 : Value) : Prop :=
  OwnR W (w.heap.size + 3) c3 D ∧ D.length = l.length ∧ (∀ j, j < l.length → InS (fun b => w.heap.size + 3 ≤ b ∧ c3.ownBlock ≠ some b ∧ c4.ownBlock ≠ some b) W (l.getD j V0) (D.getD j [])) ∧ Strs.Own W (w.heap.size + 3) c4 ms ∧ Box W w.heap.size P ∧ Box W (w.heap.size + 1) zeroC.toArray ∧
  Box W (w.heap.size + 2) #[.int .i64 k, .int .i64 n, .string s, c3, c4] ∧ Below w.heap.size w W ∧ w.heap.size + 3 ≤ W.heap.size
theorem Cn.start {w : World} {l : List Vt} {k n : Int} {s : ByteArray} {P : Array Value} {W : World} {c3 : Value} {D : List (List Value)} (h : Cp w l k n s P W l.length c3 D) : Cn w l k n s P W [] c3 D (.slice none 0 0) := by
  obtain ⟨h1, h2, h3, h4, h5, h6, h7, h8⟩ := h
  exact ⟨h1, h2, fun j hj => InS_upd (fun b hb _ => ⟨rfl, hb.1, hb.2, fun q => by cases q⟩) _ _ (h3 j hj), Strs.Own.nil _ _, h4, h5, h6, h7, h8⟩
theorem Cn.step {w : World} {l : List Vt} {k n : Int} {s : ByteArray} {P : Array Value} {W w4 : World} {ms : List ByteArray} {c3 c4 v' : Value} {D : List (List Value)} {t : ByteArray} {o : Obj} (h : Cn w l k n s P W ms c3 D c4)
    (hv : Strs.Own w4 (w.heap.size + 3) v' (ms ++ [t])) (hg : (W.alloc o).grownBy w4 c4.ownBlock) (hk : ∀ b, v'.ownBlock = some b → c4.ownBlock = some b ∨ b = (W.alloc o).heap.size) :
    Cn w l k n s P (w4.setCell ⟨w.heap.size + 2, 4, none⟩ v') (ms ++ [t]) c3 D v' := by
  obtain ⟨h1, h2, h3, h4, h5, h6, h7, h8, h9⟩ := h
  have hs3 : (W.alloc o).heap.size = W.heap.size + 1 := by simp
  have hs4 := hg.size
  have keep : ∀ b, b < W.heap.size → c4.ownBlock ≠ some b → w4.heap[b]? = W.heap[b]? := fun b hb hne => (hg.block b (by omega) (fun q => hne q.symm)).trans (Below.heap_alloc _ _ _ hb)
  have low : ∀ b, b < w.heap.size + 3 → w4.heap[b]? = W.heap[b]? := fun b hb => keep b (by omega) (fun q => by have := (h4.cells b q).1; omega)
  have fin : ∀ b, w.heap.size + 3 ≤ b → (w4.setCell ⟨w.heap.size + 2, 4, none⟩ v').heap[b]? = w4.heap[b]? := fun b hb => set_other v' (by omega)
  have b3 : Box w4 (w.heap.size + 2) #[.int .i64 k, .int .i64 n, .string s, c3, c4] := (low _ (by omega)).trans h7
  have hB0 : Below w.heap.size w (W.alloc o) := h8.alloc (by omega) o
  refine ⟨h1.beside fun b hb => (fin b (own_in h1 hb).1).trans (keep b (own_in h1 hb).2 (own_apart h1 h4 hb)), h2, fun j hj => ?_, own_keep hv fun b hb => fin b (hv.cells b hb).1, (set_other v' (by omega)).trans ((low _ (by omega)).trans h5), (set_other v' (by omega)).trans ((low _ (by omega)).trans h6), box_set4 b3 v', ?_, ?_⟩
  · refine InS_upd (fun b hb hl => ?_) _ _ (h3 j hj)
    refine ⟨(fin b hb.1).trans (keep b hl hb.2.2), hb.1, hb.2.1, fun q => ?_⟩
    rcases hk b q with q | q
    · exact hb.2.2 q
    · omega
  · have e1 : Below w.heap.size w w4 := ⟨hg.os.trans hB0.os, hg.tape.trans hB0.tape, hg.output.trans hB0.output, by have := h8.size; omega, fun b hb => (low b (by omega)).trans (h8.block b hb)⟩
    exact below_set e1 (by omega) 4 v'
  · simp; omega
theorem Cn.end_ {w : World} {l : List Vt} {k n : Int} {s : ByteArray} {P : Array Value} {W w9 : World} {ns : List ByteArray} {c3 c4 : Value} {D : List (List Value)} (h : Cn w l k n s P W ns c3 D c4) (hk : ∀ b, b ≠ w.heap.size + 1 → w9.heap[b]? = W.heap[b]?) :
    OwnT w9 w.heap.size (.mk k n s l ns) [.int .i64 k, .int .i64 n, .string s, c3, c4] := by
  obtain ⟨h1, h2, h3, h4, _⟩ := h
  refine ⟨c3, c4, D, rfl, ⟨h1.1, own_base (row_beside h1.2 (by omega) hk) (by omega)⟩, h2, fun j hj => InS_upd (fun b hb _ => ⟨hk b (by omega), by omega, hb.2.1, hb.2.2⟩) _ _ (h3 j hj), own_base (row_beside h4 (by omega) hk) (by omega)⟩
theorem cp_box {N : Nat} {W w2 w4 : World} {c3 : Value} {D : List (List Value)} {cs : Array Value} {o : Obj} (h : OwnR W (N + 3) c3 D) (hb : Box W (N + 2) cs) (hb3 : Below W.heap.size W w2) (hg : (w2.alloc o).grownBy w4 c3.ownBlock) : Box w4 (N + 2) cs := by
  have h1 := hb.lt
  have h2 := hb3.size
  have h3 : (w2.alloc o).heap.size = w2.heap.size + 1 := by simp
  exact (hg.block _ (by omega) (fun q => by have := (own_in h q.symm).1; omega)).trans ((Below.heap_alloc _ _ _ (by omega)).trans (hb.next hb3 h1))
theorem cn_box {N : Nat} {W w4 : World} {c4 : Value} {ms : List ByteArray} {cs : Array Value} {o : Obj} (h : Strs.Own W (N + 3) c4 ms) (hb : Box W (N + 2) cs) (hg : (W.alloc o).grownBy w4 c4.ownBlock) : Box w4 (N + 2) cs := by
  have h1 := hb.lt
  have h3 : (W.alloc o).heap.size = W.heap.size + 1 := by simp
  exact (hg.block _ (by omega) (fun q => by have := (h.cells _ q.symm).1; omega)).trans ((Below.heap_alloc _ _ _ (by omega)).trans hb)
theorem three_start (w : World) (x y z : Obj) : ((((w.alloc x).alloc y).alloc z).heap[w.heap.size]? = some x) ∧ ((((w.alloc x).alloc y).alloc z).heap[w.heap.size + 1]? = some y) ∧ ((((w.alloc x).alloc y).alloc z).heap[w.heap.size + 2]? = some z) ∧ Below w.heap.size w (((w.alloc x).alloc y).alloc z) ∧ w.heap.size + 3 ≤ (((w.alloc x).alloc y).alloc z).heap.size ∧ Below (w.heap.size + 2) (((w.alloc x).alloc y)) (((w.alloc x).alloc y).alloc z) := by
  have h1 : (w.alloc x).heap.size = w.heap.size + 1 := by simp
  have h2 : ((w.alloc x).alloc y).heap.size = w.heap.size + 2 := by simp
  have e1 := heap_alloc_new w x
  have e2 := heap_alloc_new (w.alloc x) y
  have e3 := heap_alloc_new ((w.alloc x).alloc y) z
  rw [h1] at e2
  rw [h2] at e3
  refine ⟨(Below.heap_alloc _ _ _ (by omega)).trans ((Below.heap_alloc _ _ _ (by omega)).trans e1), (Below.heap_alloc _ _ _ (by omega)).trans e2, e3, ?_, by simp, (Below.refl _ _).alloc (by omega) z⟩
  exact (((Below.refl w.heap.size w).alloc (Nat.le_refl _) x).alloc (by omega) y).alloc (by omega) z

set_option maxHeartbeats 8000000 in
set_option maxRecDepth 100000 in
theorem rcopied_any (v : Vt) (cs : List Value) (w : World) (h : InV w v cs) (hv : okV v)
    (ih : ∀ x ∈ v.l, ∀ cs w, InV w x cs → Calls Tryz.prog 79 #[.agg cs.toArray] w fun e w' => ∃ ds : List Value, e = .returned (.agg ds.toArray) ∧ OwnT w' w.heap.size x ds ∧ Below w.heap.size w w') :
    Calls Tryz.prog 79 #[.agg cs.toArray] w fun e w' => ∃ ds : List Value, e = .returned (.agg ds.toArray) ∧ OwnT w' w.heap.size v ds ∧ Below w.heap.size w w' := by
  obtain ⟨a, cap, c4, rfl, hit, hr⟩ := (InV_iff w v cs).1 h
  obtain ⟨a2, cap2, rfl, hrow⟩ := hr.open_
  have HL := hv.2.2.2.1
  have HNL := hv.2.2.2.2.1
  have HIT := Lib.hid hit
  have HROW := Lib.hid hrow
  have HIH := Lib.hid ih
  have ev : OwnT = OwnT := rfl
  have hmx : v.l.length ≤ 9223372036854775807 := by omega
  have hmn : v.ns.length ≤ 9223372036854775807 := by omega
  have HRES := Lib.hid fun (W : World) (B : Nat) (ds : List Value) (q : OwnT W B (.mk v.k v.n v.s v.l v.ns) ds) => (show OwnT W B v ds from (Vt.eta v) ▸ q)
  clear h hv ih hit hr hrow ev
  obtain ⟨VV, hVV⟩ : ∃ f : World → Nat → List Value → Prop, f = fun W B ds => OwnT W B v ds := ⟨_, rfl⟩
  have HVV := Lib.hid hVV
  suffices hgoal : Calls Tryz.prog 79 #[.agg [.int .i64 v.k, .int .i64 v.n, .string v.s, .slice a v.l.length cap, .slice a2 v.ns.length cap2].toArray] w fun e w' => ∃ ds : List Value, e = .returned (.agg ds.toArray) ∧ VV w' w.heap.size ds ∧ Below w.heap.size w w' by
    rw [hVV] at hgoal
    exact hgoal
  have HRS : Hid (∀ (W : World) (B : Nat) (ds : List Value), OwnT W B (.mk v.k v.n v.s v.l v.ns) ds → VV W B ds) := Lib.hid fun W B ds q => by rw [hVV]; exact HRES.out W B ds q
  clear HRES HVV hVV
  generalize v.l = l at *
  generalize v.ns = ns at *
  generalize v.k = k at *
  generalize v.n = n at *
  generalize v.s = s at *
  have T3 := Lib.hid (three_start w)
  go_enter Tryz.func79, Tryz.ntmps79
  go_wp2_with (refine wpList_keep _ rfl _ _ rfl (w.heap.size + 2) _ (T3.out _ _ _).2.2.2.2.2 (w.heap.size + 2) (Nat.le_refl _) #[.int .i64 k, .int .i64 n, .string s, .slice none 0 0, .slice none 0 0] _ rfl rfl (T3.out _ _ _).2.2.1 rfl rfl (by intro u hu; simp only [List.mem_cons, List.not_mem_nil, or_false] at hu; rcases hu with rfl | rfl | rfl | rfl | rfl <;> rfl) ?_; intro w1 bx1 hb1 hk1 hs1; have hP1 : Box w1 w.heap.size #[.int .i64 k, .int .i64 n, .string s, .slice a l.length cap, .slice a2 ns.length cap2] := (hk1 _ (by omega)).trans (T3.out _ _ _).1; have hZ1 : Box w1 (w.heap.size + 1) zeroC.toArray := (hk1 _ (by omega)).trans (T3.out _ _ _).2.1; have hz1 : w.heap.size + 3 ≤ w1.heap.size := hs1 ▸ (T3.out _ _ _).2.2.2.2.1; have hw1 : Below w.heap.size w w1 := (two_boxes (Below.refl _ _)).2.2.trans (hb1.mono (by omega)); clear hs1 hk1 hb1; have y3 : w1.cell? ⟨w.heap.size, 3, none⟩ = some (.slice a l.length cap) := hP1.cell 3)
  have hcp : Cp w l k n s #[.int .i64 k, .int .i64 n, .string s, .slice a l.length cap, .slice a2 ns.length cap2] w1 0 (.slice none 0 0) [] := ⟨OwnR.nil _ _, rfl, fun j hj => absurd hj (Nat.not_lt_zero _), hP1, hZ1, bx1, hw1, hz1⟩
  clear hP1 hZ1 bx1 hw1 hz1 y3
  go_loopw [16] (fun x wr => ∃ (i : Nat) (c3 : Value) (D : List (List Value)), x = .int .i64 (i : Int) ∧ i ≤ l.length ∧ Cp w l k n s #[.int .i64 k, .int .i64 n, .string s, .slice a l.length cap, .slice a2 ns.length cap2] wr i c3 D)
    (fun x _ => l.length - (RowKit.intOf x).toNat)
  case atStart => exact ⟨0, _, _, by go_num, by omega, hcp⟩
  case round =>
    clear hcp
    obtain ⟨i, c3, D, rfl, hi, hcp⟩ := hrel
    obtain ⟨o1, o2, o3, o4, o5, o6, o7, o8⟩ := id hcp
    by_cases hlt : i < l.length
    · obtain ⟨b, off, rfl, ds, hrg, hin⟩ := HIT.out i hlt
      have hd0 : Below wr.heap.size wr wr.drew := (Below.refl _ _).drew
      have HX := Lib.hid (HIH.out _ (mem_get hlt) ds wr.drew (InV_next (Tre.next o7 hd0) _ ds hin))
      have hbl := range_lt hrg (InV_five hin)
      have hrg2 := range_next hrg o7
      rw [Nat.mul_comm 5 i] at hrg2
      obtain ⟨z1, z2, z3, rfl⟩ := InV_cells hin
      have x3 : wr.cell? ⟨w.heap.size, 3, none⟩ = some (.slice (some ⟨b, off, none⟩) l.length cap) := o4.cell 3
      have r0 : wr.cell? ⟨b, off + i * 5, none⟩ = some (.int .i64 (l.getD i V0).k) := hrg2 0 _ rfl
      have r1 := hrg2 1 _ rfl
      have r2 := hrg2 2 _ rfl
      have r3 := hrg2 3 _ rfl
      have r4 := hrg2 4 _ rfl
      obtain ⟨X, hX⟩ : ∃ X, X = l.getD i V0 := ⟨_, rfl⟩
      rw [← hX] at HX r0 r1 r2 r3
      have HXX := Lib.hid hX
      clear hX
      have y0 : wr.cell? ⟨w.heap.size + 1 + 1, 3, none⟩ = some c3 := o6.cell 3
      have hlim : (D.length + 1) * 80 ≤ 140737488355328 := by omega
      have HCP := Lib.hid hcp
      have O1 := Lib.hid o1
      have O6 := Lib.hid o6
      have O8 := Lib.hid o8
      have hsz3 : w.heap.size + 2 ≤ wr.heap.size := by omega
      clear hin hrg hrg2 HIT HIH HROW hcp o1 o4 o5 o6 o7 o3 hbl
      go_wp2_with fail
      go_region_law (first
        | (refine step_vpush _ (by rfl) (.tmp 20) (.tmp 27) (by rfl) (w.heap.size + 3) c3 D (by rfl) (own2.alloc _) (by simp; omega) _ _ (by rfl) _ (by exact box_new _ _) e5 e1 hlim ?_; intro v' w4 hv4 hg4 hk4; obtain ⟨a9, n9, p9, e9⟩ : ∃ a n p, v' = .slice a n p := (by obtain ⟨x, y, q, _⟩ := hv4.open_; exact ⟨_, _, _, q⟩); subst e9; have bx4 := cp_box O1.out O6.out hb3 hg4; have f3 : w4.cell? ⟨w.heap.size + 1 + 1, 3, none⟩ = some c3 := bx4.cell 3; have ff : ∀ j, w4.frozen? ⟨w.heap.size + 1 + 1, j, none⟩ = false := fun j => bx4.free j)
        | (go_simp; go_at_call 79; (with_reducible refine HX.out.mono ?_); rintro e w2 ⟨es, rfl, hT2, hb2⟩; have hb3 : Below wr.heap.size wr w2 := hd0.trans hb2; have bx2 := Box.next O6.out hb3 O6.out.lt; have q3 : w2.cell? ⟨w.heap.size + 1 + 1, 3, none⟩ = some c3 := bx2.cell 3; have qa : ∀ o, (w2.alloc o).cell? ⟨w.heap.size + 1 + 1, 3, none⟩ = some c3 := fun o => (World.cell?_of_block (a := ⟨w.heap.size + 1 + 1, 3, none⟩) (Below.heap_alloc w2 o _ bx2.lt)).trans q3; have own2 := O1.out.next hb3; have i2 := InS_in _ _ hT2.ins; have e5 := InV_five i2; have e1 := InS_one i2; obtain ⟨ea, ep, ec, ees⟩ := InV_cells i2; subst ees; have hsz5 : w.heap.size + 3 ≤ w2.heap.size := Nat.le_trans O8.out hb3.size))
      all_goals
        go_wp2_with fail
        go_roundw
        case rel => exact ⟨i + 1, _, _, by go_num, by omega, Cp.step HCP.out hb3 (HXX.out ▸ InS_upd (fun _ hb' _ => ⟨rfl, hb'⟩) _ _ hT2.ins) hv4 hg4 hk4⟩
        case measure => simp [RowKit.intOf]; omega
    · obtain rfl : i = l.length := by omega
      have hcn := Cn.start hcp
      have x4 : wr.cell? ⟨w.heap.size, 4, none⟩ = some (.slice a2 ns.length cap2) := o4.cell 4
      clear o1 o2 o3 o5 o6 o7 o8 HIT HIH hcp
      go_wp2_with fail
      go_loopw [34] (fun x wr => ∃ (i : Nat) (c4 : Value), x = .int .i64 (i : Int) ∧ i ≤ ns.length ∧ Cn w l k n s #[.int .i64 k, .int .i64 n, .string s, .slice a l.length cap, .slice a2 ns.length cap2] wr (ns.take i) c3 D c4)
        (fun x _ => ns.length - (RowKit.intOf x).toNat)
      case atStart => exact ⟨0, _, by go_num, by omega, by rw [List.take_zero]; exact hcn⟩
      case round =>
        clear hcn x4 o4
        obtain ⟨i, c4, rfl, hi, hcn⟩ := hrel
        obtain ⟨o1, o2, o3, o4, o5, o6, o7, o8, o9⟩ := id hcn
        by_cases hlt : i < ns.length
        · obtain ⟨b, off, rfl, hcell⟩ := HROW.out i hlt
          have hbl := Strs.cell_lt hcell
          have hbl2 : b < w.heap.size + 2 := by have : b < w.heap.size := hbl; omega
          have hc2 := (o8.cell hbl).trans hcell
          obtain ⟨t, htt⟩ : ∃ t, t = ns.getD i ⟨#[]⟩ := ⟨_, rfl⟩
          rw [← htt] at hc2
          have HTK := Lib.hid (show ns.take (i + 1) = ns.take i ++ [t] by rw [htt]; exact take_next ns i hlt)
          have x4 : wr.cell? ⟨w.heap.size, 4, none⟩ = some (.slice (some ⟨b, off, none⟩) ns.length cap2) := o5.cell 4
          have y0 : wr.cell? ⟨w.heap.size + 1 + 1, 4, none⟩ = some c4 := o7.cell 4
          have ya : ∀ o, (wr.alloc o).cell? ⟨w.heap.size + 1 + 1, 4, none⟩ = some c4 := fun o => (World.cell?_of_block (a := ⟨w.heap.size + 1 + 1, 4, none⟩) (Below.heap_alloc wr o _ o7.lt)).trans y0
          have hsz3 : w.heap.size + 2 ≤ wr.heap.size := by omega
          have htl : (ns.take i).length = i := by rw [List.length_take]; omega
          have hlim : ((ns.take i).length + 1) * 16 ≤ 140737488355328 := by omega
          have HCN := Lib.hid hcn
          have O4 := Lib.hid o4
          have O9 := Lib.hid o9
          have O7 := Lib.hid o7
          clear hcell hbl hbl2 htt hcn o1 o2 o3 o5 o6 o8 o4 HROW htl
          go_wp2_with fail
          go_region_law (refine step_npush _ (by rfl) (.tmp 38) (.tmp 44) (by rfl) (w.heap.size + 3) c4 (ns.take i) (by rfl) (by exact O4.out.alloc _) (by simp; omega) _ _ (by rfl) t (0, 0) (by exact heap_alloc_new _ _) hlim ?_; intro v' w4 hv4 hg4 hk4; obtain ⟨a9, n9, p9, e9⟩ : ∃ a n p, v' = .slice a n p := (by obtain ⟨x, y, q, _⟩ := hv4.row.open_; exact ⟨_, _, _, q⟩); subst e9; have bx4 := cn_box O4.out O7.out (w4 := w4) (by exact ⟨hg4.os, hg4.tape, hg4.output, hg4.size, hg4.block⟩); have f3 : w4.cell? ⟨w.heap.size + 1 + 1, 4, none⟩ = some c4 := bx4.cell 4; have ff : ∀ j, w4.frozen? ⟨w.heap.size + 1 + 1, j, none⟩ = false := fun j => bx4.free j)
          all_goals
            go_wp2_with fail
            go_roundw
            case rel => exact ⟨i + 1, _, by go_num, by omega, by rw [HTK.out]; exact Cn.step HCN.out hv4 ⟨hg4.os, hg4.tape, hg4.output, hg4.size, hg4.block⟩ hk4⟩
            case measure => simp [RowKit.intOf]; omega
        · obtain rfl : i = ns.length := by omega
          rw [List.take_length] at hcn
          have HCN := Lib.hid hcn
          have hone := InS_one (InS_in _ _ (Cn.end_ hcn (fun _ _ => rfl)).ins)
          clear hcn o1 o3 o4 HROW
          go_wp2_with (first
            | (refine wpList_fetch _ rfl _ rfl (w.heap.size + 2) _ rfl o7 rfl ?_)
            | (refine wpList_keep _ rfl _ _ rfl w.heap.size w o8 (w.heap.size + 1) (by omega) #[.int .i64 k, .int .i64 n, .string s, c3, c4] _ rfl rfl o6 rfl rfl hone ?_; intro w9 bx9 hb9 hk9 hs9; clear hs9))
          (try simp only [Exit.inBlock, Exit.then])
          refine bodyPost_ret (results_val rfl _ _ _ _ rfl bx9 rfl) rfl ?_
          exact ⟨_, rfl, HRS.out _ _ _ (Cn.end_ HCN.out hk9), hb9⟩
theorem rcopied (v : Vt) (hv : OkT v) : ∀ (cs : List Value) (w : World), InV w v cs → Calls Tryz.prog 79 #[.agg cs.toArray] w fun e w' => ∃ ds : List Value, e = .returned (.agg ds.toArray) ∧ OwnT w' w.heap.size v ds ∧ Below w.heap.size w w' := by
  revert hv
  refine vt_ind (p := fun v => OkT v → ∀ (cs : List Value) (w : World), InV w v cs → Calls Tryz.prog 79 #[.agg cs.toArray] w fun e w' => ∃ ds : List Value, e = .returned (.agg ds.toArray) ∧ OwnT w' w.heap.size v ds ∧ Below w.heap.size w w') ?_ v
  intro v ih hv cs w h
  obtain ⟨_, h1, h2⟩ := hv
  exact rcopied_any v cs w h h1 fun x hx => ih x hx (h2 x hx)
end Go.Proofs.YtehkiojohldlgaaGreatDoor.Tre
