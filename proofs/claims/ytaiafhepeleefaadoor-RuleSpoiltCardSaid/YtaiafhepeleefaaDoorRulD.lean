/- Contract of rule's own: a rule whose texts lie in memory of their own. Conditions: the texts have at most 2^47 bytes. -/
import Derived.Test.YtaiafhepeleefaaDoorRulC
namespace Go.Proofs.YtaiafhepeleefaaDoor.Rul
open Go.RowKit Go.Lib

/-- The call's two variables: the rule that came in, and the result's. -/
structure Two (w : World) (cs zs : Array Value) (W : World) : Prop where
  one : Bx W w.heap.size cs
  two : Bx W (w.heap.size + 1) zs
  bel : Below w.heap.size w W
theorem Two.new (w : World) (cs zs : Array Value) : Two w cs zs ((w.alloc (.cells cs 23)).alloc (.cells zs 23)) :=
  ⟨bx_old (bx_new w cs) _, two_new w _ _, two_below w _ _⟩
theorem Two.next {w W W' : World} {cs zs : Array Value} (h : Two w cs zs W) (hb : Below W.heap.size W W') : Two w cs zs W' :=
  ⟨h.one.next hb h.one.lt, h.two.next hb h.two.lt, h.bel.trans (hb.mono h.bel.size)⟩
theorem Two.drewN {w W : World} {cs zs : Array Value} (h : Two w cs zs W) (n : Nat) : Two w cs zs (W.drewN n) := h.next ⟨rfl, rfl, rfl, Nat.le_refl _, fun _ _ => rfl⟩
theorem Two.set {w W : World} {cs zs : Array Value} (h : Two w cs zs W) (j : Nat) (v : Value) : Two w (cs.setIfInBounds j v) zs (W.setCell ⟨w.heap.size, j, none⟩ v) :=
  ⟨h.one.set j v, (heap_setCell_other W ⟨w.heap.size, j, none⟩ (w.heap.size + 1) v (show w.heap.size + 1 ≠ w.heap.size by omega)).trans h.two, h.bel.setCell (p := ⟨w.heap.size, j, none⟩) (Nat.le_refl _) v⟩

set_option maxHeartbeats 4000000 in
set_option maxRecDepth 100000 in
theorem own_any (r : Ru) (w : World) (h1 : r.id.size ≤ 140737488355328) (h2 : r.no.size ≤ 140737488355328) (h3 : r.ro.size ≤ 140737488355328) :
    Calls Tryd.prog 22 #[.agg (ruC r)] w fun e w' => e = .returned (.agg (ruC r)) ∧ Below w.heap.size w w' := by
  have H1 := Lib.hid fun W => Rou.clone_str r.id W (by omega)
  have H2 := Lib.hid fun W => Rou.clone_str r.no W (by omega)
  have H3 := Lib.hid fun W => Rou.clone_str r.ro W (by omega)
  obtain ⟨R, hR⟩ : ∃ R, R = r := ⟨_, rfl⟩
  obtain ⟨C, hC⟩ : ∃ C, C = ruC r := ⟨_, rfl⟩
  have HT0 := Lib.hid fun zs => Two.new w (ruC r) zs
  have HC : ∀ {W g}, Bx W g (ruC r) → W.cell? ⟨g, 0, none⟩ = some (.string r.id) ∧ W.cell? ⟨g, 1, none⟩ = some (.string r.no) ∧ W.cell? ⟨g, 2, none⟩ = some (.string r.ro) := fun h => ⟨h.cell 0, h.cell 1, h.cell 2⟩
  have HS : ∀ {W g}, Bx W g (ruC r) → W.setCell ⟨g, 0, none⟩ (.string r.id) = W ∧ W.setCell ⟨g, 1, none⟩ (.string r.no) = W ∧ W.setCell ⟨g, 2, none⟩ (.string r.ro) = W := fun h => ⟨setCell_self h rfl, setCell_self h rfl, setCell_self h rfl⟩
  have HCS := Lib.hid fun W g (h : Bx W g (ruC r)) => (⟨HC h, HS h, h.free 0, h.free 1, h.free 2⟩ : _ ∧ _ ∧ _ ∧ _ ∧ _)
  clear HC HS
  rw [← hC]
  obtain ⟨id, no, ro, pr, ki, ra, pe, bu, co, mx, fa, wa, pb⟩ := r
  dsimp only [ruC] at hC H1 H2 H3 HT0 HCS
  have hC := Lib.hid hC
  rw [hC.out]
  go_enter Tryd.func22, Tryd.ntmps22
  go_wp2_with (first
    | (refine wpList_fetch _ rfl _ rfl _ _ rfl i3.out.one rfl ?_)
    | (refine wpList_keep _ rfl _ _ rfl w.heap.size w i3.out.bel _ (by omega) R _ rfl (by rw [hR]; rfl) i3.out.two rfl ?_; intro w4 hk4 hb4 ho4)
    | (go_at_call 31; first
      | ((with_reducible refine (H1.out _).mono ?_); rintro e w1 ⟨rfl, hb1⟩; have i1 := Lib.hid ((HT0.out _).next hb1); obtain ⟨⟨_, c1, _⟩, ⟨s1, _, _⟩, f1, _, _⟩ := HCS.out _ _ i1.out.one)
      | ((with_reducible refine (H2.out _).mono ?_); rintro e w2 ⟨rfl, hb2⟩; have i2 := Lib.hid (i1.out.next hb2); obtain ⟨⟨_, _, c2⟩, ⟨_, s2, _⟩, _, f2, _⟩ := HCS.out _ _ i2.out.one)
      | ((with_reducible refine (H3.out _).mono ?_); rintro e w3 ⟨rfl, hb3⟩; have i3 := Lib.hid (i2.out.next hb3); obtain ⟨_, ⟨_, _, s3⟩, _, _, f3⟩ := HCS.out _ _ i3.out.one)))
  refine bodyPost_ret (results_one rfl _ _ _ _ rfl hk4 rfl) rfl ?_
  exact ⟨by rw [hR]; rfl, hb4⟩
end Go.Proofs.YtaiafhepeleefaaDoor.Rul
