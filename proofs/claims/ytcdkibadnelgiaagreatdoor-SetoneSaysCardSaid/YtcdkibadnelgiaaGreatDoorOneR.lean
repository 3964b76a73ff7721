/- Contract of the code's canonRule of sets of rules of version 1: the call's two boxes. Conditions: the texts have at most 2^47 bytes. -/
import Derived.Test.YtcdkibadnelgiaaGreatDoorOneM
import Derived.Test.YtcdkibadnelgiaaGreatDoorRouG1
namespace Go.Proofs.YtcdkibadnelgiaaGreatDoor.One
open Go.RowKit Go.Lib

theorem store_fl {w : World} {g j : Nat} {u : Value} (b : Nat) (hc : w.cell? ⟨g, j, none⟩ = some u) (hf : w.frozen? ⟨g, j, none⟩ = false) :
    Sem.run Tryz.prog (store ⟨g, j, none⟩ (.float .f64 b)) w = .ok () (w.setCell ⟨g, j, none⟩ (.float .f64 b)) := by
  rw [run_store Tryz.prog w _ _ _ rfl]
  simp [hc, hf]
theorem two_new (w : World) (o1 o2 : Obj) : ((w.alloc o1).alloc o2).heap[w.heap.size + 1]? = some o2 := by
  have := Go.heap_alloc_new (w.alloc o1) o2
  rw [World.size_alloc] at this
  exact this
theorem two_below (w : World) (o1 o2 : Obj) : Below w.heap.size w ((w.alloc o1).alloc o2) := ((Below.refl _ _).alloc (Nat.le_refl _) _).alloc (by simp) _
/-- The call's two variables: the rule that came in, and the result's. -/
structure Two (w : World) (cs zs : Array Value) (W : World) : Prop where
  one : Bx W w.heap.size cs
  two : Bx W (w.heap.size + 1) zs
  bel : Below w.heap.size w W
theorem Two.new (w : World) (cs zs : Array Value) : Two w cs zs ((w.alloc (.cells cs 33)).alloc (.cells zs 33)) :=
  ⟨bx_old (bx_new w cs) _, two_new w _ _, two_below w _ _⟩
theorem Two.next {w W W' : World} {cs zs : Array Value} (h : Two w cs zs W) (hb : Below W.heap.size W W') : Two w cs zs W' :=
  ⟨h.one.next hb h.one.lt, h.two.next hb h.two.lt, h.bel.trans (hb.mono h.bel.size)⟩
/-- A box filled, cell by cell, as a walk asks it. -/
theorem box4 {W : World} {g : Nat} {z0 z1 z2 z3 : Value} (h : Bx W g #[z0, z1, z2, z3]) (nm pa : ByteArray) (tb : Nat) (bu : Int) :
    W.cell? ⟨g, 0, none⟩ = some z0 ∧ W.frozen? ⟨g, 0, none⟩ = false ∧ (W.setCell ⟨g, 0, none⟩ (.string nm)).cell? ⟨g, 1, none⟩ = some z1 ∧ W.frozen? ⟨g, 1, none⟩ = false
      ∧ Sem.run Tryz.prog (store ⟨g, 2, none⟩ (.float .f64 tb)) ((W.setCell ⟨g, 0, none⟩ (.string nm)).setCell ⟨g, 1, none⟩ (.string pa)) = .ok () (((W.setCell ⟨g, 0, none⟩ (.string nm)).setCell ⟨g, 1, none⟩ (.string pa)).setCell ⟨g, 2, none⟩ (.float .f64 tb)) ∧ (((W.setCell ⟨g, 0, none⟩ (.string nm)).setCell ⟨g, 1, none⟩ (.string pa)).setCell ⟨g, 2, none⟩ (.float .f64 tb)).cell? ⟨g, 3, none⟩ = some z3 ∧ W.frozen? ⟨g, 3, none⟩ = false
      ∧ Bx ((((W.setCell ⟨g, 0, none⟩ (.string nm)).setCell ⟨g, 1, none⟩ (.string pa)).setCell ⟨g, 2, none⟩ (.float .f64 tb)).setCell ⟨g, 3, none⟩ (.int .i64 bu)) g #[.string nm, .string pa, .float .f64 tb, .int .i64 bu] := by
  have x1 : Bx (W.setCell ⟨g, 0, none⟩ (.string nm)) g #[.string nm, z1, z2, z3] := h.set 0 _
  have x2 : Bx ((W.setCell ⟨g, 0, none⟩ (.string nm)).setCell ⟨g, 1, none⟩ (.string pa)) g #[.string nm, .string pa, z2, z3] := x1.set 1 _
  have x3 : Bx (((W.setCell ⟨g, 0, none⟩ (.string nm)).setCell ⟨g, 1, none⟩ (.string pa)).setCell ⟨g, 2, none⟩ (.float .f64 tb)) g #[.string nm, .string pa, .float .f64 tb, z3] := x2.set 2 _
  exact ⟨h.cell 0, h.free 0, x1.cell 1, h.free 1, store_fl tb (x2.cell 2) (x2.free 2), x3.cell 3, h.free 3, x3.set 3 _⟩

set_option maxHeartbeats 8000000 in
set_option maxRecDepth 100000 in
theorem canon1_any (r : Ro) (w : World) (hp : r.ps < 18446744073709551616) (s1 : r.nm.size ≤ 140737488355328) (s2 : r.pa.size ≤ 140737488355328) :
    Calls Tryz.prog 19 #[.agg (ruC r)] w fun e w' => e = .returned (.agg (ruC (can r))) ∧ Below w.heap.size w w' := by
  have HM := Lib.hid fun W => Real.Milli_any r.ps hp W
  have HN := Lib.hid fun W => Rou.clone_str r.nm W (by omega)
  have HPA := Lib.hid fun W => Rou.clone_str r.pa W (by omega)
  have hmn := mn_le r.ps
  have HT := Lib.hid fun W => Real.Thousandth_at (Real.mn r.ps : Int) (Real.mn r.ps) (thB (Real.mn r.ps)) (by omega) (Lib.hid (th_is hmn).1) W
  have T0 := Lib.hid (Two.new w (ruC r) (ruC zero))
  obtain ⟨nm, pa, ps, bu⟩ := r
  show Calls _ _ _ _ fun e w' => e = .returned (.agg #[.string nm, .string pa, .float .f64 (thB (Real.mn ps)), .int .i64 bu]) ∧ _
  dsimp only [ruC, zero] at *
  clear hp s1 s2 hmn
  generalize thB (Real.mn ps) = tb at *
  generalize Real.mn ps = n at *
  generalize Real.me ps = me at *
  go_enter Tryz.func19, Tryz.ntmps19
  go_wp2_with (first
    | (go_at_call 30; (with_reducible refine (HM.out _).mono ?_); rintro e w1 ⟨rfl, rfl⟩))
  generalize (w.alloc (.cells #[.string nm, .string pa, .float .f64 ps, .int .i64 bu] 33)).alloc (.cells #[.string ⟨#[]⟩, .string ⟨#[]⟩, .float .f64 0, .int .i64 0] 33) = W0 at *
  have TD := Lib.hid (T0.out.next (Below.refl _ _).drew)
  have p0 : W0.drew.cell? ⟨w.heap.size, 0, none⟩ = some (.string nm) := TD.out.one.cell 0
  have p1 : W0.drew.cell? ⟨w.heap.size, 1, none⟩ = some (.string pa) := TD.out.one.cell 1
  have p3 : W0.drew.cell? ⟨w.heap.size, 3, none⟩ = some (.int .i64 bu) := TD.out.one.cell 3
  clear T0
  go_region_law (first
    | (go_simp; go_at_call 35; first
      | ((with_reducible refine (HN.out _).mono ?_); rintro e w6 ⟨rfl, hb6⟩; clear HN; have p1' := (hb6.cell (lt_of_cell p1)).trans p1; have p3' := (hb6.cell (lt_of_cell p3)).trans p3; have T6 := Lib.hid (TD.out.next hb6); clear hb6)
      | ((with_reducible refine (HPA.out _).mono ?_); rintro e w7 ⟨rfl, hb7⟩; have p3'' := (hb7.cell (lt_of_cell p3')).trans p3'; have T7 := Lib.hid (T6.out.next hb7); obtain ⟨k0, z0, k1, z1, hst2, k3, z3, hx9⟩ := box4 T7.out.two nm pa tb bu; have X9 := Lib.hid hx9; clear hx9 hb7))
    | (go_simp; go_at_call 36; (with_reducible refine (HT.out _).mono ?_); rintro e wx ⟨rfl, rfl⟩))
  all_goals
    go_wp2_with fail
    refine bodyPost_ret (results_one rfl _ _ _ _ rfl X9.out rfl) rfl ?_
    exact ⟨rfl, (((T7.out.bel.setCell (p := ⟨w.heap.size + 1, 0, none⟩) (Nat.le_succ _) (.string nm)).setCell (p := ⟨w.heap.size + 1, 1, none⟩) (Nat.le_succ _) (.string pa)).setCell (p := ⟨w.heap.size + 1, 2, none⟩) (Nat.le_succ _) (.float .f64 tb)).setCell (p := ⟨w.heap.size + 1, 3, none⟩) (Nat.le_succ _) (.int .i64 bu)⟩
end Go.Proofs.YtcdkibadnelgiaaGreatDoor.One
