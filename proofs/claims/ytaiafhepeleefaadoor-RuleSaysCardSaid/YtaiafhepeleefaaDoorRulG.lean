/- Contract of the document's Canon. Conditions: the texts have at most 2^47 bytes. -/
import Derived.Test.YtaiafhepeleefaaDoorRulF
import Derived.Test.YtaiafhepeleefaaDoorRulS
namespace Go.Proofs.YtaiafhepeleefaaDoor.Rul
open Go.RowKit Go.Lib

set_option maxHeartbeats 8000000 in
set_option maxRecDepth 100000 in
theorem rcanon_no (r : Ru) (w : World) (h1 : r.id.size ≤ 140737488355328) (h2 : r.no.size ≤ 140737488355328) (h3 : r.ro.size ≤ 140737488355328) (hc : (chk r).2 ≠ 0) :
    Calls Tryd.prog 11 #[.agg (ruC r)] w fun e w' => e = .returned (.tuple #[.agg (ruC zero), .string (chk r).1, .int .i64 (chk r).2]) ∧ Below w.heap.size w w' := by
  have HC := Lib.hid fun o o' => rchk_any r ((w.alloc o).alloc o') h1 h2 h3
  have HT0 := Lib.hid fun zs => Two.new w (ruC r) zs
  generalize chk r = x at *
  obtain ⟨a, b⟩ := x
  obtain ⟨id, no, ro, pr, ki, ra, pe, bu, co, mx, fa, wa, pb⟩ := r
  dsimp only [ruC] at HC HT0 ⊢
  have b1 : (b != 0) = true := by simpa using hc
  clear hc
  go_enter Tryd.func11, Tryd.ntmps11
  go_wp2_with (first
    | (refine wpList_keep _ rfl _ _ rfl w.heap.size w i1.out.bel _ (by omega) zero _ rfl rfl i1.out.two rfl ?_; intro w4 hk4 hb4 ho4)
    | (go_at_call 9; (with_reducible refine (HC.out _ _).mono ?_); rintro e w1 ⟨rfl, hb1⟩; have i1 := Lib.hid ((HT0.out _).next hb1)))
  refine bodyPost_ret (results_three rfl _ _ _ _ rfl hk4 rfl) rfl ?_
  exact ⟨rfl, hb4⟩

set_option maxHeartbeats 8000000 in
set_option maxRecDepth 100000 in
theorem rcanon_two (r : Ru) (w : World) (h1 : r.id.size ≤ 140737488355328) (h2 : r.no.size ≤ 140737488355328) (h3 : r.ro.size ≤ 140737488355328) (hc : chk r = (⟨#[]⟩, 0)) (hk : r.ki = 2) :
    Calls Tryd.prog 11 #[.agg (ruC r)] w fun e w' => e = .returned (.tuple #[.agg (ruC r), .string ⟨#[]⟩, .int .i64 0]) ∧ Below w.heap.size w w' := by
  have HC := Lib.hid fun o o' => rchk_any r ((w.alloc o).alloc o') h1 h2 h3
  rw [hc] at HC
  have HT0 := Lib.hid fun zs => Two.new w (ruC r) zs
  clear hc
  obtain ⟨id, no, ro, pr, ki, ra, pe, bu, co, mx, fa, wa, pb⟩ := r
  dsimp only at hk
  subst hk
  dsimp only [ruC] at HC HT0 ⊢
  go_enter Tryd.func11, Tryd.ntmps11
  go_wp2_with (first
    | (refine wpList_fetch _ rfl _ rfl _ _ rfl i1.out.one rfl ?_)
    | (refine wpList_keep _ rfl _ _ rfl w.heap.size w i1.out.bel _ (by omega) ⟨id, no, ro, pr, 2, ra, pe, bu, co, mx, fa, wa, pb⟩ _ rfl rfl i1.out.two rfl ?_; intro w4 hk4 hb4 ho4)
    | (go_at_call 9; (with_reducible refine (HC.out _ _).mono ?_); rintro e w1 ⟨rfl, hb1⟩; have i1 := Lib.hid ((HT0.out _).next hb1); have k4 : w1.cell? ⟨w.heap.size, 4, none⟩ = some (.int .i64 2) := i1.out.one.cell 4))
  refine bodyPost_ret (results_three rfl _ _ _ _ rfl hk4 rfl) rfl ?_
  exact ⟨rfl, hb4⟩

set_option maxHeartbeats 8000000 in
set_option maxRecDepth 100000 in
theorem rcanon_three (r : Ru) (w : World) (h1 : r.id.size ≤ 140737488355328) (h2 : r.no.size ≤ 140737488355328) (h3 : r.ro.size ≤ 140737488355328) (hc : chk r = (⟨#[]⟩, 0)) (hk : r.ki = 3) :
    Calls Tryd.prog 11 #[.agg (ruC r)] w fun e w' => e = .returned (.tuple #[.agg (ruC { r with pb := max r.pb 1 }), .string ⟨#[]⟩, .int .i64 0]) ∧ Below w.heap.size w w' := by
  have HC := Lib.hid fun o o' => rchk_any r ((w.alloc o).alloc o') h1 h2 h3
  rw [hc] at HC
  have HT0 := Lib.hid fun zs => Two.new w (ruC r) zs
  clear hc
  obtain ⟨id, no, ro, pr, ki, ra, pe, bu, co, mx, fa, wa, pb⟩ := r
  dsimp only at hk
  subst hk
  dsimp only [ruC] at HC HT0
  dsimp only
  rw [show ruC ⟨id, no, ro, pr, 3, ra, pe, bu, co, mx, fa, wa, pb⟩ = #[.string id, .string no, .string ro, .int .i64 pr, .int .i64 3, .int .i64 ra, .int .i64 pe, .int .i64 bu, .int .i64 co, .int .i64 mx, .int .i64 fa, .int .i64 wa, .int .i64 pb] from rfl]
  go_enter Tryd.func11, Tryd.ntmps11
  go_wp2_with (first
    | (refine wpList_fetch _ rfl _ rfl _ _ rfl (i2.out _).one rfl ?_)
    | (refine wpList_keep _ rfl _ _ rfl w.heap.size w (i2.out _).bel _ (by omega) _ _ rfl rfl (i2.out _).two rfl ?_; intro w4 hk4 hb4 ho4)
    | (go_at_call 9; (with_reducible refine (HC.out _ _).mono ?_); rintro e w1 ⟨rfl, hb1⟩; have i1 := Lib.hid ((HT0.out _).next hb1); have k4 : w1.cell? ⟨w.heap.size, 4, none⟩ = some (.int .i64 3) := i1.out.one.cell 4
       have k12 : w1.cell? ⟨w.heap.size, 12, none⟩ = some (.int .i64 pb) := i1.out.one.cell 12
       have f12 : w1.frozen? ⟨w.heap.size, 12, none⟩ = false := i1.out.one.free 12
       have i2 := Lib.hid fun v => i1.out.pb v))
  refine bodyPost_ret (results_three rfl _ _ _ _ rfl hk4 rfl) rfl ?_
  exact ⟨rfl, hb4⟩

set_option maxHeartbeats 8000000 in
set_option maxRecDepth 100000 in
theorem rcanon_one (r : Ru) (w : World) (h1 : r.id.size ≤ 140737488355328) (h2 : r.no.size ≤ 140737488355328) (h3 : r.ro.size ≤ 140737488355328) (hc : chk r = (⟨#[]⟩, 0)) (hk : r.ki = 1) (hra : 0 ≤ r.ra ∧ r.ra ≤ 1000000) (hpe : 1 ≤ r.pe ∧ r.pe ≤ 86400000) :
    Calls Tryd.prog 11 #[.agg (ruC r)] w fun e w' => e = .returned (.tuple #[.agg (ruC { r with ra := r.ra / Sat.gd r.ra r.pe, pe := r.pe / Sat.gd r.ra r.pe, co := max r.co 1 }), .string ⟨#[]⟩, .int .i64 0]) ∧ Below w.heap.size w w' := by
  have HC := Lib.hid fun o o' => rchk_any r ((w.alloc o).alloc o') h1 h2 h3
  rw [hc] at HC
  have HT0 := Lib.hid fun zs => Two.new w (ruC r) zs
  have HG := Lib.hid fun W => Sat.rgcd_any r.ra r.pe W (by omega) (by omega) (by omega) (by omega)
  obtain ⟨g1, g2, _, g3, g4, g5, g6, _⟩ := gd_div hra.1 hpe.1
  clear hc
  obtain ⟨id, no, ro, pr, ki, ra, pe, bu, co, mx, fa, wa, pb⟩ := r
  dsimp only at hk g1 g2 g3 g4 g5 g6 hra hpe HG
  subst hk
  dsimp only [ruC] at HC HT0
  dsimp only
  rw [show ruC ⟨id, no, ro, pr, 1, ra, pe, bu, co, mx, fa, wa, pb⟩ = #[.string id, .string no, .string ro, .int .i64 pr, .int .i64 1, .int .i64 ra, .int .i64 pe, .int .i64 bu, .int .i64 co, .int .i64 mx, .int .i64 fa, .int .i64 wa, .int .i64 pb] from rfl]
  generalize Sat.gd ra pe = g at *
  obtain ⟨ra0, ra1⟩ := hra
  obtain ⟨pe0, pe1⟩ := hpe
  go_enter Tryd.func11, Tryd.ntmps11
  go_wp2_with (first
    | (go_at_call 9; (with_reducible refine (HC.out _ _).mono ?_); rintro e w1 ⟨rfl, hb1⟩; have i1 := Lib.hid ((HT0.out _).next hb1); have k4 : w1.cell? ⟨w.heap.size, 4, none⟩ = some (.int .i64 1) := i1.out.one.cell 4
       have k5 : w1.cell? ⟨w.heap.size, 5, none⟩ = some (.int .i64 ra) := i1.out.one.cell 5
       have k6 : w1.cell? ⟨w.heap.size, 6, none⟩ = some (.int .i64 pe) := i1.out.one.cell 6
       have k8 : w1.cell? ⟨w.heap.size, 8, none⟩ = some (.int .i64 co) := i1.out.one.cell 8
       have f5 : w1.frozen? ⟨w.heap.size, 5, none⟩ = false := i1.out.one.free 5
       have f6 : w1.frozen? ⟨w.heap.size, 6, none⟩ = false := i1.out.one.free 6
       have f8 : w1.frozen? ⟨w.heap.size, 8, none⟩ = false := i1.out.one.free 8)
    | (go_at_call 23; (with_reducible refine (HG.out _).mono ?_); rintro e w2 ⟨rfl, n, rfl⟩))
  go_region
  have i2 := Lib.hid ((((i1.out.drewN (n + 1)).ra (ra / g)).pe (pe / g)).co (max co 1))
  clear k4 k5 k6 k8 f5 f6 f8 g2 g4 g6 i1 HT0 HC HG
  generalize (((w1.drewN (n + 1)).setCell ⟨w.heap.size, 5, none⟩ (.int .i64 (ra / g))).setCell ⟨w.heap.size, 6, none⟩ (.int .i64 (pe / g))).setCell ⟨w.heap.size, 8, none⟩ (.int .i64 (max co 1)) = W2 at *
  go_wp2_with (first
    | (refine wpList_fetch _ rfl _ rfl _ _ rfl i2.out.one rfl ?_)
    | (refine wpList_keep _ rfl _ _ rfl w.heap.size w i2.out.bel _ (by omega) _ _ rfl rfl i2.out.two rfl ?_; intro w4 hk4 hb4 ho4))
  refine bodyPost_ret (results_three rfl _ _ _ _ rfl hk4 rfl) rfl ?_
  exact ⟨rfl, hb4⟩

theorem rcanon_any (r : Ru) (w : World) (h1 : r.id.size ≤ 140737488355328) (h2 : r.no.size ≤ 140737488355328) (h3 : r.ro.size ≤ 140737488355328) :
    Calls Tryd.prog 11 #[.agg (ruC r)] w fun e w' => e = .returned (.tuple #[.agg (ruC (cn r)), .string (chk r).1, .int .i64 (chk r).2]) ∧ Below w.heap.size w w' := by
  by_cases h : (chk r).2 = 0
  · have hr := (chk_zero r).1 h
    have hc := chk_ok hr
    rw [cn_ok h]
    rcases hr.ki with hk | hk | hk
    · rw [can_one hk.1, hc]
      exact rcanon_one r w h1 h2 h3 hc hk.1 hk.2.1 hk.2.2.1
    · rw [can_two hk.1, hc]
      exact rcanon_two r w h1 h2 h3 hc hk.1
    · rw [can_three hk.1, hc]
      exact rcanon_three r w h1 h2 h3 hc hk.1
  · rw [cn_no h]
    exact rcanon_no r w h1 h2 h3 h
end Go.Proofs.YtaiafhepeleefaaDoor.Rul
