/- Contract of rule's Canon of a bucket; of any rule. Conditions: the tables read as the program lays them; the texts have at most 2^47 bytes. -/
import Derived.Test.YtaiafhepeleefaaDoorRulE
import Derived.Deep.RegionHeld3
namespace Go.Proofs.YtaiafhepeleefaaDoor.Rul
open Go.RowKit Go.Lib

set_option maxHeartbeats 8000000 in
set_option maxRecDepth 100000 in
theorem canon_one (r : Ru) (w : World) (hT : Tab w) (hU : Utf.Tabs w) (h1 : r.id.size ≤ 140737488355328) (h2 : r.no.size ≤ 140737488355328) (h3 : r.ro.size ≤ 140737488355328) (hc : chk r = (⟨#[]⟩, 0)) (hk : r.ki = 1) (hra : 0 ≤ r.ra ∧ r.ra ≤ 1000000) (hpe : 1 ≤ r.pe ∧ r.pe ≤ 86400000) :
    Calls Tryd.prog 10 #[.agg (ruC r)] w fun e w' => e = .returned (.tuple #[.agg (ruC { r with ra := r.ra / Sat.gd r.ra r.pe, pe := r.pe / Sat.gd r.ra r.pe, co := max r.co 1 }), .string ⟨#[]⟩, .int .i64 0]) ∧ Below w.heap.size w w' := by
  have HC := Lib.hid fun o o' => chk_any r ((w.alloc o).alloc o') (hT.next (two_below w o o')) (Utf.Tabs.next hU (two_below w o o')) h1 h2 h3
  rw [hc] at HC
  have HO := Lib.hid fun W => own_any { r with ra := r.ra / Sat.gd r.ra r.pe, pe := r.pe / Sat.gd r.ra r.pe, co := max r.co 1 } W h1 h2 h3
  have HT0 := Lib.hid fun zs => Two.new w (ruC r) zs
  have HG := Lib.hid fun W => Sat.gcd_any r.ra r.pe W (by omega) (by omega) (by omega) (by omega)
  obtain ⟨g1, g2, _, g3, g4, g5, g6, _⟩ := gd_div hra.1 hpe.1
  clear hT hU hc
  obtain ⟨id, no, ro, pr, ki, ra, pe, bu, co, mx, fa, wa, pb⟩ := r
  dsimp only at hk g1 g2 g3 g4 g5 g6 hra hpe HG
  subst hk
  dsimp only [ruC] at HC HT0
  dsimp only at HO ⊢
  rw [show ruC ⟨id, no, ro, pr, 1, ra, pe, bu, co, mx, fa, wa, pb⟩ = #[.string id, .string no, .string ro, .int .i64 pr, .int .i64 1, .int .i64 ra, .int .i64 pe, .int .i64 bu, .int .i64 co, .int .i64 mx, .int .i64 fa, .int .i64 wa, .int .i64 pb] from rfl]
  generalize Sat.gd ra pe = g at *
  obtain ⟨ra0, ra1⟩ := hra
  obtain ⟨pe0, pe1⟩ := hpe
  go_enter Tryd.func10, Tryd.ntmps10
  go_wp2_with (first
    | (go_at_call 8; (with_reducible refine (HC.out _ _).mono ?_); rintro e w1 ⟨rfl, hb1⟩; have i1 := Lib.hid ((HT0.out _).next hb1); have k4 : w1.cell? ⟨w.heap.size, 4, none⟩ = some (.int .i64 1) := i1.out.one.cell 4
       have k5 : w1.cell? ⟨w.heap.size, 5, none⟩ = some (.int .i64 ra) := i1.out.one.cell 5
       have k6 : w1.cell? ⟨w.heap.size, 6, none⟩ = some (.int .i64 pe) := i1.out.one.cell 6
       have k8 : w1.cell? ⟨w.heap.size, 8, none⟩ = some (.int .i64 co) := i1.out.one.cell 8
       have f5 : w1.frozen? ⟨w.heap.size, 5, none⟩ = false := i1.out.one.free 5
       have f6 : w1.frozen? ⟨w.heap.size, 6, none⟩ = false := i1.out.one.free 6
       have f8 : w1.frozen? ⟨w.heap.size, 8, none⟩ = false := i1.out.one.free 8)
    | (go_at_call 21; (with_reducible refine (HG.out _).mono ?_); rintro e w2 ⟨rfl, n, rfl⟩))
  go_region
  have i2 := ((i1.out.drewN (n + 1)).ra (ra / g)).pe (pe / g)
  clear k4 k5 k6 k8 f5 f6 f8 g2 g4 g6 i1 HT0 HC HG
  generalize ((w1.drewN (n + 1)).setCell ⟨w.heap.size, 5, none⟩ (.int .i64 (ra / g))).setCell ⟨w.heap.size, 6, none⟩ (.int .i64 (pe / g)) = W2 at *
  have k8 : W2.cell? ⟨w.heap.size, 8, none⟩ = some (.int .i64 co) := i2.one.cell 8
  have f8 : W2.frozen? ⟨w.heap.size, 8, none⟩ = false := i2.one.free 8
  have i2 := Lib.hid (i2.co (max co 1))
  go_wp2_with (first
    | (refine wpList_fetch _ rfl _ rfl _ _ rfl i2.out.one rfl ?_)
    | (refine wpList_keep _ rfl _ _ rfl w.heap.size w i3.out.bel _ (by omega) _ _ rfl rfl i3.out.two rfl ?_; intro w4 hk4 hb4 ho4)
    | (go_at_call 22; (with_reducible refine (HO.out _).mono ?_); rintro e w2 ⟨rfl, hb2⟩; have i3 := Lib.hid (i2.out.next hb2)))
  refine bodyPost_ret (results_three rfl _ _ _ _ rfl hk4 rfl) rfl ?_
  exact ⟨rfl, hb4⟩

theorem canon_any (r : Ru) (w : World) (hT : Tab w) (hU : Utf.Tabs w) (h1 : r.id.size ≤ 140737488355328) (h2 : r.no.size ≤ 140737488355328) (h3 : r.ro.size ≤ 140737488355328) :
    Calls Tryd.prog 10 #[.agg (ruC r)] w fun e w' => e = .returned (.tuple #[.agg (ruC (cn r)), .string (chk r).1, .int .i64 (chk r).2]) ∧ Below w.heap.size w w' := by
  by_cases h : (chk r).2 = 0
  · have hr := (chk_zero r).1 h
    have hc := chk_ok hr
    rw [cn_ok h]
    rcases hr.ki with hk | hk | hk
    · rw [can_one hk.1, hc]
      exact canon_one r w hT hU h1 h2 h3 hc hk.1 hk.2.1 hk.2.2.1
    · rw [can_two hk.1, hc]
      exact canon_two r w hT hU h1 h2 h3 hc hk.1
    · rw [can_three hk.1, hc]
      exact canon_three r w hT hU h1 h2 h3 hc hk.1
  · rw [cn_no h]
    exact canon_no r w hT hU h1 h2 h3 h
end Go.Proofs.YtaiafhepeleefaaDoor.Rul
