/- Contract of rule's Canon. Conditions: the tables read as the program lays them; the texts have at most 2^47 bytes. -/
import Derived.Test.YtaiafhepeleefaaDoorRulD
namespace Go.Proofs.YtaiafhepeleefaaDoor.Rul
open Go.RowKit Go.Lib

theorem cn_no {r : Ru} (h : (chk r).2 ≠ 0) : cn r = zero := by unfold cn; rw [if_neg h]
theorem cn_ok {r : Ru} (h : (chk r).2 = 0) : cn r = can r := by unfold cn; rw [if_pos h]
theorem Two.pb {w W : World} {id no ro : ByteArray} {pr ki ra pe bu co mx fa wa pb : Int} {zs : Array Value} (h : Two w (ruC ⟨id, no, ro, pr, ki, ra, pe, bu, co, mx, fa, wa, pb⟩) zs W) (v : Int) :
    Two w (ruC ⟨id, no, ro, pr, ki, ra, pe, bu, co, mx, fa, wa, v⟩) zs (W.setCell ⟨w.heap.size, 12, none⟩ (.int .i64 v)) := h.set 12 (.int .i64 v)
theorem Two.co {w W : World} {id no ro : ByteArray} {pr ki ra pe bu co mx fa wa pb : Int} {zs : Array Value} (h : Two w (ruC ⟨id, no, ro, pr, ki, ra, pe, bu, co, mx, fa, wa, pb⟩) zs W) (v : Int) :
    Two w (ruC ⟨id, no, ro, pr, ki, ra, pe, bu, v, mx, fa, wa, pb⟩) zs (W.setCell ⟨w.heap.size, 8, none⟩ (.int .i64 v)) := h.set 8 (.int .i64 v)
theorem Two.ra {w W : World} {id no ro : ByteArray} {pr ki ra pe bu co mx fa wa pb : Int} {zs : Array Value} (h : Two w (ruC ⟨id, no, ro, pr, ki, ra, pe, bu, co, mx, fa, wa, pb⟩) zs W) (v : Int) :
    Two w (ruC ⟨id, no, ro, pr, ki, v, pe, bu, co, mx, fa, wa, pb⟩) zs (W.setCell ⟨w.heap.size, 5, none⟩ (.int .i64 v)) := h.set 5 (.int .i64 v)
theorem Two.pe {w W : World} {id no ro : ByteArray} {pr ki ra pe bu co mx fa wa pb : Int} {zs : Array Value} (h : Two w (ruC ⟨id, no, ro, pr, ki, ra, pe, bu, co, mx, fa, wa, pb⟩) zs W) (v : Int) :
    Two w (ruC ⟨id, no, ro, pr, ki, ra, v, bu, co, mx, fa, wa, pb⟩) zs (W.setCell ⟨w.heap.size, 6, none⟩ (.int .i64 v)) := h.set 6 (.int .i64 v)

set_option maxHeartbeats 4000000 in
set_option maxRecDepth 100000 in
theorem canon_no (r : Ru) (w : World) (hT : Tab w) (hU : Utf.Tabs w) (h1 : r.id.size ≤ 140737488355328) (h2 : r.no.size ≤ 140737488355328) (h3 : r.ro.size ≤ 140737488355328) (hc : (chk r).2 ≠ 0) :
    Calls Tryd.prog 10 #[.agg (ruC r)] w fun e w' => e = .returned (.tuple #[.agg (ruC zero), .string (chk r).1, .int .i64 (chk r).2]) ∧ Below w.heap.size w w' := by
  have HC := Lib.hid fun o o' => chk_any r ((w.alloc o).alloc o') (hT.next (two_below w o o')) (Utf.Tabs.next hU (two_below w o o')) h1 h2 h3
  have HT0 := Lib.hid fun zs => Two.new w (ruC r) zs
  clear hT hU
  generalize chk r = x at *
  obtain ⟨a, b⟩ := x
  obtain ⟨id, no, ro, pr, ki, ra, pe, bu, co, mx, fa, wa, pb⟩ := r
  dsimp only [ruC] at HC HT0 ⊢
  have b1 : (b != 0) = true := by simpa using hc
  clear hc
  go_enter Tryd.func10, Tryd.ntmps10
  go_wp2_with (first
    | (refine wpList_keep _ rfl _ _ rfl w.heap.size w i1.out.bel _ (by omega) zero _ rfl rfl i1.out.two rfl ?_; intro w4 hk4 hb4 ho4)
    | (go_at_call 8; (with_reducible refine (HC.out _ _).mono ?_); rintro e w1 ⟨rfl, hb1⟩; have i1 := Lib.hid ((HT0.out _).next hb1)))
  refine bodyPost_ret (results_three rfl _ _ _ _ rfl hk4 rfl) rfl ?_
  exact ⟨rfl, hb4⟩

set_option maxHeartbeats 4000000 in
set_option maxRecDepth 100000 in
theorem canon_two (r : Ru) (w : World) (hT : Tab w) (hU : Utf.Tabs w) (h1 : r.id.size ≤ 140737488355328) (h2 : r.no.size ≤ 140737488355328) (h3 : r.ro.size ≤ 140737488355328) (hc : chk r = (⟨#[]⟩, 0)) (hk : r.ki = 2) :
    Calls Tryd.prog 10 #[.agg (ruC r)] w fun e w' => e = .returned (.tuple #[.agg (ruC r), .string ⟨#[]⟩, .int .i64 0]) ∧ Below w.heap.size w w' := by
  have HC := Lib.hid fun o o' => chk_any r ((w.alloc o).alloc o') (hT.next (two_below w o o')) (Utf.Tabs.next hU (two_below w o o')) h1 h2 h3
  rw [hc] at HC
  have HO := Lib.hid fun W => own_any r W h1 h2 h3
  have HT0 := Lib.hid fun zs => Two.new w (ruC r) zs
  clear hT hU hc
  obtain ⟨id, no, ro, pr, ki, ra, pe, bu, co, mx, fa, wa, pb⟩ := r
  dsimp only at hk
  subst hk
  dsimp only [ruC] at HC HT0 HO ⊢
  go_enter Tryd.func10, Tryd.ntmps10
  go_wp2_with (first
    | (refine wpList_fetch _ rfl _ rfl _ _ rfl i1.out.one rfl ?_)
    | (refine wpList_keep _ rfl _ _ rfl w.heap.size w i2.out.bel _ (by omega) ⟨id, no, ro, pr, 2, ra, pe, bu, co, mx, fa, wa, pb⟩ _ rfl rfl i2.out.two rfl ?_; intro w4 hk4 hb4 ho4)
    | (go_at_call 8; (with_reducible refine (HC.out _ _).mono ?_); rintro e w1 ⟨rfl, hb1⟩; have i1 := Lib.hid ((HT0.out _).next hb1); have k4 : w1.cell? ⟨w.heap.size, 4, none⟩ = some (.int .i64 2) := i1.out.one.cell 4)
    | (go_at_call 22; (with_reducible refine (HO.out _).mono ?_); rintro e w2 ⟨rfl, hb2⟩; have i2 := Lib.hid (i1.out.next hb2)))
  refine bodyPost_ret (results_three rfl _ _ _ _ rfl hk4 rfl) rfl ?_
  exact ⟨rfl, hb4⟩

set_option maxHeartbeats 4000000 in
set_option maxRecDepth 100000 in
theorem canon_three (r : Ru) (w : World) (hT : Tab w) (hU : Utf.Tabs w) (h1 : r.id.size ≤ 140737488355328) (h2 : r.no.size ≤ 140737488355328) (h3 : r.ro.size ≤ 140737488355328) (hc : chk r = (⟨#[]⟩, 0)) (hk : r.ki = 3) :
    Calls Tryd.prog 10 #[.agg (ruC r)] w fun e w' => e = .returned (.tuple #[.agg (ruC { r with pb := max r.pb 1 }), .string ⟨#[]⟩, .int .i64 0]) ∧ Below w.heap.size w w' := by
  have HC := Lib.hid fun o o' => chk_any r ((w.alloc o).alloc o') (hT.next (two_below w o o')) (Utf.Tabs.next hU (two_below w o o')) h1 h2 h3
  rw [hc] at HC
  have HO := Lib.hid fun W => own_any { r with pb := max r.pb 1 } W h1 h2 h3
  have HT0 := Lib.hid fun zs => Two.new w (ruC r) zs
  clear hT hU hc
  obtain ⟨id, no, ro, pr, ki, ra, pe, bu, co, mx, fa, wa, pb⟩ := r
  dsimp only at hk
  subst hk
  dsimp only [ruC] at HC HT0
  dsimp only at HO ⊢
  rw [show ruC ⟨id, no, ro, pr, 3, ra, pe, bu, co, mx, fa, wa, pb⟩ = #[.string id, .string no, .string ro, .int .i64 pr, .int .i64 3, .int .i64 ra, .int .i64 pe, .int .i64 bu, .int .i64 co, .int .i64 mx, .int .i64 fa, .int .i64 wa, .int .i64 pb] from rfl]
  go_enter Tryd.func10, Tryd.ntmps10
  go_wp2_with (first
    | (refine wpList_fetch _ rfl _ rfl _ _ rfl (i2.out _).one rfl ?_)
    | (refine wpList_keep _ rfl _ _ rfl w.heap.size w i3.out.bel _ (by omega) _ _ rfl rfl i3.out.two rfl ?_; intro w4 hk4 hb4 ho4)
    | (go_at_call 8; (with_reducible refine (HC.out _ _).mono ?_); rintro e w1 ⟨rfl, hb1⟩; have i1 := Lib.hid ((HT0.out _).next hb1); have k4 : w1.cell? ⟨w.heap.size, 4, none⟩ = some (.int .i64 3) := i1.out.one.cell 4
       have k12 : w1.cell? ⟨w.heap.size, 12, none⟩ = some (.int .i64 pb) := i1.out.one.cell 12
       have f12 : w1.frozen? ⟨w.heap.size, 12, none⟩ = false := i1.out.one.free 12
       have i2 := Lib.hid fun v => i1.out.pb v)
    | (go_at_call 22; (with_reducible refine (HO.out _).mono ?_); rintro e w2 ⟨rfl, hb2⟩; have i3 := Lib.hid ((i2.out _).next hb2)))
  refine bodyPost_ret (results_three rfl _ _ _ _ rfl hk4 rfl) rfl ?_
  exact ⟨rfl, hb4⟩
end Go.Proofs.YtaiafhepeleefaaDoor.Rul
