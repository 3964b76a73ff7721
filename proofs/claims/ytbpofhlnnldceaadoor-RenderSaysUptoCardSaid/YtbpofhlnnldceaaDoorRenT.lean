/- The law RenderSays. Conditions: the two tables of unicode/utf8 and the table of powers are as the library's text lays them; as each theorem states. -/
import Derived.Test.YtbpofhlnnldceaaDoorRenS
namespace Go.Proofs.YtbpofhlnnldceaaDoor.Ren
open Go.RowKit Go.Lib Go.Proofs.YtbpofhlnnldceaaDoor.Byt Go.Proofs.YtbpofhlnnldceaaDoor.Utf Go.Proofs.YtbpofhlnnldceaaDoor.Quo
open Go.Proofs.YtbpofhlnnldceaaDoor.Tre (Vt V0 wi dep cnt OkT okV InV InV_iff InV_next Box Box.lt Box.cell Box.next box_new wpList_fetch wpList_fetch_g wr64 rcount)

/-- What the law's walk carries. -/
structure Sa (w : World) (v : Vt) (cs : List Value) (W : World) : Prop where
  box : Box W w.heap.size cs.toArray
  inv : InV W v cs
  env : En W
  bel : Below w.heap.size w W
theorem Sa.next {w : World} {v : Vt} {cs : List Value} {W W' : World} (h : Sa w v cs W) (hb : Below W.heap.size W W') : Sa w v cs W' :=
  ⟨h.box.next hb h.box.lt, InV_next hb _ _ h.inv, ⟨h.env.tabs.next hb, h.env.pow.next hb⟩, h.bel.trans (hb.mono h.bel.size)⟩
theorem Sa.start {w : World} {v : Vt} {cs : List Value} (h : InV w v cs) (hE : En w) : Sa w v cs (w.alloc (.cells cs.toArray 25)) := by
  have hb : Below w.heap.size w (w.alloc (.cells cs.toArray 25)) := (Below.refl _ _).alloc (Nat.le_refl _) _
  exact ⟨box_new _ _, InV_next hb _ _ h, ⟨hE.tabs.next hb, hE.pow.next hb⟩, hb⟩
set_option maxHeartbeats 4000000 in
set_option maxRecDepth 100000 in
theorem says_any (v : Vt) (hv : OkT v) (sv : cw v ≤ 1048576) (cs : List Value) (w : World) (h : InV w v cs) (hE : En w) :
    Calls Tryd.prog 3 #[.agg cs.toArray] w fun e w' => e = .returned (.bool true) ∧ Below w.heap.size w w' := by
  have HAW := Lib.hid awake_any
  have HC := Lib.hid (rcount v hv)
  rw [wr_small (by unfold cw at sv; omega)] at HC
  have hst := Sa.start h hE
  obtain ⟨a3, p3, c4, rfl, _, _⟩ := (InV_iff w v cs).1 h
  clear h hE
  by_cases hc1 : 300 < cnt v
  · have g1 : decide ((300 : Int) < (cnt v : Int)) = true := decide_eq_true (by omega)
    clear hc1 hv sv
    generalize (cnt v : Int) = n1 at *
    generalize v.k = k1 at *
    generalize v.n = m1 at *
    generalize v.s = s1 at *
    generalize v.l.length = l1 at *
    go_enter Tryd.func3, Tryd.ntmps3
    go_wp2_with (first
      | (refine wpList_fetch _ rfl _ rfl w.heap.size _ rfl hst.box rfl ?_)
      | (go_at_call 5; (with_reducible refine (HC.out _ _ hst.inv).mono ?_); rintro e w2 ⟨rfl, hb2⟩; have a2 := hst.next hb2; clear hst)
      | (go_at_call 6; (with_reducible refine (HAW.out _ a2.env).mono ?_); rintro e wz ⟨rfl, hz⟩; have hzz := a2.bel.trans (hz.mono a2.bel.size)))
    go_ret
    exact ⟨rfl, hzz⟩
  have g1 : decide ((300 : Int) < (cnt v : Int)) = false := decide_eq_false (by omega)
  have s1 : Small v := ⟨hv, by unfold cw at sv; omega, by omega⟩
  obtain ⟨X, Y, x, y, H1, H2, H3, H4⟩ : ∃ (X Y : ByteArray) (x y : Int), (∀ cs W, En W → InV W v cs → Calls Tryd.prog 7 #[.agg cs.toArray] W fun e w' => e = .returned (.tuple #[.string X, .int .i64 x]) ∧ Below W.heap.size W w') ∧
      (∀ cs W, InV W v cs → Calls Tryd.prog 8 #[.agg cs.toArray] W fun e w' => e = .returned (.tuple #[.string X, .int .i64 x]) ∧ Below W.heap.size W w') ∧
      (∀ cs W, En W → InV W v cs → Calls Tryd.prog 9 #[.agg cs.toArray] W fun e w' => e = .returned (.tuple #[.string Y, .int .i64 y]) ∧ Below W.heap.size W w') ∧
      (∀ cs W, InV W v cs → Calls Tryd.prog 10 #[.agg cs.toArray] W fun e w' => e = .returned (.tuple #[.string Y, .int .i64 y]) ∧ Below W.heap.size W w') := by
    cases hw : wi v 64 with
    | true => exact ⟨_, _, _, _, fun cs W hE hi => put_yes v s1 cs W hE hi hw, fun cs W hi => rput_yes v s1 cs W hi hw, fun cs W hE hi => pre_yes v s1 cs W hE hi hw, fun cs W hi => rpre_yes v s1 cs W hi hw⟩
    | false => exact ⟨_, _, _, _, fun cs W hE hi => put_no v s1 cs W hE hi hw, fun cs W hi => rput_no v s1 cs W hi hw, fun cs W hE hi => pre_no v s1 cs W hE hi hw, fun cs W hi => rpre_no v s1 cs W hi hw⟩
  have K1 := Lib.hid H1
  have K2 := Lib.hid H2
  have K3 := Lib.hid H3
  have K4 := Lib.hid H4
  clear hc1 hv sv s1 H1 H2 H3 H4
  generalize (cnt v : Int) = n1 at *
  generalize v.k = k1 at *
  generalize v.n = m1 at *
  generalize v.s = s1 at *
  generalize v.l.length = l1 at *
  go_enter Tryd.func3, Tryd.ntmps3
  go_wp2_with (first
    | (refine wpList_fetch _ rfl _ rfl w.heap.size _ rfl hst.box rfl ?_)
    | (go_at_call 5; (with_reducible refine (HC.out _ _ hst.inv).mono ?_); rintro e w2 ⟨rfl, hb2⟩; have a2 := hst.next hb2; clear hst)
    | (refine wpList_fetch _ rfl _ rfl w.heap.size _ rfl a2.box rfl ?_)
    | (go_at_call 7; (with_reducible refine (K1.out _ _ a2.env a2.inv).mono ?_); rintro e w3 ⟨rfl, hb3⟩; have a3 := a2.next hb3; clear a2)
    | (refine wpList_fetch _ rfl _ rfl w.heap.size _ rfl a3.box rfl ?_)
    | (go_at_call 8; (with_reducible refine (K2.out _ _ a3.inv).mono ?_); rintro e w4 ⟨rfl, hb4⟩; have a4 := a3.next hb4; clear a3)
    | (refine wpList_fetch _ rfl _ rfl w.heap.size _ rfl a4.box rfl ?_)
    | (go_at_call 9; (with_reducible refine (K3.out _ _ a4.env a4.inv).mono ?_); rintro e w5 ⟨rfl, hb5⟩; have a5 := a4.next hb5; clear a4)
    | (refine wpList_fetch _ rfl _ rfl w.heap.size _ rfl a5.box rfl ?_)
    | (go_at_call 10; (with_reducible refine (K4.out _ _ a5.inv).mono ?_); rintro e w6 ⟨rfl, hb6⟩; have a6 := a5.next hb6; clear a5)
    | (go_at_call 6; (with_reducible refine (HAW.out _ a6.env).mono ?_); rintro e wz ⟨rfl, hz⟩; have hzz := a6.bel.trans (hz.mono a6.bel.size)))
  go_ret
  exact ⟨rfl, hzz⟩
end Go.Proofs.YtbpofhlnnldceaaDoor.Ren
