/- The law RenderUnlike. Conditions: the two tables of unicode/utf8 and the table of powers are as the library's text lays them; as each theorem states. -/
import Derived.Test.YtbpofhlnnldceaaDoorRenG
import Derived.Test.YtbpofhlnnldceaaDoorTreRa
import Derived.Test.YtbpofhlnnldceaaDoorTreRb
import Derived.Test.YtbpofhlnnldceaaDoorTreBk
namespace Go.Proofs.YtbpofhlnnldceaaDoor.Ren
open Go.RowKit Go.Lib Go.Proofs.YtbpofhlnnldceaaDoor.Byt Go.Proofs.YtbpofhlnnldceaaDoor.Utf Go.Proofs.YtbpofhlnnldceaaDoor.Quo
open Go.Proofs.YtbpofhlnnldceaaDoor.Lx (nL2 sL dcL dcF bl)
open Go.Proofs.YtbpofhlnnldceaaDoor.Tre (Vt V0 wi dep cnt OkT okV InV InV_iff InV_next Box Box.lt Box.cell Box.next box_new wpList_fetch wpList_fetch_g wpList_keep smB sm_iff wr64 rcount rright rsame two_boxes)

/-- What a law's walk carries: two values in variables of their own. -/
structure Un (w : World) (v u : Vt) (g1 g2 : Nat) (c1 c2 : List Value) (W : World) : Prop where
  b1 : Box W g1 c1.toArray
  b2 : Box W g2 c2.toArray
  i1 : InV W v c1
  i2 : InV W u c2
  env : En W
  bel : Below w.heap.size w W
theorem Un.next {w : World} {v u : Vt} {g1 g2 : Nat} {c1 c2 : List Value} {W W' : World} (h : Un w v u g1 g2 c1 c2 W) (hb : Below W.heap.size W W') : Un w v u g1 g2 c1 c2 W' :=
  ⟨h.b1.next hb h.b1.lt, h.b2.next hb h.b2.lt, InV_next hb _ _ h.i1, InV_next hb _ _ h.i2, ⟨h.env.tabs.next hb, h.env.pow.next hb⟩, h.bel.trans (hb.mono h.bel.size)⟩
theorem Un.start {w : World} {v u : Vt} {c1 c2 : List Value} (h : InV w v c1) (k : InV w u c2) (hE : En w) :
    Un w v u w.heap.size (w.heap.size + 1) c1 c2 ((w.alloc (.cells c1.toArray 25)).alloc (.cells c2.toArray 25)) := by
  obtain ⟨h1, h2, hb⟩ := two_boxes (Below.refl ((w.alloc (.cells c1.toArray 25)).alloc (.cells c2.toArray 25)).heap.size _)
  exact ⟨h1, h2, InV_next hb _ _ h, InV_next hb _ _ k, ⟨hE.tabs.next hb, hE.pow.next hb⟩, hb⟩
theorem wr_small {n : Nat} (h : n ≤ 100000000) : wr64 (n : Int) = (n : Int) := by unfold wr64; rw [IntKind.wrap_i64]; omega
theorem list_bytes {a b : List UInt8} (h : (⟨a.toArray⟩ : ByteArray).toList = (⟨b.toArray⟩ : ByteArray).toList) : a = b := by
  rw [Byt.toList_data, Byt.toList_data] at h
  simpa using h
theorem same_text {v u : Vt} {q : Bool} {a b : List UInt8} (hq : smB v u = q) (h1 : v = u → a = b) (h2 : a = b → v = u) : ((⟨a.toArray⟩ : ByteArray).toList == (⟨b.toArray⟩ : ByteArray).toList) = q := by
  cases q with
  | true => rw [beq_iff_eq, h1 ((sm_iff v u).1 hq)]
  | false =>
    rw [beq_eq_false_iff_ne]
    intro e
    have := h2 (list_bytes e)
    rw [(sm_iff v u).2 this] at hq
    cases hq
set_option maxHeartbeats 4000000 in
set_option maxRecDepth 100000 in
theorem unlike_any (v u : Vt) (hv : OkT v) (hu : OkT u) (sv : cw v ≤ 1048576) (su : cw u ≤ 1048576) (c1 c2 : List Value) (w : World) (h : InV w v c1) (k : InV w u c2) (hE : En w) :
    Calls Tryd.prog 4 #[.agg c1.toArray, .agg c2.toArray] w fun e w' => e = .returned (.bool true) ∧ Below w.heap.size w w' := by
  have HAW := Lib.hid awake_any
  have HC1 := Lib.hid (rcount v hv)
  have HC2 := Lib.hid (rcount u hu)
  rw [wr_small (by unfold cw at sv; omega)] at HC1
  rw [wr_small (by unfold cw at su; omega)] at HC2
  have HR1 := Lib.hid (rright v hv)
  have HR2 := Lib.hid (rright u hu)
  have HS := Lib.hid (rsame v hv u hu)
  have hst := Un.start h k hE
  obtain ⟨a3, p3, c4, rfl, _, _⟩ := (InV_iff w v c1).1 h
  obtain ⟨b3, r3, d4, rfl, _, _⟩ := (InV_iff w u c2).1 k
  clear h k hE
  by_cases hc1 : 300 < cnt v
  · have g1 : decide ((300 : Int) < (cnt v : Int)) = true := decide_eq_true (by omega)
    clear hc1 hv hu sv su HS HR1 HR2 HC2
    generalize (cnt v : Int) = n1 at *
    generalize (cnt u : Int) = n2 at *
    generalize v.k = k1 at *
    generalize v.n = m1 at *
    generalize v.s = s1 at *
    generalize v.l.length = l1 at *
    generalize u.k = k2 at *
    generalize u.n = m2 at *
    generalize u.s = s2 at *
    generalize u.l.length = l2 at *
    go_enter Tryd.func4, Tryd.ntmps4
    go_wp2_with (first
      | (refine wpList_fetch _ rfl _ rfl w.heap.size _ rfl hst.b1 rfl ?_)
      | (go_at_call 5; (with_reducible refine (HC1.out _ _ hst.i1).mono ?_); rintro e w2 ⟨rfl, hw2⟩; have a2 := hst.next hw2; clear hst)
      | (go_at_call 6; (with_reducible refine (HAW.out _ a2.env).mono ?_); rintro e wz ⟨rfl, hz⟩; have hzz := a2.bel.trans (hz.mono a2.bel.size)))
    go_ret
    exact ⟨rfl, hzz⟩
  have g1 : decide ((300 : Int) < (cnt v : Int)) = false := decide_eq_false (by omega)
  by_cases hc2 : 300 < cnt u
  · have g2 : decide ((300 : Int) < (cnt u : Int)) = true := decide_eq_true (by omega)
    clear hc1 hc2 hv hu sv su HS HR1 HR2
    generalize (cnt v : Int) = n1 at *
    generalize (cnt u : Int) = n2 at *
    generalize v.k = k1 at *
    generalize v.n = m1 at *
    generalize v.s = s1 at *
    generalize v.l.length = l1 at *
    generalize u.k = k2 at *
    generalize u.n = m2 at *
    generalize u.s = s2 at *
    generalize u.l.length = l2 at *
    go_enter Tryd.func4, Tryd.ntmps4
    go_wp2_with (first
      | (refine wpList_fetch _ rfl _ rfl w.heap.size _ rfl hst.b1 rfl ?_)
      | (go_at_call 5; (with_reducible refine (HC1.out _ _ hst.i1).mono ?_); rintro e w2 ⟨rfl, hw2⟩; have a2 := hst.next hw2; clear hst)
      | (refine wpList_fetch_g _ (by rfl) _ rfl (w.heap.size + 1) _ rfl a2.b2 rfl ?_)
      | (go_at_call 5; (with_reducible refine (HC2.out _ _ a2.i2).mono ?_); rintro e w3 ⟨rfl, hw3⟩; have a3 := a2.next hw3; clear a2)
      | (go_at_call 6; (with_reducible refine (HAW.out _ a3.env).mono ?_); rintro e wz ⟨rfl, hz⟩; have hzz := a3.bel.trans (hz.mono a3.bel.size)))
    go_ret
    exact ⟨rfl, hzz⟩
  have g2 : decide ((300 : Int) < (cnt u : Int)) = false := decide_eq_false (by omega)
  cases hw1 : wi v 64 with
  | false =>
    rw [hw1] at HR1
    clear hc1 hc2 hv hu sv su HS HR2 hw1
    generalize (cnt v : Int) = n1 at *
    generalize (cnt u : Int) = n2 at *
    generalize v.k = k1 at *
    generalize v.n = m1 at *
    generalize v.s = s1 at *
    generalize v.l.length = l1 at *
    generalize u.k = k2 at *
    generalize u.n = m2 at *
    generalize u.s = s2 at *
    generalize u.l.length = l2 at *
    go_enter Tryd.func4, Tryd.ntmps4
    go_wp2_with (first
      | (refine wpList_fetch _ rfl _ rfl w.heap.size _ rfl hst.b1 rfl ?_)
      | (go_at_call 5; (with_reducible refine (HC1.out _ _ hst.i1).mono ?_); rintro e w2 ⟨rfl, hw2⟩; have a2 := hst.next hw2; clear hst)
      | (refine wpList_fetch_g _ (by rfl) _ rfl (w.heap.size + 1) _ rfl a2.b2 rfl ?_)
      | (go_at_call 5; (with_reducible refine (HC2.out _ _ a2.i2).mono ?_); rintro e w3 ⟨rfl, hw3⟩; have a3 := a2.next hw3; clear a2)
      | (refine wpList_fetch_g _ (by rfl) _ rfl w.heap.size _ rfl a3.b1 rfl ?_)
      | (go_at_call 11; (with_reducible refine (HR1.out _ _ a3.i1).mono ?_); rintro e w4 ⟨rfl, hw4⟩; have a4 := a3.next hw4; clear a3)
      | (go_at_call 6; (with_reducible refine (HAW.out _ a4.env).mono ?_); rintro e wz ⟨rfl, hz⟩; have hzz := a4.bel.trans (hz.mono a4.bel.size)))
    go_ret
    exact ⟨rfl, hzz⟩
  | true =>
  cases hw2 : wi u 64 with
  | false =>
    rw [hw1] at HR1
    rw [hw2] at HR2
    clear hc1 hc2 hv hu sv su HS hw1 hw2
    generalize (cnt v : Int) = n1 at *
    generalize (cnt u : Int) = n2 at *
    generalize v.k = k1 at *
    generalize v.n = m1 at *
    generalize v.s = s1 at *
    generalize v.l.length = l1 at *
    generalize u.k = k2 at *
    generalize u.n = m2 at *
    generalize u.s = s2 at *
    generalize u.l.length = l2 at *
    go_enter Tryd.func4, Tryd.ntmps4
    go_wp2_with (first
      | (refine wpList_fetch _ rfl _ rfl w.heap.size _ rfl hst.b1 rfl ?_)
      | (go_at_call 5; (with_reducible refine (HC1.out _ _ hst.i1).mono ?_); rintro e w2 ⟨rfl, hw2⟩; have a2 := hst.next hw2; clear hst)
      | (refine wpList_fetch_g _ (by rfl) _ rfl (w.heap.size + 1) _ rfl a2.b2 rfl ?_)
      | (go_at_call 5; (with_reducible refine (HC2.out _ _ a2.i2).mono ?_); rintro e w3 ⟨rfl, hw3⟩; have a3 := a2.next hw3; clear a2)
      | (refine wpList_fetch_g _ (by rfl) _ rfl w.heap.size _ rfl a3.b1 rfl ?_)
      | (go_at_call 11; (with_reducible refine (HR1.out _ _ a3.i1).mono ?_); rintro e w4 ⟨rfl, hw4⟩; have a4 := a3.next hw4; clear a3)
      | (refine wpList_fetch_g _ (by rfl) _ rfl (w.heap.size + 1) _ rfl a4.b2 rfl ?_)
      | (go_at_call 11; (with_reducible refine (HR2.out _ _ a4.i2).mono ?_); rintro e w5 ⟨rfl, hw5⟩; have a5 := a4.next hw5; clear a4)
      | (go_at_call 6; (with_reducible refine (HAW.out _ a5.env).mono ?_); rintro e wz ⟨rfl, hz⟩; have hzz := a5.bel.trans (hz.mono a5.bel.size)))
    go_ret
    exact ⟨rfl, hzz⟩
  | true =>
  have s1 : Small v := ⟨hv, by unfold cw at sv; omega, by omega⟩
  have s2 : Small u := ⟨hu, by unfold cw at su; omega, by omega⟩
  have HP1 := Lib.hid fun cs W hE hi => put_yes v s1 cs W hE hi hw1
  have HP2 := Lib.hid fun cs W hE hi => put_yes u s2 cs W hE hi hw2
  have HQ1 := Lib.hid fun cs W hE hi => pre_yes v s1 cs W hE hi hw1
  have HQ2 := Lib.hid fun cs W hE hi => pre_yes u s2 cs W hE hi hw2
  rw [hw1] at HR1
  rw [hw2] at HR2
  obtain ⟨q, hq⟩ : ∃ q, q = smB v u := ⟨_, rfl⟩
  have e1 := same_text (q := q) hq.symm (fun e => congrArg putL e) (put_same hv hu hw1 hw2)
  have e2 := same_text (q := q) hq.symm (fun e => congrArg preL e) (pre_same hv hu hw1 hw2)
  rw [← hq] at HS
  clear hq s1 s2 hw1 hw2 hc1 hc2 hv hu sv su
  generalize (⟨(putL v).toArray⟩ : ByteArray) = S1 at *
  generalize (⟨(putL u).toArray⟩ : ByteArray) = S2 at *
  generalize (⟨(preL v).toArray⟩ : ByteArray) = T1 at *
  generalize (⟨(preL u).toArray⟩ : ByteArray) = T2 at *
  generalize (cnt v : Int) = n1 at *
  generalize (cnt u : Int) = n2 at *
  generalize v.k = k1 at *
  generalize v.n = m1 at *
  generalize v.s = s1 at *
  generalize v.l.length = l1 at *
  generalize u.k = k2 at *
  generalize u.n = m2 at *
  generalize u.s = s2 at *
  generalize u.l.length = l2 at *
  cases q
  all_goals
    go_enter Tryd.func4, Tryd.ntmps4
    go_wp2_with (first
      | (refine wpList_fetch _ rfl _ rfl w.heap.size _ rfl hst.b1 rfl ?_)
      | (go_at_call 5; (with_reducible refine (HC1.out _ _ hst.i1).mono ?_); rintro e w2 ⟨rfl, hw2⟩; have a2 := hst.next hw2; clear hst)
      | (refine wpList_fetch_g _ (by rfl) _ rfl (w.heap.size + 1) _ rfl a2.b2 rfl ?_)
      | (go_at_call 5; (with_reducible refine (HC2.out _ _ a2.i2).mono ?_); rintro e w3 ⟨rfl, hw3⟩; have a3 := a2.next hw3; clear a2)
      | (refine wpList_fetch_g _ (by rfl) _ rfl w.heap.size _ rfl a3.b1 rfl ?_)
      | (go_at_call 11; (with_reducible refine (HR1.out _ _ a3.i1).mono ?_); rintro e w4 ⟨rfl, hw4⟩; have a4 := a3.next hw4; clear a3)
      | (refine wpList_fetch_g _ (by rfl) _ rfl (w.heap.size + 1) _ rfl a4.b2 rfl ?_)
      | (go_at_call 11; (with_reducible refine (HR2.out _ _ a4.i2).mono ?_); rintro e w5 ⟨rfl, hw5⟩; have a5 := a4.next hw5; clear a4)
      | (refine wpList_fetch _ rfl _ rfl w.heap.size _ rfl a5.b1 rfl ?_)
      | (go_at_call 7; (with_reducible refine (HP1.out _ _ a5.env a5.i1).mono ?_); rintro e w6 ⟨rfl, hw6⟩; have a6 := a5.next hw6; clear a5)
      | (refine wpList_fetch _ rfl _ rfl (w.heap.size + 1) _ rfl a6.b2 rfl ?_)
      | (go_at_call 7; (with_reducible refine (HP2.out _ _ a6.env a6.i2).mono ?_); rintro e w7 ⟨rfl, hw7⟩; have a7 := a6.next hw7; clear a6)
      | (refine wpList_fetch _ rfl _ rfl w.heap.size _ rfl a7.b1 rfl ?_)
      | (go_at_call 9; (with_reducible refine (HQ1.out _ _ a7.env a7.i1).mono ?_); rintro e w8 ⟨rfl, hw8⟩; have a8 := a7.next hw8; clear a7)
      | (refine wpList_fetch _ rfl _ rfl (w.heap.size + 1) _ rfl a8.b2 rfl ?_)
      | (go_at_call 9; (with_reducible refine (HQ2.out _ _ a8.env a8.i2).mono ?_); rintro e w9 ⟨rfl, hw9⟩; have a9 := a8.next hw9; clear a8)
      | (refine wpList_fetch _ rfl _ rfl w.heap.size _ rfl a9.b1 rfl ?_)
      | (refine wpList_fetch _ rfl _ rfl (w.heap.size + 1) _ rfl a9.b2 rfl ?_)
      | (go_at_call 12; (with_reducible refine (HS.out _ _ _ a9.i1 a9.i2).mono ?_); rintro e w10 ⟨rfl, hw10⟩; have a10 := a9.next hw10; clear a9)
      | (refine wpList_fetch_g _ (by rfl) _ rfl w.heap.size _ rfl a10.b1 rfl ?_)
      | (refine wpList_fetch_g _ (by rfl) _ rfl (w.heap.size + 1) _ rfl a10.b2 rfl ?_)
      | (go_at_call 12; (with_reducible refine (HS.out _ _ _ a10.i1 a10.i2).mono ?_); rintro e w11 ⟨rfl, hw11⟩; have a11 := a10.next hw11; clear a10)
      | (go_at_call 6; (with_reducible refine (HAW.out _ a11.env).mono ?_); rintro e wz ⟨rfl, hz⟩; have hzz := a11.bel.trans (hz.mono a11.bel.size)))
    go_ret
    exact ⟨rfl, hzz⟩
end Go.Proofs.YtbpofhlnnldceaaDoor.Ren
