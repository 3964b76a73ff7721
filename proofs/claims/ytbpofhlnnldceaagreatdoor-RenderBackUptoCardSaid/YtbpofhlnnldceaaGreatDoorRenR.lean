/- The law RenderBack. Conditions: the tables of unicode/utf8 and of powers are as the library's text lays them, the two sentinels of strconv hold errors; as each theorem states. -/
import Derived.Test.YtbpofhlnnldceaaGreatDoorRenP
import Derived.Test.YtbpofhlnnldceaaGreatDoorTreRa
import Derived.Test.YtbpofhlnnldceaaGreatDoorTreRb
import Derived.Test.YtbpofhlnnldceaaGreatDoorTreBk
namespace Go.Proofs.YtbpofhlnnldceaaGreatDoor.Ren
open Go.RowKit Go.Lib Go.Proofs.YtbpofhlnnldceaaGreatDoor.Byt Go.Proofs.YtbpofhlnnldceaaGreatDoor.Utf Go.Proofs.YtbpofhlnnldceaaGreatDoor.Par
open Go.Proofs.YtbpofhlnnldceaaGreatDoor.Tre (Vt V0 wi dep cnt OkT okV InV InV_iff InV_next InS InS_in Box Box.lt Box.cell Box.next box_new wpList_fetch wpList_fetch_g wpList_keep smB sm_self wr64 rcount rright rsame)

theorem cnt_small {n : Nat} (h : n ≤ 100000000) : wr64 (n : Int) = (n : Int) := by unfold wr64; rw [IntKind.wrap_i64]; omega
attribute [local irreducible] prS
set_option maxHeartbeats 4000000 in
set_option maxRecDepth 100000 in
theorem back_any (v : Vt) (hv : OkT v) (sv : cw v ≤ 1048576) (cs : List Value) (w : World) (h : InV w v cs) (hE : Ev w) :
    Calls Tryz.prog 3 #[.agg cs.toArray] w fun e w' => e = .returned (.bool true) ∧ Below w.heap.size w w' := by
  have HAW := Lib.hid fun W (h : Ev W) => awake_any W h.en
  have HC := Lib.hid (rcount v hv)
  rw [cnt_small (by unfold cw at sv; omega)] at HC
  have HR := Lib.hid (rright v hv)
  have b0 := Bv.made h
  have l0 := bel_alloc (Below.refl w.heap.size w) (.cells cs.toArray 25)
  have e0 := hE.next l0
  obtain ⟨k, n, x, a, l, cap, c, m, d, rfl⟩ := five h
  clear h hE
  by_cases hc : 300 < cnt v
  · have g1 : decide ((300 : Int) < (cnt v : Int)) = true := decide_eq_true (by omega)
    clear hc hv sv HR
    generalize (cnt v : Int) = N at *
    go_enter Tryz.func3, Tryz.ntmps3
    go_wp2_with (first
      | (refine wpList_fetch _ rfl _ rfl w.heap.size _ rfl b0.box rfl ?_)
      | (go_at_call 5; (with_reducible refine (HC.out _ _ b0.inv).mono ?_); rintro e w2 ⟨rfl, hb2⟩; have e2 := e0.next hb2; have l2 := bel_next l0 hb2; clear b0)
      | (go_at_call 7; (with_reducible refine (HAW.out _ e2).mono ?_); rintro e w3 ⟨rfl, hb3⟩))
    go_ret
    exact ⟨rfl, bel_next l2 hb3⟩
  have g1 : decide ((300 : Int) < (cnt v : Int)) = false := decide_eq_false (by omega)
  cases hw : wi v 64 with
  | false =>
    rw [hw] at HR
    clear hc hv sv hw
    generalize (cnt v : Int) = N at *
    go_enter Tryz.func3, Tryz.ntmps3
    go_wp2_with (first
      | (refine wpList_fetch _ rfl _ rfl w.heap.size _ rfl b0.box rfl ?_)
      | (go_at_call 5; (with_reducible refine (HC.out _ _ b0.inv).mono ?_); rintro e w2 ⟨rfl, hb2⟩; have b2 := b0.next hb2; have e2 := e0.next hb2; have l2 := bel_next l0 hb2; clear b0)
      | (refine wpList_fetch_g _ (by rfl) _ rfl w.heap.size _ rfl b2.box rfl ?_)
      | (go_at_call 6; (with_reducible refine (HR.out _ _ b2.inv).mono ?_); rintro e w3 ⟨rfl, hb3⟩; have e3 := e2.next hb3; have l3 := bel_next l2 hb3; clear b2)
      | (go_at_call 7; (with_reducible refine (HAW.out _ e3).mono ?_); rintro e w4 ⟨rfl, hb4⟩))
    go_ret
    exact ⟨rfl, bel_next l3 hb4⟩
  | true =>
    rw [hw] at HR
    have hsm : Small v := ⟨hv, by unfold cw at sv; omega, by omega⟩
    have HPU := Lib.hid fun cs W (h : Ev W) hi => put_yes v hsm cs W h.en hi hw
    have HPR := Lib.hid fun cs W (h : Ev W) hi => pre_yes v hsm cs W h.en hi hw
    have HP := Lib.hid fun W (h : Ev W) => pok (put_read hsm hw) (put_size hsm) W W h.io
    have HQ := Lib.hid fun W (h : Ev W) => pok (pre_read hsm hw) (pre_size hsm hw) W W h.io
    have HIS := Lib.hid fun W (h : Ev W) => read_is (put_read hsm hw) (put_size hsm) hw W h.env
    have HIT := Lib.hid fun W (h : Ev W) => read_is (pre_read hsm hw) (pre_size hsm hw) hw W h.env
    have HS := Lib.hid (rsame v hv v hv)
    rw [sm_self] at HS
    generalize (⟨(putL v).toArray⟩ : ByteArray) = S at *
    generalize (⟨(preL v).toArray⟩ : ByteArray) = T at *
    clear hc hv sv hw hsm
    generalize (cnt v : Int) = N at *
    go_enter Tryz.func3, Tryz.ntmps3
    go_wp2_with (first
      | (refine wpList_fetch _ rfl _ rfl w.heap.size _ rfl b0.box rfl ?_)
      | (go_at_call 5; (with_reducible refine (HC.out _ _ b0.inv).mono ?_); rintro e w2 ⟨rfl, hb2⟩; have b2 := b0.next hb2; have e2 := e0.next hb2; have l2 := bel_next l0 hb2; clear b0 e0 l0 hb2)
      | (refine wpList_fetch_g _ (by rfl) _ rfl w.heap.size _ rfl b2.box rfl ?_)
      | (go_at_call 6; (with_reducible refine (HR.out _ _ b2.inv).mono ?_); rintro e w3 ⟨rfl, hb3⟩; have b3 := b2.next hb3; have e3 := e2.next hb3; have l3 := bel_next l2 hb3; clear b2 e2 l2 hb3)
      | (refine wpList_fetch _ rfl _ rfl w.heap.size _ rfl b3.box rfl ?_)
      | (go_at_call 8; (with_reducible refine (HPU.out _ _ e3 b3.inv).mono ?_); rintro e w4 ⟨rfl, hb4⟩; have b4 := b3.next hb4; have e4 := e3.next hb4; have l4 := bel_next l3 hb4; clear b3 e3 l3 hb4)
      | (refine wpList_fetch _ rfl _ rfl w.heap.size _ rfl b4.box rfl ?_)
      | (go_at_call 9; (with_reducible refine (HPR.out _ _ e4 b4.inv).mono ?_); rintro e w5 ⟨rfl, hb5⟩; have b5 := b4.next hb5; have e5 := e4.next hb5; have l5 := bel_next l4 hb5; clear b4 e4 l4 hb5)
      | (go_at_call 10; (with_reducible refine (HP.out _ e5).mono ?_); rintro e w6 ⟨cs, rfl, hS6, hb6⟩; obtain ⟨k1, n1, x1, a1, l1, cap1, c1, m1, d1, rfl⟩ := five (InS_in _ _ hS6); have p6 := Bv.made (InS_in _ _ hS6); have hb7 := hb6.alloc hb6.size (.cells #[.int .i64 k1, .int .i64 n1, .string x1, .slice a1 l1 cap1, .slice c1 m1 d1] 25); have b6 := b5.next hb7; have e6 := e5.next hb7; have l6 := bel_next l5 hb7; clear hS6 hb6 hb7 b5 e5 l5)
      | (go_at_call 10; (with_reducible refine (HQ.out _ e6).mono ?_); rintro e w8 ⟨cs, rfl, hS8, hb8⟩; obtain ⟨k2, n2, x2, a2, l2, cap2, c2, m2, d2, rfl⟩ := five (InS_in _ _ hS8); have q8 := Bv.made (InS_in _ _ hS8); have hb9 := hb8.alloc hb8.size (.cells #[.int .i64 k2, .int .i64 n2, .string x2, .slice a2 l2 cap2, .slice c2 m2 d2] 25); have b8 := b6.next hb9; have p8 := p6.next hb9; have e8 := e6.next hb9; have l8 := bel_next l6 hb9; clear hS8 hb8 hb9 b6 p6 e6 l6)
      | (refine wpList_fetch_g _ (by rfl) _ rfl w6.heap.size _ rfl p8.box rfl ?_)
      | (refine wpList_fetch_g _ (by rfl) _ rfl w.heap.size _ rfl b8.box rfl ?_)
      | (go_at_call 11; (with_reducible refine (HS.out _ _ _ p8.inv b8.inv).mono ?_); rintro e w10 ⟨rfl, hb10⟩; have b10 := b8.next hb10; have q10 := q8.next hb10; have e10 := e8.next hb10; have l10 := bel_next l8 hb10; clear b8 q8 p8 e8 l8 hb10)
      | (refine wpList_fetch_g _ (by rfl) _ rfl w8.heap.size _ rfl q10.box rfl ?_)
      | (refine wpList_fetch_g _ (by rfl) _ rfl w.heap.size _ rfl b10.box rfl ?_)
      | (go_at_call 11; (with_reducible refine (HS.out _ _ _ q10.inv b10.inv).mono ?_); rintro e w11 ⟨rfl, hb11⟩; have e11 := e10.next hb11; have l11 := bel_next l10 hb11; clear b10 q10 e10 l10 hb11)
      | (go_at_call 12; (with_reducible refine (HIS.out _ e11).mono ?_); rintro e w12 ⟨rfl, hb12⟩; have e12 := e11.next hb12; have l12 := bel_next l11 hb12; clear e11 l11 hb12)
      | (go_at_call 12; (with_reducible refine (HIT.out _ e12).mono ?_); rintro e w13 ⟨rfl, hb13⟩; have e13 := e12.next hb13; have l13 := bel_next l12 hb13; clear e12 l12 hb13)
      | (go_at_call 7; (with_reducible refine (HAW.out _ e13).mono ?_); rintro e w14 ⟨rfl, hb14⟩))
    go_ret
    exact ⟨rfl, bel_next l13 hb14⟩
end Go.Proofs.YtbpofhlnnldceaaGreatDoor.Ren
