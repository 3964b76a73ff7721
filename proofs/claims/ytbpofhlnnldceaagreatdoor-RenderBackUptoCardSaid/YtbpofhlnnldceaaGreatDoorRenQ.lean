/- The law RenderReads. Conditions: the tables of unicode/utf8 and of powers are as the library's text lays them, the two sentinels of strconv hold errors; as each theorem states. -/
import Derived.Test.YtbpofhlnnldceaaGreatDoorRenP
import Derived.Test.YtbpofhlnnldceaaGreatDoorTreG2
namespace Go.Proofs.YtbpofhlnnldceaaGreatDoor.Ren
open Go.RowKit Go.Lib Go.Proofs.YtbpofhlnnldceaaGreatDoor.Byt Go.Proofs.YtbpofhlnnldceaaGreatDoor.Utf Go.Proofs.YtbpofhlnnldceaaGreatDoor.Par
open Go.Proofs.YtbpofhlnnldceaaGreatDoor.Tre (Vt V0 wi dep cnt OkT okV InV InV_iff InV_next InS InS_in Box Box.lt Box.cell Box.next box_new wpList_fetch wpList_fetch_g wpList_keep smB sm_self)

attribute [local irreducible] prS
set_option maxHeartbeats 4000000 in
set_option maxRecDepth 100000 in
theorem reads_any (s : ByteArray) (w : World) (hE : Ev w) :
    Calls Tryz.prog 4 #[.string s] w fun e w' => e = .returned (.bool true) ∧ Below w.heap.size w w' := by
  have HAW := Lib.hid fun W (h : Ev W) => awake_any W h.en
  by_cases h5 : 500 < s.size
  · have g1 : decide ((500 : Int) < (s.size : Int)) = true := decide_eq_true (by omega)
    clear h5
    go_enter Tryz.func4, Tryz.ntmps4
    go_wp2_with (go_at_call 7; (with_reducible refine (HAW.out _ hE).mono ?_); rintro e w2 ⟨rfl, hb2⟩)
    go_ret
    exact ⟨rfl, hb2⟩
  · have g1 : decide ((500 : Int) < (s.size : Int)) = false := decide_eq_false (by omega)
    have hgd := prS_good s (by omega)
    cases hR : prS s with
    | no o er =>
      rw [hR] at hgd
      have her : ((er : Int) != 0) = true := by rw [bne_iff_ne]; have := hgd.2; omega
      have HP := Lib.hid fun W (h : Ev W) => pno hR (by omega) W W h.io
      clear h5 hgd hR
      go_enter Tryz.func4, Tryz.ntmps4
      go_wp2_with (first
        | (go_at_call 10; (with_reducible refine (HP.out _ hE).mono ?_); rintro e w2 ⟨rfl, hb2⟩; have e2 := hE.next (hb2.alloc hb2.size (.cells #[.int .i64 0, .int .i64 0, .string ⟨#[]⟩, .slice none 0 0, .slice none 0 0] 25)); have hb3 := hb2.alloc hb2.size (.cells #[.int .i64 0, .int .i64 0, .string ⟨#[]⟩, .slice none 0 0, .slice none 0 0] 25))
        | (go_at_call 7; (with_reducible refine (HAW.out _ e2).mono ?_); rintro e w4 ⟨rfl, hb4⟩))
      go_ret
      exact ⟨rfl, bel_next hb3 hb4⟩
    | ok v q =>
      rw [hR] at hgd
      obtain ⟨_, _, hok, hw⟩ := hgd
      have hl : s.data.toList.length = s.size := by simp
      have hcw : cw v ≤ s.data.toList.length + 1 := by unfold prS at hR; exact prs_cw hR
      have hsm : Small v := ⟨hok, by unfold cw at hcw; omega, by unfold cw at hcw; omega⟩
      have HP := Lib.hid fun W (h : Ev W) => pok hR (by omega) W W h.io
      have HQ := Lib.hid fun W (h : Ev W) => pok (put_read hsm hw) (put_size hsm) W W h.io
      have HU := Lib.hid fun cs W (h : Ev W) hi => put_yes v hsm cs W h.en hi hw
      have HS := Lib.hid (Tre.psame v hok v hok)
      rw [sm_self] at HS
      generalize (⟨(putL v).toArray⟩ : ByteArray) = T at *
      have hT : (T.toList == T.toList) = true := beq_self_eq_true _
      clear h5 hR hok hw hl hcw hsm
      go_enter Tryz.func4, Tryz.ntmps4
      go_wp2_with (first
        | (go_at_call 10; (with_reducible refine (HP.out _ hE).mono ?_); rintro e w2 ⟨cs, rfl, hS2, hb2⟩; obtain ⟨k, n, x, a, l, cap, c, m, d, rfl⟩ := five (InS_in _ _ hS2); have b2 := Bv.made (InS_in _ _ hS2); have l2 := bel_alloc hb2 (.cells #[.int .i64 k, .int .i64 n, .string x, .slice a l cap, .slice c m d] 25); have e2 := hE.next l2; clear hS2 hb2 hE)
        | (refine wpList_fetch _ rfl _ rfl w2.heap.size _ rfl b2.box rfl ?_)
        | (go_at_call 8; (with_reducible refine (HU.out _ _ e2 b2.inv).mono ?_); rintro e w3 ⟨rfl, hb3⟩; have b3 := b2.next hb3; have e3 := e2.next hb3; have l3 := bel_next l2 hb3; clear b2 e2 l2 hb3)
        | (go_at_call 10; (with_reducible refine (HQ.out _ e3).mono ?_); rintro e w4 ⟨cs, rfl, hS4, hb4⟩; obtain ⟨k', n', x', a', l', cap', c', m', d', rfl⟩ := five (InS_in _ _ hS4); have b4 := Bv.made (InS_in _ _ hS4); have hb5 := hb4.alloc hb4.size (.cells #[.int .i64 k', .int .i64 n', .string x', .slice a' l' cap', .slice c' m' d'] 25); have b5 := b3.next hb5; have e5 := e3.next hb5; have l5 := bel_next l3 hb5; clear hS4 hb4 hb5 b3 e3 l3)
        | (refine wpList_fetch _ rfl _ rfl w4.heap.size _ rfl b4.box rfl ?_)
        | (go_at_call 8; (with_reducible refine (HU.out _ _ e5 b4.inv).mono ?_); rintro e w6 ⟨rfl, hb6⟩; have b6 := b5.next hb6; have b7 := b4.next hb6; have e6 := e5.next hb6; have l6 := bel_next l5 hb6; clear b4 b5 e5 l5 hb6)
        | (refine wpList_fetch_g _ (by rfl) _ rfl w2.heap.size _ rfl b6.box rfl ?_)
        | (refine wpList_fetch_g _ (by rfl) _ rfl w4.heap.size _ rfl b7.box rfl ?_)
        | (go_at_call 13; (with_reducible refine (HS.out _ _ _ b6.inv b7.inv).mono ?_); rintro e w8 ⟨rfl, hb8⟩; have e8 := e6.next hb8; have l8 := bel_next l6 hb8)
        | (go_at_call 7; (with_reducible refine (HAW.out _ e8).mono ?_); rintro e w9 ⟨rfl, hb9⟩))
      go_ret
      exact ⟨rfl, bel_next l8 hb9⟩
end Go.Proofs.YtbpofhlnnldceaaGreatDoor.Ren
