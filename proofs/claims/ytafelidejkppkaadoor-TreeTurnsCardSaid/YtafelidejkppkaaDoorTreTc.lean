/- The law TreeTurns. Conditions: as each theorem states. -/
import Derived.Test.YtafelidejkppkaaDoorTreSc
import Derived.Test.YtafelidejkppkaaDoorTreTb
import Derived.Test.YtafelidejkppkaaDoorTreRa
import Derived.Test.YtafelidejkppkaaDoorTreWs
import Derived.Deep.CutRange
namespace Go.Proofs.YtafelidejkppkaaDoor.Tre
open Go.RowKit Go.Lib Go.Proofs.YtafelidejkppkaaDoor.Byt Go.Proofs.YtafelidejkppkaaDoor.Utf

set_option maxHeartbeats 8000000 in
set_option maxRecDepth 100000 in
theorem turns_any (v : Vt) (hv : OkT v) (cs : List Value) (kk : Nat) (hkk : kk < 256) (w : World) (h : InV w v cs) (hT : Tabs w) :
    Calls Tryd.prog 5 #[.agg cs.toArray, .int .u8 (kk : Int)] w fun e w' => e = .returned (.bool true) ∧ Below w.heap.size w w' := by
  have HAW := Lib.hid awake_any
  have HRC := Lib.hid (rcount v hv)
  have HRR := Lib.hid (rright v hv)
  have HT := Lib.hid hT
  have HIN := Lib.hid h
  have HVT := Lib.hid hv
  have HOK := Lib.hid ((OkT_iff v).1 hv).1
  have HRP := Lib.hid (right_parts (v := v) (m := 64))
  have HTA := Lib.hid fun (i : Nat) (h5 : v.k = 5) (h6 : wi v 64 = true) => turn_al (i := i) h5 h6
  have HTS := Lib.hid fun (i : Nat) (h5 : v.k = 5) (h6 : wi v 64 = true) => turn_srt (i := i) h5 h6
  have HTM := Lib.hid fun (i : Nat) (h5 : v.k = 5) (h6 : wi v 64 = true) (h7 : i < v.l.length) => turn_same (i := i) h5 h6 h7
  have HTF := Lib.hid fun (i j : Nat) (h5 : v.k = 5) (h6 : wi v 64 = true) (h7 : j < v.l.length) => turn_find (i := i) h5 h6 h7
  have B0 := Lib.hid fun o : Obj => (Below.refl w.heap.size w).alloc (Nat.le_refl _) o
  obtain ⟨a, cap, c4, rfl, hit, hr⟩ := (InV_iff w v cs).1 h
  obtain ⟨x4, y4, rfl, hrow⟩ := hr.open_
  have HIT := Lib.hid hit
  have HROW := Lib.hid hrow
  clear hr h hv hT hit hrow
  generalize wi v 64 = R at *
  generalize wr64 (cnt v : Int) = N at *
  have HI0 := Lib.hid HIN.out
  by_cases hN : 300 < N
  · have hN1 : decide (300 < N) = true := decide_eq_true hN
    clear hN HRR HIN HVT HOK HRP HTA HTS HTM HTF HIT HROW
    go_enter Tryd.func5, Tryd.ntmps5
    go_wp2_with (first
      | (refine wpList_fetch _ rfl _ rfl w.heap.size _ rfl (box_new _ _) rfl ?_)
      | (go_at_call 6; (with_reducible refine (HRC.out _ _ (InV_next (B0.out _) _ _ HI0.out)).mono ?_); rintro e w1 ⟨rfl, hb1⟩; have hw1 := (box_after hb1).2)
      | (go_at_call 7; (with_reducible refine (HAW.out _ (HT.out.next hw1)).mono ?_); rintro e w2 ⟨rfl, hb2⟩))
    go_ret
    exact ⟨rfl, next hw1 hb2⟩
  have hN1 : decide (300 < N) = false := decide_eq_false hN
  clear hN
  cases R
  · clear HIN HVT HOK HRP HTA HTS HTM HTF HIT HROW
    go_enter Tryd.func5, Tryd.ntmps5
    go_wp2_with (first
      | (refine wpList_fetch _ rfl _ rfl w.heap.size _ rfl (box_new _ _) rfl ?_)
      | (go_at_call 6; (with_reducible refine (HRC.out _ _ (InV_next (B0.out _) _ _ HI0.out)).mono ?_); rintro e w1 ⟨rfl, hb1⟩; have hw1 := (box_after hb1).2; have bx1 : Box w1 w.heap.size #[.int .i64 v.k, .int .i64 v.n, .string v.s, .slice a v.l.length cap, .slice x4 v.ns.length y4] := (box_after hb1).1)
      | (refine wpList_fetch_g _ (by rfl) _ rfl w.heap.size _ rfl bx1 rfl ?_)
      | (go_at_call 11; (with_reducible refine (HRR.out _ _ (InV_next hw1 _ _ HI0.out)).mono ?_); rintro e w2 ⟨rfl, hb2⟩; have hw2 := next hw1 hb2; have bx2 := Box.next bx1 hb2 (Box.lt bx1); have z0 : w2.cell? ⟨w.heap.size, 0, none⟩ = some (.int .i64 v.k) := bx2.cell 0; have z3 : w2.cell? ⟨w.heap.size, 3, none⟩ = some (.slice a v.l.length cap) := bx2.cell 3; clear bx1)
      | (go_at_call 7; (with_reducible refine (HAW.out _ (HT.out.next hw2)).mono ?_); rintro e w3 ⟨rfl, hb3⟩))
    go_ret
    exact ⟨rfl, next hw2 hb3⟩
  by_cases hk : v.k = 5
  case neg =>
    have k5 : (v.k != 5) = true := by rw [bne_iff_ne]; exact hk
    clear hk
    clear HIN HVT HOK HRP HTA HTS HTM HTF HIT HROW
    go_enter Tryd.func5, Tryd.ntmps5
    go_wp2_with (first
      | (refine wpList_fetch _ rfl _ rfl w.heap.size _ rfl (box_new _ _) rfl ?_)
      | (go_at_call 6; (with_reducible refine (HRC.out _ _ (InV_next (B0.out _) _ _ HI0.out)).mono ?_); rintro e w1 ⟨rfl, hb1⟩; have hw1 := (box_after hb1).2; have bx1 : Box w1 w.heap.size #[.int .i64 v.k, .int .i64 v.n, .string v.s, .slice a v.l.length cap, .slice x4 v.ns.length y4] := (box_after hb1).1)
      | (refine wpList_fetch_g _ (by rfl) _ rfl w.heap.size _ rfl bx1 rfl ?_)
      | (go_at_call 11; (with_reducible refine (HRR.out _ _ (InV_next hw1 _ _ HI0.out)).mono ?_); rintro e w2 ⟨rfl, hb2⟩; have hw2 := next hw1 hb2; have bx2 := Box.next bx1 hb2 (Box.lt bx1); have z0 : w2.cell? ⟨w.heap.size, 0, none⟩ = some (.int .i64 v.k) := bx2.cell 0; have z3 : w2.cell? ⟨w.heap.size, 3, none⟩ = some (.slice a v.l.length cap) := bx2.cell 3; clear bx1)
      | (go_at_call 7; (with_reducible refine (HAW.out _ (HT.out.next hw2)).mono ?_); rintro e w3 ⟨rfl, hb3⟩))
    go_ret
    exact ⟨rfl, next hw2 hb3⟩
  have k5 : (v.k != 5) = false := by rw [hk]; rfl
  by_cases hl0 : v.l.length = 0
  · have l0 : ((v.l.length : Int) == 0) = true := by rw [hl0]; rfl
    clear hl0 hk
    clear HIN HVT HOK HRP HTA HTS HTM HTF HIT HROW
    go_enter Tryd.func5, Tryd.ntmps5
    go_wp2_with (first
      | (refine wpList_fetch _ rfl _ rfl w.heap.size _ rfl (box_new _ _) rfl ?_)
      | (go_at_call 6; (with_reducible refine (HRC.out _ _ (InV_next (B0.out _) _ _ HI0.out)).mono ?_); rintro e w1 ⟨rfl, hb1⟩; have hw1 := (box_after hb1).2; have bx1 : Box w1 w.heap.size #[.int .i64 v.k, .int .i64 v.n, .string v.s, .slice a v.l.length cap, .slice x4 v.ns.length y4] := (box_after hb1).1)
      | (refine wpList_fetch_g _ (by rfl) _ rfl w.heap.size _ rfl bx1 rfl ?_)
      | (go_at_call 11; (with_reducible refine (HRR.out _ _ (InV_next hw1 _ _ HI0.out)).mono ?_); rintro e w2 ⟨rfl, hb2⟩; have hw2 := next hw1 hb2; have bx2 := Box.next bx1 hb2 (Box.lt bx1); have z0 : w2.cell? ⟨w.heap.size, 0, none⟩ = some (.int .i64 v.k) := bx2.cell 0; have z3 : w2.cell? ⟨w.heap.size, 3, none⟩ = some (.slice a v.l.length cap) := bx2.cell 3; clear bx1)
      | (go_at_call 7; (with_reducible refine (HAW.out _ (HT.out.next hw2)).mono ?_); rintro e w3 ⟨rfl, hb3⟩))
    go_ret
    exact ⟨rfl, next hw2 hb3⟩
  have l0 : ((v.l.length : Int) == 0) = false := by rw [beq_eq_false_iff_ne]; omega
  have HG := Lib.hid ((HRP.out (by first | rfl | trivial)).1 hk)
  obtain ⟨q, hq⟩ : ∃ q, q = kk % v.l.length := ⟨_, rfl⟩
  have hql : q < v.l.length := hq ▸ Nat.mod_lt _ (by omega)
  have m1 : (kk : Int).tmod (v.l.length : Int) = (q : Int) := by rw [Int.tmod_eq_emod_of_nonneg (by omega), hq]; rfl
  have hlz : (v.l.length : Int) ≠ 0 := by omega
  have hmx : v.l.length ≤ 9223372036854775807 := by have := HOK.out.2.2.2.1; omega
  have hm80 : v.l.length * 80 ≤ 140737488351232 := HOK.out.2.2.2.1
  have HKQ := Lib.hid hq
  have HK5 := Lib.hid hk
  clear hq hk hl0
  go_enter Tryd.func5, Tryd.ntmps5
  go_wp2_with (first
      | (refine wpList_fetch _ rfl _ rfl w.heap.size _ rfl (box_new _ _) rfl ?_)
      | (go_at_call 6; (with_reducible refine (HRC.out _ _ (InV_next (B0.out _) _ _ HI0.out)).mono ?_); rintro e w1 ⟨rfl, hb1⟩; have hw1 := (box_after hb1).2; have bx1 : Box w1 w.heap.size #[.int .i64 v.k, .int .i64 v.n, .string v.s, .slice a v.l.length cap, .slice x4 v.ns.length y4] := (box_after hb1).1)
      | (refine wpList_fetch_g _ (by rfl) _ rfl w.heap.size _ rfl bx1 rfl ?_)
      | (go_at_call 11; (with_reducible refine (HRR.out _ _ (InV_next hw1 _ _ HI0.out)).mono ?_); rintro e w2 ⟨rfl, hb2⟩; have hw2 := next hw1 hb2; have bx2 := Box.next bx1 hb2 (Box.lt bx1); have z0 : w2.cell? ⟨w.heap.size, 0, none⟩ = some (.int .i64 v.k) := bx2.cell 0; have z3 : w2.cell? ⟨w.heap.size, 3, none⟩ = some (.slice a v.l.length cap) := bx2.cell 3; clear bx1)
      | (refine wpList_keep _ rfl _ _ rfl w2.heap.size w2 ((Below.refl _ w2).alloc (Nat.le_refl _) _) w2.heap.size (Nat.le_refl _) #[.int .i64 5, .int .i64 0, .string ⟨#[]⟩, .slice none 0 0, .slice none 0 0] _ rfl rfl (box_new _ _) rfl rfl (by intro u hu; simp only [List.mem_cons, List.not_mem_nil, or_false] at hu; rcases hu with rfl | rfl | rfl | rfl | rfl <;> rfl) ?_; intro w4 bx4 hb4 _ hs4; clear hs4; have bx2' := Box.next bx2 hb4 (Box.lt bx2); have hw4 := next hw2 hb4; have z3' : w4.cell? ⟨w.heap.size, 3, none⟩ = some (.slice a v.l.length cap) := bx2'.cell 3))
  have hT0 : Tn w w2.heap.size #[.int .i64 v.k, .int .i64 v.n, .string v.s, .slice a v.l.length cap, .slice x4 v.ns.length y4] (rot v.l q) (rot v.ns q) w4 0 0 (.slice none 0 0) (.slice none 0 0) [] :=
    ⟨OwnR.nil _ _, rfl, fun j hj => absurd hj (Nat.not_lt_zero _), Strs.Own.nil _ _, bx2', bx4, hw4, bx2.lt⟩
  clear bx2' bx4 hb4 hw4 z3' z3 z0 hb1 hw1 hb2 bx2 hw2 HRC HRR l0 hN1
  go_loopw [44] (fun x wr => ∃ (i : Nat) (c3 c4 : Value) (D : List (List Value)), x = .int .i64 (i : Int) ∧ i ≤ v.l.length ∧ Tn w w2.heap.size #[.int .i64 v.k, .int .i64 v.n, .string v.s, .slice a v.l.length cap, .slice x4 v.ns.length y4] (rot v.l q) (rot v.ns q) wr i i c3 c4 D)
    (fun x _ => v.l.length - (RowKit.intOf x).toNat)
  case atStart => exact ⟨0, _, _, _, by go_num, by omega, hT0⟩
  case round =>
    clear hT0
    generalize w2.heap.size = G at *
    obtain ⟨i, c3, c4, D, rfl, hi, hT⟩ := hrel
    obtain ⟨o1, o2, o3, o4, o5, o6, o7, o8⟩ := id hT
    by_cases hlt : i < v.l.length
    · obtain ⟨jj, hjj⟩ : ∃ j, j = (i + q) % v.l.length := ⟨_, rfl⟩
      have hj : jj < v.l.length := hjj ▸ Nat.mod_lt _ (by omega)
      have hj2 : jj < v.ns.length := by rw [HG.out.1]; exact hj
      have m2 : ((i : Int) + (q : Int)) % (v.l.length : Int) = (jj : Int) := by rw [hjj]; rfl
      have HL := Lib.hid (show (rot v.l q).getD i V0 = v.l.getD jj V0 by rw [hjj]; exact rot_get V0 v.l hql hlt)
      have HN := Lib.hid (show (rot v.ns q).take (i + 1) = (rot v.ns q).take i ++ [v.ns.getD jj ⟨#[]⟩] by
        rw [take_next _ _ (by rw [rot_len, HG.out.1]; exact hlt), rot_get ⟨#[]⟩ v.ns (by rw [HG.out.1]; exact hql) (by rw [HG.out.1]; exact hlt), HG.out.1, ← hjj])
      obtain ⟨b, off, rfl, ds, hrg, hin⟩ := HIT.out jj hj
      have hrg2 := range_next hrg o7
      rw [Nat.mul_comm 5 jj] at hrg2
      obtain ⟨e1, e2, e3, rfl⟩ := InV_cells hin
      obtain ⟨X, hX⟩ : ∃ X, X = v.l.getD jj V0 := ⟨_, rfl⟩
      rw [← hX] at HL hin hrg2
      have r0 : wr.cell? ⟨b, off + jj * 5, none⟩ = some (.int .i64 X.k) := hrg2 0 _ rfl
      have r1 := hrg2 1 _ rfl
      have r2 := hrg2 2 _ rfl
      have r3 := hrg2 3 _ rfl
      have r4 := hrg2 4 _ rfl
      have y3 : wr.cell? ⟨w.heap.size, 3, none⟩ = some (.slice (some ⟨b, off, none⟩) v.l.length cap) := o5.cell 3
      have y0 : wr.cell? ⟨G, 3, none⟩ = some c3 := o6.cell 3
      have ya : ∀ o, (wr.alloc o).cell? ⟨G, 3, none⟩ = some c3 := fun o => (World.cell?_of_block (a := ⟨G, 3, none⟩) (Below.heap_alloc wr o _ o6.lt)).trans y0
      have e1' := InS_one hin
      have hlim : (D.length + 1) * 80 ≤ 140737488355328 := by have := HOK.out.2.2.2.1; omega
      have hlg : G + 1 ≤ wr.heap.size := o6.lt
      have HTT := Lib.hid hT
      have O1 := Lib.hid o1
      have HI := Lib.hid hin
      clear hX hin hrg hrg2 hT o1 o2 o3 o4 o5 o6 o7 o8 hjj HIT
      go_wp2_with fail
      go_region_law (refine step_vpush _ (by rfl) (.tmp 55) (.tmp 61) (by rfl) (G + 1) c3 D (by rfl) (by exact O1.out.alloc _) (by simp; omega) _ _ (by rfl) _ (by exact box_newd _ _) rfl e1' hlim ?_; intro v' w5 hv5 hg5 hk5; obtain ⟨a9, n9, p9, e9⟩ : ∃ a n p, v' = .slice a n p := (by obtain ⟨x, y, q, _⟩ := hv5.open_; exact ⟨_, _, _, q⟩); subst e9; have hg5' : (wr.alloc (.cells _ 25 (0, 0))).grownBy w5 c3.ownBlock := (by exact ⟨hg5.os, hg5.tape, hg5.output, hg5.size, hg5.block⟩); have bx5 := Tn.box3 HTT.out (Below.refl _ _) hg5'; have f3 : w5.cell? ⟨G, 3, none⟩ = some c3 := bx5.cell 3; have ff : ∀ j, w5.frozen? ⟨G, j, none⟩ = false := fun j => bx5.free j)
      all_goals
        have hT2 := Tn.item HTT.out (Below.refl _ _) (HL.out ▸ HI.out) hv5 hg5'
        clear bx5 f3 ff hg5 hg5' hk5 hv5 r0 r1 r2 r3 r4 y3 y0 ya e1' hlim HI HTT O1 HL HI0
        generalize w5.setCell ⟨G, 3, none⟩ (.slice a9 n9 p9) = w6 at *
        clear hlg
        obtain ⟨p1, p2, p3, p4, p5, p6, p7, p8⟩ := id hT2
        obtain ⟨b2, off2, hx4, hcell⟩ := HROW.out jj hj2
        subst hx4
        have hc2 := (p7.cell (Strs.cell_lt hcell)).trans hcell
        obtain ⟨t, htt⟩ : ∃ t, t = v.ns.getD jj ⟨#[]⟩ := ⟨_, rfl⟩
        rw [← htt] at hc2 HN
        have n3 : w6.cell? ⟨w.heap.size, 4, none⟩ = some (.slice (some ⟨b2, off2, none⟩) v.ns.length y4) := p5.cell 4
        have n0 : w6.cell? ⟨G, 4, none⟩ = some c4 := p6.cell 4
        have na : ∀ o, (w6.alloc o).cell? ⟨G, 4, none⟩ = some c4 := fun o => (World.cell?_of_block (a := ⟨G, 4, none⟩) (Below.heap_alloc w6 o _ p6.lt)).trans n0
        have hlim : (((rot v.ns q).take i).length + 1) * 16 ≤ 140737488355328 := by rw [List.length_take, rot_len]; have := HOK.out.2.2.2.2.1; omega
        have hlg : G + 1 ≤ w6.heap.size := p6.lt
        have HT2 := Lib.hid hT2
        have O4 := Lib.hid p4
        clear hcell htt hT2 p1 p2 p3 p4 p5 p6 p7 p8 HROW
        go_wp2_with fail
        go_region_law (refine step_npush _ (by rfl) (.tmp 65) (.tmp 71) (by rfl) (G + 1) c4 ((rot v.ns q).take i) (by rfl) (by exact O4.out.alloc _) (by simp; omega) _ _ (by rfl) t (0, 0) (by first | exact heap_alloc_new _ _ | exact heap_newd _ _) hlim ?_; intro v' w7 hv7 hg7 hk7; obtain ⟨a8, n8, p8, e8⟩ : ∃ a n p, v' = .slice a n p := (by obtain ⟨x, y, q, _⟩ := hv7.row.open_; exact ⟨_, _, _, q⟩); subst e8; have hg7' : (w6.alloc (.cells _ 9 (0, 0))).grownBy w7 c4.ownBlock := (by exact ⟨hg7.os, hg7.tape, hg7.output, hg7.size, hg7.block⟩); have bx7 := Tn.box4 HT2.out (Below.refl _ _) hg7'; have f4 : w7.cell? ⟨G, 4, none⟩ = some c4 := bx7.cell 4; have ff : ∀ j, w7.frozen? ⟨G, j, none⟩ = false := fun j => bx7.free j)
        all_goals
          have hT3 := Tn.name HT2.out (Below.refl _ _) HN.out hv7 hg7'
          clear bx7 f4 ff hg7 hg7' hk7 hv7 n3 n0 na hlim HT2 O4 hc2
          generalize w7.setCell ⟨G, 4, none⟩ (.slice a8 n8 p8) = w8 at *
          go_wp2_with fail
          go_roundw
          case rel => exact ⟨i + 1, _, _, _, by go_num, by omega, hT3⟩
          case measure => simp [RowKit.intOf]; omega
    · obtain rfl : i = v.l.length := by omega
      have hTi := Tn.inv (L := rot v.l q) (NS := rot v.ns q) (by rw [rot_len, rot_len, HG.out.1]; exact hT)
      obtain ⟨TU, hTU⟩ : ∃ u, u = turn v.l v.ns q := ⟨_, rfl⟩
      have HOU := Lib.hid (show OkT TU from hTU ▸ OkT_turn HVT.out q)
      have HTF2 := Lib.hid fun (j : Nat) (h7 : j < v.l.length) => HTF.out q j HK5.out (by first | rfl | trivial) h7
      have HTA2 := Lib.hid (HTA.out q HK5.out (by first | rfl | trivial))
      have HTS2 := Lib.hid (HTS.out q HK5.out (by first | rfl | trivial))
      have HTM2 := Lib.hid (HTM.out q HK5.out (by first | rfl | trivial) hql)
      rw [← hTU] at HTF2 HTA2 HTS2 HTM2
      have hTi' : InV wr TU [.int .i64 5, .int .i64 0, .string ⟨#[]⟩, c3, c4] := hTU ▸ hTi
      have sbr : SB w v TU G [.int .i64 v.k, .int .i64 v.n, .string v.s, .slice a v.l.length cap, .slice x4 v.ns.length y4] [.int .i64 5, .int .i64 0, .string ⟨#[]⟩, c3, c4] wr := sb_mk o5 o6 (InV_next o7 _ _ HIN.out) hTi' o7 (HT.out.next o7)
      have s4 : wr.cell? ⟨w.heap.size, 4, none⟩ = some (.slice x4 v.ns.length y4) := o5.cell 4
      have hmn : v.ns.length ≤ 9223372036854775807 := by rw [HG.out.1]; omega
      clear hT o1 o2 o3 o4 o5 o6 o7 o8 hTi hTi' hTU HTF HTA HTS HTM HRP k5 m1 hlz HKQ hi hlt
      go_wp2_with fail
      go_loopw [78] (fun x wr => ∃ i : Nat, x = .int .i64 (i : Int) ∧ i ≤ v.ns.length ∧ SB w v TU G [.int .i64 v.k, .int .i64 v.n, .string v.s, .slice a v.l.length cap, .slice x4 v.ns.length y4] [.int .i64 5, .int .i64 0, .string ⟨#[]⟩, c3, c4] wr)
        (fun x _ => v.ns.length - (RowKit.intOf x).toNat)
      case atStart => exact ⟨0, by go_num, by omega, sbr⟩
      case round =>
        clear sbr s4
        obtain ⟨i, rfl, hi, sbr⟩ := hrel
        by_cases hlt : i < v.ns.length
        · have hil : i < v.l.length := by rw [← HG.out.1]; exact hlt
          obtain ⟨f1, f2⟩ := HTF2.out i hil
          obtain ⟨b, off, rfl, ds, hrg, hin⟩ := HIT.out i hil
          obtain ⟨b2, off2, rfl, hcell⟩ := HROW.out i hlt
          obtain ⟨t, htt⟩ : ∃ t, t = v.ns.getD i ⟨#[]⟩ := ⟨_, rfl⟩
          rw [← htt] at f1 f2 hcell
          have H1 := Lib.hid (pfindS v HVT.out t)
          have H2 := Lib.hid (pfindS TU HOU.out t)
          rw [f1] at H1
          rw [f2] at H2
          simp only [Option.isSome_some, Option.getD_some] at H1 H2
          have hob : Below w.heap.size w wr := sb_bel sbr
          have c1 := (hob.cell (Strs.cell_lt hcell)).trans hcell
          have s0 : wr.cell? ⟨w.heap.size, 0, none⟩ = some (.int .i64 v.k) := (sb_b1 sbr).cell 0
          have s1 : wr.cell? ⟨w.heap.size, 1, none⟩ = some (.int .i64 v.n) := (sb_b1 sbr).cell 1
          have s2 : wr.cell? ⟨w.heap.size, 2, none⟩ = some (.string v.s) := (sb_b1 sbr).cell 2
          have s3 : wr.cell? ⟨w.heap.size, 3, none⟩ = some (.slice (some ⟨b, off, none⟩) v.l.length cap) := (sb_b1 sbr).cell 3
          have s4 : wr.cell? ⟨w.heap.size, 4, none⟩ = some (.slice (some ⟨b2, off2, none⟩) v.ns.length y4) := (sb_b1 sbr).cell 4
          have HRG := Lib.hid hrg
          have HIX := Lib.hid hin
          have HCE := Lib.hid hcell
          have sbd := SB.drew sbr
          have hbe : Below wr.heap.size wr (wr.alloc (.cells #[.int .i64 0, .int .i64 0, .string ⟨#[]⟩, .slice none 0 0, .slice none 0 0] 25 (0, 0))).drew := ((Below.refl _ wr).alloc (Nat.le_refl _) _).drew
          have sbe := SB.next sbr hbe
          have hze : (wr.alloc (.cells #[.int .i64 0, .int .i64 0, .string ⟨#[]⟩, .slice none 0 0, .slice none 0 0] 25 (0, 0))).drew.heap.size = wr.heap.size + 1 := by show (wr.alloc _).heap.size = _; simp
          have HBE := Lib.hid (box_newd wr #[.int .i64 0, .int .i64 0, .string ⟨#[]⟩, .slice none 0 0, .slice none 0 0])
          have al : ∀ (b j : Nat) (u : Value), wr.cell? ⟨b, j, none⟩ = some u → (wr.alloc (.cells #[.int .i64 0, .int .i64 0, .string ⟨#[]⟩, .slice none 0 0, .slice none 0 0] 25 (0, 0))).cell? ⟨b, j, none⟩ = some u := fun b j u h => Lib.cell?_alloc_some _ h
          have x0 := al _ _ _ s0
          have x1 := al _ _ _ s1
          have x2 := al _ _ _ s2
          have x3 := al _ _ _ s3
          have x4 := al _ _ _ s4
          have xc := al _ _ _ c1
          clear htt f1 f2 hrg hin hcell HIT HROW HTF2 hob al
          have hd0 : Below wr.heap.size wr wr.drew := (Below.refl _ _).drew
          go_wp2_with fail
          go_cut [10, 11] from 80 to 123 (fun p ok wx => ok = .bool true ∧ ∃ g1 cx, p = .pointer (some ⟨g1, 0, none⟩) ∧ Fo wr wx (v.l.getD i V0) g1 cx)
          case first =>
            go_region_with (first
              | (go_at_call 8; (with_reducible refine (H1.out _ _ (sb_in sbe)).mono ?_); rintro e w3 ⟨d3, rfl, hi3, hb3⟩; obtain ⟨ek, en, es, ea, el, ep, ea2, el2, ep2, hes⟩ := InV_shp (InS_in _ _ hi3); subst hes; have bz := Box.next HBE.out hb3 (by omega); obtain ⟨zc0, zc1, zc2, zc3, zc4, zf⟩ := box_cells5 bz; have hfo := Fo.store (Tre.next hbe hb3) (InS_upd (fun b hb' _ => ⟨rfl, by omega⟩) _ _ hi3) bz rfl)
              | (go_at_call 8; (with_reducible refine (H1.out _ _ (sb_in sbd)).mono ?_); rintro e w3 ⟨d3, rfl, hi3, hb3⟩; obtain ⟨ek, en, es, ea, el, ep, ea2, el2, ep2, hes⟩ := InV_shp (InS_in _ _ hi3); subst hes; have hfo := Fo.alloc (Tre.next hd0 hb3) (InS_in _ _ hi3)))
            all_goals
              go_wp2_with fail
              go_meet
              first
                | exact ⟨rfl, _, _, rfl, hfo⟩
                | exact ⟨rfl, _, _, rfl, hfo.drew⟩
          case rest =>
            rename World => wa
            obtain ⟨rfl, g1, cx, rfl, hfo⟩ := hcut
            clear x0 x1 x2 x3 x4 xc s0 s1 s2 s3 s4 c1 sbd sbe hze hbe hd0 HBE H1
            obtain ⟨X, hX⟩ : ∃ X, X = v.l.getD i V0 := ⟨_, rfl⟩
            rw [← hX] at hfo H2 HIX
            have HXX := Lib.hid hX
            clear hX
            have sbc := SB.next sbr hfo.2.2
            clear sbr
            have hob : Below w.heap.size w wa := sb_bel sbc
            have c1 := (hob.cell (Strs.cell_lt HCE.out)).trans HCE.out
            have s0 : wa.cell? ⟨G, 0, none⟩ = some (.int .i64 5) := (sb_b2 sbc).cell 0
            have s1 : wa.cell? ⟨G, 1, none⟩ = some (.int .i64 0) := (sb_b2 sbc).cell 1
            have s2 : wa.cell? ⟨G, 2, none⟩ = some (.string ⟨#[]⟩) := (sb_b2 sbc).cell 2
            have s3 : wa.cell? ⟨G, 3, none⟩ = some c3 := (sb_b2 sbc).cell 3
            have s4 : wa.cell? ⟨G, 4, none⟩ = some c4 := (sb_b2 sbc).cell 4
            have s5 : wa.cell? ⟨w.heap.size, 4, none⟩ = some (.slice (some ⟨b2, off2, none⟩) v.ns.length y4) := (sb_b1 sbc).cell 4
            have sbd := SB.drew sbc
            have hbe : Below wa.heap.size wa (wa.alloc (.cells #[.int .i64 0, .int .i64 0, .string ⟨#[]⟩, .slice none 0 0, .slice none 0 0] 25 (0, 0))).drew := ((Below.refl _ wa).alloc (Nat.le_refl _) _).drew
            have sbe := SB.next sbc hbe
            have hze : (wa.alloc (.cells #[.int .i64 0, .int .i64 0, .string ⟨#[]⟩, .slice none 0 0, .slice none 0 0] 25 (0, 0))).drew.heap.size = wa.heap.size + 1 := by show (wa.alloc _).heap.size = _; simp
            have HBE := Lib.hid (box_newd wa #[.int .i64 0, .int .i64 0, .string ⟨#[]⟩, .slice none 0 0, .slice none 0 0])
            have al : ∀ (b j : Nat) (u : Value), wa.cell? ⟨b, j, none⟩ = some u → (wa.alloc (.cells #[.int .i64 0, .int .i64 0, .string ⟨#[]⟩, .slice none 0 0, .slice none 0 0] 25 (0, 0))).cell? ⟨b, j, none⟩ = some u := fun b j u h => Lib.cell?_alloc_some _ h
            have x0 := al _ _ _ s0
            have x1 := al _ _ _ s1
            have x2 := al _ _ _ s2
            have x3 := al _ _ _ s3
            have x4 := al _ _ _ s4
            have x5 := al _ _ _ s5
            have xc := al _ _ _ c1
            have hd0 : Below wa.heap.size wa wa.drew := (Below.refl _ _).drew
            have HFO := Lib.hid hfo
            clear al hob hfo
            go_wp2_with fail
            go_cut [12, 13] from 80 to 123 (fun p ok wx => ok = .bool true ∧ ∃ g2 cy, p = .pointer (some ⟨g2, 0, none⟩) ∧ Fo wa wx X g2 cy)
            case first =>
              go_region_with (first
                | (go_at_call 8; (with_reducible refine (H2.out _ _ (sb_iu sbe)).mono ?_); rintro e w3 ⟨d3, rfl, hi3, hb3⟩; obtain ⟨ek, en, es, ea, el, ep, ea2, el2, ep2, hes⟩ := InV_shp (InS_in _ _ hi3); subst hes; have bz := Box.next HBE.out hb3 (by omega); obtain ⟨zc0, zc1, zc2, zc3, zc4, zf⟩ := box_cells5 bz; have hfo := Fo.store (Tre.next hbe hb3) (InS_upd (fun b hb' _ => ⟨rfl, by omega⟩) _ _ hi3) bz rfl)
                | (go_at_call 8; (with_reducible refine (H2.out _ _ (sb_iu sbd)).mono ?_); rintro e w3 ⟨d3, rfl, hi3, hb3⟩; obtain ⟨ek, en, es, ea, el, ep, ea2, el2, ep2, hes⟩ := InV_shp (InS_in _ _ hi3); subst hes; have hfo := Fo.alloc (Tre.next hd0 hb3) (InS_in _ _ hi3)))
              all_goals
                go_wp2_with fail
                go_meet
                first
                  | exact ⟨rfl, _, _, rfl, hfo⟩
                  | exact ⟨rfl, _, _, rfl, hfo.drew⟩
            case rest =>
              rename World => wb
              obtain ⟨rfl, g2, cy, rfl, hfo2⟩ := hcut
              clear x0 x1 x2 x3 x4 x5 xc s0 s1 s2 s3 s4 s5 c1 sbd sbe hze hbe hd0 HBE H2
              obtain ⟨ek, en, es, ea, el, ep, ea2, el2, ep2, hes⟩ := InV_shp HFO.out.2.1
              subst hes
              obtain ⟨fk, fn, fs, fa, fl, fp, fa2, fl2, fp2, hfs⟩ := InV_shp hfo2.2.1
              subst hfs
              have scb : SC w v TU X G g1 g2 [.int .i64 v.k, .int .i64 v.n, .string v.s, .slice (some ⟨b, off, none⟩) v.l.length cap, .slice (some ⟨b2, off2, none⟩) v.ns.length y4] [.int .i64 5, .int .i64 0, .string ⟨#[]⟩, c3, c4] [.int .i64 ek, .int .i64 en, .string es, .slice ea el ep, .slice ea2 el2 ep2] [.int .i64 fk, .int .i64 fn, .string fs, .slice fa fl fp, .slice fa2 fl2 fp2] wb := sc_mk (SB.next sbc hfo2.2.2) (Box.next HFO.out.1 hfo2.2.2 (Box.lt HFO.out.1)) hfo2.1 (InV_next hfo2.2.2 _ _ HFO.out.2.1) hfo2.2.1
              clear HFO hfo2 sbc HCE
              obtain ⟨ik, iN, iS, ia, il, ip, ia2, il2, ip2, hds⟩ := InV_shp HIX.out
              subst hds
              have HI0 : ∀ W, SC w v TU X G g1 g2 [.int .i64 v.k, .int .i64 v.n, .string v.s, .slice (some ⟨b, off, none⟩) v.l.length cap, .slice (some ⟨b2, off2, none⟩) v.ns.length y4] [.int .i64 5, .int .i64 0, .string ⟨#[]⟩, c3, c4] [.int .i64 ek, .int .i64 en, .string es, .slice ea el ep, .slice ea2 el2 ep2] [.int .i64 fk, .int .i64 fn, .string fs, .slice fa fl fp, .slice fa2 fl2 fp2] W → InV W X [.int .i64 ik, .int .i64 iN, .string iS, .slice ia il ip, .slice ia2 il2 ip2] := fun W h => InV_next (sb_bel (SC.sb h)) _ _ HIX.out
              have RG : ∀ W, SC w v TU X G g1 g2 [.int .i64 v.k, .int .i64 v.n, .string v.s, .slice (some ⟨b, off, none⟩) v.l.length cap, .slice (some ⟨b2, off2, none⟩) v.ns.length y4] [.int .i64 5, .int .i64 0, .string ⟨#[]⟩, c3, c4] [.int .i64 ek, .int .i64 en, .string es, .slice ea el ep, .slice ea2 el2 ep2] [.int .i64 fk, .int .i64 fn, .string fs, .slice fa fl fp, .slice fa2 fl2 fp2] W → W.rangeAt b (off + 5 * i) [.int .i64 ik, .int .i64 iN, .string iS, .slice ia il ip, .slice ia2 il2 ip2] := fun W h => range_next HRG.out (sb_bel (SC.sb h))
              have i0 : ∀ W, SC w v TU X G g1 g2 [.int .i64 v.k, .int .i64 v.n, .string v.s, .slice (some ⟨b, off, none⟩) v.l.length cap, .slice (some ⟨b2, off2, none⟩) v.ns.length y4] [.int .i64 5, .int .i64 0, .string ⟨#[]⟩, c3, c4] [.int .i64 ek, .int .i64 en, .string es, .slice ea el ep, .slice ea2 el2 ep2] [.int .i64 fk, .int .i64 fn, .string fs, .slice fa fl fp, .slice fa2 fl2 fp2] W → W.cell? ⟨b, off + i * 5, none⟩ = some (.int .i64 ik) := fun W h => by have := RG W h 0 _ rfl; rwa [Nat.mul_comm 5 i] at this
              have i1 : ∀ W, SC w v TU X G g1 g2 [.int .i64 v.k, .int .i64 v.n, .string v.s, .slice (some ⟨b, off, none⟩) v.l.length cap, .slice (some ⟨b2, off2, none⟩) v.ns.length y4] [.int .i64 5, .int .i64 0, .string ⟨#[]⟩, c3, c4] [.int .i64 ek, .int .i64 en, .string es, .slice ea el ep, .slice ea2 el2 ep2] [.int .i64 fk, .int .i64 fn, .string fs, .slice fa fl fp, .slice fa2 fl2 fp2] W → W.cell? ⟨b, off + i * 5 + 1, none⟩ = some (.int .i64 iN) := fun W h => by have := RG W h 1 _ rfl; rwa [Nat.mul_comm 5 i] at this
              have i2 : ∀ W, SC w v TU X G g1 g2 [.int .i64 v.k, .int .i64 v.n, .string v.s, .slice (some ⟨b, off, none⟩) v.l.length cap, .slice (some ⟨b2, off2, none⟩) v.ns.length y4] [.int .i64 5, .int .i64 0, .string ⟨#[]⟩, c3, c4] [.int .i64 ek, .int .i64 en, .string es, .slice ea el ep, .slice ea2 el2 ep2] [.int .i64 fk, .int .i64 fn, .string fs, .slice fa fl fp, .slice fa2 fl2 fp2] W → W.cell? ⟨b, off + i * 5 + 2, none⟩ = some (.string iS) := fun W h => by have := RG W h 2 _ rfl; rwa [Nat.mul_comm 5 i] at this
              have i3 : ∀ W, SC w v TU X G g1 g2 [.int .i64 v.k, .int .i64 v.n, .string v.s, .slice (some ⟨b, off, none⟩) v.l.length cap, .slice (some ⟨b2, off2, none⟩) v.ns.length y4] [.int .i64 5, .int .i64 0, .string ⟨#[]⟩, c3, c4] [.int .i64 ek, .int .i64 en, .string es, .slice ea el ep, .slice ea2 el2 ep2] [.int .i64 fk, .int .i64 fn, .string fs, .slice fa fl fp, .slice fa2 fl2 fp2] W → W.cell? ⟨b, off + i * 5 + 3, none⟩ = some (.slice ia il ip) := fun W h => by have := RG W h 3 _ rfl; rwa [Nat.mul_comm 5 i] at this
              have i4 : ∀ W, SC w v TU X G g1 g2 [.int .i64 v.k, .int .i64 v.n, .string v.s, .slice (some ⟨b, off, none⟩) v.l.length cap, .slice (some ⟨b2, off2, none⟩) v.ns.length y4] [.int .i64 5, .int .i64 0, .string ⟨#[]⟩, c3, c4] [.int .i64 ek, .int .i64 en, .string es, .slice ea el ep, .slice ea2 el2 ep2] [.int .i64 fk, .int .i64 fn, .string fs, .slice fa fl fp, .slice fa2 fl2 fp2] W → W.cell? ⟨b, off + i * 5 + 4, none⟩ = some (.slice ia2 il2 ip2) := fun W h => by have := RG W h 4 _ rfl; rwa [Nat.mul_comm 5 i] at this
              obtain ⟨_, _, _, q3, _⟩ := sc_ab (w := w) (a := v) (b := TU) (x := X) (G := G) (G1 := g1) (G2 := g2) (c0 := .int .i64 v.k) (c1 := .int .i64 v.n) (c2 := .string v.s) (c3 := .slice (some ⟨b, off, none⟩) v.l.length cap) (c4 := .slice (some ⟨b2, off2, none⟩) v.ns.length y4) (e0 := .int .i64 5) (e1 := .int .i64 0) (e2 := .string ⟨#[]⟩) (e3 := c3) (e4 := c4) (cx := [.int .i64 ek, .int .i64 en, .string es, .slice ea el ep, .slice ea2 el2 ep2]) (cy := [.int .i64 fk, .int .i64 fn, .string fs, .slice fa fl fp, .slice fa2 fl2 fp2])
              obtain ⟨x0, x1, x2, x3, x4, y0, y1, y2, y3, y4'⟩ := sc_xy (w := w) (a := v) (b := TU) (x := X) (G := G) (G1 := g1) (G2 := g2) (c0 := .int .i64 ek) (c1 := .int .i64 en) (c2 := .string es) (c3 := .slice ea el ep) (c4 := .slice ea2 el2 ep2) (e0 := .int .i64 fk) (e1 := .int .i64 fn) (e2 := .string fs) (e3 := .slice fa fl fp) (e4 := .slice fa2 fl2 fp2) (ca := [.int .i64 v.k, .int .i64 v.n, .string v.s, .slice (some ⟨b, off, none⟩) v.l.length cap, .slice (some ⟨b2, off2, none⟩) v.ns.length y4]) (cb := [.int .i64 5, .int .i64 0, .string ⟨#[]⟩, c3, c4])
              have HOX : OkT X := HXX.out ▸ ((OkT_iff v).1 HVT.out).2 _ (mem_get hil)
              have HSX := Lib.hid (psame X HOX X HOX)
              rw [sm_self] at HSX
              have HII := Lib.hid HI0
              have HOX := Lib.hid HOX
              clear RG HI0 HRG HIX
              have sd := SC.drew scb
              go_wp2_with fail
              go_region_held3 (SC w v TU X G g1 g2 [.int .i64 v.k, .int .i64 v.n, .string v.s, .slice (some ⟨b, off, none⟩) v.l.length cap, .slice (some ⟨b2, off2, none⟩) v.ns.length y4] [.int .i64 5, .int .i64 0, .string ⟨#[]⟩, c3, c4] [.int .i64 ek, .int .i64 en, .string es, .slice ea el ep, .slice ea2 el2 ep2] [.int .i64 fk, .int .i64 fn, .string fs, .slice fa fl fp, .slice fa2 fl2 fp2]) (first | exact sd | assumption)
                ((first
                  | (go_at_call 15; (with_reducible refine (HSX.out _ _ _ (SC.x1 (by assumption)) (SC.x2 (by assumption))).mono ?_); rintro e wx ⟨rfl, hbx⟩; have scx := SC.next (by assumption) hbx)
                  | (go_at_call 15; (with_reducible refine (HSX.out _ _ _ (SC.x1 (by assumption)) (HII.out _ (by assumption))).mono ?_); rintro e wx ⟨rfl, hbx⟩; have scx := SC.next (by assumption) hbx)))
              all_goals
                go_wp2_with fail
                go_roundw
                case rel => exact ⟨i + 1, by go_num, by omega, SC.sb scx⟩
                case measure => simp [RowKit.intOf]; omega
        · obtain rfl : i = v.ns.length := by omega
          clear HIT HROW HTF2
          have HU := Lib.hid (OkT_srt v HVT.out)
          have HAL := Lib.hid (palike v TU HVT.out HOU.out)
          rw [HTA2.out] at HAL
          have HSO1 := Lib.hid (psort v HVT.out)
          have HSO2 := Lib.hid (psort TU HOU.out)
          rw [HTS2.out] at HSO2
          have HSS := Lib.hid (psame (srt v) HU.out (srt v) HU.out)
          rw [sm_self] at HSS
          have HSV := Lib.hid (psame v HVT.out TU HOU.out)
          rw [HTM2.out] at HSV
          have sd := SB.drew sbr
          obtain ⟨_, _, _, s3, _⟩ := sb_cells (w := w) (v := v) (u := TU) (G := G) (c0 := .int .i64 v.k) (c1 := .int .i64 v.n) (c2 := .string v.s) (c3 := .slice a v.l.length cap) (c4 := .slice x4 v.ns.length y4) (e0 := .int .i64 5) (e1 := .int .i64 0) (e2 := .string ⟨#[]⟩) (e3 := c3) (e4 := c4)
          generalize srt v = SV at *
          by_cases hq0 : q = 0
          · subst hq0
            have t1 : (((0 : Nat) : Int) == 0) = true := rfl
            rw [t1, Bool.true_or] at HSV
            go_wp2_with fail
            refine wp_region_held_drew (S := SB w v TU G [.int .i64 v.k, .int .i64 v.n, .string v.s, .slice a v.l.length cap, .slice x4 v.ns.length y4] [.int .i64 5, .int .i64 0, .string ⟨#[]⟩, c3, c4]) (by kernel_rfl) sd (fun hHeld => ?_)
            refine wpAnyH_take (i := 0) (oi := { dst := some 124, op := Op.load 25 (Operand.tmp 2), type := 25, pos := "law.go:67", after := #[], guard := none }) (v := ?_) rfl (by kernel_rfl) (by kernel_rfl) (by kernel_rfl) (fun _ _ _ h => h) (Or.inl ⟨by rfl, ?_⟩) (by assumption) ?_
            rotate_left
            · intro w hSw; go_simp; (try with_reducible rfl)
            try simp only [Act.put, List.setIfInBounds_toArray, List.set_cons_zero, List.set_cons_succ]
            refine wpAnyH_take (i := 1) (oi := { dst := some 125, op := Op.load 25 (Operand.tmp 6), type := 25, pos := "law.go:67", after := #[], guard := none }) (v := ?_) rfl (by kernel_rfl) (by kernel_rfl) (by kernel_rfl) (fun _ _ _ h => h) (Or.inl ⟨by rfl, ?_⟩) (by assumption) ?_
            rotate_left
            · intro w hSw; go_simp; (try with_reducible rfl)
            try simp only [Act.put, List.setIfInBounds_toArray, List.set_cons_zero, List.set_cons_succ]
            refine wpAnyH_ready (rs := [2]) (by kernel_rfl) (by simp) ?_
            refine AllReadyH.cons (o := { dst := some 126, op := Op.call { callee := Callee.value (Operand.func 17), args := #[Operand.tmp 124, Operand.tmp 125], argTypes := #[25, 25] }, type := 4, pos := "law.go:67", after := #[{ on := 0, ground := Ground.data }, { on := 1, ground := Ground.data }], guard := none }) rfl (fun K hK => ?_) AllReadyH.nil
            go_simp
            (go_at_call 17; (with_reducible refine (HAL.out _ _ _ (sb_in (by assumption)) (sb_iu (by assumption)) (sb_tab (by assumption))).mono ?_); rintro e wx ⟨rfl, hbx⟩; have sbx := SB.next (by assumption) hbx)
            refine hK.out _ _ (by assumption) (fun hHeld => ?_)
            clear hK K
            try simp only [Act.put, List.setIfInBounds_toArray, List.set_cons_zero, List.set_cons_succ]
            refine wpAnyH_take (i := 3) (oi := { dst := some 127, op := Op.move (Operand.tmp 126), type := 4, pos := "law.go:67", after := #[{ on := 2, ground := Ground.data }, { on := 2, ground := Ground.chain }], guard := none }) (v := ?_) rfl (by kernel_rfl) (by kernel_rfl) (by kernel_rfl) (fun _ _ _ h => h) (Or.inl ⟨by rfl, ?_⟩) (by assumption) ?_
            rotate_left
            · intro w hSw; go_simp; (try with_reducible rfl)
            try simp only [Act.put, List.setIfInBounds_toArray, List.set_cons_zero, List.set_cons_succ]
            refine wpAnyH_take (i := 4) (oi := { dst := some 128, op := Op.load 25 (Operand.tmp 2), type := 25, pos := "law.go:67", after := #[{ on := 3, ground := Ground.guard }], guard := some (3, true) }) (v := ?_) rfl (by kernel_rfl) (by kernel_rfl) (by kernel_rfl) (fun _ _ _ h => h) (Or.inl ⟨by rfl, ?_⟩) (by assumption) ?_
            rotate_left
            · intro w hSw; go_simp; (try with_reducible rfl)
            try simp only [Act.put, List.setIfInBounds_toArray, List.set_cons_zero, List.set_cons_succ]
            refine wpAnyH_take (i := 6) (oi := { dst := some 130, op := Op.load 25 (Operand.tmp 6), type := 25, pos := "law.go:67", after := #[{ on := 3, ground := Ground.guard }], guard := some (3, true) }) (v := ?_) rfl (by kernel_rfl) (by kernel_rfl) (by kernel_rfl) (fun _ _ _ h => h) (Or.inl ⟨by rfl, ?_⟩) (by assumption) ?_
            rotate_left
            · intro w hSw; go_simp; (try with_reducible rfl)
            try simp only [Act.put, List.setIfInBounds_toArray, List.set_cons_zero, List.set_cons_succ]
            refine wpAnyH_ready (rs := [5]) (by kernel_rfl) (by simp) ?_
            refine AllReadyH.cons (o := { dst := some 129, op := Op.call { callee := Callee.value (Operand.func 19), args := #[Operand.tmp 128], argTypes := #[25] }, type := 25, pos := "law.go:67", after := #[{ on := 4, ground := Ground.data }, { on := 3, ground := Ground.chain }, { on := 3, ground := Ground.guard }], guard := some (3, true) }) rfl (fun K hK => ?_) AllReadyH.nil
            go_simp
            (go_at_call 19; (with_reducible refine (HSO1.out _ _ (sb_in (by assumption))).mono ?_); rintro e wy ⟨d7, rfl, hS7, hb7⟩; have sb7 := SB.next (by assumption) hb7)
            refine hK.out _ _ (by assumption) (fun hHeld => ?_)
            clear hK K
            try simp only [Act.put, List.setIfInBounds_toArray, List.set_cons_zero, List.set_cons_succ]
            refine wpAnyH_ready (rs := [7]) (by kernel_rfl) (by simp) ?_
            refine AllReadyH.cons (o := { dst := some 131, op := Op.call { callee := Callee.value (Operand.func 19), args := #[Operand.tmp 130], argTypes := #[25] }, type := 25, pos := "law.go:67", after := #[{ on := 6, ground := Ground.data }, { on := 5, ground := Ground.chain }, { on := 3, ground := Ground.guard }], guard := some (3, true) }) rfl (fun K hK => ?_) AllReadyH.nil
            go_simp
            (go_at_call 19; (with_reducible refine (HSO2.out _ _ (sb_iu (by assumption))).mono ?_); rintro e wz ⟨d8, rfl, hS8, hb8⟩; have sb8 := SB.next (by assumption) hb8; have i7 := InV_next hb8 _ _ (InS_in _ _ hS7); have i8 := InS_in _ _ hS8)
            refine hK.out _ _ (by assumption) (fun hHeld => ?_)
            clear hK K
            try simp only [Act.put, List.setIfInBounds_toArray, List.set_cons_zero, List.set_cons_succ]
            refine wpAnyH_ready (rs := [8]) (by kernel_rfl) (by simp) ?_
            refine AllReadyH.cons (o := { dst := some 132, op := Op.call { callee := Callee.value (Operand.func 15), args := #[Operand.tmp 129, Operand.tmp 131], argTypes := #[25, 25] }, type := 4, pos := "law.go:67", after := #[{ on := 5, ground := Ground.data }, { on := 7, ground := Ground.data }, { on := 7, ground := Ground.chain }, { on := 3, ground := Ground.guard }], guard := some (3, true) }) rfl (fun K hK => ?_) AllReadyH.nil
            go_simp
            (go_at_call 15; (with_reducible refine (HSS.out _ _ _ i7 i8).mono ?_); rintro e wx ⟨rfl, hbx⟩; have sbx := SB.next (by assumption) hbx)
            refine hK.out _ _ (by assumption) (fun hHeld => ?_)
            clear hK K
            try simp only [Act.put, List.setIfInBounds_toArray, List.set_cons_zero, List.set_cons_succ]
            refine wpAnyH_take (i := 9) (oi := { dst := some 133, op := Op.pick (Operand.tmp 127) (Operand.tmp 132) (Operand.const (Value.bool false)), type := 4, pos := "law.go:67", after := #[{ on := 3, ground := Ground.data }, { on := 8, ground := Ground.data }], guard := none }) (v := ?_) rfl (by kernel_rfl) (by kernel_rfl) (by kernel_rfl) (fun _ _ _ h => h) (Or.inl ⟨by rfl, ?_⟩) (by assumption) ?_
            rotate_left
            · intro w hSw; go_simp; (try with_reducible rfl)
            try simp only [Act.put, List.setIfInBounds_toArray, List.set_cons_zero, List.set_cons_succ]
            refine wpAnyH_take (i := 10) (oi := { dst := some 134, op := Op.move (Operand.tmp 133), type := 4, pos := "law.go:67", after := #[{ on := 9, ground := Ground.data }, { on := 8, ground := Ground.chain }], guard := none }) (v := ?_) rfl (by kernel_rfl) (by kernel_rfl) (by kernel_rfl) (fun _ _ _ h => h) (Or.inl ⟨by rfl, ?_⟩) (by assumption) ?_
            rotate_left
            · intro w hSw; go_simp; (try with_reducible rfl)
            try simp only [Act.put, List.setIfInBounds_toArray, List.set_cons_zero, List.set_cons_succ]
            refine wpAnyH_take (i := 11) (oi := { dst := some 135, op := Op.load 25 (Operand.tmp 2), type := 25, pos := "law.go:67", after := #[{ on := 10, ground := Ground.guard }], guard := some (10, true) }) (v := ?_) rfl (by kernel_rfl) (by kernel_rfl) (by kernel_rfl) (fun _ _ _ h => h) (Or.inl ⟨by rfl, ?_⟩) (by assumption) ?_
            rotate_left
            · intro w hSw; go_simp; (try with_reducible rfl)
            try simp only [Act.put, List.setIfInBounds_toArray, List.set_cons_zero, List.set_cons_succ]
            refine wpAnyH_take (i := 12) (oi := { dst := some 136, op := Op.load 25 (Operand.tmp 6), type := 25, pos := "law.go:67", after := #[{ on := 10, ground := Ground.guard }], guard := some (10, true) }) (v := ?_) rfl (by kernel_rfl) (by kernel_rfl) (by kernel_rfl) (fun _ _ _ h => h) (Or.inl ⟨by rfl, ?_⟩) (by assumption) ?_
            rotate_left
            · intro w hSw; go_simp; (try with_reducible rfl)
            try simp only [Act.put, List.setIfInBounds_toArray, List.set_cons_zero, List.set_cons_succ]
            refine wpAnyH_take (i := 14) (oi := { dst := some 138, op := Op.move (Operand.tmp 5), type := 3, pos := "law.go:67", after := #[{ on := 10, ground := Ground.guard }], guard := some (10, true) }) (v := ?_) rfl (by kernel_rfl) (by kernel_rfl) (by kernel_rfl) (fun _ _ _ h => h) (Or.inl ⟨by rfl, ?_⟩) (by assumption) ?_
            rotate_left
            · intro w hSw; go_simp; (try with_reducible rfl)
            try simp only [Act.put, List.setIfInBounds_toArray, List.set_cons_zero, List.set_cons_succ]
            refine wpAnyH_take (i := 15) (oi := { dst := some 139, op := Op.binOp BinOp.eql 3 (Operand.tmp 138) (Operand.const (Value.int IntKind.i64 0)) 3, type := 4, pos := "law.go:67", after := #[{ on := 14, ground := Ground.data }, { on := 10, ground := Ground.guard }], guard := some (10, true) }) (v := ?_) rfl (by kernel_rfl) (by kernel_rfl) (by kernel_rfl) (fun _ _ _ h => h) (Or.inl ⟨by rfl, ?_⟩) (by assumption) ?_
            rotate_left
            · intro w hSw; go_simp; (try with_reducible rfl)
            try simp only [Act.put, List.setIfInBounds_toArray, List.set_cons_zero, List.set_cons_succ]
            refine wpAnyH_ready (rs := [13]) (by kernel_rfl) (by simp) ?_
            refine AllReadyH.cons (o := { dst := some 137, op := Op.call { callee := Callee.value (Operand.func 15), args := #[Operand.tmp 135, Operand.tmp 136], argTypes := #[25, 25] }, type := 4, pos := "law.go:67", after := #[{ on := 11, ground := Ground.data }, { on := 12, ground := Ground.data }, { on := 10, ground := Ground.chain }, { on := 10, ground := Ground.guard }], guard := some (10, true) }) rfl (fun K hK => ?_) AllReadyH.nil
            go_simp
            (go_at_call 15; (with_reducible refine (HSV.out _ _ _ (sb_in (by assumption)) (sb_iu (by assumption))).mono ?_); rintro e wx ⟨rfl, hbx⟩; have sbx := SB.next (by assumption) hbx)
            refine hK.out _ _ (by assumption) (fun hHeld => ?_)
            clear hK K
            try simp only [Act.put, List.setIfInBounds_toArray, List.set_cons_zero, List.set_cons_succ]
            refine wpAnyH_take (i := 16) (oi := { dst := some 140, op := Op.move (Operand.tmp 139), type := 4, pos := "law.go:67", after := #[{ on := 15, ground := Ground.data }, { on := 13, ground := Ground.chain }, { on := 10, ground := Ground.guard }], guard := some (10, true) }) (v := ?_) rfl (by kernel_rfl) (by kernel_rfl) (by kernel_rfl) (fun _ _ _ h => h) (Or.inl ⟨by rfl, ?_⟩) (by assumption) ?_
            rotate_left
            · intro w hSw; go_simp; (try with_reducible rfl)
            try simp only [Act.put, List.setIfInBounds_toArray, List.set_cons_zero, List.set_cons_succ]
            refine wpAnyH_take (i := 17) (oi := { dst := some 141, op := Op.fieldAddr 25 (Operand.tmp 2) 3, type := 0, pos := "law.go:67", after := #[{ on := 16, ground := Ground.guard }], guard := some (16, false) }) (v := undef) rfl (by kernel_rfl) (by kernel_rfl) (by kernel_rfl) (fun _ _ _ h => h) (Or.inr ⟨by rfl, rfl⟩) (by assumption) ?_
            try simp only [Act.put, List.setIfInBounds_toArray, List.set_cons_zero, List.set_cons_succ]
            refine wpAnyH_take (i := 18) (oi := { dst := some 142, op := Op.load 22 (Operand.tmp 141), type := 22, pos := "law.go:67", after := #[{ on := 17, ground := Ground.data }, { on := 16, ground := Ground.guard }], guard := some (16, false) }) (v := undef) rfl (by kernel_rfl) (by kernel_rfl) (by kernel_rfl) (fun _ _ _ h => h) (Or.inr ⟨by rfl, rfl⟩) (by assumption) ?_
            try simp only [Act.put, List.setIfInBounds_toArray, List.set_cons_zero, List.set_cons_succ]
            refine wpAnyH_take (i := 19) (oi := { dst := some 143, op := Op.call { callee := Callee.builtin Builtin.len, args := #[Operand.tmp 142], argTypes := #[22] }, type := 3, pos := "law.go:67", after := #[{ on := 18, ground := Ground.data }, { on := 16, ground := Ground.guard }], guard := some (16, false) }) (v := undef) rfl (by kernel_rfl) (by kernel_rfl) (by kernel_rfl) (fun _ _ _ h => h) (Or.inr ⟨by rfl, rfl⟩) (by assumption) ?_
            try simp only [Act.put, List.setIfInBounds_toArray, List.set_cons_zero, List.set_cons_succ]
            refine wpAnyH_take (i := 20) (oi := { dst := some 144, op := Op.binOp BinOp.eql 3 (Operand.tmp 143) (Operand.const (Value.int IntKind.i64 1)) 3, type := 4, pos := "law.go:67", after := #[{ on := 19, ground := Ground.data }, { on := 16, ground := Ground.guard }], guard := some (16, false) }) (v := undef) rfl (by kernel_rfl) (by kernel_rfl) (by kernel_rfl) (fun _ _ _ h => h) (Or.inr ⟨by rfl, rfl⟩) (by assumption) ?_
            try simp only [Act.put, List.setIfInBounds_toArray, List.set_cons_zero, List.set_cons_succ]
            refine wpAnyH_take (i := 21) (oi := { dst := some 145, op := Op.pick (Operand.tmp 140) (Operand.const (Value.bool true)) (Operand.tmp 144), type := 4, pos := "law.go:67", after := #[{ on := 16, ground := Ground.data }, { on := 20, ground := Ground.data }, { on := 10, ground := Ground.guard }], guard := some (10, true) }) (v := ?_) rfl (by kernel_rfl) (by kernel_rfl) (by kernel_rfl) (fun _ _ _ h => h) (Or.inl ⟨by rfl, ?_⟩) (by assumption) ?_
            rotate_left
            · intro w hSw; go_simp; (try with_reducible rfl)
            try simp only [Act.put, List.setIfInBounds_toArray, List.set_cons_zero, List.set_cons_succ]
            refine wpAnyH_take (i := 22) (oi := { dst := some 146, op := Op.binOp BinOp.eql 4 (Operand.tmp 137) (Operand.tmp 145) 4, type := 4, pos := "law.go:67", after := #[{ on := 13, ground := Ground.data }, { on := 21, ground := Ground.data }, { on := 10, ground := Ground.guard }], guard := some (10, true) }) (v := ?_) rfl (by kernel_rfl) (by kernel_rfl) (by kernel_rfl) (fun _ _ _ h => h) (Or.inl ⟨by rfl, ?_⟩) (by assumption) ?_
            rotate_left
            · intro w hSw; go_simp; (try with_reducible rfl)
            try simp only [Act.put, List.setIfInBounds_toArray, List.set_cons_zero, List.set_cons_succ]
            refine wpAnyH_take (i := 23) (oi := { dst := some 147, op := Op.pick (Operand.tmp 134) (Operand.tmp 146) (Operand.const (Value.bool false)), type := 4, pos := "law.go:67", after := #[{ on := 10, ground := Ground.data }, { on := 22, ground := Ground.data }], guard := none }) (v := ?_) rfl (by kernel_rfl) (by kernel_rfl) (by kernel_rfl) (fun _ _ _ h => h) (Or.inl ⟨by rfl, ?_⟩) (by assumption) ?_
            rotate_left
            · intro w hSw; go_simp; (try with_reducible rfl)
            try simp only [Act.put, List.setIfInBounds_toArray, List.set_cons_zero, List.set_cons_succ]
            refine wpAnyH_take (i := 24) (oi := { dst := some 148, op := Op.move (Operand.tmp 147), type := 4, pos := "law.go:67", after := #[{ on := 23, ground := Ground.data }, { on := 16, ground := Ground.chain }], guard := none }) (v := ?_) rfl (by kernel_rfl) (by kernel_rfl) (by kernel_rfl) (fun _ _ _ h => h) (Or.inl ⟨by rfl, ?_⟩) (by assumption) ?_
            rotate_left
            · intro w hSw; go_simp; (try with_reducible rfl)
            try simp only [Act.put, List.setIfInBounds_toArray, List.set_cons_zero, List.set_cons_succ]
            refine wpAnyH_ready (rs := [25]) (by kernel_rfl) (by simp) ?_
            refine AllReadyH.cons (o := { dst := some 149, op := Op.call { callee := Callee.value (Operand.func 7), args := #[], argTypes := #[] }, type := 4, pos := "law.go:67", after := #[{ on := 24, ground := Ground.chain }, { on := 24, ground := Ground.guard }], guard := some (24, true) }) rfl (fun K hK => ?_) AllReadyH.nil
            go_simp
            (go_at_call 7; (with_reducible refine (HAW.out _ (sb_tab (by assumption))).mono ?_); rintro e wx ⟨rfl, hbx⟩; have sbx := SB.next (by assumption) hbx)
            refine hK.out _ _ (by assumption) (fun hHeld => ?_)
            clear hK K
            try simp only [Act.put, List.setIfInBounds_toArray, List.set_cons_zero, List.set_cons_succ]
            refine wpAnyH_take (i := 26) (oi := { dst := some 150, op := Op.pick (Operand.tmp 148) (Operand.tmp 149) (Operand.const (Value.bool false)), type := 4, pos := "law.go:67", after := #[{ on := 24, ground := Ground.data }, { on := 25, ground := Ground.data }], guard := none }) (v := ?_) rfl (by kernel_rfl) (by kernel_rfl) (by kernel_rfl) (fun _ _ _ h => h) (Or.inl ⟨by rfl, ?_⟩) (by assumption) ?_
            rotate_left
            · intro w hSw; go_simp; (try with_reducible rfl)
            try simp only [Act.put, List.setIfInBounds_toArray, List.set_cons_zero, List.set_cons_succ]
            refine wpAnyH_take (i := 27) (oi := { dst := some 4, op := Op.assign (Operand.tmp 150), type := 4, pos := "law.go:67", after := #[{ on := 26, ground := Ground.data }, { on := 25, ground := Ground.chain }, { on := 0, ground := Ground.phase }, { on := 1, ground := Ground.phase }, { on := 2, ground := Ground.phase }, { on := 3, ground := Ground.phase }, { on := 4, ground := Ground.phase }, { on := 5, ground := Ground.phase }, { on := 6, ground := Ground.phase }, { on := 7, ground := Ground.phase }, { on := 8, ground := Ground.phase }, { on := 9, ground := Ground.phase }, { on := 10, ground := Ground.phase }, { on := 11, ground := Ground.phase }, { on := 12, ground := Ground.phase }, { on := 13, ground := Ground.phase }, { on := 14, ground := Ground.phase }, { on := 15, ground := Ground.phase }, { on := 16, ground := Ground.phase }, { on := 17, ground := Ground.phase }, { on := 18, ground := Ground.phase }, { on := 19, ground := Ground.phase }, { on := 20, ground := Ground.phase }, { on := 21, ground := Ground.phase }, { on := 22, ground := Ground.phase }, { on := 23, ground := Ground.phase }, { on := 24, ground := Ground.phase }, { on := 25, ground := Ground.phase }, { on := 26, ground := Ground.phase }], guard := none }) (v := ?_) rfl (by kernel_rfl) (by kernel_rfl) (by kernel_rfl) (fun _ _ _ h => h) (Or.inl ⟨by rfl, ?_⟩) (by assumption) ?_
            rotate_left
            · intro w hSw; go_simp; (try with_reducible rfl)
            try simp only [Act.put, List.setIfInBounds_toArray, List.set_cons_zero, List.set_cons_succ]
            refine wpAnyH_done (by kernel_rfl) ?_ _
            all_goals
              go_wp2_with fail
              go_ret
              exact ⟨rfl, sb_bel sbx⟩
          · have t1 : ((q : Int) == 0) = false := by rw [beq_eq_false_iff_ne]; omega
            have t2 : ((v.l.length : Int) == 1) = false := by rw [beq_eq_false_iff_ne]; omega
            rw [t1, t2, Bool.false_or] at HSV
            clear hq0
            go_wp2_with fail
            go_region_held3 (SB w v TU G [.int .i64 v.k, .int .i64 v.n, .string v.s, .slice a v.l.length cap, .slice x4 v.ns.length y4] [.int .i64 5, .int .i64 0, .string ⟨#[]⟩, c3, c4]) (first | exact sd | assumption)
              ((first
                | (go_at_call 17; (with_reducible refine (HAL.out _ _ _ (sb_in (by assumption)) (sb_iu (by assumption)) (sb_tab (by assumption))).mono ?_); rintro e wx ⟨rfl, hbx⟩; have sbx := SB.next (by assumption) hbx)
                | (go_at_call 19; (with_reducible refine (HSO1.out _ _ (sb_in (by assumption))).mono ?_); rintro e wy ⟨d7, rfl, hS7, hb7⟩; have sb7 := SB.next (by assumption) hb7)
                | (go_at_call 19; (with_reducible refine (HSO2.out _ _ (sb_iu (by assumption))).mono ?_); rintro e wz ⟨d8, rfl, hS8, hb8⟩; have sb8 := SB.next (by assumption) hb8; have i7 := InV_next hb8 _ _ (InS_in _ _ hS7); have i8 := InS_in _ _ hS8)
                | (go_at_call 15; (with_reducible refine (HSS.out _ _ _ i7 i8).mono ?_); rintro e wx ⟨rfl, hbx⟩; have sbx := SB.next (by assumption) hbx)
                | (go_at_call 15; (with_reducible refine (HSV.out _ _ _ (sb_in (by assumption)) (sb_iu (by assumption))).mono ?_); rintro e wx ⟨rfl, hbx⟩; have sbx := SB.next (by assumption) hbx)
                | (go_at_call 7; (with_reducible refine (HAW.out _ (sb_tab (by assumption))).mono ?_); rintro e wx ⟨rfl, hbx⟩; have sbx := SB.next (by assumption) hbx)))
            all_goals
              go_wp2_with fail
              go_ret
              exact ⟨rfl, sb_bel sbx⟩
end Go.Proofs.YtafelidejkppkaaDoor.Tre
