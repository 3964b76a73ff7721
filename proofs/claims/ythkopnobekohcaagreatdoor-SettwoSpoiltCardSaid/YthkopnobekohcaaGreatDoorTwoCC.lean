/- Contract of the code's Canon of sets of rules of version 2. Conditions: as CnP states. -/
import Derived.Test.YthkopnobekohcaaGreatDoorTwoT
import Derived.Test.YthkopnobekohcaaGreatDoorTwoN
namespace Go.Proofs.YthkopnobekohcaaGreatDoor.Two
open Go.RowKit Go.Lib Go.Shelf Go.Sort
open Go.Proofs.YthkopnobekohcaaGreatDoor.Ren (Pw)

/-- What the code answers of one right rule; and of a rule whose texts are to lie in memory of their own. -/
def Cn1P : Prop := ∀ (r : Rw) (W : World), Rt r → r.id.size ≤ 140737488355328 → r.no.size ≤ 140737488355328 → r.ma.size ≤ 140737488355328 → Ev W →
  Calls Tryz.prog 25 #[.agg (ruC r)] W fun e w' => e = .returned (.agg (ruC (can r))) ∧ Below W.heap.size W w'
def Ow1P : Prop := ∀ (r : Rw) (W : World), r.id.size ≤ 140737488355328 → r.no.size ≤ 140737488355328 → r.ma.size ≤ 140737488355328 →
  Calls Tryz.prog 24 #[.agg (ruC r)] W fun e w' => e = .returned (.agg (ruC r)) ∧ Below W.heap.size W w'
set_option maxHeartbeats 8000000 in
set_option maxRecDepth 100000 in
theorem canon_of1 (HC1 : Cn1P) (HO1 : Ow1P) : CnP := by
  intro L v w hr h5 hm hE
  have HCH := Lib.hid (check_any L v w hr h5 hm hE)
  have HEV := Lib.hid hE
  obtain ⟨a, cap, rfl, -, hc⟩ := hr.open_
  by_cases hz : (sck L).2 = 0
  · have hrs := (sck_zero L).1 hz
    rw [scn_ok hrs]
    rw [sck_ok hrs] at HCH ⊢
    have HC := Lib.hid hc
    have HCN := Lib.hid fun (i : Nat) (h : i < L.length) W (k : Ev W) => HC1 (ga L i) W (hrs.rt _ (ga_mem h)) (hm _ (ga_mem h)).1 (hm _ (ga_mem h)).2.1 (hm _ (ga_mem h)).2.2.1 k
    have HOW := Lib.hid fun (i : Nat) (h : i < L.length) W => HO1 (can (ga L i)) W (by rw [(can_keeps (hrs.rt _ (ga_mem h))).1]; exact (hm _ (ga_mem h)).1) (by rw [(can_keeps (hrs.rt _ (ga_mem h))).2.1]; exact (hm _ (ga_mem h)).2.1) (by rw [(can_keeps (hrs.rt _ (ga_mem h))).2.2.1]; exact (hm _ (ga_mem h)).2.2.1)
    have HFS := Lib.hid fun m => @fl_set L m
    have HFL := Lib.hid (fl_len L)
    have HF0 := Lib.hid (fl_zero L)
    have HFA := Lib.hid (fl_all L)
    have HSR := Lib.hid fun W B g (hO : Own W B (.slice (some ⟨g, 0, none⟩) (L.map can).length L.length) (L.map can)) => sort_rules W B g L.length (L.map can) hO (cans_right hrs).nd (by rw [List.length_map]; omega)
    have HLM := Lib.hid (show (L.map can).length = L.length from List.length_map _)
    clear hc hr hm hE hz hrs HC1 HO1
    generalize srt (L.map can) = R at *
    go_enter Tryz.func9, Tryz.ntmps9
    go_wp2_with (first
      | (go_at_call 7; (with_reducible refine HCH.out.mono ?_); rintro e w1 ⟨rfl, hb1⟩; have B1 := Lib.hid hb1; clear hb1)
      | (refine wpList_makeR _ rfl _ _ rfl w.heap.size w B1.out B1.out.size L.length rfl rfl (by omega) ?_; intro w2 G hG hO2 hb2; have B2 := Lib.hid hb2; have O2 := Lib.hid hO2; clear hO2 hb2))
    go_loopw [24] (fun i wr => ∃ m : Nat, i = .int .i64 (m : Int) ∧ m ≤ L.length ∧ Hid (Below w.heap.size w wr) ∧ Hid (Own wr w.heap.size (.slice (some ⟨G, 0, none⟩) L.length L.length) (fl L m))) (fun i _ => L.length - (RowKit.intOf i).toNat)
    case atStart => exact ⟨0, rfl, Nat.zero_le _, B2, Lib.hid (by rw [HF0.out]; exact O2.out)⟩
    case round =>
      obtain ⟨m, rfl, hk, HB, HO⟩ := hrel
      by_cases hlt : m < L.length
      · obtain ⟨b, off, rfl, hcl⟩ := HC.out m hlt
        rw [rga_ga] at hcl
        have HCM := Lib.hid (rangeAt_next hcl HB.out)
        clear hcl
        have HEW := Lib.hid (HEV.out.next HB.out)
        have HCN2 := Lib.hid (HCN.out m hlt)
        have HOW2 := Lib.hid (HOW.out m hlt)
        have HFS2 := Lib.hid (HFS.out m hlt)
        generalize ga L m = X at *
        generalize can X = C at *
        go_wp2_with (first
          | (refine wpList_take _ rfl _ rfl b (off + m * 9) X rfl HCM.out ?_)
          | (refine wpList_keep _ rfl _ _ rfl wr.heap.size wr ((Below.refl _ _).alloc (Nat.le_refl _) _) _ (Nat.le_refl _) X _ rfl rfl (bx_new _ _) rfl ?_; intro w4 hk4 hb4 ho4; have K4 := Lib.hid hk4; have B4 := Lib.hid hb4; clear hk4 hb4 ho4)
          | (refine wpList_fetch _ rfl _ rfl wr.heap.size _ rfl K4.out rfl ?_)
          | (go_at_call 25; (with_reducible refine (HCN2.out _ (HEW.out.next B4.out)).mono ?_); rintro e w5 ⟨rfl, hb5⟩; have B5 := Lib.hid (B4.out.trans (hb5.mono B4.out.size)); clear hb5)
          | (go_at_call 24; (with_reducible refine (HOW2.out _).mono ?_); rintro e w7 ⟨rfl, hb7⟩; have B7 := Lib.hid (B5.out.trans (hb7.mono B5.out.size)); have O5 := Lib.hid (show Own w7 w.heap.size (.slice (some ⟨G, 0, none⟩) (fl L m).length L.length) (fl L m) by rw [HFL.out]; exact HO.out.next B7.out); have BW5 := Lib.hid (HB.out.trans (B7.out.mono HB.out.size)); clear hb7)
          | (refine wpList_keepAt _ rfl _ _ rfl w.heap.size w BW5.out BW5.out.size G L.length (fl L m) m _ (by rw [HFL.out]; exact hlt) C rfl (by omega) rfl O5.out ?_; intro w6 hO6 hb6))
        go_roundw
        case rel => exact ⟨m + 1, by go_num, by omega, Lib.hid hb6, Lib.hid (by rw [← HFS2.out]; rw [HFL.out] at hO6; exact hO6)⟩
        case measure => simp [RowKit.intOf]; omega
      · obtain rfl : m = L.length := by omega
        have HS := Lib.hid (HSR.out wr w.heap.size G (by rw [HLM.out, ← HFA.out]; exact HO.out))
        rw [HLM.out] at HS
        go_wp2_with (first
          | (go_at_call 26; (with_reducible refine HS.out.mono ?_); rintro e w7 ⟨rfl, hO7, hg7⟩))
        go_ret3
        exact ⟨_, rfl, hO7.row, HB.out.grown hg7 HB.out.size fun k hk => by rw [← Option.some.inj hk]; exact Nat.le_trans B1.out.size hG⟩
  · rw [scn_no hz]
    have b1 : ((sck L).2 != 0) = true := by simpa using hz
    clear hc hr hm hE hz HC1 HO1
    generalize sck L = x at *
    obtain ⟨p, E⟩ := x
    dsimp only at *
    go_enter Tryz.func9, Tryz.ntmps9
    go_wp2_with (first
      | (go_at_call 7; (with_reducible refine HCH.out.mono ?_); rintro e w1 ⟨rfl, hb1⟩))
    go_ret3
    exact ⟨_, rfl, Row.nil _, hb1⟩

end Go.Proofs.YthkopnobekohcaaGreatDoor.Two
