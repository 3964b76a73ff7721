/- Contracts of the document's Canon and Is of sets of rules of version 1. Conditions: the rules can be read, Mod; the table of powers reads as the library lays it. · Contract of the document's Is of sets of rules of version 1; what the code's calls answer, as premises; SetoneSays out of them. Conditions: as each theorem states. -/
import Derived.Test.YtcdkibadnelgiaaGreatDoorOneB
import Derived.Test.YtcdkibadnelgiaaGreatDoorOneP2
namespace Go.Proofs.YtcdkibadnelgiaaGreatDoor.One
open Go.RowKit Go.Lib
open Go.Proofs.YtcdkibadnelgiaaGreatDoor.Ren (Pw)
open Go.Proofs.YtcdkibadnelgiaaGreatDoor.Ide (lt)

/-- The first m of them, in their canonical form, by rising names. -/
def fm (L : List Ro) (m : Nat) : List Ro := ((L.take m).map can).foldl (fun l r => ins r l) []
theorem fm_zero (L : List Ro) : fm L 0 = [] := rfl
theorem fm_next {L : List Ro} {m : Nat} (h : m < L.length) : fm L (m + 1) = ins (can (ga L m)) (fm L m) := by
  unfold fm
  rw [List.take_add_one, List.getElem?_eq_getElem h, Option.toList_some, List.map_append, List.foldl_append, ga_at h]
  rfl
theorem fm_all (L : List Ro) : fm L L.length = srt (L.map can) := by unfold fm srt; rw [List.take_length]
theorem fm_len (L : List Ro) {m : Nat} (h : m ≤ L.length) : (fm L m).length = m := by
  have := (fold_perm ((L.take m).map can) []).length_eq
  unfold fm
  rw [this, List.append_nil, List.length_map, List.length_take]
  omega
theorem nil_row (w : World) (a : Option Addr) (cap : Nat) : Row w (.slice a 0 cap) [] := .inl ⟨rfl, _, _, rfl⟩
theorem nil_drop (w : World) (a : Option Addr) (c : Nat) (L : List Ro) (k : Nat) (h : L.length ≤ k) : Row w (.slice a 0 c) (L.drop k) := .inl ⟨List.drop_of_length_le h, a, c, rfl⟩
theorem grown_bx {w w' : World} {g : Nat} {cs : Array Value} (h : Bx w g cs) (hg : w.grownBy w' (Value.slice none 0 0).ownBlock) : Bx w' g cs :=
  (hg.block g h.lt (by intro e; cases e)).trans h
theorem store_f {w : World} {g j : Nat} {u : Value} (b : Nat) (hc : w.cell? ⟨g, j, none⟩ = some u) (hf : w.frozen? ⟨g, j, none⟩ = false) :
    Sem.run Tryz.prog (store ⟨g, j, none⟩ (.float .f64 b)) w = .ok () (w.setCell ⟨g, j, none⟩ (.float .f64 b)) := by
  rw [run_store Tryz.prog w _ _ _ rfl]
  simp [hc, hf]
theorem rthou_any (m : Nat) (h : m ≤ 1000000) (w : World) : Calls Tryz.prog 23 #[.int .i64 (m : Int)] w fun e w' => e = .returned (.float .f64 (thB m)) ∧ w = w' := by
  have hb := (th_is h).1
  have hq := fun t w => run_float_arith (P := Tryz.prog) w .quo t .f64 _ _ _ hb
  have h3 : ¬ (m : Int) < 0 := by omega
  have h2 : (m : Int) ≤ 1000000 := by omega
  have h4 : min (m : Int) 1000000 = (m : Int) := by omega
  generalize thB m = b at *
  clear hb
  go_enter Tryz.func23, Tryz.ntmps23
  go_wp2
  go_ret
  exact ⟨rfl, rfl⟩

set_option maxHeartbeats 16000000 in
set_option maxRecDepth 100000 in
theorem rcanon_any (L : List Ro) (v : Value) (w : World) (hr : Row w v L) (hl : L.length ≤ 9223372036854775807) (hs : Mod L) (hP : Pw w) :
    Calls Tryz.prog 9 #[v] w fun e w' => ∃ v', e = .returned (.tuple #[v', .string (sck L).1, .int .i64 (sck L).2]) ∧ Row w' v' (scn L) ∧ Below w.heap.size w w' := by
  have HCH := Lib.hid (rcheck_any L v w hr hl hs hP)
  obtain ⟨a, cap, rfl, -, hc⟩ := hr.open_
  by_cases hz : (sck L).2 = 0
  · have hrs := (sck_zero L).1 hz
    have h4096 := hrs.len
    rw [scn_ok hrs]
    rw [sck_ok hrs] at HCH ⊢
    have HC := Lib.hid hc
    have HPS := Lib.hid fun (i : Nat) (h : i < L.length) => (hs _ (ga_mem h)).1
    have HFN := Lib.hid fun m => @fm_next L m
    have HFA := Lib.hid (fm_all L)
    have HFL := Lib.hid fun m => @fm_len L m
    clear hc hr hs hP hz hrs
    go_enter Tryz.func9, Tryz.ntmps9
    go_wp2_with (go_at_call 7; (with_reducible refine HCH.out.mono ?_); rintro e w1 ⟨rfl, hb1⟩; have B1 := Lib.hid hb1; clear hb1)
    go_loopw [25, 7] (fun i u wr => ∃ m : Nat, i = .int .i64 (m : Int) ∧ m ≤ L.length ∧ Hid (Below w.heap.size w wr) ∧ Hid (Row wr u (fm L m)) ∧ (m = 0 → u = .slice none 0 0)) (fun i _ _ => L.length - (RowKit.intOf i).toNat)
    case atStart => exact ⟨0, rfl, Nat.zero_le _, B1, Lib.hid (Row.nil _), fun _ => rfl⟩
    case round =>
      obtain ⟨m, rfl, hk, HB, HF, HU⟩ := hrel
      generalize wr = wo at *
      by_cases hlt : m < L.length
      · obtain ⟨b0, off0, rfl, hcl⟩ := HC.out m hlt
        rw [rga_ga] at hcl
        have HCM := Lib.hid (rangeAt_next hcl HB.out)
        have HFN2 := Lib.hid (HFN.out m hlt)
        have hfl := HFL.out m hk
        have hps := HPS.out m hlt
        clear hcl
        generalize ga L m = X at *
        obtain ⟨nm, pa, ps, bu⟩ := X
        have hcan : can ⟨nm, pa, ps, bu⟩ = ⟨nm, pa, thB (Real.mn ps), bu⟩ := rfl
        rw [hcan, ins_split] at HFN2
        have HM := Lib.hid fun W => (Real.rMilli_any ps hps W).mono (R' := fun e w' => e = .returned (.tuple #[.int .i64 (Real.mn ps : Nat), .int .i64 (Real.me ps : Nat)]) ∧ Below W.heap.size W w') fun e w' h => ⟨h.1, by obtain ⟨n, hn⟩ := h.2; rw [hn]; exact Real.bdrew (Below.refl _ _) n⟩
        have HT := Lib.hid fun W => rthou_any (Real.mn ps) (mn_le ps) W
        clear hcan hps
        generalize thB (Real.mn ps) = tb at *
        generalize Real.mn ps = n at *
        generalize Real.me ps = me at *
        obtain ⟨fa, fcap, rfl, hfc, hfr⟩ := HF.out.open_
        have HFC := Lib.hid hfr
        have HF := Lib.hid HF.out
        clear hfr
        generalize hFg : fm L m = F at *
        clear hFg
        have hF4 : F.length ≤ 4096 := by omega
        have HFLn := Lib.hid hfl
        clear hfl
        have HP := Lib.hid fun k => @pl_is F nm k
        go_wp2_with (first
          | (refine wpList_take _ rfl _ rfl b0 (off0 + m * 4) ⟨nm, pa, ps, bu⟩ rfl HCM.out ?_)
          | (refine wpList_keep _ rfl _ _ rfl wo.heap.size wo ((Below.refl _ _).alloc (Nat.le_refl _) _) _ (Nat.le_refl _) ⟨nm, pa, ps, bu⟩ _ rfl rfl (bx_new _ _) rfl ?_; intro w4 hk4 hb4 ho4; have K4 := Lib.hid hk4; have B4 := Lib.hid hb4; have c2 : w4.cell? ⟨wo.heap.size, 2, none⟩ = some (.float .f64 ps) := hk4.cell 2; clear hk4 hb4 ho4)
          | (go_at_call 22; (with_reducible refine (HM.out _).mono ?_); rintro e w5 ⟨rfl, hb5⟩; have X5 := Lib.hid (K4.out.next hb5 K4.out.lt); have e2 : w5.cell? ⟨wo.heap.size, 2, none⟩ = some (.float .f64 ps) := X5.out.cell 2; have f2 := store_f tb e2 (X5.out.free 2); have B5 := Lib.hid (B4.out.trans (hb5.mono B4.out.size)); clear hb5)
          | (go_at_call 23; (with_reducible refine (HT.out _).mono ?_); rintro e wx ⟨rfl, rfl⟩))
        have X6 := Lib.hid (show Bx (w5.setCell ⟨wo.heap.size, 2, none⟩ (.float .f64 tb)) wo.heap.size #[.string nm, .string pa, .float .f64 tb, .int .i64 bu] from X5.out.set 2 (.float .f64 tb))
        have B6 := Lib.hid (B5.out.setCell (p := ⟨wo.heap.size, 2, none⟩) (Nat.le_refl _) (.float .f64 tb))
        clear c2 e2 f2 X5 B5 K4 B4 HM HT HCM
        generalize w5.setCell ⟨wo.heap.size, 2, none⟩ (.float .f64 tb) = w6 at *
        have HL := Lib.hid X6.out.lt
        go_loopw [12] (fun i wr => ∃ k : Nat, i = .int .i64 (k : Int) ∧ k ≤ F.length ∧ Hid (Below w6.heap.size w6 wr) ∧ Hid (∀ j, j < k → lt (ga F j).nm nm = true)) (fun i _ => F.length - (RowKit.intOf i).toNat)
        case atStart => exact ⟨0, rfl, Nat.zero_le _, Lib.hid (Below.refl _ _), Lib.hid fun j hj => absurd hj (Nat.not_lt_zero _)⟩
        case round =>
          obtain ⟨k, rfl, hkF, HB7, HA⟩ := hrel
          have HW7 := Lib.hid (B6.out.trans (HB7.out.mono B6.out.size))
          by_cases hlt2 : k < F.length
          · obtain ⟨b, off, rfl, hcl⟩ := HFC.out k hlt2
            have c0 : wr.cell? ⟨b, off + k * 4, none⟩ = some (.string (ga F k).nm) := (HW7.out.cell (lt_of_cell (hcl 0 _ rfl))).trans (hcl 0 _ rfl)
            have r0 : wr.cell? ⟨wo.heap.size, 0, none⟩ = some (.string nm) := (X6.out.next HB7.out HL.out).cell 0
            clear hcl
            have HX := Lib.hid fun (h : lt (ga F k).nm nm = true) j (hj : j < k + 1) => by
              by_cases q : j < k
              · exact HA.out j q
              · obtain rfl : j = k := by omega
                exact h
            have HP2 := Lib.hid fun (h : lt (ga F k).nm nm = false) => HP.out k hkF HA.out fun _ => h
            unfold lt at HX HP2
            generalize (ga F k).nm = z at *
            cases hq : Op.bytesLess z.toList nm.toList with
            | true =>
              have HX2 := Lib.hid (HX.out hq)
              go_wp2_with fail
              go_region
              go_wp2_with fail
              go_roundw
              case rel => exact ⟨k + 1, by go_num, by omega, Lib.hid HB7.out.drew, HX2⟩
              case measure => simp [RowKit.intOf]; omega
            | false =>
              have E := Lib.hid (HP2.out hq)
              have HBd := Lib.hid HW7.out.drew
              have X1 := Lib.hid (X6.out.next HB7.out.drew HL.out)
              have HRd := Lib.hid (Row.take (HF.out.next (HW7.out.drew)) k hkF)
              have HL1 := Lib.hid (show ([] : List Ro).length + (F.take k).length ≤ 1000000000 by (try rw [List.length_take]); simp; try omega)
              have HL2 := Lib.hid (show (F.take k).length + [(Ro.mk nm pa tb bu)].length ≤ 1000000000 by (try rw [List.length_take]); show _ + 1 ≤ _; (try simp); try omega)
              have HL3 := Lib.hid (show (F.take k ++ [(Ro.mk nm pa tb bu)]).length + (F.drop k).length ≤ 1000000000 by rw [List.length_append]; (try rw [List.length_take, List.length_drop]); show _ + 1 + _ ≤ _; (try simp); try omega)
              go_wp2_with fail
              go_region
              go_wp2_with (first
                | (refine wpList_fetch _ rfl _ rfl _ _ rfl X2.out rfl ?_)
                | (refine wpList_push0 _ rfl _ _ rfl wo.heap.size wo (.slice none 0 0) (.slice (some ⟨b, off, none⟩) k fcap) [] (F.take k) rfl rfl (Own.nil _ _) HBd.out (Nat.le_refl _) HRd.out HL1.out ?_; intro v1 w2 own1 hb2 hg2; have X2 := Lib.hid (grown_bx X1.out hg2); rw [List.nil_append] at own1; have O1 := Lib.hid own1; have Bq2 := Lib.hid hb2; have O2 := Lib.hid (row_one w2 ⟨nm, pa, tb, bu⟩); clear own1 hb2 hg2)
                | (refine wpList_push0 _ rfl _ _ rfl wo.heap.size wo v1 (.slice (some ⟨w2.heap.size, 0, none⟩) 1 1) (F.take k) [⟨nm, pa, tb, bu⟩] rfl rfl (O1.out.alloc _) (Bq2.out.alloc Bq2.out.size _) (Nat.le_refl _) O2.out HL2.out ?_; intro v3 w3 own3 hb3 hg3; have O3 := Lib.hid own3; have Bq3 := Lib.hid hb3; have HD3 := Lib.hid (Row.drop (HF.out.next hb3) k hkF); clear own3 hb3 hg3)
                | (refine wpList_push0 _ rfl _ _ rfl wo.heap.size wo v3 (.slice (some ⟨b, off + k * 4, none⟩) (F.length - k) (fcap - k)) (F.take k ++ [⟨nm, pa, tb, bu⟩]) (F.drop k) rfl rfl O3.out Bq3.out (Nat.le_refl _) HD3.out HL3.out ?_; intro v4 w4 own4 hb4 hg4))
              rw [List.append_assoc] at own4
              go_roundw
              case rel => exact ⟨m + 1, by go_num, by omega, Lib.hid (HB.out.trans (hb4.mono HB.out.size)), Lib.hid (by rw [HFN2.out, E.out]; exact own4.row), fun h => absurd h (Nat.succ_ne_zero m)⟩
              case measure => simp [RowKit.intOf]; omega
          · have hke : k = F.length := by omega
            have E := Lib.hid (HP.out k hkF HA.out fun h => absurd h hlt2)
            by_cases h0 : 0 < F.length
            · obtain ⟨b, off, rfl, -⟩ := HFC.out 0 h0
              have hge : F.length ≤ k := by omega
              clear hke
              by_cases hkc : k < fcap
              · skip
                have HBd := Lib.hid HW7.out.drew
                have X1 := Lib.hid (X6.out.next HB7.out.drew HL.out)
                have HRd := Lib.hid (Row.take (HF.out.next (HW7.out.drew)) k hkF)
                have HL1 := Lib.hid (show ([] : List Ro).length + (F.take k).length ≤ 1000000000 by (try rw [List.length_take]); simp; try omega)
                have HL2 := Lib.hid (show (F.take k).length + [(Ro.mk nm pa tb bu)].length ≤ 1000000000 by (try rw [List.length_take]); show _ + 1 ≤ _; (try simp); try omega)
                have HL3 := Lib.hid (show (F.take k ++ [(Ro.mk nm pa tb bu)]).length + (F.drop k).length ≤ 1000000000 by rw [List.length_append]; (try rw [List.length_take, List.length_drop]); show _ + 1 + _ ≤ _; (try simp); try omega)
                go_wp2_with fail
                go_region
                go_wp2_with (first
                  | (refine wpList_fetch _ rfl _ rfl _ _ rfl X2.out rfl ?_)
                  | (refine wpList_push0 _ rfl _ _ rfl wo.heap.size wo (.slice none 0 0) (.slice (some ⟨b, off, none⟩) k fcap) [] (F.take k) rfl rfl (Own.nil _ _) HBd.out (Nat.le_refl _) HRd.out HL1.out ?_; intro v1 w2 own1 hb2 hg2; have X2 := Lib.hid (grown_bx X1.out hg2); rw [List.nil_append] at own1; have O1 := Lib.hid own1; have Bq2 := Lib.hid hb2; have O2 := Lib.hid (row_one w2 ⟨nm, pa, tb, bu⟩); clear own1 hb2 hg2)
                  | (refine wpList_push0 _ rfl _ _ rfl wo.heap.size wo v1 (.slice (some ⟨w2.heap.size, 0, none⟩) 1 1) (F.take k) [⟨nm, pa, tb, bu⟩] rfl rfl (O1.out.alloc _) (Bq2.out.alloc Bq2.out.size _) (Nat.le_refl _) O2.out HL2.out ?_; intro v3 w3 own3 hb3 hg3; have O3 := Lib.hid own3; have Bq3 := Lib.hid hb3; have HD3 := Lib.hid (nil_drop w3 (some ⟨b, off + k * 4, none⟩) (fcap - k) F k hge); clear own3 hb3 hg3)
                  | (refine wpList_push0 _ rfl _ _ rfl wo.heap.size wo v3 (.slice (some ⟨b, off + k * 4, none⟩) 0 (fcap - k)) (F.take k ++ [⟨nm, pa, tb, bu⟩]) (F.drop k) rfl rfl O3.out Bq3.out (Nat.le_refl _) HD3.out HL3.out ?_; intro v4 w4 own4 hb4 hg4))
                rw [List.append_assoc] at own4
                go_roundw
                case rel => exact ⟨m + 1, by go_num, by omega, Lib.hid (HB.out.trans (hb4.mono HB.out.size)), Lib.hid (by rw [HFN2.out, E.out]; exact own4.row), fun h => absurd h (Nat.succ_ne_zero m)⟩
                case measure => simp [RowKit.intOf]; omega
              · obtain rfl : k = fcap := by omega
                have HBd := Lib.hid HW7.out.drew
                have X1 := Lib.hid (X6.out.next HB7.out.drew HL.out)
                have HRd := Lib.hid (Row.take (HF.out.next (HW7.out.drew)) k hkF)
                have HL1 := Lib.hid (show ([] : List Ro).length + (F.take k).length ≤ 1000000000 by (try rw [List.length_take]); simp; try omega)
                have HL2 := Lib.hid (show (F.take k).length + [(Ro.mk nm pa tb bu)].length ≤ 1000000000 by (try rw [List.length_take]); show _ + 1 ≤ _; (try simp); try omega)
                have HL3 := Lib.hid (show (F.take k ++ [(Ro.mk nm pa tb bu)]).length + (F.drop k).length ≤ 1000000000 by rw [List.length_append]; (try rw [List.length_take, List.length_drop]); show _ + 1 + _ ≤ _; (try simp); try omega)
                go_wp2_with fail
                go_region
                go_wp2_with (first
                  | (refine wpList_fetch _ rfl _ rfl _ _ rfl X2.out rfl ?_)
                  | (refine wpList_push0 _ rfl _ _ rfl wo.heap.size wo (.slice none 0 0) (.slice (some ⟨b, off, none⟩) k k) [] (F.take k) rfl rfl (Own.nil _ _) HBd.out (Nat.le_refl _) HRd.out HL1.out ?_; intro v1 w2 own1 hb2 hg2; have X2 := Lib.hid (grown_bx X1.out hg2); rw [List.nil_append] at own1; have O1 := Lib.hid own1; have Bq2 := Lib.hid hb2; have O2 := Lib.hid (row_one w2 ⟨nm, pa, tb, bu⟩); clear own1 hb2 hg2)
                  | (refine wpList_push0 _ rfl _ _ rfl wo.heap.size wo v1 (.slice (some ⟨w2.heap.size, 0, none⟩) 1 1) (F.take k) [⟨nm, pa, tb, bu⟩] rfl rfl (O1.out.alloc _) (Bq2.out.alloc Bq2.out.size _) (Nat.le_refl _) O2.out HL2.out ?_; intro v3 w3 own3 hb3 hg3; have O3 := Lib.hid own3; have Bq3 := Lib.hid hb3; have HD3 := Lib.hid (nil_drop w3 (some ⟨b, off, none⟩) 0 F k hge); clear own3 hb3 hg3)
                  | (refine wpList_push0 _ rfl _ _ rfl wo.heap.size wo v3 (.slice (some ⟨b, off, none⟩) 0 0) (F.take k ++ [⟨nm, pa, tb, bu⟩]) (F.drop k) rfl rfl O3.out Bq3.out (Nat.le_refl _) HD3.out HL3.out ?_; intro v4 w4 own4 hb4 hg4))
                rw [List.append_assoc] at own4
                go_roundw
                case rel => exact ⟨m + 1, by go_num, by omega, Lib.hid (HB.out.trans (hb4.mono HB.out.size)), Lib.hid (by rw [HFN2.out, E.out]; exact own4.row), fun h => absurd h (Nat.succ_ne_zero m)⟩
                case measure => simp [RowKit.intOf]; omega
            · have hF0 : F.length = 0 := by omega
              have hm0 : m = 0 := by have := HFLn.out; omega
              have hu := HU hm0
              injection hu with hu1 hu2 hu3
              obtain rfl : F = [] := List.eq_nil_of_length_eq_zero hF0
              obtain rfl : k = 0 := by simpa using hke
              subst hu1 hu3
              clear hke hkF hlt2 h0 hfc HU hu2 hF0
              have HBd := Lib.hid HW7.out.drew
              have X1 := Lib.hid (X6.out.next HB7.out.drew HL.out)
              have HRd := Lib.hid (nil_row wr.drew none 0)
              have HL1 := Lib.hid (show ([] : List Ro).length + ([] : List Ro).length ≤ 1000000000 by (try rw [List.length_take]); simp; try omega)
              have HL2 := Lib.hid (show ([] : List Ro).length + [(Ro.mk nm pa tb bu)].length ≤ 1000000000 by (try rw [List.length_take]); show _ + 1 ≤ _; (try simp); try omega)
              have HL3 := Lib.hid (show (([] : List Ro) ++ [(Ro.mk nm pa tb bu)]).length + ([] : List Ro).length ≤ 1000000000 by rw [List.length_append]; (try rw [List.length_take, List.length_drop]); show _ + 1 + _ ≤ _; (try simp); try omega)
              go_wp2_with fail
              go_region
              go_wp2_with (first
                | (refine wpList_fetch _ rfl _ rfl _ _ rfl X2.out rfl ?_)
                | (refine wpList_push0 _ rfl _ _ rfl wo.heap.size wo (.slice none 0 0) (.slice none 0 0) [] ([] : List Ro) rfl rfl (Own.nil _ _) HBd.out (Nat.le_refl _) HRd.out HL1.out ?_; intro v1 w2 own1 hb2 hg2; have X2 := Lib.hid (grown_bx X1.out hg2); rw [List.nil_append] at own1; have O1 := Lib.hid own1; have Bq2 := Lib.hid hb2; have O2 := Lib.hid (row_one w2 ⟨nm, pa, tb, bu⟩); clear own1 hb2 hg2)
                | (refine wpList_push0 _ rfl _ _ rfl wo.heap.size wo v1 (.slice (some ⟨w2.heap.size, 0, none⟩) 1 1) ([] : List Ro) [⟨nm, pa, tb, bu⟩] rfl rfl (O1.out.alloc _) (Bq2.out.alloc Bq2.out.size _) (Nat.le_refl _) O2.out HL2.out ?_; intro v3 w3 own3 hb3 hg3; have O3 := Lib.hid own3; have Bq3 := Lib.hid hb3; have HD3 := Lib.hid (nil_row w3 none 0); clear own3 hb3 hg3)
                | (refine wpList_push0 _ rfl _ _ rfl wo.heap.size wo v3 (.slice none 0 0) (([] : List Ro) ++ [⟨nm, pa, tb, bu⟩]) ([] : List Ro) rfl rfl O3.out Bq3.out (Nat.le_refl _) HD3.out HL3.out ?_; intro v4 w4 own4 hb4 hg4))
              rw [List.append_assoc] at own4
              go_roundw
              case rel => exact ⟨m + 1, by go_num, by omega, Lib.hid (HB.out.trans (hb4.mono HB.out.size)), Lib.hid (by rw [HFN2.out, E.out]; exact own4.row), fun h => absurd h (Nat.succ_ne_zero m)⟩
              case measure => simp [RowKit.intOf]; omega
      · obtain rfl : m = L.length := by omega
        go_wp2_with fail
        go_ret3
        have hrow := HF.out
        rw [HFA.out] at hrow
        exact ⟨_, rfl, hrow, HB.out⟩
  · rw [scn_no hz]
    have b1 : ((sck L).2 != 0) = true := by simpa using hz
    clear hc hr hs hP hz
    generalize sck L = x at *
    obtain ⟨p, E⟩ := x
    dsimp only at b1 HCH ⊢
    go_enter Tryz.func9, Tryz.ntmps9
    go_wp2_with (go_at_call 7; (with_reducible refine HCH.out.mono ?_); rintro e w1 ⟨rfl, hb1⟩; have B1 := Lib.hid hb1; clear hb1)
    go_ret3
    exact ⟨_, rfl, Row.nil _, B1.out⟩
end Go.Proofs.YtcdkibadnelgiaaGreatDoor.One

namespace Go.Proofs.YtcdkibadnelgiaaGreatDoor.One
open Go.RowKit Go.Lib
open Go.Proofs.YtcdkibadnelgiaaGreatDoor.Ren (Pw)

theorem scn_ps (L : List Ro) : ∀ r ∈ scn L, r.ps < 18446744073709551616 := by
  intro r hr
  by_cases hz : (sck L).2 = 0
  · have hrs := (sck_zero L).1 hz
    obtain ⟨q, _, rfl⟩ := List.mem_map.1 ((scn_perm hrs).mem_iff.1 hr)
    have := (th_is (mn_le q.ps)).2.1
    unfold Real.inf at this
    show thB (Real.mn q.ps) < _
    omega
  · rw [scn_no hz] at hr
    cases hr
theorem scn_size {L : List Ro} (h : L.length ≤ 5000) : (scn L).length ≤ 5000 := by
  by_cases hz : (sck L).2 = 0
  · rw [scn_len ((sck_zero L).1 hz)]; exact h
  · rw [scn_no hz]; exact Nat.zero_le _

set_option maxRecDepth 100000 in
theorem ris_any (L : List Ro) (v : Value) (w : World) (hr : Row w v L) (hl : L.length ≤ 9223372036854775807) (hs : Mod L) (hP : Pw w) :
    Calls Tryz.prog 12 #[v] w fun e w' => e = .returned (.bool (isC L)) ∧ Below w.heap.size w w' := by
  have HCN := Lib.hid (rcanon_any L v w hr hl hs hP)
  have HR := Lib.hid hr
  have hsl : (scn L).length ≤ 9223372036854775807 := by
    by_cases hz : (sck L).2 = 0
    · rw [scn_len ((sck_zero L).1 hz)]; exact hl
    · rw [scn_no hz]; exact Nat.zero_le _
  have HSM := Lib.hid fun u W (h : Row W u (scn L)) (k : Row W v L) => rsame_any (scn L) L u v W h k hsl hl (scn_ps L) fun r hr => (hs r hr).1
  unfold isC
  clear hr hs hP hsl
  generalize sck L = x at *
  obtain ⟨p, E⟩ := x
  generalize scn L = C at *
  generalize sm C L = b at *
  dsimp only at HCN ⊢
  by_cases hE : E = 0
  · subst hE
    go_enter Tryz.func12, Tryz.ntmps12
    go_wp2_with (first
      | (go_at_call 9; (with_reducible refine HCN.out.mono ?_); rintro e w1 ⟨u1, rfl, hr1, hb1⟩)
      | (go_at_call 10; (with_reducible refine (HSM.out _ _ hr1 (HR.out.next hb1)).mono ?_); rintro e w2 ⟨rfl, hb2⟩))
    go_ret
    exact ⟨by simp, hb1.trans (hb2.mono hb1.size)⟩
  · have b1 : (E == 0) = false := by simpa using hE
    go_enter Tryz.func12, Tryz.ntmps12
    go_wp2_with (first
      | (go_at_call 9; (with_reducible refine HCN.out.mono ?_); rintro e w1 ⟨u1, rfl, hr1, hb1⟩)
      | (go_at_call 10; (with_reducible refine (HSM.out _ _ hr1 (HR.out.next hb1)).mono ?_); rintro e w2 ⟨rfl, hb2⟩))
    go_ret
    exact ⟨by simp [hE], hb1⟩

/-! ### the laws' premises -/
def CkP : Prop := ∀ (L : List Ro) (v : Value) (W : World), Row W v L → L.length ≤ 5000 → Mod L → Pw W →
  Calls Tryz.prog 6 #[v] W fun e w' => e = .returned (.tuple #[.string (sck L).1, .int .i64 (sck L).2]) ∧ Below W.heap.size W w'
def CnP : Prop := ∀ (L : List Ro) (v : Value) (W : World), Row W v L → L.length ≤ 5000 → Mod L → Pw W →
  Calls Tryz.prog 8 #[v] W fun e w' => ∃ v', e = .returned (.tuple #[v', .string (sck L).1, .int .i64 (sck L).2]) ∧ Row w' v' (scn L) ∧ Below W.heap.size W w'
def IsP : Prop := ∀ (L : List Ro) (v : Value) (W : World), Row W v L → L.length ≤ 5000 → Mod L → Pw W →
  Calls Tryz.prog 11 #[v] W fun e w' => e = .returned (.bool (isC L)) ∧ Below W.heap.size W w'
def SmP : Prop := ∀ (L M : List Ro) (v u : Value) (W : World), Row W v L → Row W u M → L.length ≤ 9223372036854775807 → M.length ≤ 9223372036854775807 → (∀ r ∈ L, r.ps < 18446744073709551616) → (∀ r ∈ M, r.ps < 18446744073709551616) →
  Calls Tryz.prog 13 #[v, u] W fun e w' => e = .returned (.bool (sm L M)) ∧ Below W.heap.size W w'
def AwP : Prop := ∀ (W : World), Pw W → Calls Tryz.prog 5 #[] W fun e w' => e = .returned (.bool true) ∧ Below W.heap.size W w'
theorem mod_of {L : List Ro} (hf : Fit L) (h : lgS L = true) : Mod L := fun r hr => by
  have := (lgS_iff h).2.2 r hr
  exact ⟨(hf r hr).2.2, by omega, by omega⟩

set_option maxHeartbeats 8000000 in
set_option maxRecDepth 100000 in
theorem says_of (HCK : CkP) (HCN : CnP) (HIS : IsP) (HSM : SmP) (HAW : AwP) (L M : List Ro) (v u : Value) (w : World) (hr : Row w v L) (hl : L.length ≤ 9223372036854775807) (hs : Fit L) (hq : Row w u M) (hm : M.length ≤ 9223372036854775807) (ht : Fit M) (hE : Pw w) :
    Calls Tryz.prog 3 #[v, u] w fun e w' => e = .returned (.bool true) ∧ Below w.heap.size w w' := by
  have HLG := Lib.hid (light_any L v w hr hl hs)
  have HLM := Lib.hid (light_any M u w hq hm ht)
  have HR := Lib.hid hr
  have HQ := Lib.hid hq
  have HE := Lib.hid hE
  have HAWh := Lib.hid fun W (k : Pw W) => HAW W k
  cases hlg : lgS L with
  | false =>
    rw [hlg] at HLG
    generalize lgS M = bm at *
    clear hr hs hE hlg HAW HCK HCN HIS HSM hq ht
    go_enter Tryz.func3, Tryz.ntmps3
    go_wp2_with (first
      | (go_at_call 4; (with_reducible refine HLG.out.mono ?_); rintro e w1 ⟨rfl, rfl⟩)
      | (go_at_call 5; (with_reducible refine (HAWh.out _ HE.out).mono ?_); rintro e w1 ⟨rfl, hb1⟩))
    go_ret
    exact ⟨rfl, hb1⟩
  | true =>
    rw [hlg] at HLG
    cases hlm : lgS M with
    | false =>
      rw [hlm] at HLM
      clear hr hs hE hlg hlm HAW HCK HCN HIS HSM hq ht
      go_enter Tryz.func3, Tryz.ntmps3
      go_wp2_with (first
        | (go_at_call 4; first
          | ((with_reducible refine HLG.out.mono ?_); rintro e w1 ⟨rfl, rfl⟩; clear HLG)
          | ((with_reducible refine HLM.out.mono ?_); rintro e w1 ⟨rfl, rfl⟩))
        | (go_at_call 5; (with_reducible refine (HAWh.out _ HE.out).mono ?_); rintro e w1 ⟨rfl, hb1⟩))
      go_ret
      exact ⟨rfl, hb1⟩
    | true =>
      rw [hlm] at HLM
      have h5 := (lgS_iff hlg).1
      have hmod := mod_of hs hlg
      have hp1 : ∀ r ∈ L, r.ps < 18446744073709551616 := fun r hr => (hs r hr).2.2
      have hp2 : ∀ r ∈ M, r.ps < 18446744073709551616 := fun r hr => (ht r hr).2.2
      have H1 := Lib.hid fun W (h : Row W v L) (k : Pw W) => HCK L v W h h5 hmod k
      have H2 := Lib.hid fun W (h : Row W v L) (k : Pw W) => rcheck_any L v W h hl hmod k
      have H3 := Lib.hid fun W (h : Row W v L) (k : Pw W) => HCN L v W h h5 hmod k
      have H4 := Lib.hid fun W (h : Row W v L) (k : Pw W) => rcanon_any L v W h hl hmod k
      have H7 := Lib.hid fun W (h : Row W v L) (k : Pw W) => HIS L v W h h5 hmod k
      have H8 := Lib.hid fun W (h : Row W v L) (k : Pw W) => ris_any L v W h hl hmod k
      have h6 := scn_size h5
      have H9 := Lib.hid fun u1 u2 W (h : Row W u1 (scn L)) (k : Row W u2 (scn L)) => rsame_any (scn L) (scn L) u1 u2 W h k (by omega) (by omega) (scn_ps L) (scn_ps L)
      rw [sm_self] at H9
      have HA := Lib.hid fun W (h : Row W v L) (k : Row W u M) => HSM L M v u W h k hl hm hp1 hp2
      have HB := Lib.hid fun W (h : Row W v L) (k : Row W u M) => rsame_any L M v u W h k hl hm hp1 hp2
      have HC := Lib.hid fun W (h : Row W v L) => HSM L L v v W h h hl hl hp1 hp1
      rw [sm_self] at HC
      clear hr hs hE hlg hlm HAW HCK HCN HIS HSM hq ht h6 hp1 hp2
      generalize sck L = x at *
      obtain ⟨p, E⟩ := x
      dsimp only at H1 H2 H3 H4
      generalize scn L = C at *
      generalize isC L = b at *
      generalize sm L M = f at *
      have q1 : (p.toList == p.toList) = true := beq_self_eq_true _
      have q2 : (b == b) = true := beq_self_eq_true _
      have q3 : (f == f) = true := beq_self_eq_true _
      go_enter Tryz.func3, Tryz.ntmps3
      go_wp2_with (first
        | (go_at_call 4; first
          | ((with_reducible refine HLG.out.mono ?_); rintro e w1 ⟨rfl, rfl⟩; clear HLG)
          | ((with_reducible refine HLM.out.mono ?_); rintro e w1 ⟨rfl, rfl⟩))
        | (go_at_call 6; (with_reducible refine (H1.out _ HR.out HE.out).mono ?_); rintro e w1 ⟨rfl, hb1⟩; have B1 := Lib.hid hb1; clear hb1)
        | (go_at_call 7; (with_reducible refine (H2.out _ (HR.out.next B1.out) (HE.out.next B1.out)).mono ?_); rintro e w2 ⟨rfl, hb2⟩; have B2 := Lib.hid (B1.out.trans (hb2.mono B1.out.size)); clear hb2)
        | (go_at_call 8; (with_reducible refine (H3.out _ (HR.out.next B2.out) (HE.out.next B2.out)).mono ?_); rintro e w3 ⟨v3, rfl, hr3, hb3⟩; have R3 := Lib.hid hr3; have B3 := Lib.hid (B2.out.trans (hb3.mono B2.out.size)); clear hb3 hr3)
        | (go_at_call 9; (with_reducible refine (H4.out _ (HR.out.next B3.out) (HE.out.next B3.out)).mono ?_); rintro e w4 ⟨v4, rfl, hr4, hb4⟩; have R4 := Lib.hid hr4; have R34 := Lib.hid (R3.out.next hb4); have B4 := Lib.hid (B3.out.trans (hb4.mono B3.out.size)); clear hb4 hr4)
        | (go_at_call 11; (with_reducible refine (H7.out _ (HR.out.next B7.out) (HE.out.next B7.out)).mono ?_); rintro e w8 ⟨rfl, hb8⟩; have B8 := Lib.hid (B7.out.trans (hb8.mono B7.out.size)); clear hb8)
        | (go_at_call 12; (with_reducible refine (H8.out _ (HR.out.next B8.out) (HE.out.next B8.out)).mono ?_); rintro e w9 ⟨rfl, hb9⟩; have B9 := Lib.hid (B8.out.trans (hb9.mono B8.out.size)); clear hb9)
        | (go_at_call 10; first
          | ((with_reducible refine (HB.out _ (HR.out.next BA.out) (HQ.out.next BA.out)).mono ?_); rintro e wb ⟨rfl, hbb⟩; have BB := Lib.hid (BA.out.trans (hbb.mono BA.out.size)); clear hbb)
          | ((with_reducible refine (H9.out _ _ _ R34.out R4.out).mono ?_); rintro e w7 ⟨rfl, hb7⟩; have B7 := Lib.hid (B4.out.trans (hb7.mono B4.out.size)); clear hb7))
        | (go_at_call 13; first
          | ((with_reducible refine (HC.out _ (HR.out.next BB.out)).mono ?_); rintro e wc ⟨rfl, hbc⟩; have BC := Lib.hid (BB.out.trans (hbc.mono BB.out.size)); clear hbc)
          | ((with_reducible refine (HA.out _ (HR.out.next B9.out) (HQ.out.next B9.out)).mono ?_); rintro e wa ⟨rfl, hba⟩; have BA := Lib.hid (B9.out.trans (hba.mono B9.out.size)); clear hba))
        | (go_at_call 5; (with_reducible refine (HAWh.out _ (HE.out.next BC.out)).mono ?_); rintro e wx ⟨rfl, hbx⟩))
      go_ret
      exact ⟨by simp, BC.out.trans (hbx.mono BC.out.size)⟩
end Go.Proofs.YtcdkibadnelgiaaGreatDoor.One
