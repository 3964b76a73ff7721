/- Contracts of the code's Canon, Is of sets of rules. Conditions: as CnP, IsP state. -/
import Derived.Test.YtoodiledcphclaaGreatDoorThrS
import Derived.Test.YtoodiledcphclaaGreatDoorThrN
namespace Go.Proofs.YtoodiledcphclaaGreatDoor.Thr
open Go.RowKit Go.Lib Go.Shelf Go.Sort
open Go.Proofs.YtoodiledcphclaaGreatDoor.Rul (Ru zero Row Own ruC ruL rga chk can cn Bx bx_new)
open Go.Proofs.YtoodiledcphclaaGreatDoor.Ren (Pw)

theorem byid_any (x y : Ru) (W : World) : Calls Tryz.prog 21 #[.agg (ruC x), .agg (ruC y)] W fun e w' => e = .returned (.int .i64 (cfR x y)) ∧ ∃ q os, w' = grow (W.drewN q) os := by
  have HC := Lib.hid fun w => Tryz.strings_Compare x.id y.id w
  have hcf : Lib.compareBytes x.id.data.toList y.id.data.toList = cfR x y := rfl
  rw [hcf] at HC
  generalize cfR x y = n at *
  clear hcf
  obtain ⟨id, no, ro, pr, ki, ra, pe, bu, co, mx, fa, wa, pb⟩ := x
  obtain ⟨id', no', ro', pr', ki', ra', pe', bu', co', mx', fa', wa', pb'⟩ := y
  dsimp only [ruC] at *
  go_enter Tryz.func21, Tryz.ntmps21
  go_wp2_with (first
    | (go_at_call 37; (with_reducible refine (HC.out _).mono ?_); rintro e w1 ⟨rfl, rfl⟩))
  go_ret
  exact ⟨rfl, 0, _, by rw [alloc_eq_grow, alloc_eq_grow, grow_grow]; rfl⟩

/-- Rules with ids that differ, sorted. -/
theorem sort_rules (w : World) (B g cap : Nat) (L : List Ru) (hO : Own w B (.slice (some ⟨g, 0, none⟩) L.length cap) L) (hn : (L.map (·.id)).Nodup) (hl : L.length ≤ 5000) :
    Calls Tryz.prog 20 #[.slice (some ⟨g, 0, none⟩) L.length cap, .func (.func 21) #[] #[]] w fun e w' => e = .returned (.tuple #[]) ∧ Own w' B (.slice (some ⟨g, 0, none⟩) L.length cap) (srt L) ∧ w.grownBy w' (some g) := by
  haveI : Inhabited Ru := ⟨zero⟩
  obtain ⟨hH, hgl, hBg⟩ := own_holds hO
  have e : L.toArray.size = L.length := List.size_toArray
  have eg : ∀ args w, (callFunc 21 args).run Tryz.prog w = .ok (.enter 21 args) w := enters_of Tryz.func21 (by kernel_rfl) rfl
  have hcmp : CmpLays Tryz.prog 21 #[] ruL 13 cfR g 0 L.toArray.size w := fun m os dk _ x y => byid_any x y _
  have key := AnyQ.slices_SortFunc Tryz.laysSF20 13 Tryz.isAgg35 Tryz.sizeOf35 ruL (fun _ => rfl) Rul.ruL_one cfR swoR 21 #[] g 0 cap L.toArray w eg hcmp hH hgl (by rw [e]; omega)
  rw [e] at key
  refine key.mono ?_
  rintro x w' ⟨rfl, d', n, os, hp, hs, rfl⟩
  obtain rfl := sorted_srt hn d' (by rw [e]; exact hp) (by rw [e]; exact hs)
  have h2 := own_sorted hO (M := srt L) (srt_perm L).length_eq n os
  exact ⟨rfl, h2.1, h2.2⟩

/-! ### what the loop has put -/
def fl (L : List Ru) (i : Nat) : List Ru := (List.range L.length).map fun j => if j < i then can (ga L j) else zero
theorem fl_len (L : List Ru) (i : Nat) : (fl L i).length = L.length := by unfold fl; rw [List.length_map, List.length_range]
theorem fl_at (L : List Ru) (i j : Nat) (_h : j < (fl L i).length) : (fl L i)[j] = if j < i then can (ga L j) else zero := by simp [fl]
theorem fl_zero (L : List Ru) : fl L 0 = List.replicate L.length zero := by
  refine List.ext_getElem (by rw [fl_len, List.length_replicate]) fun i h1 h2 => ?_
  rw [fl_at, List.getElem_replicate, if_neg (by omega)]
theorem fl_all (L : List Ru) : fl L L.length = L.map can := by
  refine List.ext_getElem (by rw [fl_len, List.length_map]) fun i h1 h2 => ?_
  rw [List.length_map] at h2
  rw [fl_at, List.getElem_map, if_pos h2, ga_at h2]
theorem fl_set (L : List Ru) {i : Nat} (_h : i < L.length) : (fl L i).set i (can (ga L i)) = fl L (i + 1) := by
  refine List.ext_getElem (by rw [List.length_set, fl_len, fl_len]) fun j h1 h2 => ?_
  rw [List.getElem_set, fl_at, fl_at]
  by_cases e : i = j
  · subst e
    rw [if_pos rfl, if_pos (by omega)]
  · rw [if_neg e]
    by_cases q : j < i
    · rw [if_pos q, if_pos (by omega)]
    · rw [if_neg q, if_neg (by omega)]
theorem sm_comm (L M : List Ru) : sm L M = sm M L := by
  rw [Bool.eq_iff_iff, sm_iff, sm_iff]
  exact ⟨Eq.symm, Eq.symm⟩

set_option maxHeartbeats 8000000 in
set_option maxRecDepth 100000 in
theorem canon_any : CnP := by
  intro L v w hr h5 hm hE
  have HCH := Lib.hid (check_any L v w hr h5 hm hE)
  have HEV := Lib.hid hE
  obtain ⟨a, cap, rfl, -, hc⟩ := hr.open_
  by_cases hz : (sck L).2 = 0
  · have hrs := (sck_zero L).1 hz
    rw [scn_ok hrs]
    rw [sck_ok hrs] at HCH ⊢
    have HC := Lib.hid hc
    have HCN := Lib.hid fun (i : Nat) (h : i < L.length) W (hW : Ev W) => (by
      have hk := Rul.chk_ok (hrs.rt _ (ga_mem h))
      exact Rul.canon_at (ga L i) (can (ga L i)) ⟨#[]⟩ 0 (Rul.cn_ok (by rw [hk])) hk (hm _ (ga_mem h)).1 (hm _ (ga_mem h)).2.1 (hm _ (ga_mem h)).2.2 W hW.tab hW.utf
      : Calls Tryz.prog 19 #[.agg (ruC (ga L i))] W fun x w' => x = .returned (.tuple #[.agg (ruC (can (ga L i))), .string ⟨#[]⟩, .int .i64 0]) ∧ Below W.heap.size W w')
    have HFS := Lib.hid fun m => @fl_set L m
    have HFL := Lib.hid (fl_len L)
    have HF0 := Lib.hid (fl_zero L)
    have HFA := Lib.hid (fl_all L)
    have HSR := Lib.hid fun W B g (hO : Own W B (.slice (some ⟨g, 0, none⟩) (L.map can).length L.length) (L.map can)) => sort_rules W B g L.length (L.map can) hO (cans_right hrs).nd (by rw [List.length_map]; omega)
    have HLM := Lib.hid (show (L.map can).length = L.length from List.length_map _)
    clear hc hr hm hE hz hrs
    generalize srt (L.map can) = R at *
    go_enter Tryz.func8, Tryz.ntmps8
    go_wp2_with (first
      | (go_at_call 6; (with_reducible refine HCH.out.mono ?_); rintro e w1 ⟨rfl, hb1⟩; have B1 := Lib.hid hb1; clear hb1)
      | (refine Rul.wpList_makeR _ rfl _ _ rfl w.heap.size w B1.out B1.out.size L.length rfl rfl (by omega) ?_; intro w2 G hG hO2 hb2; have B2 := Lib.hid hb2; have O2 := Lib.hid hO2; clear hO2 hb2))
    go_loopw [24] (fun i wr => ∃ m : Nat, i = .int .i64 (m : Int) ∧ m ≤ L.length ∧ Hid (Below w.heap.size w wr) ∧ Hid (Own wr w.heap.size (.slice (some ⟨G, 0, none⟩) L.length L.length) (fl L m))) (fun i _ => L.length - (RowKit.intOf i).toNat)
    case atStart => exact ⟨0, rfl, Nat.zero_le _, B2, Lib.hid (by rw [HF0.out]; exact O2.out)⟩
    case round =>
      obtain ⟨m, rfl, hk, HB, HO⟩ := hrel
      by_cases hlt : m < L.length
      · obtain ⟨b, off, rfl, hcl⟩ := HC.out m hlt
        rw [rga_ga] at hcl
        have HCM := Lib.hid (Rul.rangeAt_next hcl HB.out)
        clear hcl
        have HEW := Lib.hid (HEV.out.next HB.out)
        have HCN2 := Lib.hid (HCN.out m hlt)
        have HFS2 := Lib.hid (HFS.out m hlt)
        generalize ga L m = X at *
        generalize can X = C at *
        go_wp2_with (first
          | (refine Rul.wpList_take _ rfl _ rfl b (off + m * 13) X rfl HCM.out ?_)
          | (refine Rul.wpList_keep _ rfl _ _ rfl wr.heap.size wr ((Below.refl _ _).alloc (Nat.le_refl _) _) _ (Nat.le_refl _) X _ rfl rfl (bx_new _ _) rfl ?_; intro w4 hk4 hb4 ho4; have K4 := Lib.hid hk4; have B4 := Lib.hid hb4; clear hk4 hb4 ho4)
          | (refine Rul.wpList_fetch _ rfl _ rfl wr.heap.size _ rfl K4.out rfl ?_)
          | (go_at_call 19; (with_reducible refine (HCN2.out _ (HEW.out.next B4.out)).mono ?_); rintro e w5 ⟨rfl, hb5⟩; have B5 := Lib.hid (B4.out.trans (hb5.mono B4.out.size)); have O5 := Lib.hid (show Own w5 w.heap.size (.slice (some ⟨G, 0, none⟩) (fl L m).length L.length) (fl L m) by rw [HFL.out]; exact HO.out.next B5.out); have BW5 := Lib.hid (HB.out.trans (B5.out.mono HB.out.size)); clear hb5)
          | (refine Rul.wpList_keepAt _ rfl _ _ rfl w.heap.size w BW5.out BW5.out.size G L.length (fl L m) m _ (by rw [HFL.out]; exact hlt) C rfl (by omega) rfl O5.out ?_; intro w6 hO6 hb6))
        go_roundw
        case rel => exact ⟨m + 1, by go_num, by omega, Lib.hid hb6, Lib.hid (by rw [← HFS2.out]; rw [HFL.out] at hO6; exact hO6)⟩
        case measure => simp [RowKit.intOf]; omega
      · obtain rfl : m = L.length := by omega
        have HS := Lib.hid (HSR.out wr w.heap.size G (by rw [HLM.out, ← HFA.out]; exact HO.out))
        rw [HLM.out] at HS
        go_wp2_with (first
          | (go_at_call 20; (with_reducible refine HS.out.mono ?_); rintro e w7 ⟨rfl, hO7, hg7⟩))
        go_ret3
        exact ⟨_, rfl, hO7.row, HB.out.grown hg7 HB.out.size fun k hk => by rw [← Option.some.inj hk]; exact Nat.le_trans B1.out.size hG⟩
  · rw [scn_no hz]
    have b1 : ((sck L).2 != 0) = true := by simpa using hz
    clear hc hr hm hE hz
    generalize sck L = x at *
    obtain ⟨p, E⟩ := x
    dsimp only at *
    go_enter Tryz.func8, Tryz.ntmps8
    go_wp2_with (first
      | (go_at_call 6; (with_reducible refine HCH.out.mono ?_); rintro e w1 ⟨rfl, hb1⟩))
    go_ret3
    exact ⟨_, rfl, Row.nil _, hb1⟩

set_option maxHeartbeats 8000000 in
set_option maxRecDepth 100000 in
theorem is_any : IsP := by
  intro L v w hr h5 hm hE
  have HCH := Lib.hid (canon_any L v w hr h5 hm hE)
  have HR := Lib.hid hr
  by_cases hz : (sck L).2 = 0
  · have hrs := (sck_zero L).1 hz
    rw [isC_ok hrs, sm_comm]
    rw [sck_ok hrs] at HCH
    have hln := hrs.len
    have hl2 := scn_len hrs
    have HS := Lib.hid fun W u (h : Row W u (scn L)) (k : Row W v L) => same_any L (scn L) v u W k h (by omega) (by omega)
    clear hr hm hE hz hrs hl2
    generalize sm L (scn L) = R at *
    generalize scn L = C at *
    go_enter Tryz.func13, Tryz.ntmps13
    go_wp2_with (first
      | (go_at_call 8; (with_reducible refine HCH.out.mono ?_); rintro e w1 ⟨u, rfl, hu, hb1⟩; have R1 := Lib.hid (HR.out.next hb1); have U1 := Lib.hid hu; have B1 := Lib.hid hb1; clear hb1 hu)
      | (go_at_call 26; (with_reducible refine (HS.out _ _ U1.out R1.out).mono ?_); rintro e w2 ⟨rfl, hb2⟩; have B2 := Lib.hid (B1.out.trans (hb2.mono B1.out.size)); clear hb2))
    go_ret
    exact ⟨rfl, B2.out⟩
  · rw [isC_no hz]
    have b1 : ((sck L).2 == 0) = false := by simpa using hz
    clear hr hm hE hz
    generalize scn L = C at *
    generalize sck L = x at *
    obtain ⟨p, E⟩ := x
    dsimp only at *
    go_enter Tryz.func13, Tryz.ntmps13
    go_wp2_with (first
      | (go_at_call 8; (with_reducible refine HCH.out.mono ?_); rintro e w1 ⟨u, rfl, hu, hb1⟩; have B1 := Lib.hid hb1; clear hb1 hu))
    go_ret
    exact ⟨rfl, B1.out⟩
end Go.Proofs.YtoodiledcphclaaGreatDoor.Thr
