/- Names compared, rules sorted, what a loop puts; the code's Is out of its Canon and Same. Conditions: as each theorem states. -/
import Derived.Test.YtcdkibadnelgiaaGreatDoorOneSort
import Derived.Test.YtcdkibadnelgiaaGreatDoorOneP3
namespace Go.Proofs.YtcdkibadnelgiaaGreatDoor.One
open Go.RowKit Go.Lib Go.Shelf Go.Sort
open Go.Proofs.YtcdkibadnelgiaaGreatDoor.Ren (Pw)

theorem byid_any (x y : Ro) (W : World) : Calls Tryz.prog 21 #[.agg (ruC x), .agg (ruC y)] W fun e w' => e = .returned (.int .i64 (cfR x y)) ∧ ∃ q os, w' = grow (W.drewN q) os := by
  have HC := Lib.hid fun w => Tryz.strings_Compare x.nm y.nm w
  have hcf : Lib.compareBytes x.nm.data.toList y.nm.data.toList = cfR x y := rfl
  rw [hcf] at HC
  generalize cfR x y = n at *
  clear hcf
  obtain ⟨nm, pa, ps, bu⟩ := x
  obtain ⟨nm', pa', ps', bu'⟩ := y
  dsimp only [ruC] at *
  go_enter Tryz.func21, Tryz.ntmps21
  go_wp2_with (first
    | (go_at_call 39; (with_reducible refine (HC.out _).mono ?_); rintro e w1 ⟨rfl, rfl⟩))
  go_ret
  exact ⟨rfl, 0, _, by rw [alloc_eq_grow, alloc_eq_grow, grow_grow]; rfl⟩

/-- Rules with ids that differ, sorted. -/
theorem sort_rules (w : World) (B g cap : Nat) (L : List Ro) (hO : Own w B (.slice (some ⟨g, 0, none⟩) L.length cap) L) (hn : (L.map (·.nm)).Nodup) (hl : L.length ≤ 5000) :
    Calls Tryz.prog 20 #[.slice (some ⟨g, 0, none⟩) L.length cap, .func (.func 21) #[] #[]] w fun e w' => e = .returned (.tuple #[]) ∧ Own w' B (.slice (some ⟨g, 0, none⟩) L.length cap) (srt L) ∧ w.grownBy w' (some g) := by
  haveI : Inhabited Ro := ⟨zero⟩
  obtain ⟨hH, hgl, hBg⟩ := own_holds hO
  have e : L.toArray.size = L.length := List.size_toArray
  have eg : ∀ args w, (callFunc 21 args).run Tryz.prog w = .ok (.enter 21 args) w := enters_of Tryz.func21 (by kernel_rfl) rfl
  have hcmp : CmpLays Tryz.prog 21 #[] ruL 4 cfR g 0 L.toArray.size w := fun m os dk _ x y => byid_any x y _
  have key := AnyQ.slices_SortFunc Tryz.laysSF20 4 Tryz.isAgg33 Tryz.sizeOf33 ruL (fun _ => rfl) ruL_one cfR swoR 21 #[] g 0 cap L.toArray w eg hcmp hH hgl (by rw [e]; omega)
  rw [e] at key
  refine key.mono ?_
  rintro x w' ⟨rfl, d', n, os, hp, hs, rfl⟩
  obtain rfl := sorted_srt hn d' (by rw [e]; exact hp) (by rw [e]; exact hs)
  have h2 := own_sorted hO (M := srt L) (srt_perm L).length_eq n os
  exact ⟨rfl, h2.1, h2.2⟩

/-! ### what the loop has put -/
def fl (L : List Ro) (i : Nat) : List Ro := (List.range L.length).map fun j => if j < i then can (ga L j) else zero
theorem fl_len (L : List Ro) (i : Nat) : (fl L i).length = L.length := by unfold fl; rw [List.length_map, List.length_range]
theorem fl_at (L : List Ro) (i j : Nat) (_h : j < (fl L i).length) : (fl L i)[j] = if j < i then can (ga L j) else zero := by simp [fl]
theorem fl_zero (L : List Ro) : fl L 0 = List.replicate L.length zero := by
  refine List.ext_getElem (by rw [fl_len, List.length_replicate]) fun i h1 h2 => ?_
  rw [fl_at, List.getElem_replicate, if_neg (by omega)]
theorem fl_all (L : List Ro) : fl L L.length = L.map can := by
  refine List.ext_getElem (by rw [fl_len, List.length_map]) fun i h1 h2 => ?_
  rw [List.length_map] at h2
  rw [fl_at, List.getElem_map, if_pos h2, ga_at h2]
theorem fl_set (L : List Ro) {i : Nat} (_h : i < L.length) : (fl L i).set i (can (ga L i)) = fl L (i + 1) := by
  refine List.ext_getElem (by rw [List.length_set, fl_len, fl_len]) fun j h1 h2 => ?_
  rw [List.getElem_set, fl_at, fl_at]
  by_cases e : i = j
  · subst e
    rw [if_pos rfl, if_pos (by omega)]
  · rw [if_neg e]
    by_cases q : j < i
    · rw [if_pos q, if_pos (by omega)]
    · rw [if_neg q, if_neg (by omega)]
set_option maxHeartbeats 8000000 in
set_option maxRecDepth 100000 in
theorem is_of (HCN : CnP) (HSM : SmP) : IsP := by
  intro L v w hr h5 hm hE
  have HCH := Lib.hid (HCN L v w hr h5 hm hE)
  have HR := Lib.hid hr
  by_cases hz : (sck L).2 = 0
  · have hrs := (sck_zero L).1 hz
    rw [isC_ok hrs, sm_comm]
    rw [sck_ok hrs] at HCH
    have hln := hrs.len
    have hl2 := scn_len hrs
    have HS := Lib.hid fun W u (h : Row W u (scn L)) (k : Row W v L) => HSM L (scn L) v u W k h (by omega) (by omega) (fun r hr => (hm r hr).1) (scn_ps L)
    clear hr hm hE hz hrs hl2 HCN HSM
    generalize sm L (scn L) = R at *
    generalize scn L = C at *
    go_enter Tryz.func11, Tryz.ntmps11
    go_wp2_with (first
      | (go_at_call 8; (with_reducible refine HCH.out.mono ?_); rintro e w1 ⟨u, rfl, hu, hb1⟩; have R1 := Lib.hid (HR.out.next hb1); have U1 := Lib.hid hu; have B1 := Lib.hid hb1; clear hb1 hu)
      | (go_at_call 13; (with_reducible refine (HS.out _ _ U1.out R1.out).mono ?_); rintro e w2 ⟨rfl, hb2⟩; have B2 := Lib.hid (B1.out.trans (hb2.mono B1.out.size)); clear hb2))
    go_ret
    exact ⟨rfl, B2.out⟩
  · rw [isC_no hz]
    have b1 : ((sck L).2 == 0) = false := by simpa using hz
    clear hr hm hE hz HCN HSM
    generalize scn L = C at *
    generalize sck L = x at *
    obtain ⟨p, E⟩ := x
    dsimp only at *
    go_enter Tryz.func11, Tryz.ntmps11
    go_wp2_with (first
      | (go_at_call 8; (with_reducible refine HCH.out.mono ?_); rintro e w1 ⟨u, rfl, hu, hb1⟩; have B1 := Lib.hid hb1; clear hb1 hu))
    go_ret
    exact ⟨rfl, B1.out⟩
end Go.Proofs.YtcdkibadnelgiaaGreatDoor.One
