/- Texts of my own, packed: JsnL, ThrT. Conditions: as each theorem states. -/
import Derived.Test.YtehkiojohldlgaaGreatDoorK14
import Derived.Test.YtehkiojohldlgaaGreatDoorK32
import Derived.Test.YtehkiojohldlgaaGreatDoorK36
import Derived.Test.YtehkiojohldlgaaGreatDoorK37
import Derived.Test.YtehkiojohldlgaaGreatDoorK39
import Derived.Test.YtehkiojohldlgaaGreatDoorK40
namespace Go.Proofs.YtehkiojohldlgaaGreatDoor.Jsn
open Go.RowKit Go.Lib
open Go.Proofs.YtehkiojohldlgaaGreatDoor.Tre (Vt V0 find OkT OkT_iff okV InV InS InS_in InS_one InV_next Box box_new cnt wr64)
open Go.Proofs.YtehkiojohldlgaaGreatDoor.Rul (Ru ruC Row Rt kB)
open Go.Proofs.YtehkiojohldlgaaGreatDoor.Thr (sck scn Rs Mod Ev ga lgS Fit)

/-! ### what is put can be read -/
theorem OkT_of {k n : Int} {s : ByteArray} {l : List Vt} {ns : List ByteArray} (hk : -9223372036854775808 ≤ k ∧ k ≤ 9223372036854775807) (hn : -9223372036854775808 ≤ n ∧ n ≤ 9223372036854775807) (hs : s.size ≤ 140737488351232) (hl : l.length * 80 ≤ 140737488351232)
    (hc : ns.length * 16 ≤ 140737488351232) (hm : ∀ m ∈ ns, m.size ≤ 140737488351232) (hx : ∀ x ∈ l, OkT x) : OkT (.mk k n s l ns) := (OkT_iff _).2 ⟨⟨hk, hn, hs, hl, hc, hm⟩, hx⟩
theorem no_names : ∀ m ∈ ([] : List ByteArray), m.size ≤ 140737488351232 := fun _ h => absurd h List.not_mem_nil
theorem no_items : ∀ x ∈ ([] : List Vt), OkT x := fun _ h => absurd h List.not_mem_nil
theorem OkT_T {s : ByteArray} (h : s.size ≤ 140737488351232) : OkT (T s) := OkT_of (by decide) (by decide) h (by decide) (by decide) no_names no_items
theorem OkT_N {n : Int} (h1 : -9223372036854775808 ≤ n) (h2 : n ≤ 9223372036854775807) : OkT (N n) := OkT_of (by decide) ⟨h1, h2⟩ (by decide) (by decide) (by decide) no_names no_items
theorem kB_small (k : Int) : (kB k).size ≤ 140737488351232 := by
  unfold kB
  split
  · decide
  · split
    · decide
    · split <;> decide
theorem id_small {s : ByteArray} (h : Rul.isId s = true) : s.size ≤ 140737488351232 := by
  unfold Rul.isId at h
  have := ((Ide.idL_iff _).1 h).2.1
  have e : s.data.toList.length = s.size := by simp
  omega
theorem OkT_mem {r : Ru} (h : Rt r) (hro : r.ro.size ≤ 140737488351232) : ∀ p ∈ mem r, OkT p.2 := by
  intro p hp
  have hki := h.ki
  have hpr := h.pr
  unfold mem note nums at hp
  simp only [List.mem_cons, List.mem_append] at hp
  rcases hp with rfl | hp | rfl | rfl | rfl | hp
  · exact OkT_T (id_small h.id)
  · split at hp
    · cases hp
    · rw [List.mem_singleton] at hp; rw [hp]; exact OkT_T (Nat.le_trans h.no (by decide))
  · exact OkT_T hro
  · exact OkT_N (by omega) (by omega)
  · exact OkT_T (kB_small _)
  · split at hp
    · simp only [List.mem_cons, List.not_mem_nil, or_false] at hp
      rcases hp with rfl | rfl | rfl | rfl <;> exact OkT_N (by omega) (by omega)
    · split at hp
      · rw [List.mem_singleton] at hp; rw [hp]; exact OkT_N (by omega) (by omega)
      · simp only [List.mem_cons, List.not_mem_nil, or_false] at hp
        rcases hp with rfl | rfl | rfl <;> exact OkT_N (by omega) (by omega)
theorem mem_len (r : Ru) : (mem r).length ≤ 9 := by
  rw [mem_is, List.length_append, (nums_nn r).1]
  have := mem0_len r
  have := nn_len r.ki
  omega
theorem name_small {r : Ru} : ∀ s ∈ (mem r).map Prod.fst, s.size ≤ 140737488351232 := by
  intro s hs
  have hu := in_mem r
  unfold unk at hu
  rw [List.find?_eq_none] at hu
  have := hu s hs
  have hq : isin all s = true := by simpa using this
  unfold isin at hq
  rw [List.any_eq_true] at hq
  obtain ⟨n, hn, he⟩ := hq
  rw [← of_decide_eq_true he]
  have key : ∀ n ∈ all, n.size ≤ 140737488351232 := by decide
  exact key n hn
theorem OkT_one {r : Ru} (h : Rt r) (hro : r.ro.size ≤ 140737488351232) : OkT (one r) := by
  have hl := mem_len r
  refine OkT_of (by decide) (by decide) (by decide) (by rw [List.length_map]; omega) (by rw [List.length_map]; omega) (fun m hm => name_small m hm) fun x hx => ?_
  obtain ⟨p, hp, rfl⟩ := List.mem_map.1 hx
  exact OkT_mem h hro p hp
theorem OkT_put {C : List Ru} (h : Rs C) (hro : ∀ r ∈ C, r.ro.size ≤ 140737488351232) : OkT (putV C) := by
  have hl := h.len
  refine OkT_of (by decide) (by decide) (by decide) (by rw [List.length_map]; omega) (by decide) no_names fun x hx => ?_
  obtain ⟨r, hr, rfl⟩ := List.mem_map.1 hx
  exact OkT_one (h.rt r hr) (hro r hr)
theorem scn_ro {L : List Ru} (h : Rs L) {r : Ru} (hr : r ∈ scn L) : ∃ q ∈ L, r.ro = q.ro := by
  obtain ⟨q, hq, rfl⟩ := List.mem_map.1 ((Thr.scn_perm h).mem_iff.1 hr)
  exact ⟨q, hq, (Rul.can_keeps (h.rt q hq)).2.2.1⟩
theorem OkT_zero : OkT V0 := OkT_of (by decide) (by decide) (by decide) (by decide) (by decide) no_names no_items
theorem OkT_putO {L : List Ru} (hro : ∀ r ∈ L, r.ro.size ≤ 140737488351232) : OkT (putO L) := by
  unfold putO
  split
  · rename_i hz
    have hrs := (Thr.sck_zero L).1 hz
    refine OkT_put (Thr.scn_right hrs) fun r hr => ?_
    obtain ⟨q, hq, e⟩ := scn_ro hrs hr
    rw [e]; exact hro q hq
  · exact OkT_zero

/-! ### what the code's calls answer -/
/-- The names of a value's items are of such a size. -/
def Nz (B : Nat) (v : Vt) : Prop := ∀ x ∈ v.l, ∀ n ∈ x.ns, n.size ≤ B
def PuP : Prop := ∀ (L : List Ru) (v : Value) (W : World), Row W v L → L.length ≤ 5000 → Mod L → Ev W →
  Calls Tryz.prog 10 #[v] W fun e w' => ∃ cs : List Value, e = .returned (.tuple #[.agg cs.toArray, .string (sck L).1, .int .i64 (sck L).2]) ∧ InS (fun b => W.heap.size ≤ b) w' (putO L) cs ∧ Below W.heap.size W w'
def OfP (B : Nat) (K : World → Prop) : Prop := ∀ (v : Vt), OkT v → Nz B v → ∀ (cs : List Value) (W : World), InV W v cs → Ev W → K W →
  Calls Tryz.prog 12 #[.agg cs.toArray] W fun e w' => ∃ u, e = .returned (.tuple #[u, .string (ofE v).1, .int .i64 (ofE v).2]) ∧ Row w' u (ofR v) ∧ Below W.heap.size W w'
def TxP : Prop := ∀ (v : Vt), OkT v → ∀ (s : ByteArray) (cs : List Value) (W : World), InV W v cs →
  Calls Tryz.prog 16 #[.agg cs.toArray, .string s] W fun e w' => e = .returned (.tuple #[.string (tx v s).1, .int .i64 (tx v s).2]) ∧ Below W.heap.size W w'
def NuP : Prop := ∀ (v : Vt), OkT v → ∀ (s : ByteArray) (cs : List Value) (W : World), InV W v cs →
  Calls Tryz.prog 18 #[.agg cs.toArray, .string s] W fun e w' => e = .returned (.tuple #[.int .i64 (nu v s).1, .int .i64 (nu v s).2]) ∧ Below W.heap.size W w'
def KnP : Prop := ∀ (v : Vt), OkT v → ∀ (names : List ByteArray) (cs : List Value) (nv : Value) (W : World), InV W v cs → Strs.Row W nv names → names.length ≤ 9223372036854775807 → (∀ n ∈ names, n.size ≤ maxLen) →
  Calls Tryz.prog 20 #[.agg cs.toArray, nv] W fun e w' => e = .returned (.tuple #[.string ((unk v.ns names).getD ⟨#[]⟩), .bool (unk v.ns names).isNone]) ∧ Below W.heap.size W w'
def AwP (K : World → Prop) : Prop := ∀ (W : World), Ev W → K W → Calls Tryz.prog 9 #[] W fun e w' => e = .returned (.bool true) ∧ Below W.heap.size W w'
end Go.Proofs.YtehkiojohldlgaaGreatDoor.Jsn

namespace Go.Proofs.YtehkiojohldlgaaGreatDoor.Thr
open Go.RowKit Go.Lib Go.Shelf Go.Sort
open Go.Proofs.YtehkiojohldlgaaGreatDoor.Rul (Ru zero Row Own ruC ruL rga chk can cn Bx bx_new)
open Go.Proofs.YtehkiojohldlgaaGreatDoor.Ren (Pw)

theorem byid_any (x y : Ru) (W : World) : Calls Tryz.prog 45 #[.agg (ruC x), .agg (ruC y)] W fun e w' => e = .returned (.int .i64 (cfR x y)) ∧ ∃ q os, w' = grow (W.drewN q) os := by
  have HC := Lib.hid fun w => Tryz.strings_Compare x.id y.id w
  have hcf : Lib.compareBytes x.id.data.toList y.id.data.toList = cfR x y := rfl
  rw [hcf] at HC
  generalize cfR x y = n at *
  clear hcf
  obtain ⟨id, no, ro, pr, ki, ra, pe, bu, co, mx, fa, wa, pb⟩ := x
  obtain ⟨id', no', ro', pr', ki', ra', pe', bu', co', mx', fa', wa', pb'⟩ := y
  dsimp only [ruC] at *
  go_enter Tryz.func45, Tryz.ntmps45
  go_wp2_with (first
    | (go_at_call 86; (with_reducible refine (HC.out _).mono ?_); rintro e w1 ⟨rfl, rfl⟩))
  go_ret
  exact ⟨rfl, 0, _, by rw [alloc_eq_grow, alloc_eq_grow, grow_grow]; rfl⟩

/-- Rules with ids that differ, sorted. -/
theorem sort_rules (w : World) (B g cap : Nat) (L : List Ru) (hO : Own w B (.slice (some ⟨g, 0, none⟩) L.length cap) L) (hn : (L.map (·.id)).Nodup) (hl : L.length ≤ 5000) :
    Calls Tryz.prog 44 #[.slice (some ⟨g, 0, none⟩) L.length cap, .func (.func 45) #[] #[]] w fun e w' => e = .returned (.tuple #[]) ∧ Own w' B (.slice (some ⟨g, 0, none⟩) L.length cap) (srt L) ∧ w.grownBy w' (some g) := by
  haveI : Inhabited Ru := ⟨zero⟩
  obtain ⟨hH, hgl, hBg⟩ := own_holds hO
  have e : L.toArray.size = L.length := List.size_toArray
  have eg : ∀ args w, (callFunc 45 args).run Tryz.prog w = .ok (.enter 45 args) w := enters_of Tryz.func45 (by kernel_rfl) rfl
  have hcmp : CmpLays Tryz.prog 45 #[] ruL 13 cfR g 0 L.toArray.size w := fun m os dk _ x y => byid_any x y _
  have key := AnyQ.slices_SortFunc Tryz.laysSF44 13 Tryz.isAgg49 Tryz.sizeOf49 ruL (fun _ => rfl) Rul.ruL_one cfR swoR 45 #[] g 0 cap L.toArray w eg hcmp hH hgl (by rw [e]; omega)
  rw [e] at key
  refine key.mono ?_
  rintro x w' ⟨rfl, d', n, os, hp, hs, rfl⟩
  obtain rfl := sorted_srt hn d' (by rw [e]; exact hp) (by rw [e]; exact hs)
  have h2 := own_sorted hO (M := srt L) (srt_perm L).length_eq n os
  exact ⟨rfl, h2.1, h2.2⟩

/-! ### what the loop has put -/
def fl (L : List Ru) (i : Nat) : List Ru := (List.range L.length).map fun j => if j < i then can (ga L j) else zero
theorem fl_len (L : List Ru) (i : Nat) : (fl L i).length = L.length := by unfold fl; rw [List.length_map, List.length_range]
theorem fl_at (L : List Ru) (i j : Nat) (_h : j < (fl L i).length) : (fl L i)[j] = if j < i then can (ga L j) else zero := by simp [fl]
theorem fl_zero (L : List Ru) : fl L 0 = List.replicate L.length zero := by
  refine List.ext_getElem (by rw [fl_len, List.length_replicate]) fun i h1 h2 => ?_
  rw [fl_at, List.getElem_replicate, if_neg (by omega)]
theorem fl_all (L : List Ru) : fl L L.length = L.map can := by
  refine List.ext_getElem (by rw [fl_len, List.length_map]) fun i h1 h2 => ?_
  rw [List.length_map] at h2
  rw [fl_at, List.getElem_map, if_pos h2, ga_at h2]
theorem fl_set (L : List Ru) {i : Nat} (_h : i < L.length) : (fl L i).set i (can (ga L i)) = fl L (i + 1) := by
  refine List.ext_getElem (by rw [List.length_set, fl_len, fl_len]) fun j h1 h2 => ?_
  rw [List.getElem_set, fl_at, fl_at]
  by_cases e : i = j
  · subst e
    rw [if_pos rfl, if_pos (by omega)]
  · rw [if_neg e]
    by_cases q : j < i
    · rw [if_pos q, if_pos (by omega)]
    · rw [if_neg q, if_neg (by omega)]
theorem sm_comm (L M : List Ru) : sm L M = sm M L := by
  rw [Bool.eq_iff_iff, sm_iff, sm_iff]
  exact ⟨Eq.symm, Eq.symm⟩

set_option maxHeartbeats 8000000 in
set_option maxRecDepth 100000 in
theorem canon_any : CnP := by
  intro L v w hr h5 hm hE
  have HCH := Lib.hid (check_any L v w hr h5 hm hE)
  have HEV := Lib.hid hE
  obtain ⟨a, cap, rfl, -, hc⟩ := hr.open_
  by_cases hz : (sck L).2 = 0
  · have hrs := (sck_zero L).1 hz
    rw [scn_ok hrs]
    rw [sck_ok hrs] at HCH ⊢
    have HC := Lib.hid hc
    have HCN := Lib.hid fun (i : Nat) (h : i < L.length) W (hW : Ev W) => (by
      have hk := Rul.chk_ok (hrs.rt _ (ga_mem h))
      exact Rul.canon_at (ga L i) (can (ga L i)) ⟨#[]⟩ 0 (Rul.cn_ok (by rw [hk])) hk (hm _ (ga_mem h)).1 (hm _ (ga_mem h)).2.1 (hm _ (ga_mem h)).2.2 W hW.tab hW.utf
      : Calls Tryz.prog 43 #[.agg (ruC (ga L i))] W fun x w' => x = .returned (.tuple #[.agg (ruC (can (ga L i))), .string ⟨#[]⟩, .int .i64 0]) ∧ Below W.heap.size W w')
    have HFS := Lib.hid fun m => @fl_set L m
    have HFL := Lib.hid (fl_len L)
    have HF0 := Lib.hid (fl_zero L)
    have HFA := Lib.hid (fl_all L)
    have HSR := Lib.hid fun W B g (hO : Own W B (.slice (some ⟨g, 0, none⟩) (L.map can).length L.length) (L.map can)) => sort_rules W B g L.length (L.map can) hO (cans_right hrs).nd (by rw [List.length_map]; omega)
    have HLM := Lib.hid (show (L.map can).length = L.length from List.length_map _)
    clear hc hr hm hE hz hrs
    generalize srt (L.map can) = R at *
    go_enter Tryz.func22, Tryz.ntmps22
    go_wp2_with (first
      | (go_at_call 42; (with_reducible refine HCH.out.mono ?_); rintro e w1 ⟨rfl, hb1⟩; have B1 := Lib.hid hb1; clear hb1)
      | (refine Rul.wpList_makeR _ rfl _ _ rfl w.heap.size w B1.out B1.out.size L.length rfl rfl (by omega) ?_; intro w2 G hG hO2 hb2; have B2 := Lib.hid hb2; have O2 := Lib.hid hO2; clear hO2 hb2))
    go_loopw [24] (fun i wr => ∃ m : Nat, i = .int .i64 (m : Int) ∧ m ≤ L.length ∧ Hid (Below w.heap.size w wr) ∧ Hid (Own wr w.heap.size (.slice (some ⟨G, 0, none⟩) L.length L.length) (fl L m))) (fun i _ => L.length - (RowKit.intOf i).toNat)
    case atStart => exact ⟨0, rfl, Nat.zero_le _, B2, Lib.hid (by rw [HF0.out]; exact O2.out)⟩
    case round =>
      obtain ⟨m, rfl, hk, HB, HO⟩ := hrel
      by_cases hlt : m < L.length
      · obtain ⟨b, off, rfl, hcl⟩ := HC.out m hlt
        rw [rga_ga] at hcl
        have HCM := Lib.hid (Rul.rangeAt_next hcl HB.out)
        clear hcl
        have HEW := Lib.hid (HEV.out.next HB.out)
        have HCN2 := Lib.hid (HCN.out m hlt)
        have HFS2 := Lib.hid (HFS.out m hlt)
        generalize ga L m = X at *
        generalize can X = C at *
        go_wp2_with (first
          | (refine Rul.wpList_take _ rfl _ rfl b (off + m * 13) X rfl HCM.out ?_)
          | (refine Rul.wpList_keep _ rfl _ _ rfl wr.heap.size wr ((Below.refl _ _).alloc (Nat.le_refl _) _) _ (Nat.le_refl _) X _ rfl rfl (bx_new _ _) rfl ?_; intro w4 hk4 hb4 ho4; have K4 := Lib.hid hk4; have B4 := Lib.hid hb4; clear hk4 hb4 ho4)
          | (refine Rul.wpList_fetch _ rfl _ rfl wr.heap.size _ rfl K4.out rfl ?_)
          | (go_at_call 43; (with_reducible refine (HCN2.out _ (HEW.out.next B4.out)).mono ?_); rintro e w5 ⟨rfl, hb5⟩; have B5 := Lib.hid (B4.out.trans (hb5.mono B4.out.size)); have O5 := Lib.hid (show Own w5 w.heap.size (.slice (some ⟨G, 0, none⟩) (fl L m).length L.length) (fl L m) by rw [HFL.out]; exact HO.out.next B5.out); have BW5 := Lib.hid (HB.out.trans (B5.out.mono HB.out.size)); clear hb5)
          | (refine Rul.wpList_keepAt _ rfl _ _ rfl w.heap.size w BW5.out BW5.out.size G L.length (fl L m) m _ (by rw [HFL.out]; exact hlt) C rfl (by omega) rfl O5.out ?_; intro w6 hO6 hb6))
        go_roundw
        case rel => exact ⟨m + 1, by go_num, by omega, Lib.hid hb6, Lib.hid (by rw [← HFS2.out]; rw [HFL.out] at hO6; exact hO6)⟩
        case measure => simp [RowKit.intOf]; omega
      · obtain rfl : m = L.length := by omega
        have HS := Lib.hid (HSR.out wr w.heap.size G (by rw [HLM.out, ← HFA.out]; exact HO.out))
        rw [HLM.out] at HS
        go_wp2_with (first
          | (go_at_call 44; (with_reducible refine HS.out.mono ?_); rintro e w7 ⟨rfl, hO7, hg7⟩))
        go_ret3
        exact ⟨_, rfl, hO7.row, HB.out.grown hg7 HB.out.size fun k hk => by rw [← Option.some.inj hk]; exact Nat.le_trans B1.out.size hG⟩
  · rw [scn_no hz]
    have b1 : ((sck L).2 != 0) = true := by simpa using hz
    clear hc hr hm hE hz
    generalize sck L = x at *
    obtain ⟨p, E⟩ := x
    dsimp only at *
    go_enter Tryz.func22, Tryz.ntmps22
    go_wp2_with (first
      | (go_at_call 42; (with_reducible refine HCH.out.mono ?_); rintro e w1 ⟨rfl, hb1⟩))
    go_ret3
    exact ⟨_, rfl, Row.nil _, hb1⟩

set_option maxHeartbeats 8000000 in
set_option maxRecDepth 100000 in
theorem is_any : IsP := by
  intro L v w hr h5 hm hE
  have HCH := Lib.hid (canon_any L v w hr h5 hm hE)
  have HR := Lib.hid hr
  by_cases hz : (sck L).2 = 0
  · have hrs := (sck_zero L).1 hz
    rw [isC_ok hrs, sm_comm]
    rw [sck_ok hrs] at HCH
    have hln := hrs.len
    have hl2 := scn_len hrs
    have HS := Lib.hid fun W u (h : Row W u (scn L)) (k : Row W v L) => same_any L (scn L) v u W k h (by omega) (by omega)
    clear hr hm hE hz hrs hl2
    generalize sm L (scn L) = R at *
    generalize scn L = C at *
    go_enter Tryz.func27, Tryz.ntmps27
    go_wp2_with (first
      | (go_at_call 22; (with_reducible refine HCH.out.mono ?_); rintro e w1 ⟨u, rfl, hu, hb1⟩; have R1 := Lib.hid (HR.out.next hb1); have U1 := Lib.hid hu; have B1 := Lib.hid hb1; clear hb1 hu)
      | (go_at_call 26; (with_reducible refine (HS.out _ _ U1.out R1.out).mono ?_); rintro e w2 ⟨rfl, hb2⟩; have B2 := Lib.hid (B1.out.trans (hb2.mono B1.out.size)); clear hb2))
    go_ret
    exact ⟨rfl, B2.out⟩
  · rw [isC_no hz]
    have b1 : ((sck L).2 == 0) = false := by simpa using hz
    clear hr hm hE hz
    generalize scn L = C at *
    generalize sck L = x at *
    obtain ⟨p, E⟩ := x
    dsimp only at *
    go_enter Tryz.func27, Tryz.ntmps27
    go_wp2_with (first
      | (go_at_call 22; (with_reducible refine HCH.out.mono ?_); rintro e w1 ⟨u, rfl, hu, hb1⟩; have B1 := Lib.hid hb1; clear hb1 hu))
    go_ret
    exact ⟨rfl, B1.out⟩
end Go.Proofs.YtehkiojohldlgaaGreatDoor.Thr
