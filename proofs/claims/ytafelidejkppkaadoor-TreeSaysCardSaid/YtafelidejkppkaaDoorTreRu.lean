/- The document's Sort. Conditions: as each theorem states. -/
import Derived.Test.YtafelidejkppkaaDoorTreRz
namespace Go.Proofs.YtafelidejkppkaaDoor.Tre
open Go.RowKit Go.Lib Go.Proofs.YtafelidejkppkaaDoor.Byt

theorem range_get {α : Type} (A : List α) (d : α) : (List.range A.length).map (fun i => A.getD i d) = A := by
  refine List.ext_getElem (by simp) fun k h1 h2 => ?_
  simp [List.getD_eq_getElem?_getD, List.getElem?_eq_getElem h2]
theorem getD_setV (L : List Vt) (i j : Nat) (x : Vt) (h : i < L.length) : (L.set i x).getD j V0 = if j = i then x else L.getD j V0 := getD_set L i j x V0 h
theorem St.start {w w2 w3 : World} {v : Vt} {ds : List Value} {P : Array Value} (h : OwnT w2 (w.heap.size + 2) v ds) (hb : Below w2.heap.size w2 w3) (hbx : Box w3 w2.heap.size ds.toArray) (hP : Box w2 w.heap.size P) (hZ : Box w2 (w.heap.size + 1) zeroC.toArray) (hw : Below w.heap.size w w2) (hs : w.heap.size + 2 ≤ w2.heap.size) :
    ∃ a3 p3 c4 D, ds = [.int .i64 v.k, .int .i64 v.n, .string v.s, .slice a3 v.l.length p3, c4] ∧ St w w2.heap.size v.k v.n v.s P (.slice a3 v.l.length p3) c4 w3 v.l D v.ns := by
  obtain ⟨c3, c4, D, rfl, h3, hl, hi, h4⟩ := h
  obtain ⟨a3, p3, rfl, _⟩ := h3.open_
  rw [hl] at h3 hi hbx ⊢
  have l4 : ∀ g, c4.ownBlock = some g → g < w2.heap.size := fun g hg => by
    obtain ⟨_, c, hc⟩ := h4.cells g hg
    exact (Array.getElem?_eq_some_iff.1 hc).1
  have l3 := fun g hg => (own_in h3 (b := g) hg).2
  refine ⟨a3, p3, c4, D, rfl, h3.next hb, hl, fun j hj => InS_upd (fun b hb' hl' => ⟨hb.block b hl', hb'.1, by omega, hb'.2.1, hb'.2.2⟩) _ _ (hi j hj), own_keep h4 fun b hb' => hb.block b (l4 b hb'), hP.next hb hP.lt, hZ.next hb hZ.lt, hbx, Tre.next hw hb, hs, fun g hg => by have := l3 g hg; omega, fun g hg => by have := l4 g hg; omega⟩

set_option maxHeartbeats 8000000 in
set_option maxRecDepth 100000 in
theorem rsort_any (v : Vt) (cs : List Value) (w : World) (h : InV w v cs) (hv : OkT v)
    (ih : ∀ x ∈ v.l, ∀ cs w, InV w x cs → Calls Tryd.prog 20 #[.agg cs.toArray] w fun e w' => ∃ ds : List Value, e = .returned (.agg ds.toArray) ∧ InS (fun b => w.heap.size ≤ b) w' (srt x) ds ∧ Below w.heap.size w w') :
    Calls Tryd.prog 20 #[.agg cs.toArray] w fun e w' => ∃ ds : List Value, e = .returned (.agg ds.toArray) ∧ InS (fun b => w.heap.size ≤ b) w' (srt v) ds ∧ Below w.heap.size w w' := by
  have HCP := Lib.hid fun (W : World) (hb : Below w.heap.size w W) => rcopied v hv cs W (InV_next hb v cs h)
  obtain ⟨hok, _⟩ := (OkT_iff v).1 hv
  obtain ⟨a, cap, c4, rfl, _, hr⟩ := (InV_iff w v cs).1 h
  obtain ⟨a2, cap2, rfl, _⟩ := hr.open_
  have HSP := Lib.hid (srt_parts v)
  have HL := hok.2.2.2.1
  have HN := hok.2.2.2.2.1
  have HIH := Lib.hid ih
  have HST := Lib.hid fun (w2 w3 : World) (ds : List Value) (P : Array Value) => St.start (w := w) (w2 := w2) (w3 := w3) (v := v) (ds := ds) (P := P)
  have B0 := Lib.hid fun (o p : Obj) => two_boxes (Below.refl ((w.alloc o).alloc p).heap.size ((w.alloc o).alloc p))
  clear h hv ih hr hok
  generalize srt v = SV at *
  generalize v.l = l at *
  generalize v.ns = ns at *
  generalize v.k = k at *
  generalize v.n = n at *
  generalize v.s = s at *
  have hmx : l.length ≤ 9223372036854775807 := by omega
  have hmn : ns.length ≤ 9223372036854775807 := by omega
  go_enter Tryd.func20, Tryd.ntmps20
  go_wp2_with (first
    | (refine wpList_fetch _ rfl _ rfl w.heap.size _ rfl (B0.out _ _).1 rfl ?_)
    | (go_at_call 23; (with_reducible refine (HCP.out _ (B0.out _ _).2.2).mono ?_); rintro e w2 ⟨ds, rfl, hT, hb2⟩; have e5 := size_toArray ds (InS_five hT.ins); have e1 := InS_one (InS_in _ _ hT.ins))
    | (refine wpList_keep _ rfl _ _ rfl w2.heap.size w2 ((Below.refl _ w2).alloc (Nat.le_refl _) _) w2.heap.size (Nat.le_refl _) ds.toArray _ rfl rfl (box_new _ _) rfl e5 (by simpa using e1) ?_; intro w3 bx3 hb3 hk3 hs3; clear hs3; have hz : w.heap.size + 2 ≤ w2.heap.size := (by have := hb2.size; simpa using this); obtain ⟨a3, p3, c4, D0, hds, hst⟩ := HST.out w2 w3 ds #[.int .i64 k, .int .i64 n, .string s, .slice a l.length cap, .slice a2 ns.length cap2] (by simpa using hT) hb3 bx3 (two_boxes hb2).1 (two_boxes hb2).2.1 (two_boxes hb2).2.2 hz; subst hds; have y3 : w3.cell? ⟨w2.heap.size, 3, none⟩ = some (.slice a3 l.length p3) := bx3.cell 3))
  clear HST HCP hk3 bx3 y3 hb2 hb3 hT e5 e1
  go_loopw [14] (fun x wr => ∃ (i : Nat) (L : List Vt) (D : List (List Value)), x = .int .i64 (i : Int) ∧ i ≤ l.length ∧ St w w2.heap.size k n s #[.int .i64 k, .int .i64 n, .string s, .slice a l.length cap, .slice a2 ns.length cap2] (.slice a3 l.length p3) c4 wr L D ns ∧ L.length = l.length ∧ Hid (∀ j, j < l.length → L.getD j V0 = if j < i then srt (l.getD j V0) else l.getD j V0))
    (fun x _ => l.length - (RowKit.intOf x).toNat)
  case atStart => exact ⟨0, l, D0, by go_num, by omega, hst, rfl, Lib.hid fun j _ => by rw [if_neg (Nat.not_lt_zero _)]⟩
  case round =>
    clear hst
    obtain ⟨i, L, D, rfl, hi, hst, hLl, hLd⟩ := hrel
    obtain ⟨o1, o2, o3, o4, o5, o6, o7, o8, o9, o10, o11⟩ := id hst
    by_cases hlt : i < l.length
    · have hiD : i < D.length := by omega
      obtain ⟨ax, px, ex, ho⟩ := o1.open_
      injection ex with ex1 ex2 ex3
      clear ex2 ex3
      obtain ⟨g, eg, _, _, _, _⟩ := ho i hiD
      rw [← ex1] at eg
      subst eg
      clear ex1 ho
      have hin := InS_in _ _ (o3 i (by omega))
      rw [hLd.out i hlt, if_neg (Nat.lt_irrefl i)] at hin
      have hd0 : Below wr.heap.size wr wr.drew := (Below.refl _ _).drew
      have HX := Lib.hid (HIH.out _ (mem_get hlt) _ wr.drew (InV_next hd0 _ _ hin))
      obtain ⟨z0, z1, z2, z3, z4, hz, k0, k1, k2, k3, k4, _⟩ := own_cells5 o1 hiD
      rw [hz] at HX
      obtain ⟨X, hX⟩ : ∃ X, X = l.getD i V0 := ⟨_, rfl⟩
      rw [← hX] at HX
      have HXX := Lib.hid hX
      have y3 : wr.cell? ⟨w2.heap.size, 3, none⟩ = some (.slice (some ⟨g, 0, none⟩) l.length p3) := o7.cell 3
      have O1 := Lib.hid o1
      have O7 := Lib.hid o7
      have HS := Lib.hid hst
      have HLL := Lib.hid hLl
      have HLD := Lib.hid hLd
      have HID := Lib.hid hiD
      have HO2 := Lib.hid o2
      clear hX hz hin o1 o2 o3 o4 o5 o6 o7 o8 o9 o10 o11 hst hLl hLd HIH hiD
      go_wp2_with fail
      go_region_with (go_at_call 20; (with_reducible refine HX.out.mono ?_); rintro e w4 ⟨es, rfl, hS4, hb4⟩; have hb5 : Below wr.heap.size wr w4 := hd0.trans hb4; obtain ⟨ek, en, esx, ea, el, ep, ea2, el2, ep2, hes⟩ := InV_shp (InS_in _ _ hS4); subst hes; obtain ⟨t0, t1, t2, t3, t4, _, d0, _, _, _, _, d1, d2, d3, d4, fr⟩ := own_cells5 (O1.out.next hb5) HID.out; have y4 : w4.cell? ⟨w2.heap.size, 3, none⟩ = some (.slice (some ⟨g, 0, none⟩) l.length p3) := (Box.next O7.out hb5 O7.out.lt).cell 3)
      all_goals
        go_wp2_with fail
        go_roundw
        case rel =>
          rw [← sets5]
          refine ⟨i + 1, _, _, by go_num, by omega, St.item HS.out (by rw [HLL.out]; exact hlt) hb5 (InS_upd (fun _ hb' _ => ⟨rfl, hb'⟩) _ _ hS4), by rw [List.length_set]; exact HLL.out, Lib.hid fun j hj => ?_⟩
          rw [getD_setV _ _ _ _ (by rw [HLL.out]; exact hlt)]
          by_cases e : j = i
          · rw [if_pos e, if_pos (by omega), e, HXX.out]
          · rw [if_neg e, HLD.out.out j hj]
            by_cases e2 : j < i
            · rw [if_pos e2, if_pos (by omega)]
            · rw [if_neg e2, if_neg (by omega)]
        case measure => simp [RowKit.intOf]; omega
    · obtain rfl : i = l.length := by omega
      have hLs : L = l.map srt := by
        refine List.ext_getElem (by rw [List.length_map, hLl]) fun j h1 h2 => ?_
        have := hLd.out j (by omega)
        rw [if_pos (by omega), List.getD_eq_getElem?_getD, List.getElem?_eq_getElem h1, List.getD_eq_getElem?_getD, List.getElem?_eq_getElem (show j < l.length by omega)] at this
        simpa using this
      subst hLs
      obtain ⟨M, hM⟩ : ∃ M, M = l.map srt := ⟨_, rfl⟩
      rw [← hM] at hst HSP
      have hMl : M.length = l.length := by rw [hM, List.length_map]
      clear hM hLl hLd HIH o1 o2 o3 o9 o10 o11
      obtain ⟨a4, p4, rfl, _⟩ := o4.row.open_
      have b0 : wr.cell? ⟨w.heap.size, 0, none⟩ = some (.int .i64 k) := o5.cell 0
      have b3 : wr.cell? ⟨w.heap.size, 3, none⟩ = some (.slice a l.length cap) := o5.cell 3
      have b4 : wr.cell? ⟨w.heap.size, 4, none⟩ = some (.slice a2 ns.length cap2) := o5.cell 4
      have y4 : wr.cell? ⟨w2.heap.size, 4, none⟩ = some (.slice a4 ns.length p4) := o7.cell 4
      clear o4
      by_cases hcond : k = 5 ∧ ns.length = M.length
      · obtain ⟨h5, hlen⟩ := hcond
        have k5 : (k != 5) = false := by rw [h5]; rfl
        have hln : ((ns.length : Int) != (l.length : Int)) = false := by rw [bne_eq_false_iff_eq]; omega
        have HSV := Lib.hid (show SV = .mk k n s ((plc ns).map fun i => M.getD i V0) ((plc ns).map (nm ns)) by
          rw [HSP.out]; unfold mkO
          rw [if_pos ⟨h5, hlen⟩, isort_fst _ _ hlen, isort_snd _ _ hlen]
          rfl)
        clear HSP
        have hM0 : M = (List.range ns.length).map fun i => M.getD i V0 := by rw [hlen]; exact (range_get M V0).symm
        have hN0 : ns = (List.range ns.length).map (nm ns) := (range_get ns ⟨#[]⟩).symm
        have HS0 := Lib.hid hst
        have HM0 := Lib.hid hM0
        have HN0 := Lib.hid hN0
        have HLE := Lib.hid hlen
        have HL2 := Lib.hid (show ns.length = l.length by omega)
        clear hst hM0 hN0 hlen h5
        go_wp2_with fail
        go_loopw [44] (fun x wr => ∃ (i : Nat) (Q : List Nat) (D : List (List Value)), x = .int .i64 (i : Int) ∧ i ≤ ns.length ∧ St w w2.heap.size k n s #[.int .i64 k, .int .i64 n, .string s, .slice a l.length cap, .slice a2 ns.length cap2] (.slice a3 l.length p3) (.slice a4 ns.length p4) wr (Q.map fun i => M.getD i V0) D (Q.map (nm ns)) ∧ Hid (Sel (nm ns) ns.length Q i))
          (fun x _ => ns.length - (RowKit.intOf x).toNat)
        case atStart =>
          refine ⟨0, List.range ns.length, D, by go_num, by omega, ?_, Lib.hid (Sel.start _ _)⟩
          rw [← HM0.out, ← HN0.out]
          exact HS0.out
        case round =>
          clear HS0 HM0 HN0 k5 hln b0 b3 b4 y4 o5 o6 o7 o8
          obtain ⟨i, Q, D2, rfl, hi, hst, hsel⟩ := hrel
          by_cases hlt : i < ns.length
          · obtain ⟨g, g4, m, rfl, rfl, hm1, hm2, y4, HLS, HR⟩ := round_pre hst hsel.out hlt (by omega)
            have HST := Lib.hid hst
            have hml2 : m < l.length := by rw [← HL2.out]; exact hm2
            clear hst
            go_wp2_with (go_at_call 32; refine HLS.out.mono ?_; rintro e w4 ⟨rfl, hb4⟩; have HS4 := Lib.hid (HST.out.next hb4); obtain ⟨E, HIN, hC⟩ := HS4.out.item_at (q := m) (by rw [List.length_map, HR.out.1]; exact hm2) (by rw [List.length_map, HR.out.1]; exact hm2))
            generalize hnv : (Q.map (nm ns)).getD m ⟨#[]⟩ = nv at hC
            have HNV := Lib.hid hnv
            clear hnv HST HLS hb4 y4
            go_wp2_with fail
            refine Code.wp_mono ?_ (reg13_wp hC hml2 hm2)
            intro x9 a9 w9 h9
            cases x9 <;> first | exact (h9 : False).elim | skip
            obtain ⟨s9, rfl, rfl⟩ := h9
            have HP := Lib.hid (S3.start (m := m) HS4.out HIN.out (by rw [List.length_map, HR.out.1]; exact HL2.out) (by rw [List.length_map, HR.out.1]))
            clear hC HS4 HIN
            change Hid (S3 w w2.heap.size k n s #[.int .i64 k, .int .i64 n, .string s, .slice a l.length cap, .slice a2 ns.length cap2] g g4 l.length p3 ns.length p4 w4.heap.size E _ _ _ m (w4.alloc (.cells ([.int .i64 E.k, .int .i64 E.n, .string E.s, .slice E.a E.l E.p, .slice E.a2 E.l2 E.p2]).toArray 25 (0, 0))).drew m _ _ D2) at HP
            generalize (w4.alloc (.cells #[.int .i64 E.k, .int .i64 E.n, .string E.s, .slice E.a E.l E.p, .slice E.a2 E.l2 E.p2] 25 (0, 0))).drew = w5 at *
            generalize w4.heap.size = G8 at *
            go_wp2_with fail
            go_loopw [6] (fun x wr => ∃ (j : Nat) (L : List Vt) (NS : List ByteArray) (D : List (List Value)), x = .int .i64 (j : Int) ∧ i ≤ j ∧ j ≤ m ∧ Hid (S3 w w2.heap.size k n s #[.int .i64 k, .int .i64 n, .string s, .slice a l.length cap, .slice a2 ns.length cap2] g g4 l.length p3 ns.length p4 G8 E ((Q.map fun i => M.getD i V0).getD m V0) (Q.map fun i => M.getD i V0) (Q.map (nm ns)) m wr j L NS D))
              (fun x _ => (RowKit.intOf x).toNat)
            case atStart => exact ⟨m, _, _, D2, rfl, hm1, Nat.le_refl _, HP⟩
            case round =>
              clear HP
              obtain ⟨j, L, NS, D3, rfl, hij, hjm, HH⟩ := hrel
              by_cases hlj : i < j
              · obtain ⟨j, rfl⟩ : ∃ j', j = j' + 1 := ⟨j - 1, by omega⟩
                have hJ : (j + 1 < l.length ∧ j < l.length) ∧ j + 1 < ns.length ∧ j < ns.length := ⟨⟨by omega, by omega⟩, by omega, by omega⟩
                obtain ⟨E2, z, HI2, hC⟩ := HH.out.pre16 hJ.1.1 hJ.2.1
                have HW := Lib.hid (HH.out.step hJ.1.1 hjm hml2 hm2 HI2.out)
                generalize NS.getD j ⟨#[]⟩ = nw at *
                clear HH HI2
                go_wp2_with fail
                refine Code.wp_mono ?_ (reg16_wp hC hJ (by omega))
                intro x9 a9 w9 h9
                cases x9 <;> first | exact (h9 : False).elim | skip
                obtain ⟨s9, rfl, rfl⟩ := h9
                clear hC
                change Hid (S3 w w2.heap.size k n s #[.int .i64 k, .int .i64 n, .string s, .slice a l.length cap, .slice a2 ns.length cap2] g g4 l.length p3 ns.length p4 G8 E _ _ _ m ((wr.setCell ⟨g4, j + 1, none⟩ (.string nw)).setCells g ((j + 1) * 5) [.int .i64 E2.k, .int .i64 E2.n, .string E2.s, .slice E2.a E2.l E2.p, .slice E2.a2 E2.l2 E2.p2]) j _ _ _) at HW
                generalize (wr.setCell ⟨g4, j + 1, none⟩ (.string nw)).setCells g ((j + 1) * 5) [.int .i64 E2.k, .int .i64 E2.n, .string E2.s, .slice E2.a E2.l E2.p, .slice E2.a2 E2.l2 E2.p2] = w6 at *
                go_wp2_with fail
                go_roundw
                case rel => exact ⟨j, _, _, _, by go_num, by omega, by omega, Lib.hid (HW.out.next ((Below.refl _ w6).drew))⟩
                case measure => simp [RowKit.intOf]
              · obtain rfl : i = j := by omega
                obtain ⟨z, hC⟩ := HH.out.pre17 (by omega) hlt nv
                have HW := Lib.hid (HH.out.done hsel.out hm1 hm2 HR.out)
                rw [HNV.out] at HW
                clear HH
                go_wp2_with fail
                refine Code.wp_mono ?_ (reg17_wp hC (by omega) (by omega))
                intro x9 a9 w9 h9
                cases x9 <;> first | exact (h9 : False).elim | skip
                obtain ⟨s9, rfl, rfl⟩ := h9
                clear hC
                change Hid (∃ (Q' : List Nat) (D' : List (List Value)), St w w2.heap.size k n s #[.int .i64 k, .int .i64 n, .string s, .slice a l.length cap, .slice a2 ns.length cap2] (.slice (some ⟨g, 0, none⟩) l.length p3) (.slice (some ⟨g4, 0, none⟩) ns.length p4) ((wr.setCell ⟨g4, i, none⟩ (.string nv)).setCells g (i * 5) [.int .i64 E.k, .int .i64 E.n, .string E.s, .slice E.a E.l E.p, .slice E.a2 E.l2 E.p2]) (Q'.map fun i => M.getD i V0) D' (Q'.map (nm ns)) ∧ Hid (Sel (nm ns) ns.length Q' (i + 1))) at HW
                generalize (wr.setCell ⟨g4, i, none⟩ (.string nv)).setCells g (i * 5) [.int .i64 E.k, .int .i64 E.n, .string E.s, .slice E.a E.l E.p, .slice E.a2 E.l2 E.p2] = w6 at *
                go_wp2_with fail
                go_roundw
                case rel =>
                  obtain ⟨Q', D', h1, h2⟩ := HW.out
                  exact ⟨i + 1, Q', D', by go_num, by omega, h1.next ((Below.refl _ w6).drew), h2⟩
                case measure => simp [RowKit.intOf]; omega
          · obtain rfl : i = ns.length := by omega
            obtain ⟨o1, o2, o3, o4, o5, o6, o7, o8, o9, o10, o11⟩ := id hst
            have HSE := Lib.hid (Sel.end_ hsel.out)
            have HST := Lib.hid hst
            clear hst o1 o2 o3 o4 o9 o10 o11 hsel
            go_wp2_with (first
              | (refine wpList_fetch _ rfl _ rfl w2.heap.size _ rfl o7 rfl ?_)
              | (refine wpList_keep _ rfl _ _ rfl w.heap.size w o8 (w.heap.size + 1) (by omega) #[.int .i64 k, .int .i64 n, .string s, .slice a3 l.length p3, .slice a4 ns.length p4] _ rfl rfl o6 rfl rfl (by intro u hu; simp only [List.mem_cons, List.not_mem_nil, or_false] at hu; rcases hu with rfl | rfl | rfl | rfl | rfl <;> rfl) ?_; intro w9 bx9 hb9 hk9 hs9; clear hs9))
            (try simp only [Exit.inBlock, Exit.then])
            refine bodyPost_ret (results_val rfl _ _ _ _ rfl bx9 rfl) rfl ?_
            refine ⟨_, rfl, ?_, hb9⟩
            rw [HSV.out, ← HSE.out]
            exact St.finish HST.out hk9
      · have HSV := Lib.hid (show SV = .mk k n s M ns by rw [HSP.out]; unfold mkO; rw [if_neg hcond])
        have hab : (k != 5) = true ∨ ((k != 5) = false ∧ ((ns.length : Int) != (l.length : Int)) = true) := by
          by_cases h5 : k = 5
          · refine .inr ⟨by rw [h5]; rfl, ?_⟩
            rw [bne_iff_ne]
            intro q
            exact hcond ⟨h5, by omega⟩
          · exact .inl (bne_iff_ne.2 h5)
        clear hcond HSP
        rcases hab with k5 | ⟨k5, hln⟩
        all_goals
          go_wp2_with (first
            | (refine wpList_fetch _ rfl _ rfl w2.heap.size _ rfl o7 rfl ?_)
            | (refine wpList_keep _ rfl _ _ rfl w.heap.size w o8 (w.heap.size + 1) (by omega) #[.int .i64 k, .int .i64 n, .string s, .slice a3 l.length p3, .slice a4 ns.length p4] _ rfl rfl o6 rfl rfl (by intro u hu; simp only [List.mem_cons, List.not_mem_nil, or_false] at hu; rcases hu with rfl | rfl | rfl | rfl | rfl <;> rfl) ?_; intro w9 bx9 hb9 hk9 hs9; clear hs9))
          (try simp only [Exit.inBlock, Exit.then])
          refine bodyPost_ret (results_val rfl _ _ _ _ rfl bx9 rfl) rfl ?_
          refine ⟨_, rfl, ?_, hb9⟩
          rw [HSV.out]
          exact St.finish hst hk9
end Go.Proofs.YtafelidejkppkaaDoor.Tre
