/- The contract of the document's Find. Conditions: as each theorem states. -/
import Derived.Test.YtfefbfohenmajaaDoorPtrE
import Derived.Test.YtfefbfohenmajaaDoorPtrI
import Derived.Test.YtfefbfohenmajaaDoorTreRd
import Derived.Test.YtfefbfohenmajaaDoorTreTb
import Derived.Deep.CutRange
namespace Go.Proofs.YtfefbfohenmajaaDoor.Ptr
open Go.RowKit Go.Lib Go.Proofs.YtfefbfohenmajaaDoor.Byt
open Go.Proofs.YtfefbfohenmajaaDoor.Tre (Vt V0 find cnt OkT okV OkT_iff InV InV_iff InV_next InV_five InV_zero InS InS_in InS_iff InS_five InS_one InS_upd InS_zero in_InS Box Box.next Box.lt Box.cell box_new OwnR wpList_keep wpList_fetch wpList_take zeroC results_val results_val2 size_toArray two_boxes box_after TB run_vpush own_in rfindS)

/-- Where what is being looked at may lie: not in the three variables of the call. -/
def Lie3 (n b : Nat) : Prop := b < n ∨ n + 3 ≤ b
/-- How far the path has been gone. -/
def Gs (w : World) (v : Vt) (l : List ByteArray) (W : World) (k : Nat) (c : List Value) (x : Vt) : Prop :=
  Below w.heap.size w W ∧ w.heap.size + 3 ≤ W.heap.size ∧ Box W (w.heap.size + 1) zeroC.toArray ∧ Box W (w.heap.size + 2) c.toArray ∧ InS (Lie3 w.heap.size) W x c ∧ OkT x ∧ fdP v l = fdP x (l.drop k)
theorem three_at (w : World) (o1 o2 o3 : Obj) : (((w.alloc o1).alloc o2).alloc o3).heap[w.heap.size + 1]? = some o2 ∧ (((w.alloc o1).alloc o2).alloc o3).heap[w.heap.size + 2]? = some o3 ∧ Below w.heap.size w (((w.alloc o1).alloc o2).alloc o3) ∧ (((w.alloc o1).alloc o2).alloc o3).heap.size = w.heap.size + 3 := by
  have s1 : (w.alloc o1).heap.size = w.heap.size + 1 := by simp
  have s2 : ((w.alloc o1).alloc o2).heap.size = w.heap.size + 2 := by simp
  have e2 := heap_alloc_new (w.alloc o1) o2
  have e3 := heap_alloc_new ((w.alloc o1).alloc o2) o3
  rw [s1] at e2
  rw [s2] at e3
  exact ⟨(Below.heap_alloc _ _ _ (by omega)).trans e2, e3, (((Below.refl _ _).alloc (Nat.le_refl _) _).alloc (by omega) _).alloc (by omega) _, by simp⟩
theorem Gs.start {w : World} {v : Vt} {l : List ByteArray} {cs : List Value} (h : InV w v cs) (hv : OkT v) :
    Gs w v l ((((w.alloc (.cells cs.toArray 25)).alloc (.cells zeroC.toArray 25))).alloc (.cells cs.toArray 25)) 0 cs v := by
  obtain ⟨h2, h3, hb, hs⟩ := three_at w (.cells cs.toArray 25) (.cells zeroC.toArray 25) (.cells cs.toArray 25)
  refine ⟨hb, by omega, h2, h3, ?_, hv, rfl⟩
  exact InS_upd (fun b hlt _ => ⟨hb.block b hlt, .inl hlt⟩) _ _ (in_InS _ _ h)
section
variable {w W W' : World} {v x y : Vt} {l : List ByteArray} {k : Nat} {c ds : List Value}
theorem Gs.next (h : Gs w v l W k c x) (hb : Below W.heap.size W W') : Gs w v l W' k c x := by
  obtain ⟨h1, h2, h3, h4, h5, h6, h7⟩ := h
  exact ⟨h1.trans (hb.mono h1.size), Nat.le_trans h2 hb.size, h3.next hb h3.lt, h4.next hb h4.lt, InS_upd (fun b hS hl => ⟨hb.block b hl, hS⟩) _ _ h5, h6, h7⟩
/-- What follows when the next value has been found. -/
theorem Gs.to (h : Gs w v l W k c x) (hk : k < l.length) (hs : stp1 x (l.getD k ⟨#[]⟩) = some y) (hd : InS (Lie3 w.heap.size) W y ds) (hb : Below w.heap.size w W') (hx : Box W' (w.heap.size + 2) ds.toArray) (hkp : ∀ b, b ≠ w.heap.size + 2 → W'.heap[b]? = W.heap[b]?) (hz : W'.heap.size = W.heap.size) :
    Gs w v l W' (k + 1) ds y := by
  obtain ⟨_, h2, h3, h4, h5, h6, h7⟩ := h
  refine ⟨hb, by omega, (hkp _ (by omega)).trans h3, hx, InS_upd (fun b hS hl => ⟨hkp b (by rcases hS with q | q <;> omega), hS⟩) _ _ hd, ((OkT_iff x).1 h6).2 y (stp1_mem hs), ?_⟩
  rw [h7, List.drop_eq_getElem_cons hk, fdP]
  have e : l[k] = l.getD k ⟨#[]⟩ := by rw [List.getD_eq_getElem?_getD, List.getElem?_eq_getElem hk]; rfl
  rw [e, hs]
  rfl
theorem Gs.stop (h : Gs w v l W k c x) (hk : k < l.length) (hs : stp1 x (l.getD k ⟨#[]⟩) = none) : fdP v l = none := by
  obtain ⟨_, _, _, _, _, _, h6⟩ := h
  rw [h6, List.drop_eq_getElem_cons hk, fdP]
  have e : l[k] = l.getD k ⟨#[]⟩ := by rw [List.getD_eq_getElem?_getD, List.getElem?_eq_getElem hk]; rfl
  rw [e, hs]
  rfl
theorem Gs.end_ (h : Gs w v l W l.length c x) : fdP v l = some x := by
  rw [h.2.2.2.2.2.2, List.drop_length]; rfl
end
/-- What a call of Find has left in a variable. -/
def Fo (W W2 : World) (x : Vt) (g : Nat) (cs : List Value) : Prop := Box W2 g cs.toArray ∧ InS (fun b => W.heap.size ≤ b) W2 x cs ∧ Below W.heap.size W W2 ∧ W.heap.size ≤ g
theorem Fo.alloc {W w3 : World} {x : Vt} {cs : List Value} (hb : Below W.heap.size W w3) (hi : InS (fun b => W.heap.size ≤ b) w3 x cs) : Fo W (w3.alloc (.cells cs.toArray 25 (0, 0))) x w3.heap.size cs :=
  ⟨box_new w3 _, InS_upd (fun _ hb' hl => ⟨Below.heap_alloc _ _ _ hl, hb'⟩) _ _ hi, hb.alloc hb.size _, hb.size⟩
theorem Fo.store {W w3 : World} {x : Vt} {u0 u1 u2 u3 u4 : Value} {z : Array Value} (hb : Below W.heap.size W w3) (hi : InS (fun b => W.heap.size + 1 ≤ b) w3 x [u0, u1, u2, u3, u4]) (hz : Box w3 W.heap.size z) (h5 : z.size = 5) :
    Fo W (((((w3.setCell ⟨W.heap.size, 0, none⟩ u0).setCell ⟨W.heap.size, 1, none⟩ u1).setCell ⟨W.heap.size, 2, none⟩ u2).setCell ⟨W.heap.size, 3, none⟩ u3).setCell ⟨W.heap.size, 4, none⟩ u4) x W.heap.size [u0, u1, u2, u3, u4] :=
  ⟨Tre.box_nest5 hz h5 u0 u1 u2 u3 u4, InS_upd (fun b hb' _ => ⟨Tre.nest5_other w3 W.heap.size u0 u1 u2 u3 u4 (by omega), by omega⟩) _ _ hi,
    below_set (below_set (below_set (below_set (below_set hb (Nat.le_refl _) 0 u0) (Nat.le_refl _) 1 u1) (Nat.le_refl _) 2 u2) (Nat.le_refl _) 3 u3) (Nat.le_refl _) 4 u4, Nat.le_refl _⟩
theorem Fo.drew {W w3 : World} {x : Vt} {g : Nat} {cs : List Value} (h : Fo W w3 x g cs) : Fo W w3.drew x g cs := ⟨h.1, InS_upd (S := fun b => W.heap.size ≤ b) (S' := fun b => W.heap.size ≤ b) (w := w3) (w' := w3.drew) (fun _ hb _ => ⟨rfl, hb⟩) _ _ h.2.1, h.2.2.1.drew, h.2.2.2⟩
/-- Its items, with the blocks they lie in. -/
theorem items_S {S : Nat → Prop} {w : World} {x : Vt} {k m : Int} {s : ByteArray} {a a2 : Option Addr} {l p l2 p2 : Nat} (h : InS S w x [.int .i64 k, .int .i64 m, .string s, .slice a l p, .slice a2 l2 p2]) :
    l = x.l.length ∧ k = x.k ∧ ∀ j, j < l → ∃ b off, a = some ⟨b, off, none⟩ ∧ ∃ ds, w.rangeAt b (off + j * 5) ds ∧ InS S w (x.l.getD j V0) ds := by
  obtain ⟨a9, p9, c9, heq, hit, _⟩ := (InS_iff x _).1 h
  simp only [List.cons.injEq, Value.slice.injEq, Value.int.injEq] at heq
  obtain ⟨⟨_, ek⟩, _, _, ⟨ea, el, _⟩, _⟩ := heq
  subst ea
  refine ⟨el, ek, fun j hj => ?_⟩
  obtain ⟨b, off, e, _, ds, h1, h2⟩ := hit j (by omega)
  exact ⟨b, off, e, ds, by rw [Nat.mul_comm j 5]; exact h1, h2⟩
theorem wrp_end {w wr w3 : World} {o p : Obj} {x : Vt} {ds : List Value} {z : Array Value} (hw : Below w.heap.size w wr) (hz : w.heap.size + 3 ≤ wr.heap.size) (hb : Box wr (w.heap.size + 1) z) (hS : InS (fun b => ((wr.alloc o).alloc p).heap.size ≤ b) w3 x ds) (h3 : Below ((wr.alloc o).alloc p).heap.size ((wr.alloc o).alloc p) w3) :
    InS (fun b => w.heap.size + 3 ≤ b) w3 x ds ∧ w.heap.size + 3 ≤ w3.heap.size ∧ Box w3 (w.heap.size + 1) z ∧ Below w.heap.size w w3 := by
  have e : ((wr.alloc o).alloc p).heap.size = wr.heap.size + 2 := by simp
  have hs := h3.size
  obtain ⟨_, _, h4⟩ := two_boxes h3
  exact ⟨InS_upd (fun b q _ => ⟨rfl, by rw [e] at q; omega⟩) _ _ hS, by omega, hb.next h4 hb.lt, Tre.next hw h4⟩
set_option maxHeartbeats 8000000 in
set_option maxRecDepth 100000 in
theorem rfindp (v : Vt) (hv : OkT v) (l : List ByteArray) (lv : Value) (cs : List Value) (w : World) (h : InV w v cs) (hr : Strs.Row w lv l) (hf : ∀ x ∈ l, x.size ≤ 8000000) (hl : l.length ≤ 100000) :
    Calls Tryd.prog 12 #[.agg cs.toArray, lv] w fun e w' => ∃ ds : List Value, e = .returned (.tuple #[.agg ds.toArray, .bool (fdP v l).isSome]) ∧ InS (fun b => w.heap.size ≤ b) w' ((fdP v l).getD V0) ds ∧ Below w.heap.size w w' := by
  obtain ⟨a, cap, rfl, hc⟩ := hr.open_
  have HS := Lib.hid (Gs.start (l := l) h hv)
  have HC := Lib.hid hc
  have HF := Lib.hid hf
  have hmx : l.length ≤ 9223372036854775807 := by omega
  obtain ⟨F, hF⟩ : ∃ F, fdP v l = F := ⟨_, rfl⟩
  have HFD := Lib.hid hF
  rw [hF]
  obtain ⟨k0, m0, s0, a5, l5, p5, a6, l6, p6, rfl⟩ := Tre.InV_shp h
  clear hc hr hf h hv hF
  go_enter Tryd.func12, Tryd.ntmps12
  go_wp2_with fail
  go_loopw [17] (fun i wr => ∃ (k : Nat) (c : List Value) (x : Vt), i = .int .i64 (k : Int) ∧ k ≤ l.length ∧ Hid (Gs w v l wr k c x)) (fun i _ => l.length - (RowKit.intOf i).toNat)
  case atStart => exact ⟨0, _, _, rfl, Nat.zero_le _, HS⟩
  case round =>
    obtain ⟨k, c, x, rfl, hk, HG⟩ := hrel
    obtain ⟨hbw, hsz, b1, b2, hin, hok, _⟩ := HG.out
    obtain ⟨km, nm, sm, a7, l7, p7, a8, l8, p8, rfl⟩ := Tre.InV_shp (InS_in _ _ hin)
    by_cases hlt : k < l.length
    · obtain ⟨b, off, rfl, hc0⟩ := HC.out k hlt
      have hcl := (hbw.cell (Strs.cell_lt hc0)).trans hc0
      have hblt := Strs.cell_lt hc0
      have hpz : (l.getD k ⟨#[]⟩).size ≤ 8000000 := by
        rw [List.getD_eq_getElem?_getD, List.getElem?_eq_getElem hlt]
        exact HF.out _ (List.getElem_mem hlt)
      obtain ⟨hl7, hkm, hit⟩ := items_S hin
      have y0 : wr.cell? ⟨w.heap.size + 1 + 1, 0, none⟩ = some (.int .i64 km) := b2.cell 0
      have y1 : wr.cell? ⟨w.heap.size + 1 + 1, 1, none⟩ = some (.int .i64 nm) := b2.cell 1
      have y2 : wr.cell? ⟨w.heap.size + 1 + 1, 2, none⟩ = some (.string sm) := b2.cell 2
      have y3 : wr.cell? ⟨w.heap.size + 1 + 1, 3, none⟩ = some (.slice a7 l7 p7) := b2.cell 3
      have y4 : wr.cell? ⟨w.heap.size + 1 + 1, 4, none⟩ = some (.slice a8 l8 p8) := b2.cell 4
      have hst : stp1 x (l.getD k ⟨#[]⟩) = if x.k = 4 then (plc (l.getD k ⟨#[]⟩).data.toList x.l.length).map (fun n => x.l.getD n V0) else find x (l.getD k ⟨#[]⟩) := rfl
      have HTO := Lib.hid fun W W' c' y ds (g : Gs w v l W k c' x) hs hd hb hx hkp hz => Gs.to (W' := W') (y := y) (ds := ds) g hlt hs hd hb hx hkp hz
      have HSTOP := Lib.hid (HG.out.stop hlt)
      have HE0 := Lib.hid (InS_in _ _ hin)
      rw [← hkm, ← hl7] at hst
      by_cases h4 : km = 4
      · rw [if_pos h4] at hst
        have g4 : ((km : Int) != 4) = false := by rw [h4]; rfl
        have hmxl : l7 ≤ 9223372036854775807 := by have := ((OkT_iff x).1 hok).1.2.2.2.1; omega
        have HP := Lib.hid fun W => rplace_any (l.getD k ⟨#[]⟩) l7 W hpz hmxl
        have HIT := Lib.hid hit
        clear h4 hc0 hpz hit hin hok hl7 hkm HE0
        generalize l.getD k ⟨#[]⟩ = p at *
        cases hpl : plc p.data.toList l7 with
        | none =>
          rw [hpl] at HP hst
          have hs : stp1 x p = none := hst
          obtain rfl : F = none := by rw [← HFD.out]; exact HSTOP.out hs
          have HB1 := Lib.hid b1
          have HBW := Lib.hid hbw
          clear hst hs HTO HSTOP HIT hpl b1 b2 hbw
          go_wp2_with fail
          go_region_with (go_at_call 28; (with_reducible refine (HP.out _).mono ?_); rintro e w4 ⟨⟨n, rfl, hn⟩, rfl⟩)
          all_goals
            go_wp2_with (refine wpList_keep _ rfl _ _ rfl w.heap.size w HBW.out.drew (w.heap.size + 1) (by omega) zeroC.toArray _ rfl rfl (HB1.out.next (Below.refl _ _).drew HB1.out.lt) rfl rfl (InS_one (InV_zero w)) ?_; intro w9 bx9 hb9 hk9 hs9; clear hs9)
            (try simp only [Exit.inBlock, Exit.then])
            refine bodyPost_ret (results_val2 rfl _ _ _ _ rfl bx9 rfl) rfl ?_
            exact ⟨zeroC, rfl, InS_zero _ _, hb9⟩
        | some j =>
          rw [hpl] at HP hst
          have hjl := plc_lt hpl
          obtain ⟨b', off', rfl, ds, hrg, hind⟩ := HIT.out j hjl
          have hs : stp1 x p = some (x.l.getD j V0) := hst
          have h5 := InS_five hind
          have hrd : wr.drew.rangeAt b' (off' + j * 5) ds := Tre.range_next hrg (Below.refl _ _).drew
          have HRD := Lib.hid hrd
          have HIN := Lib.hid (InS_upd (S' := Lie3 w.heap.size) (w := wr) (w' := wr.drew) (fun _ hb _ => ⟨rfl, hb⟩) _ _ hind)
          have e1 := Lib.hid (InS_one (InS_in _ _ hind))
          have HT2 := Lib.hid fun W' hb hx hkp hz => HTO.out wr.drew W' _ _ ds (HG.out.next (Below.refl _ _).drew) hs HIN.out hb hx hkp hz
          have HB2 := Lib.hid b2
          have HBW := Lib.hid hbw
          clear hst hs HTO HSTOP HIT hpl hrg hrd hind b1 b2 hbw
          go_wp2_with fail
          go_region_with (go_at_call 28; (with_reducible refine (HP.out _).mono ?_); rintro e w4 ⟨⟨n, rfl, hn⟩, rfl⟩; obtain rfl := hn j rfl; clear hn)
          all_goals
            go_wp2_with (first
              | (refine wpList_take _ rfl _ rfl b' (off' + j * 5) ds rfl HRD.out h5 ?_)
              | (refine wpList_keep _ rfl _ _ rfl w.heap.size w HBW.out.drew (w.heap.size + 2) (by omega) ds.toArray _ rfl rfl (HB2.out.next (Below.refl _ _).drew HB2.out.lt) rfl (size_toArray ds h5) (by simpa using e1.out) ?_; intro w9 bx9 hb9 hk9 hs9))
            go_roundw
            case rel => exact ⟨k + 1, _, _, by go_num, by omega, Lib.hid (HT2.out _ hb9 bx9 hk9 hs9)⟩
            case measure => simp [RowKit.intOf]; omega
      · rw [if_neg h4] at hst
        have g4 : ((km : Int) != 4) = true := by rw [bne_iff_ne]; exact h4
        have HFN := Lib.hid fun (W : World) cs (hi : InV W x cs) => rfindS x hok (l.getD k ⟨#[]⟩) cs W hi
        clear h4 hc0 hpz hit hin hok hl7 hkm
        generalize l.getD k ⟨#[]⟩ = p at *
        obtain ⟨FX, hfx⟩ : ∃ FX, find x p = FX := ⟨_, rfl⟩
        rw [hfx] at HFN hst
        clear hfx
        have HST := Lib.hid hst
        clear hst
        have hbd : Below wr.heap.size wr wr.drew := (Below.refl _ _).drew
        have hbe : Below wr.heap.size wr (wr.alloc (.cells #[.int .i64 0, .int .i64 0, .string ⟨#[]⟩, .slice none 0 0, .slice none 0 0] 25 (0, 0))).drew := ((Below.refl _ wr).alloc (Nat.le_refl _) _).drew
        have hze : (wr.alloc (.cells #[.int .i64 0, .int .i64 0, .string ⟨#[]⟩, .slice none 0 0, .slice none 0 0] 25 (0, 0))).drew.heap.size = wr.heap.size + 1 := by show (wr.alloc _).heap.size = _; simp
        have HBE := Lib.hid (Tre.box_newd wr #[.int .i64 0, .int .i64 0, .string ⟨#[]⟩, .slice none 0 0, .slice none 0 0])
        have HED := Lib.hid (InV_next hbd _ _ HE0.out)
        have HEE := Lib.hid (InV_next hbe _ _ HE0.out)
        have al : ∀ (b j : Nat) (u : Value), wr.cell? ⟨b, j, none⟩ = some u → (wr.alloc (.cells #[.int .i64 0, .int .i64 0, .string ⟨#[]⟩, .slice none 0 0, .slice none 0 0] 25 (0, 0))).cell? ⟨b, j, none⟩ = some u := fun b j u h => Lib.cell?_alloc_some _ h
        have x0 := al _ _ _ y0
        have x1 := al _ _ _ y1
        have x2 := al _ _ _ y2
        have x3 := al _ _ _ y3
        have x4 := al _ _ _ y4
        have xc := al _ _ _ hcl
        have HB2 := Lib.hid b2
        have HB1 := Lib.hid b1
        have HBW := Lib.hid hbw
        clear al b1 b2 hbw
        go_wp2_with fail
        go_cut [8, 9] from 23 to 55 (fun q ok wx => ok = .bool FX.isSome ∧ ∃ g cx, q = .pointer (some ⟨g, 0, none⟩) ∧ Fo wr wx (FX.getD V0) g cx)
        case first =>
          go_region_with (first
            | (go_at_call 27; (with_reducible refine (HFN.out _ _ HEE.out).mono ?_); rintro e w3 ⟨d3, rfl, hi3, hb3⟩; obtain ⟨ek, en, es, ea, el, ep, ea2, el2, ep2, hes⟩ := Tre.InV_shp (InS_in _ _ hi3); subst hes; have bz := Box.next HBE.out hb3 (by omega); obtain ⟨zc0, zc1, zc2, zc3, zc4, zf⟩ := Tre.box_cells5 bz; have hfo := Fo.store (Tre.next hbe hb3) (InS_upd (fun b hb' _ => ⟨rfl, by omega⟩) _ _ hi3) bz rfl)
            | (go_at_call 27; (with_reducible refine (HFN.out _ _ HED.out).mono ?_); rintro e w3 ⟨d3, rfl, hi3, hb3⟩; obtain ⟨ek, en, es, ea, el, ep, ea2, el2, ep2, hes⟩ := Tre.InV_shp (InS_in _ _ hi3); subst hes; have hfo := Fo.alloc (Tre.next hbd hb3) hi3))
          all_goals
            go_wp2_with fail
            go_meet
            first
              | exact ⟨rfl, _, _, rfl, hfo⟩
              | exact ⟨rfl, _, _, rfl, hfo.drew⟩
        case rest =>
          rename World => wa
          obtain ⟨rfl, g, cx, rfl, hbx, hiy, hba, hgb⟩ := hcut
          have HBA := Lib.hid (Tre.next HBW.out hba)
          have HBX := Lib.hid hbx
          have HB1a := Lib.hid (HB1.out.next hba HB1.out.lt)
          have HB2a := Lib.hid (HB2.out.next hba HB2.out.lt)
          have HGa := Lib.hid (HG.out.next hba)
          clear x0 x1 x2 x3 x4 xc y0 y1 y2 y3 y4 hcl HED HEE HBE hze hbe hbd HFN hbx
          cases FX with
          | none =>
            obtain rfl : F = none := by rw [← HFD.out]; exact HSTOP.out HST.out
            clear HTO HSTOP HST hiy
            go_wp2_with (refine wpList_keep _ rfl _ _ rfl w.heap.size w HBA.out (w.heap.size + 1) (by omega) zeroC.toArray _ rfl rfl HB1a.out rfl rfl (InS_one (InV_zero w)) ?_; intro w9 bx9 hb9 hk9 hs9; clear hs9)
            (try simp only [Exit.inBlock, Exit.then])
            refine bodyPost_ret (results_val2 rfl _ _ _ _ rfl bx9 rfl) rfl ?_
            exact ⟨zeroC, rfl, InS_zero _ _, hb9⟩
          | some y =>
            have h5 := InS_five hiy
            have e1 := Lib.hid (InS_one (InS_in _ _ hiy))
            have HIY := Lib.hid (InS_upd (S' := Lie3 w.heap.size) (w := wa) (w' := wa) (fun _ hb _ => ⟨rfl, .inr (by omega)⟩) _ _ hiy)
            have HT2 := Lib.hid fun W' hb hx hkp hz => HTO.out wa W' _ y cx HGa.out HST.out HIY.out hb hx hkp hz
            clear HTO HSTOP hiy
            go_wp2_with (first
              | (refine wpList_fetch _ rfl _ rfl g _ rfl HBX.out (size_toArray cx h5) ?_)
              | (refine wpList_keep _ rfl _ _ rfl w.heap.size w HBA.out (w.heap.size + 2) (by omega) cx.toArray _ rfl rfl HB2a.out rfl (size_toArray cx h5) (by simpa using e1.out) ?_; intro w9 bx9 hb9 hk9 hs9))
            go_roundw
            case rel => exact ⟨k + 1, _, _, by go_num, by omega, Lib.hid (HT2.out _ hb9 bx9 hk9 hs9)⟩
            case measure => simp [RowKit.intOf]; omega
    · obtain rfl : k = l.length := by omega
      obtain rfl : F = some x := by rw [← HFD.out]; exact HG.out.end_
      have HFN := Lib.hid fun cs (W : World) (hi : InV W (wrp x) cs) => rfindS (wrp x) (ok_wrp hok) ⟨#[]⟩ cs W hi
      rw [find_wrp] at HFN
      have HW := Lib.hid fun (W : World) (b b2 : Nat) (hi : InV W x [.int .i64 km, .int .i64 nm, .string sm, .slice a7 l7 p7, .slice a8 l8 p8]) (hb : Box W b #[.int .i64 km, .int .i64 nm, .string sm, .slice a7 l7 p7, .slice a8 l8 p8]) (hn : W.heap[b2]? = some (.cells #[.string ⟨#[]⟩] 9 (0, 0))) => in_wrp hi hb hn
      have HI := Lib.hid fun (W : World) (hb : Below wr.heap.size wr W) => InV_next hb x _ (InS_in _ _ hin)
      have T2 : Hid (∀ (c : Array Value) (p : Obj), Box ((wr.alloc (.cells c 25)).alloc p) wr.heap.size c ∧ ((wr.alloc (.cells c 25)).alloc p).heap[wr.heap.size + 1]? = some p ∧ Below wr.heap.size wr ((wr.alloc (.cells c 25)).alloc p)) := Lib.hid fun c p => two_boxes (Below.refl _ _)
      have HB1 := Lib.hid b1
      have HBW := Lib.hid hbw
      have y0 : wr.cell? ⟨w.heap.size + 1 + 1, 0, none⟩ = some (.int .i64 km) := b2.cell 0
      have y1 : wr.cell? ⟨w.heap.size + 1 + 1, 1, none⟩ = some (.int .i64 nm) := b2.cell 1
      have y2 : wr.cell? ⟨w.heap.size + 1 + 1, 2, none⟩ = some (.string sm) := b2.cell 2
      have y3 : wr.cell? ⟨w.heap.size + 1 + 1, 3, none⟩ = some (.slice a7 l7 p7) := b2.cell 3
      have y4 : wr.cell? ⟨w.heap.size + 1 + 1, 4, none⟩ = some (.slice a8 l8 p8) := b2.cell 4
      clear b1 b2 hbw hin
      go_wp2_with (first
        | (go_at_call 27; (with_reducible refine (HFN.out _ _ (HW.out _ _ _ (HI.out _ (T2.out _ _).2.2) (T2.out _ _).1 (T2.out _ _).2.1)).mono ?_); rintro e w3 ⟨ds, rfl, hS3, hb3⟩; obtain ⟨ek, en, es, ea, el, ep, ea2, el2, ep2, rfl⟩ := Tre.InV_shp (InS_in _ _ hS3); have e1 := Lib.hid (InS_one (InS_in _ _ hS3)); obtain ⟨hs3, hz3, hB1, hBw⟩ := wrp_end HBW.out hsz HB1.out hS3 hb3; have HS3 := Lib.hid hs3; clear hS3 hb3 hs3)
        | (refine wpList_keep _ rfl _ _ rfl w.heap.size w (hBw.alloc (by omega) _) (w.heap.size + 1) (by omega) _ _ rfl rfl ((Below.heap_alloc _ _ _ (by omega)).trans hB1) rfl rfl (by simpa using e1.out) ?_; intro w9 bx9 hb9 hk9 hs9; clear hs9))
      (try simp only [Exit.inBlock, Exit.then])
      refine bodyPost_ret (results_val2 rfl _ _ _ _ rfl bx9 rfl) rfl ?_
      refine ⟨_, rfl, InS_upd (fun b hb hl => ⟨?_, by omega⟩) _ _ HS3.out, hb9⟩
      exact (hk9 b (by omega)).trans (Below.heap_alloc _ _ _ hl)
end Go.Proofs.YtfefbfohenmajaaDoor.Ptr
