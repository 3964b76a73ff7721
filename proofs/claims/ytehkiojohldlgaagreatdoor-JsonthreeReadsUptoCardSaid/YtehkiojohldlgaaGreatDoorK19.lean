/- Texts of my own, packed: TreU. Conditions: as each theorem states. -/
import Derived.Deep.RegionHeld3
import Derived.Test.YtehkiojohldlgaaGreatDoorK15
namespace Go.Proofs.YtehkiojohldlgaaGreatDoor.Tre
open Go.RowKit Go.Lib Go.Proofs.YtehkiojohldlgaaGreatDoor.Byt

def idv (v : Vt) : Vt := v
theorem idv_parts (v : Vt) : idv v = .mk v.k v.n v.s (v.l.map idv) v.ns := by
  have h : v.l.map idv = v.l := List.map_id v.l
  rw [h]
  exact Vt.eta v
def nest5 (W : World) (r : Nat) (u0 u1 u2 u3 u4 : Value) : World := ((((W.setCell ⟨r, 0, none⟩ u0).setCell ⟨r, 1, none⟩ u1).setCell ⟨r, 2, none⟩ u2).setCell ⟨r, 3, none⟩ u3).setCell ⟨r, 4, none⟩ u4
theorem box_nest5 {W : World} {r : Nat} {cs : Array Value} (h : Box W r cs) (h5 : cs.size = 5) (u0 u1 u2 u3 u4 : Value) : Box (nest5 W r u0 u1 u2 u3 u4) r #[u0, u1, u2, u3, u4] := by
  obtain ⟨l⟩ := cs
  obtain ⟨a, b, c, d, e, rfl⟩ : ∃ a b c d e, l = [a, b, c, d, e] := by
    match l, h5 with
    | [a, b, x, d, e], _ => exact ⟨a, b, x, d, e, rfl⟩
  unfold Box at h
  have h0 := heap_setCell_same W r 0 _ _ u0 h
  have h1 := heap_setCell_same _ r 1 _ _ u1 h0
  have h2 := heap_setCell_same _ r 2 _ _ u2 h1
  have h3 := heap_setCell_same _ r 3 _ _ u3 h2
  have h4 := heap_setCell_same _ r 4 _ _ u4 h3
  exact h4
theorem nest5_other (W : World) (r : Nat) (u0 u1 u2 u3 u4 : Value) {k : Nat} (hk : k ≠ r) : (nest5 W r u0 u1 u2 u3 u4).heap[k]? = W.heap[k]? := by
  have key : ∀ (W : World) (j : Nat) (u : Value), (W.setCell ⟨r, j, none⟩ u).heap[k]? = W.heap[k]? := fun W j u => heap_setCell_other W ⟨r, j, none⟩ k u (fun q => hk q)
  unfold nest5
  rw [key, key, key, key, key]
/-- While a clone is put together. -/
def ClS (w wr W : World) : Prop := (∀ k, k < wr.heap.size → k ≠ w.heap.size + 1 → W.heap[k]? = wr.heap[k]?) ∧ wr.heap.size ≤ W.heap.size ∧ Below w.heap.size w W ∧ ∃ cs, cs.size = 5 ∧ Box W (w.heap.size + 1) cs
section
variable {w wr W W2 : World}
theorem ClS.start (hb : Below w.heap.size w wr) (by_ : Box wr (w.heap.size + 1) zeroC.toArray) : ClS w wr wr.drew := ⟨fun _ _ _ => rfl, Nat.le_refl _, hb.drew, _, rfl, by_⟩
theorem ClS.below (h : ClS w wr W) : Below w.heap.size w W := h.2.2.1
theorem ClS.next (h : ClS w wr W) (hb : Below W.heap.size W W2) : ClS w wr W2 := by
  obtain ⟨h1, h2, h3, cs, h5, h4⟩ := h
  have h6 := h3.size
  exact ⟨fun k hk hne => (hb.block k (by omega)).trans (h1 k hk hne), Nat.le_trans h2 hb.size, h3.trans (hb.mono h6), cs, h5, h4.next hb h4.lt⟩
theorem ClS.store (h : ClS w wr W) (u0 u1 u2 u3 u4 : Value) : ClS w wr (nest5 W (w.heap.size + 1) u0 u1 u2 u3 u4) := by
  obtain ⟨h1, h2, h3, cs, h5, h4⟩ := h
  have hb : Below w.heap.size w (nest5 W (w.heap.size + 1) u0 u1 u2 u3 u4) := by
    unfold nest5
    exact below_set (below_set (below_set (below_set (below_set h3 (by omega) _ _) (by omega) _ _) (by omega) _ _) (by omega) _ _) (by omega) _ _
  have hs : (nest5 W (w.heap.size + 1) u0 u1 u2 u3 u4).heap.size = W.heap.size := by unfold nest5; simp
  exact ⟨fun k hk hne => (nest5_other _ _ _ _ _ _ _ hne).trans (h1 k hk hne), by omega, hb, _, rfl, box_nest5 h4 h5 u0 u1 u2 u3 u4⟩
theorem ClS.cells (h : ClS w wr W) : ∃ c0 c1 c2 c3 c4, Box W (w.heap.size + 1) #[c0, c1, c2, c3, c4] ∧ W.cell? ⟨w.heap.size + 1, 0, none⟩ = some c0 ∧ (∀ j, W.frozen? ⟨w.heap.size + 1, j, none⟩ = false) ∧
    (∀ u0, (W.setCell ⟨w.heap.size + 1, 0, none⟩ u0).cell? ⟨w.heap.size + 1, 1, none⟩ = some c1) ∧
    (∀ u0 u1, ((W.setCell ⟨w.heap.size + 1, 0, none⟩ u0).setCell ⟨w.heap.size + 1, 1, none⟩ u1).cell? ⟨w.heap.size + 1, 2, none⟩ = some c2) ∧
    (∀ u0 u1 u2, (((W.setCell ⟨w.heap.size + 1, 0, none⟩ u0).setCell ⟨w.heap.size + 1, 1, none⟩ u1).setCell ⟨w.heap.size + 1, 2, none⟩ u2).cell? ⟨w.heap.size + 1, 3, none⟩ = some c3) ∧
    (∀ u0 u1 u2 u3, ((((W.setCell ⟨w.heap.size + 1, 0, none⟩ u0).setCell ⟨w.heap.size + 1, 1, none⟩ u1).setCell ⟨w.heap.size + 1, 2, none⟩ u2).setCell ⟨w.heap.size + 1, 3, none⟩ u3).cell? ⟨w.heap.size + 1, 4, none⟩ = some c4) := by
  obtain ⟨_, _, _, cs, h5, b2⟩ := h
  obtain ⟨l⟩ := cs
  obtain ⟨a, b, c, d, e, rfl⟩ : ∃ a b c d e, l = [a, b, c, d, e] := by
    match l, h5 with
    | [a, b, x, d, e], _ => exact ⟨a, b, x, d, e, rfl⟩
  have ne : ∀ {i j : Nat}, i ≠ j → (⟨w.heap.size + 1, i, none⟩ : Addr) ≠ ⟨w.heap.size + 1, j, none⟩ := fun h q => h (by injection q)
  refine ⟨a, b, c, d, e, b2, b2.cell 0, fun j => b2.free j, fun u0 => ?_, fun u0 u1 => ?_, fun u0 u1 u2 => ?_, fun u0 u1 u2 u3 => ?_⟩
  · rw [World.cell?_setCell_other _ _ _ _ (ne (by omega))]; exact b2.cell 1
  · rw [World.cell?_setCell_other _ _ _ _ (ne (by omega)), World.cell?_setCell_other _ _ _ _ (ne (by omega))]; exact b2.cell 2
  · rw [World.cell?_setCell_other _ _ _ _ (ne (by omega)), World.cell?_setCell_other _ _ _ _ (ne (by omega)), World.cell?_setCell_other _ _ _ _ (ne (by omega))]; exact b2.cell 3
  · rw [World.cell?_setCell_other _ _ _ _ (ne (by omega)), World.cell?_setCell_other _ _ _ _ (ne (by omega)), World.cell?_setCell_other _ _ _ _ (ne (by omega)), World.cell?_setCell_other _ _ _ _ (ne (by omega))]; exact b2.cell 4
theorem ClS.par (h : ClS w wr W) {cs : Array Value} (bx : Box wr w.heap.size cs) (j : Nat) : W.cell? ⟨w.heap.size, j, none⟩ = cs[j]? := Box.cell (cs := cs) ((h.1 w.heap.size bx.lt (by omega)).trans bx) j
theorem ClS.kept (h : ClS w wr W) (hb : Below W.heap.size W W2) : ∀ k, k < wr.heap.size → k ≠ w.heap.size + 1 → W2.heap[k]? = wr.heap[k]? := fun k hk hne => (hb.block k (Nat.lt_of_lt_of_le hk h.2.1)).trans (h.1 k hk hne)
theorem ClS.size (h : ClS w wr W) : wr.heap.size ≤ W.heap.size := h.2.1
end
attribute [irreducible] ClS
set_option maxHeartbeats 4000000 in
set_option maxRecDepth 100000 in
theorem pclone_any (v : Vt) (cs : List Value) (w : World) (h : InV w v cs) (hv : okV v)
    (ih : ∀ x ∈ v.l, ∀ cs w, InV w x cs → Calls Tryz.prog 103 #[.agg cs.toArray] w fun e w' => ∃ ds : List Value, e = .returned (.agg ds.toArray) ∧ InS (fun b => w.heap.size ≤ b) w' (idv x) ds ∧ Below w.heap.size w w') :
    Calls Tryz.prog 103 #[.agg cs.toArray] w fun e w' => ∃ ds : List Value, e = .returned (.agg ds.toArray) ∧ InS (fun b => w.heap.size ≤ b) w' (idv v) ds ∧ Below w.heap.size w w' := by
  obtain ⟨a, cap, c4, rfl, hit, hr⟩ := (InV_iff w v cs).1 h
  have HCS := Lib.hid fun x y => clone_start idv v.l a cap w x y hit hv.2.2.2.1
  have HNM := Lib.hid fun (W : World) (hb : Below w.heap.size w W) => clones_any v.ns c4 W (hr.next hb) hv.2.2.2.2.1
  obtain ⟨a2, cap2, rfl, _⟩ := hr.open_
  have hsp := idv_parts v
  have HL := hv.2.2.2.1
  have HN := hv.2.2.2.2.1
  have HIH := Lib.hid ih
  clear h hv ih hit hr
  generalize idv v = SV at *
  generalize v.l = l at *
  generalize v.ns = ns at *
  generalize v.k = k at *
  generalize v.n = n at *
  generalize v.s = s at *
  have HSP := Lib.hid hsp
  clear hsp
  have hmx : l.length ≤ 9223372036854775807 := by omega
  have hmn : ns.length ≤ 9223372036854775807 := by omega
  go_enter Tryz.func103, Tryz.ntmps103
  go_wp2_with (go_at_call 48; refine (HCS.out _ _).mono ?_; rintro e w1 ⟨a', cap', C, rfl, hH, hC, bx, by_, hb1, hsz1⟩)
  go_loopw [11] (fun x wr => ∃ i : Nat, x = .int .i64 (i : Int) ∧ i ≤ l.length ∧ Half idv wr (w.heap.size + 2) (.slice a' l.length cap') l C i ∧ Box wr w.heap.size #[.int .i64 k, .int .i64 n, .string s, .slice a l.length cap, .slice a2 ns.length cap2] ∧ Box wr (w.heap.size + 1) zeroC.toArray ∧ Below w.heap.size w wr ∧ w.heap.size + 2 ≤ wr.heap.size)
    (fun x _ => l.length - (RowKit.intOf x).toNat)
  case atStart => exact ⟨0, by go_num, by omega, hH, bx, by_, hb1, hsz1⟩
  case round =>
    have HC := Lib.hid hC
    clear hH bx by_ hb1 hsz1 hC
    obtain ⟨i, rfl, hi, hH, bx, by_, hb, hsz⟩ := hrel
    by_cases hlt : i < l.length
    · obtain ⟨g, rfl, hB, hg, hrg, hth⟩ := hH.at_ hlt
      have hin2 := InV_next hb _ _ (HC.out i hlt)
      have HX := Lib.hid fun w2 (hb2 : Below wr.heap.size wr w2) => HIH.out _ (mem_get hlt) _ w2 (InV_next hb2 _ _ hin2)
      obtain ⟨ds, hds⟩ : ∃ ds, ds = C.getD i [] := ⟨_, rfl⟩
      rw [← hds] at hrg hin2 HX
      have h5 := InV_five hin2
      have h5' := size_toArray ds h5
      have h1 := InS_one hin2
      have HHH := Lib.hid hH
      clear hds hin2 hH HIH HC
      go_wp2_with (first
        | (refine wpList_take _ rfl _ rfl g (i * 5) ds rfl hrg h5 ?_)
        | (refine wpList_keep _ rfl _ _ rfl wr.heap.size wr ((Below.refl _ wr).alloc (Nat.le_refl _) _) wr.heap.size (Nat.le_refl _) ds.toArray _ rfl rfl (box_new _ _) rfl h5' (by simpa using h1) ?_; intro w2 bx2 hb2 _ hs2; clear hs2)
        | (refine wpList_fetch _ rfl _ rfl wr.heap.size ds.toArray rfl bx2 h5' ?_)
        | (go_at_call 103; refine (HX.out _ hb2).mono ?_; rintro e w3 ⟨es, rfl, hS3, hb3⟩; have hb4 := next hb2 hb3; have ht3 := there_next hth hg hb4; have e5 := InS_five hS3; have e1 := InS_one (InS_in _ _ hS3))
        | (refine wpList_poke _ rfl _ _ rfl g (i * 5) es rfl rfl ht3 e5 e1 ?_))
      have hsz2 := hb2.size
      have hsz4 := hb4.size
      have hst := Half.step HHH.out hlt hsz hb4 (InS_upd (fun b hb' _ => ⟨rfl, Nat.le_trans hsz2 hb'⟩) _ _ hS3)
      have ne0 : w.heap.size ≠ g := by omega
      have ne1 : w.heap.size + 1 ≠ g := by omega
      have hbb := below_sets (g := g) (show w.heap.size ≤ g by omega) es (i * 5) w3 (hb.trans (hb4.mono (by omega)))
      have hsz5 := (below_sets (g := g) (show g ≤ g by omega) es (i * 5) w3 (Below.refl _ _)).size
      go_roundw
      case rel => exact ⟨i + 1, by go_num, by omega, hst, (sets_other g ne0 _ _ _).trans (bx.next hb4 (by omega)), (sets_other g ne1 _ _ _).trans (by_.next hb4 (by omega)), hbb, by omega⟩
      case measure => simp [RowKit.intOf]; omega
    · obtain rfl : i = l.length := by omega
      obtain ⟨D, hD, hLie⟩ := hH.end_
      clear hH HC
      have P := fun (W : World) (hW : ClS w wr W) (j : Nat) => hW.par bx j
      have p0 : ∀ W, ClS w wr W → W.cell? ⟨w.heap.size, 0, none⟩ = some (.int .i64 k) := fun W hW => P W hW 0
      have p1 : ∀ W, ClS w wr W → W.cell? ⟨w.heap.size, 1, none⟩ = some (.int .i64 n) := fun W hW => P W hW 1
      have p2 : ∀ W, ClS w wr W → W.cell? ⟨w.heap.size, 2, none⟩ = some (.string s) := fun W hW => P W hW 2
      have p4 : ∀ W, ClS w wr W → W.cell? ⟨w.heap.size, 4, none⟩ = some (.slice a2 ns.length cap2) := fun W hW => P W hW 4
      clear P
      have h0 := ClS.start hb by_
      have HD := Lib.hid hD
      have HLI := Lib.hid hLie
      have HSZ := Lib.hid hsz
      clear hD hLie bx by_ hb
      go_wp2_with fail
      go_region_held3 (ClS w wr) (first | exact h0 | exact ClS.next (by assumption) hb2 | exact ClS.store (by assumption) _ _ _ _ _)
        ((go_at_call 49; with_reducible refine (HNM.out _ (ClS.below (by assumption))).mono ?_; rintro e w2 ⟨c5, rfl, hS5, hb2⟩; obtain ⟨a5, cap5, rfl, _⟩ := hS5.row.open_; have hk2 := ClS.kept (by assumption) hb2; have hz2 := ClS.size (w := w) (wr := wr) (by assumption); obtain ⟨c0, c1, c2, c3, c4, bx2, d0, fr, e1, e2, e3, e4⟩ := ClS.cells (ClS.next (by assumption) hb2)))
      all_goals
        go_wp2_with fail
        (try simp only [Exit.inBlock, Exit.then])
        refine bodyPost_ret (results_val rfl _ _ _ _ rfl (box_nest5 bx2 rfl _ _ _ _ _) rfl) rfl ?_
        refine ⟨_, rfl, ?_, ClS.below (by assumption)⟩
        rw [HSP.out]
        have q3 : OwnR w2 (w.heap.size + 2) (.slice a' l.length cap') D := HD.out.beside fun g hg => by
          rcases HD.out.shape with ⟨q, _⟩ | ⟨g', cp, q, hB, hl⟩
          · rw [q] at hg; cases hg
          · rw [q] at hg
            have : g' = g := Option.some.inj hg
            subst this
            exact hk2 g' hl (by omega)
        exact finish k n s q3 (HLI.out.upd fun b hb' hl' => ⟨hk2 b hl' (by have := hb'.1; omega), hb'.1⟩) (own_base hS5 (Nat.le_trans HSZ.out hz2)) (fun k hk => nest5_other _ _ _ _ _ _ _ hk)
theorem pclone (v : Vt) (hv : OkT v) : ∀ (cs : List Value) (w : World), InV w v cs → Calls Tryz.prog 103 #[.agg cs.toArray] w fun e w' => ∃ ds : List Value, e = .returned (.agg ds.toArray) ∧ InS (fun b => w.heap.size ≤ b) w' v ds ∧ Below w.heap.size w w' := by
  revert hv
  refine vt_ind (p := fun v => OkT v → ∀ (cs : List Value) (w : World), InV w v cs → Calls Tryz.prog 103 #[.agg cs.toArray] w fun e w' => ∃ ds : List Value, e = .returned (.agg ds.toArray) ∧ InS (fun b => w.heap.size ≤ b) w' v ds ∧ Below w.heap.size w w') ?_ v
  intro v ih hv cs w h
  obtain ⟨_, h1, h2⟩ := hv
  exact pclone_any v cs w h h1 fun x hx => ih x hx (h2 x hx)
end Go.Proofs.YtehkiojohldlgaaGreatDoor.Tre
