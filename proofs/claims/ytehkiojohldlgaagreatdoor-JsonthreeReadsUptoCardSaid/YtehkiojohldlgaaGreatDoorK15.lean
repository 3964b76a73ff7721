/- Texts of my own, packed: TreT. Conditions: as each theorem states. -/
import Derived.Test.YtehkiojohldlgaaGreatDoorK13
namespace Go.Proofs.YtehkiojohldlgaaGreatDoor.Tre
open Go.RowKit Go.Lib Go.Proofs.YtehkiojohldlgaaGreatDoor.Byt

/-- A store of a value into a row. -/
theorem wpList_poke {ops : Array Oper} {rest : List Oper} {o : Oper} {a : Act} {Q : Exit → Act → World → Prop} (W : World) (hgd : o.guard = none) (x y : Operand) (ho : o.op = .store 26 x y) (b f : Nat) (cs : List Value)
    (hx : a.eval x = .pointer (some ⟨b, f, none⟩)) (hy : a.eval y = .agg cs.toArray) (ht : W.there b f 5) (h5 : cs.length = 5) (h1 : ∀ u ∈ cs, u.oneCell' = true)
    (h : wpList Tryz.prog ops Q rest (a.put o.dst undef) (W.setCells b f cs)) : wpList Tryz.prog ops Q (o :: rest) a W := by
  have hs : cs.toArray.size = 5 := size_toArray cs h5
  refine wpList_store_mid hgd _ x y ho b f cs.toArray hx hy (by rw [hs]; exact ht) (by rw [infoV, hs]) (all_oneCell_toArray h1) ?_
  rw [List.toList_toArray]
  exact h
theorem clonev_core (C : List (List Value)) (a : Option Addr) (cap : Nat) (w : World)
    (hit : ∀ j, j < C.length → ∃ b off, a = some (⟨b, off, none⟩ : Addr) ∧ w.rangeAt b (off + 5 * j) (C.getD j [])) (hF : Five C) (hone : ∀ u ∈ C.flatten, u.oneCell' = true) (hl : C.length * 80 ≤ 140737488351232) :
    Calls Tryz.prog 48 #[.slice a C.length cap] w fun e w' => ∃ v', e = .returned v' ∧ OwnR w' w.heap.size v' C ∧ Below w.heap.size w w' := by
  have q22 : ∀ (w : World) (a : Option Addr) (n c n' c' : Nat), (binOp .eql 23 (.slice a n c) (.slice none n' c')).run Tryz.prog w = .ok (.bool a.isNone) w := fun w a n c n' c' => Lib.run_eql_slice_nil w _ _ a n c n' c' Tryz.underlying23
  cases a with
  | none =>
    have h0 : C.length = 0 := by
      rcases Nat.eq_zero_or_pos C.length with h | h
      · exact h
      · obtain ⟨b, off, e, _⟩ := hit 0 h; cases e
    obtain rfl := List.eq_nil_of_length_eq_zero h0
    clear hit hl hone hF
    go_enter Tryz.func48, Tryz.ntmps48
    go_wp2_with fail
    go_ret
    exact ⟨_, rfl, OwnR.nil _ _, Below.refl _ _⟩
  | some p =>
    have hfl := flat_len C hF
    have hcells : ∀ j u, C.flatten[j]? = some u → w.cell? (p.add j) = some u := by
      intro j u hj
      have hlt : j < C.flatten.length := (List.getElem?_eq_some_iff.1 hj).1
      rw [hfl] at hlt
      have hq : j / 5 < C.length := by omega
      obtain ⟨b, off, e, hr⟩ := hit (j / 5) (by omega)
      injection e with e
      subst e
      have h2 := flat_at C hF (j / 5) (j % 5) hq (Nat.mod_lt _ (by omega))
      rw [show j / 5 * 5 + j % 5 = j by omega, hj] at h2
      have := hr (j % 5) u h2.symm
      rw [Addr.add_mid]
      rwa [show off + 5 * (j / 5) + j % 5 = off + j by omega] at this
    obtain ⟨i0, hi, hz0, hz1, hz2⟩ := info_parts info80
    have A : Hid (∀ j u, C.flatten[j]? = some u → w.cell? (p.add j) = some u) := Lib.hid hcells
    clear hit hcells
    go_enter Tryz.func48, Tryz.ntmps48
    go_wp2_with (at_builtin; refine wpList_append_own _ rfl _ _ 23 rfl w.heap.size 26 i0 _ 5 80 Tryz.underlying23 hi hz0 hz1 hz2 rfl (by decide) _ _ _ rfl (World.ownsRow_made w #[] 0 (Nat.le_refl _) (Nat.zero_le _) (by simp)) p C.length cap C.flatten rfl ?qc1 ?qc2 ?qc3 ?qc4 ?qc5 ?qc6 ?_)
    case qc1 => rw [hfl]
    case qc2 =>
      intro j u hj
      exact Lib.cell?_alloc_some _ (A.out j u hj)
    case qc3 => exact hone
    case qc4 => unfold maxLen; omega
    case qc5 => omega
    case qc6 => simp
    intro v' w1 hown hgrow hnil
    go_wp2
    go_ret
    refine ⟨v', rfl, ⟨hF, ?_⟩, ?_⟩
    · simpa using hown
    · exact ((Below.refl _ w).alloc (Nat.le_refl _) _).grown hgrow (by simp) (by intro k hk; simp [Value.ownBlock] at hk; omega)


def obj (cs : List Value) : Obj := .cells cs.toArray 26 (0, 0)
/-- Ahead of a loop that puts values in. -/
theorem clone_start (f : Vt → Vt) (l : List Vt) (a : Option Addr) (cap : Nat) (w : World) (x y : Obj)
    (hit : ∀ j, j < l.length → ∃ b off, a = some ⟨b, off, none⟩ ∧ ∃ ds, w.rangeAt b (off + 5 * j) ds ∧ InV w (l.getD j V0) ds) (hl : l.length * 80 ≤ 140737488351232) :
    Calls Tryz.prog 48 #[.slice a l.length cap] ((w.alloc x).alloc y) fun e w' => ∃ a' cap' C, e = .returned (.slice a' l.length cap') ∧ Half f w' (w.heap.size + 2) (.slice a' l.length cap') l C 0 ∧ (∀ j, j < l.length → InV w (l.getD j V0) (C.getD j []))
      ∧ w'.heap[w.heap.size]? = some x ∧ w'.heap[w.heap.size + 1]? = some y ∧ Below w.heap.size w w' ∧ w.heap.size + 2 ≤ w'.heap.size := by
  have hb := (two_boxes (Below.refl ((w.alloc x).alloc y).heap.size ((w.alloc x).alloc y))).2.2
  obtain ⟨C0, hCl, hC0⟩ := cells_of l.length (P := fun j c => (∃ b off, a = some (⟨b, off, none⟩ : Addr) ∧ w.rangeAt b (off + 5 * j) c) ∧ InV w (l.getD j V0) c) (fun j hj => by
      obtain ⟨b, off, e, ds, h1, h2⟩ := hit j hj
      exact ⟨ds, ⟨b, off, e, h1⟩, h2⟩)
  obtain ⟨hF, hone⟩ := five_of hCl fun j hj => (hC0 j hj).2
  have key := clonev_core C0 a cap ((w.alloc x).alloc y) (fun j hj => by
    obtain ⟨⟨b, off, e, h1⟩, _⟩ := hC0 j (by omega)
    exact ⟨b, off, e, range_next h1 hb⟩) hF hone (by omega)
  rw [hCl] at key
  refine key.mono ?_
  rintro e w' ⟨v', rfl, hown, hb1⟩
  have hs : ((w.alloc x).alloc y).heap.size = w.heap.size + 2 := by simp
  obtain ⟨h1, h2, h3⟩ := two_boxes hb1
  rw [hs] at hown hb1
  obtain ⟨a', cap', rfl, _⟩ := hown.open_
  rw [hCl] at hown ⊢
  have hsz := hb1.size
  rw [hs] at hsz
  exact ⟨a', cap', C0, rfl, Half.start hown hCl, fun j hj => (hC0 j hj).2, h1, h2, h3, hsz⟩

theorem own_beside {w w' : World} {B sz n g cap m N : Nat} {e : TypeId} {xs : List Value} (h : w.ownsRow B e sz (.slice (some ⟨g, 0, none⟩) n cap) m xs) (hN : N < B) (hk : ∀ k, k ≠ N → w'.heap[k]? = w.heap[k]?) : w'.ownsRow B e sz (.slice (some ⟨g, 0, none⟩) n cap) m xs := by
  refine own_keep h fun k hk' => hk k ?_
  have : g = k := Option.some.inj hk'
  subst this
  rcases h.2 with ⟨q, _⟩ | ⟨g', cap', cur, q, hb, _⟩
  · cases q
  · injection q with q _ _
    injection q with q
    injection q with q
    omega
theorem row_beside {w w' : World} {B sz m N : Nat} {e : TypeId} {v : Value} {xs : List Value} (h : w.ownsRow B e sz v m xs) (hN : N < B) (hk : ∀ k, k ≠ N → w'.heap[k]? = w.heap[k]?) : w'.ownsRow B e sz v m xs := by
  rcases h.2 with ⟨q, h0⟩ | ⟨g, cap, cur, q, hb, _⟩
  · exact ⟨h.1, .inl ⟨q, h0⟩⟩
  · subst q; exact own_beside h hN hk
theorem finish {N : Nat} {w3 w4 : World} {c3 c4 : Value} {C : List (List Value)} {L : List Vt} {NS : List ByteArray} (k n : Int) (s : ByteArray) (h3 : OwnR w3 (N + 2) c3 C) (hL : Lie (fun b => N + 2 ≤ b) w3 L C) (h4 : Strs.Own w3 (N + 2) c4 NS)
    (hk : ∀ k, k ≠ N + 1 → w4.heap[k]? = w3.heap[k]?) : InS (fun b => N ≤ b) w4 (.mk k n s L NS) [.int .i64 k, .int .i64 n, .string s, c3, c4] := by
  have q3 : OwnR w4 (N + 2) c3 C := ⟨h3.1, row_beside h3.2 (by omega) hk⟩
  have q4 : Strs.Own w4 (N + 2) c4 NS := row_beside h4 (by omega) hk
  exact made k n s q3 (hL.upd fun b hb _ => ⟨hk b (by omega), by omega⟩) (RowS_own q4 fun b hb => by omega) fun b hb => by omega
theorem Lie_map {S : Nat → Prop} {w : World} {P : List Nat} {f : Nat → Vt} {g : Nat → List Value} (h : ∀ i ∈ P, InS S w (f i) (g i)) : Lie S w (P.map f) (P.map g) := by
  refine ⟨by simp, fun j hj => ?_⟩
  rw [List.length_map] at hj
  rw [List.getD_eq_getElem?_getD, List.getD_eq_getElem?_getD, List.getElem?_map, List.getElem?_map, List.getElem?_eq_getElem hj]
  exact h _ (List.getElem_mem hj)
theorem srt_parts (v : Vt) : srt v = mkO v.k v.n v.s (v.l.map srt) v.ns := by cases v; rw [srt, srtL_map]; rfl

set_option maxHeartbeats 4000000 in
set_option maxRecDepth 100000 in
theorem psort_any (v : Vt) (cs : List Value) (w : World) (h : InV w v cs) (hv : okV v)
    (ih : ∀ x ∈ v.l, ∀ cs w, InV w x cs → Calls Tryz.prog 24 #[.agg cs.toArray] w fun e w' => ∃ ds : List Value, e = .returned (.agg ds.toArray) ∧ InS (fun b => w.heap.size ≤ b) w' (srt x) ds ∧ Below w.heap.size w w') :
    Calls Tryz.prog 24 #[.agg cs.toArray] w fun e w' => ∃ ds : List Value, e = .returned (.agg ds.toArray) ∧ InS (fun b => w.heap.size ≤ b) w' (srt v) ds ∧ Below w.heap.size w w' := by
  obtain ⟨a, cap, c4, rfl, hit, hr⟩ := (InV_iff w v cs).1 h
  have HCS := Lib.hid fun x y => clone_start srt v.l a cap w x y hit hv.2.2.2.1
  have HNM := Lib.hid fun (W : World) (hb : Below w.heap.size w W) => clones_any v.ns c4 W (hr.next hb) hv.2.2.2.2.1
  obtain ⟨a2, cap2, rfl, _⟩ := hr.open_
  have hsp := srt_parts v
  have HL := hv.2.2.2.1
  have HN := hv.2.2.2.2.1
  have HIH := Lib.hid ih
  clear h hv ih hit hr
  generalize srt v = SV at *
  generalize v.l = l at *
  generalize v.ns = ns at *
  generalize v.k = k at *
  generalize v.n = n at *
  generalize v.s = s at *
  have HSP := Lib.hid hsp
  clear hsp
  have hmx : l.length ≤ 9223372036854775807 := by omega
  have hmn : ns.length ≤ 9223372036854775807 := by omega
  go_enter Tryz.func24, Tryz.ntmps24
  go_wp2_with (go_at_call 48; refine (HCS.out _ _).mono ?_; rintro e w1 ⟨a', cap', C, rfl, hH, hC, bx, by_, hb1, hsz1⟩)
  go_loopw [12] (fun x wr => ∃ i : Nat, x = .int .i64 (i : Int) ∧ i ≤ l.length ∧ Half srt wr (w.heap.size + 2) (.slice a' l.length cap') l C i ∧ Box wr w.heap.size #[.int .i64 k, .int .i64 n, .string s, .slice a l.length cap, .slice a2 ns.length cap2] ∧ Box wr (w.heap.size + 1) zeroC.toArray ∧ Below w.heap.size w wr ∧ w.heap.size + 2 ≤ wr.heap.size)
    (fun x _ => l.length - (RowKit.intOf x).toNat)
  case atStart => exact ⟨0, by go_num, by omega, hH, bx, by_, hb1, hsz1⟩
  case round =>
    have HC := Lib.hid hC
    clear hH bx by_ hb1 hsz1 hC
    obtain ⟨i, rfl, hi, hH, bx, by_, hb, hsz⟩ := hrel
    by_cases hlt : i < l.length
    · obtain ⟨g, rfl, hB, hg, hrg, hth⟩ := hH.at_ hlt
      have hin2 := InV_next hb _ _ (HC.out i hlt)
      have HX := Lib.hid fun w2 (hb2 : Below wr.heap.size wr w2) => HIH.out _ (mem_get hlt) _ w2 (InV_next hb2 _ _ hin2)
      obtain ⟨ds, hds⟩ : ∃ ds, ds = C.getD i [] := ⟨_, rfl⟩
      rw [← hds] at hrg hin2 HX
      have h5 := InV_five hin2
      have h5' := size_toArray ds h5
      have h1 := InS_one hin2
      have HHH := Lib.hid hH
      clear hds hin2 hH HIH HC
      go_wp2_with (first
        | (refine wpList_take _ rfl _ rfl g (i * 5) ds rfl hrg h5 ?_)
        | (refine wpList_keep _ rfl _ _ rfl wr.heap.size wr ((Below.refl _ wr).alloc (Nat.le_refl _) _) wr.heap.size (Nat.le_refl _) ds.toArray _ rfl rfl (box_new _ _) rfl h5' (by simpa using h1) ?_; intro w2 bx2 hb2 _ hs2; clear hs2)
        | (refine wpList_fetch _ rfl _ rfl wr.heap.size ds.toArray rfl bx2 h5' ?_)
        | (go_at_call 24; refine (HX.out _ hb2).mono ?_; rintro e w3 ⟨es, rfl, hS3, hb3⟩; have hb4 := next hb2 hb3; have ht3 := there_next hth hg hb4; have e5 := InS_five hS3; have e1 := InS_one (InS_in _ _ hS3))
        | (refine wpList_poke _ rfl _ _ rfl g (i * 5) es rfl rfl ht3 e5 e1 ?_))
      have hsz2 := hb2.size
      have hsz4 := hb4.size
      have hst := Half.step HHH.out hlt hsz hb4 (InS_upd (fun b hb' _ => ⟨rfl, Nat.le_trans hsz2 hb'⟩) _ _ hS3)
      have ne0 : w.heap.size ≠ g := by omega
      have ne1 : w.heap.size + 1 ≠ g := by omega
      have hbb := below_sets (g := g) (show w.heap.size ≤ g by omega) es (i * 5) w3 (hb.trans (hb4.mono (by omega)))
      have hsz5 := (below_sets (g := g) (show g ≤ g by omega) es (i * 5) w3 (Below.refl _ _)).size
      go_roundw
      case rel => exact ⟨i + 1, by go_num, by omega, hst, (sets_other g ne0 _ _ _).trans (bx.next hb4 (by omega)), (sets_other g ne1 _ _ _).trans (by_.next hb4 (by omega)), hbb, by omega⟩
      case measure => simp [RowKit.intOf]; omega
    · obtain rfl : i = l.length := by omega
      obtain ⟨D, hD, hLie⟩ := hH.end_
      have hDl : D.length = l.length := by rw [hLie.1, List.length_map]
      have y0 : wr.cell? ⟨w.heap.size, 4, none⟩ = some (.slice a2 ns.length cap2) := bx.cell 4
      clear hH HC
      by_cases hcond : k = 5 ∧ ns.length = (l.map srt).length
      · obtain ⟨h5, hlen⟩ := hcond
        rw [List.length_map] at hlen
        have k5 : (k == 5) = true := by rw [beq_iff_eq]; exact h5
        have hln : ((ns.length : Int) == (l.length : Int)) = true := by rw [beq_iff_eq]; omega
        have HSV := Lib.hid (show SV = .mk k n s ((plc ns).map fun i => (l.map srt).getD i V0) ((plc ns).map (nm ns)) by
          rw [HSP.out]; unfold mkO
          rw [if_pos ⟨h5, by rw [List.length_map]; exact hlen⟩, isort_fst _ _ (by rw [List.length_map]; exact hlen), isort_snd _ _ (by rw [List.length_map]; exact hlen)]
          rfl)
        have hshape : ∀ c ∈ D, Shp c := by
          intro c hc
          obtain ⟨j, hj, rfl⟩ := List.getElem_of_mem hc
          have := hLie.2 j (by rw [List.length_map]; omega)
          rw [List.getD_eq_getElem?_getD (l := D), List.getElem?_eq_getElem hj] at this
          exact InV_shp (InS_in _ _ this)
        have HMB := Lib.hid fun (W : World) (hb : Below wr.heap.size wr W) (c : Value) (hrow : Strs.Row W c ns) => members_any ns c (.slice a' l.length cap') D (w.heap.size + 2) W hrow (hD.next hb) hshape (by omega) (by omega)
        have HLE := Lib.hid hlen
        clear h5 hlen hshape
        go_wp2_with (first
          | (go_at_call 49; refine (HNM.out _ hb).mono ?_; rintro e w2 ⟨c5, rfl, hS5, hb2⟩; obtain ⟨a5, cap5, rfl, _⟩ := hS5.row.open_; have bx2 := bx.next hb2 (show w.heap.size < wr.heap.size by omega); have by2 := by_.next hb2 (show w.heap.size + 1 < wr.heap.size by omega); have z0 : w2.cell? ⟨w.heap.size, 0, none⟩ = some (.int .i64 k) := bx2.cell 0; have z1 : w2.cell? ⟨w.heap.size, 1, none⟩ = some (.int .i64 n) := bx2.cell 1; have z2 : w2.cell? ⟨w.heap.size, 2, none⟩ = some (.string s) := bx2.cell 2; have hbw2 := hb.trans (hb2.mono (show w.heap.size ≤ wr.heap.size by omega)))
          | (go_at_call 50; refine (HMB.out _ hb2 _ hS5.row).mono ?_; rintro e w3 ⟨c6, v6, rfl, hS6, hV6, hb3⟩; obtain ⟨a6, n6, p6, e6⟩ : ∃ a n p, c6 = .slice a n p := (by obtain ⟨x, y, q, _⟩ := hS6.row.open_; exact ⟨_, _, _, q⟩); obtain ⟨a7, n7, p7, e7⟩ : ∃ a n p, v6 = .slice a n p := (by obtain ⟨x, y, q, _⟩ := hV6.open_; exact ⟨_, _, _, q⟩); subst e6 e7; have hsz2 := hb2.size; have hb23 := next hb2 hb3; have bx3 := bx.next hb23 (show w.heap.size < wr.heap.size by omega); have by3 := by_.next hb23 (show w.heap.size + 1 < wr.heap.size by omega); have z3 : w3.cell? ⟨w.heap.size, 0, none⟩ = some (.int .i64 k) := bx3.cell 0; have z4 : w3.cell? ⟨w.heap.size, 1, none⟩ = some (.int .i64 n) := bx3.cell 1; have z5 : w3.cell? ⟨w.heap.size, 2, none⟩ = some (.string s) := bx3.cell 2; have hbw3 := hb.trans (hb23.mono (show w.heap.size ≤ wr.heap.size by omega)))
          | (refine wpList_keep _ rfl _ _ rfl w.heap.size w hbw3 (w.heap.size + 1) (by omega) #[.int .i64 k, .int .i64 n, .string s, .slice a7 n7 p7, .slice a6 n6 p6] _ rfl rfl by3 rfl rfl (by intro u hu; simp only [List.mem_cons, List.not_mem_nil, or_false] at hu; rcases hu with rfl | rfl | rfl | rfl | rfl <;> rfl) ?_; intro w9 bx9 hb9 hk9 hs9; clear hs9))
        (try simp only [Exit.inBlock, Exit.then])
        refine bodyPost_ret (results_val rfl _ _ _ _ rfl bx9 rfl) rfl ?_
        refine ⟨_, rfl, ?_, hb9⟩
        rw [HSV.out]
        refine finish k n s ⟨hV6.1, own_base hV6.2 (by omega)⟩ (Lie_map fun i hi => ?_) (own_base hS6 (by omega)) hk9
        have hil := plc_lt hi
        exact InS_upd (fun b hb' hl' => ⟨hb23.block b hl', hb'.1⟩) _ _ (hLie.2 i (by rw [List.length_map, ← HLE.out]; exact hil))
      · have HSV := Lib.hid (show SV = .mk k n s (l.map srt) ns by rw [HSP.out]; unfold mkO; rw [if_neg hcond])
        have hab : (k == 5) = false ∨ ((k == 5) = true ∧ ((ns.length : Int) == (l.length : Int)) = false) := by
          by_cases h5 : k = 5
          · refine .inr ⟨by rw [beq_iff_eq]; exact h5, ?_⟩
            rw [beq_eq_false_iff_ne]
            intro q
            exact hcond ⟨h5, by rw [List.length_map]; omega⟩
          · exact .inl (beq_eq_false_iff_ne.2 h5)
        clear hcond
        rcases hab with k5 | ⟨k5, hln⟩
        all_goals
          go_wp2_with (first
            | (go_at_call 49; refine (HNM.out _ hb).mono ?_; rintro e w2 ⟨c5, rfl, hS5, hb2⟩; obtain ⟨a5, cap5, rfl, _⟩ := hS5.row.open_; have bx2 := bx.next hb2 (show w.heap.size < wr.heap.size by omega); have by2 := by_.next hb2 (show w.heap.size + 1 < wr.heap.size by omega); have z0 : w2.cell? ⟨w.heap.size, 0, none⟩ = some (.int .i64 k) := bx2.cell 0; have z1 : w2.cell? ⟨w.heap.size, 1, none⟩ = some (.int .i64 n) := bx2.cell 1; have z2 : w2.cell? ⟨w.heap.size, 2, none⟩ = some (.string s) := bx2.cell 2; have hbw2 := hb.trans (hb2.mono (show w.heap.size ≤ wr.heap.size by omega)))
            | (refine wpList_keep _ rfl _ _ rfl w.heap.size w hbw2 (w.heap.size + 1) (by omega) #[.int .i64 k, .int .i64 n, .string s, .slice a' l.length cap', .slice a5 ns.length cap5] _ rfl rfl by2 rfl rfl (by intro u hu; simp only [List.mem_cons, List.not_mem_nil, or_false] at hu; rcases hu with rfl | rfl | rfl | rfl | rfl <;> rfl) ?_; intro w9 bx9 hb9 hk9 hs9; clear hs9))
          (try simp only [Exit.inBlock, Exit.then])
          refine bodyPost_ret (results_val rfl _ _ _ _ rfl bx9 rfl) rfl ?_
          refine ⟨_, rfl, ?_, hb9⟩
          rw [HSV.out]
          exact finish k n s (hD.next hb2) (hLie.upd fun b hb' hl' => ⟨hb2.block b hl', hb'.1⟩) (own_base hS5 hsz) hk9
theorem psort (v : Vt) (hv : OkT v) : ∀ (cs : List Value) (w : World), InV w v cs → Calls Tryz.prog 24 #[.agg cs.toArray] w fun e w' => ∃ ds : List Value, e = .returned (.agg ds.toArray) ∧ InS (fun b => w.heap.size ≤ b) w' (srt v) ds ∧ Below w.heap.size w w' := by
  revert hv
  refine vt_ind (p := fun v => OkT v → ∀ (cs : List Value) (w : World), InV w v cs → Calls Tryz.prog 24 #[.agg cs.toArray] w fun e w' => ∃ ds : List Value, e = .returned (.agg ds.toArray) ∧ InS (fun b => w.heap.size ≤ b) w' (srt v) ds ∧ Below w.heap.size w w') ?_ v
  intro v ih hv cs w h
  obtain ⟨_, h1, h2⟩ := hv
  exact psort_any v cs w h h1 fun x hx => ih x hx (h2 x hx)
end Go.Proofs.YtehkiojohldlgaaGreatDoor.Tre
