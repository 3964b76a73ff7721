/- Contracts of Sort. Conditions: as each theorem states. -/
import Derived.Test.YtfefbfohenmajaaDoorTreQ
namespace Go.Proofs.YtfefbfohenmajaaDoor.Tre
open Go.RowKit Go.Lib Go.Proofs.YtfefbfohenmajaaDoor.Byt

/-- A store of a value into a row. -/
theorem wpList_poke {ops : Array Oper} {rest : List Oper} {o : Oper} {a : Act} {Q : Exit → Act → World → Prop} (W : World) (hgd : o.guard = none) (x y : Operand) (ho : o.op = .store 25 x y) (b f : Nat) (cs : List Value)
    (hx : a.eval x = .pointer (some ⟨b, f, none⟩)) (hy : a.eval y = .agg cs.toArray) (ht : W.there b f 5) (h5 : cs.length = 5) (h1 : ∀ u ∈ cs, u.oneCell' = true)
    (h : wpList Tryd.prog ops Q rest (a.put o.dst undef) (W.setCells b f cs)) : wpList Tryd.prog ops Q (o :: rest) a W := by
  have hs : cs.toArray.size = 5 := size_toArray cs h5
  refine wpList_store_mid hgd _ x y ho b f cs.toArray hx hy (by rw [hs]; exact ht) (by rw [infoV, hs]) (all_oneCell_toArray h1) ?_
  rw [List.toList_toArray]
  exact h
theorem clonev_core (C : List (List Value)) (a : Option Addr) (cap : Nat) (w : World)
    (hit : ∀ j, j < C.length → ∃ b off, a = some (⟨b, off, none⟩ : Addr) ∧ w.rangeAt b (off + 5 * j) (C.getD j [])) (hF : Five C) (hone : ∀ u ∈ C.flatten, u.oneCell' = true) (hl : C.length * 80 ≤ 140737488351232) :
    Calls Tryd.prog 59 #[.slice a C.length cap] w fun e w' => ∃ v', e = .returned v' ∧ OwnR w' w.heap.size v' C ∧ Below w.heap.size w w' := by
  have q22 : ∀ (w : World) (a : Option Addr) (n c n' c' : Nat), (binOp .eql 23 (.slice a n c) (.slice none n' c')).run Tryd.prog w = .ok (.bool a.isNone) w := fun w a n c n' c' => Lib.run_eql_slice_nil w _ _ a n c n' c' Tryd.underlying23
  cases a with
  | none =>
    have h0 : C.length = 0 := by
      rcases Nat.eq_zero_or_pos C.length with h | h
      · exact h
      · obtain ⟨b, off, e, _⟩ := hit 0 h; cases e
    obtain rfl := List.eq_nil_of_length_eq_zero h0
    clear hit hl hone hF
    go_enter Tryd.func59, Tryd.ntmps59
    go_wp2_with fail
    go_ret
    exact ⟨_, rfl, OwnR.nil _ _, Below.refl _ _⟩
  | some p =>
    have hfl := flat_len C hF
    have hcells : ∀ j u, C.flatten[j]? = some u → w.cell? (p.add j) = some u := by
      intro j u hj
      have hlt : j < C.flatten.length := (List.getElem?_eq_some_iff.1 hj).1
      rw [hfl] at hlt
      have hq : j / 5 < C.length := by omega
      obtain ⟨b, off, e, hr⟩ := hit (j / 5) (by omega)
      injection e with e
      subst e
      have h2 := flat_at C hF (j / 5) (j % 5) hq (Nat.mod_lt _ (by omega))
      rw [show j / 5 * 5 + j % 5 = j by omega, hj] at h2
      have := hr (j % 5) u h2.symm
      rw [Addr.add_mid]
      rwa [show off + 5 * (j / 5) + j % 5 = off + j by omega] at this
    obtain ⟨i0, hi, hz0, hz1, hz2⟩ := info_parts info80
    have A : Hid (∀ j u, C.flatten[j]? = some u → w.cell? (p.add j) = some u) := Lib.hid hcells
    clear hit hcells
    go_enter Tryd.func59, Tryd.ntmps59
    go_wp2_with (at_builtin; refine wpList_append_own _ rfl _ _ 23 rfl w.heap.size 25 i0 _ 5 80 Tryd.underlying23 hi hz0 hz1 hz2 rfl (by decide) _ _ _ rfl (World.ownsRow_made w #[] 0 (Nat.le_refl _) (Nat.zero_le _) (by simp)) p C.length cap C.flatten rfl ?qc1 ?qc2 ?qc3 ?qc4 ?qc5 ?qc6 ?_)
    case qc1 => rw [hfl]
    case qc2 =>
      intro j u hj
      exact Lib.cell?_alloc_some _ (A.out j u hj)
    case qc3 => exact hone
    case qc4 => unfold maxLen; omega
    case qc5 => omega
    case qc6 => simp
    intro v' w1 hown hgrow hnil
    go_wp2
    go_ret
    refine ⟨v', rfl, ⟨hF, ?_⟩, ?_⟩
    · simpa using hown
    · exact ((Below.refl _ w).alloc (Nat.le_refl _) _).grown hgrow (by simp) (by intro k hk; simp [Value.ownBlock] at hk; omega)


def obj (cs : List Value) : Obj := .cells cs.toArray 25 (0, 0)
/-- Ahead of a loop that puts values in. -/
theorem clone_start (f : Vt → Vt) (l : List Vt) (a : Option Addr) (cap : Nat) (w : World) (x y : Obj)
    (hit : ∀ j, j < l.length → ∃ b off, a = some ⟨b, off, none⟩ ∧ ∃ ds, w.rangeAt b (off + 5 * j) ds ∧ InV w (l.getD j V0) ds) (hl : l.length * 80 ≤ 140737488351232) :
    Calls Tryd.prog 59 #[.slice a l.length cap] ((w.alloc x).alloc y) fun e w' => ∃ a' cap' C, e = .returned (.slice a' l.length cap') ∧ Half f w' (w.heap.size + 2) (.slice a' l.length cap') l C 0 ∧ (∀ j, j < l.length → InV w (l.getD j V0) (C.getD j []))
      ∧ w'.heap[w.heap.size]? = some x ∧ w'.heap[w.heap.size + 1]? = some y ∧ Below w.heap.size w w' ∧ w.heap.size + 2 ≤ w'.heap.size := by
  have hb := (two_boxes (Below.refl ((w.alloc x).alloc y).heap.size ((w.alloc x).alloc y))).2.2
  obtain ⟨C0, hCl, hC0⟩ := cells_of l.length (P := fun j c => (∃ b off, a = some (⟨b, off, none⟩ : Addr) ∧ w.rangeAt b (off + 5 * j) c) ∧ InV w (l.getD j V0) c) (fun j hj => by
      obtain ⟨b, off, e, ds, h1, h2⟩ := hit j hj
      exact ⟨ds, ⟨b, off, e, h1⟩, h2⟩)
  obtain ⟨hF, hone⟩ := five_of hCl fun j hj => (hC0 j hj).2
  have key := clonev_core C0 a cap ((w.alloc x).alloc y) (fun j hj => by
    obtain ⟨⟨b, off, e, h1⟩, _⟩ := hC0 j (by omega)
    exact ⟨b, off, e, range_next h1 hb⟩) hF hone (by omega)
  rw [hCl] at key
  refine key.mono ?_
  rintro e w' ⟨v', rfl, hown, hb1⟩
  have hs : ((w.alloc x).alloc y).heap.size = w.heap.size + 2 := by simp
  obtain ⟨h1, h2, h3⟩ := two_boxes hb1
  rw [hs] at hown hb1
  obtain ⟨a', cap', rfl, _⟩ := hown.open_
  rw [hCl] at hown ⊢
  have hsz := hb1.size
  rw [hs] at hsz
  exact ⟨a', cap', C0, rfl, Half.start hown hCl, fun j hj => (hC0 j hj).2, h1, h2, h3, hsz⟩

theorem own_beside {w w' : World} {B sz n g cap m N : Nat} {e : TypeId} {xs : List Value} (h : w.ownsRow B e sz (.slice (some ⟨g, 0, none⟩) n cap) m xs) (hN : N < B) (hk : ∀ k, k ≠ N → w'.heap[k]? = w.heap[k]?) : w'.ownsRow B e sz (.slice (some ⟨g, 0, none⟩) n cap) m xs := by
  refine own_keep h fun k hk' => hk k ?_
  have : g = k := Option.some.inj hk'
  subst this
  rcases h.2 with ⟨q, _⟩ | ⟨g', cap', cur, q, hb, _⟩
  · cases q
  · injection q with q _ _
    injection q with q
    injection q with q
    omega
theorem row_beside {w w' : World} {B sz m N : Nat} {e : TypeId} {v : Value} {xs : List Value} (h : w.ownsRow B e sz v m xs) (hN : N < B) (hk : ∀ k, k ≠ N → w'.heap[k]? = w.heap[k]?) : w'.ownsRow B e sz v m xs := by
  rcases h.2 with ⟨q, h0⟩ | ⟨g, cap, cur, q, hb, _⟩
  · exact ⟨h.1, .inl ⟨q, h0⟩⟩
  · subst q; exact own_beside h hN hk
theorem finish {N : Nat} {w3 w4 : World} {c3 c4 : Value} {C : List (List Value)} {L : List Vt} {NS : List ByteArray} (k n : Int) (s : ByteArray) (h3 : OwnR w3 (N + 2) c3 C) (hL : Lie (fun b => N + 2 ≤ b) w3 L C) (h4 : Strs.Own w3 (N + 2) c4 NS)
    (hk : ∀ k, k ≠ N + 1 → w4.heap[k]? = w3.heap[k]?) : InS (fun b => N ≤ b) w4 (.mk k n s L NS) [.int .i64 k, .int .i64 n, .string s, c3, c4] := by
  have q3 : OwnR w4 (N + 2) c3 C := ⟨h3.1, row_beside h3.2 (by omega) hk⟩
  have q4 : Strs.Own w4 (N + 2) c4 NS := row_beside h4 (by omega) hk
  exact made k n s q3 (hL.upd fun b hb _ => ⟨hk b (by omega), by omega⟩) (RowS_own q4 fun b hb => by omega) fun b hb => by omega
theorem Lie_map {S : Nat → Prop} {w : World} {P : List Nat} {f : Nat → Vt} {g : Nat → List Value} (h : ∀ i ∈ P, InS S w (f i) (g i)) : Lie S w (P.map f) (P.map g) := by
  refine ⟨by simp, fun j hj => ?_⟩
  rw [List.length_map] at hj
  rw [List.getD_eq_getElem?_getD, List.getD_eq_getElem?_getD, List.getElem?_map, List.getElem?_map, List.getElem?_eq_getElem hj]
  exact h _ (List.getElem_mem hj)
theorem srt_parts (v : Vt) : srt v = mkO v.k v.n v.s (v.l.map srt) v.ns := by cases v; rw [srt, srtL_map]; rfl

end Go.Proofs.YtfefbfohenmajaaDoor.Tre
