/- Contracts of slices.Clone, clone. Conditions: as each theorem states. -/
import Derived.Test.YtafelidejkppkaaDoorTreE
namespace Go.Proofs.YtafelidejkppkaaDoor.Tre
open Go.RowKit Go.Lib Go.Proofs.YtafelidejkppkaaDoor.Byt

theorem clones_any (ns : List ByteArray) (c : Value) (w : World) (hr : Strs.Row w c ns) (hl : ns.length * 16 ≤ 140737488351232) :
    Calls Tryd.prog 30 #[c] w fun e w' => ∃ v', e = .returned v' ∧ Strs.Own w' w.heap.size v' ns ∧ Below w.heap.size w w' := by
  rcases hr with ⟨rfl, a, cap, rfl⟩ | ⟨b, off, cap, rfl, hc⟩
  · cases a with
    | none =>
      refine (Tryd.slices_Clone_string_nil 0 cap w).mono ?_
      rintro e w' ⟨rfl, rfl⟩
      exact ⟨_, rfl, Strs.Own.nil _ _, Below.refl _ _⟩
    | some p =>
      refine (Tryd.slices_Clone_string_zero p cap w).mono ?_
      rintro e w' ⟨v', rfl, h, _, hb⟩
      exact ⟨_, rfl, h, hb⟩
  · refine (Tryd.slices_Clone_string b off ns.length cap ns w (Nat.le_refl _) (by omega) hc).mono ?_
    rintro e w' ⟨v', rfl, h, _, hb⟩
    rw [List.take_length] at h
    exact ⟨_, rfl, h, hb⟩
theorem cells_of {P : Nat → List Value → Prop} : ∀ n : Nat, (∀ i, i < n → ∃ v, P i v) → ∃ C : List (List Value), C.length = n ∧ ∀ i, i < n → P i (C.getD i [])
  | 0, _ => ⟨[], rfl, fun i h => by omega⟩
  | n + 1, h => by
    obtain ⟨l, h1, h2⟩ := cells_of n fun i hi => h i (by omega)
    obtain ⟨v, hv⟩ := h n (by omega)
    refine ⟨l ++ [v], by simp [h1], fun i hi => ?_⟩
    by_cases hin : i < n
    · have : (l ++ [v]).getD i [] = l.getD i [] := by
        rw [List.getD_eq_getElem?_getD, List.getElem?_append_left (by omega), ← List.getD_eq_getElem?_getD]
      rw [this]; exact h2 i hin
    · obtain rfl : i = n := by omega
      have : (l ++ [v]).getD i [] = v := by
        rw [List.getD_eq_getElem?_getD, List.getElem?_append_right (by omega), h1, Nat.sub_self]; rfl
      rw [this]; exact hv
theorem get_mem {C : List (List Value)} {j : Nat} (h : j < C.length) : C.getD j [] ∈ C := by
  rw [List.getD_eq_getElem?_getD, List.getElem?_eq_getElem h]
  exact List.getElem_mem h
theorem five_of {C : List (List Value)} {l : List Vt} {w : World} (hl : C.length = l.length) (h : ∀ j, j < l.length → InV w (l.getD j V0) (C.getD j [])) : Five C ∧ ∀ u ∈ C.flatten, u.oneCell' = true := by
  have key : ∀ c ∈ C, ∃ v, InV w v c := by
    intro c hc
    obtain ⟨j, hj, rfl⟩ := List.getElem_of_mem hc
    have := h j (by omega)
    rw [List.getD_eq_getElem?_getD (l := C), List.getElem?_eq_getElem hj] at this
    exact ⟨_, this⟩
  refine ⟨fun c hc => ?_, fun u hu => ?_⟩
  · obtain ⟨v, hv⟩ := key c hc; exact InV_five hv
  · obtain ⟨c, hc, hu⟩ := List.mem_flatten.1 hu
    obtain ⟨v, hv⟩ := key c hc
    exact InS_one hv u hu

theorem clonev_any (l : List Vt) (a : Option Addr) (cap : Nat) (w : World)
    (hit : ∀ j, j < l.length → ∃ b off, a = some ⟨b, off, none⟩ ∧ ∃ ds, w.rangeAt b (off + 5 * j) ds ∧ InV w (l.getD j V0) ds) (hl : l.length * 80 ≤ 140737488351232) :
    Calls Tryd.prog 29 #[.slice a l.length cap] w fun e w' => ∃ v' C, e = .returned v' ∧ OwnR w' w.heap.size v' C ∧ Below w.heap.size w w' ∧ C.length = l.length ∧ ∀ j, j < l.length → InV w (l.getD j V0) (C.getD j []) := by
  have q22 : ∀ (w : World) (a : Option Addr) (n c n' c' : Nat), (binOp .eql 22 (.slice a n c) (.slice none n' c')).run Tryd.prog w = .ok (.bool a.isNone) w := fun w a n c n' c' => Lib.run_eql_slice_nil w _ _ a n c n' c' Tryd.underlying22
  cases a with
  | none =>
    have h0 : l.length = 0 := by
      rcases Nat.eq_zero_or_pos l.length with h | h
      · exact h
      · obtain ⟨b, off, e, _⟩ := hit 0 h; cases e
    rw [h0]
    clear hit hl
    go_enter Tryd.func29, Tryd.ntmps29
    go_wp2_with fail
    go_ret
    exact ⟨_, [], rfl, OwnR.nil _ _, Below.refl _ _, rfl, fun j hj => by omega⟩
  | some p =>
    obtain ⟨C, hCl, hC⟩ := cells_of l.length (P := fun j c => (∃ b off, some p = some (⟨b, off, none⟩ : Addr) ∧ w.rangeAt b (off + 5 * j) c) ∧ InV w (l.getD j V0) c) (fun j hj => by
      obtain ⟨b, off, e, ds, h1, h2⟩ := hit j hj
      exact ⟨ds, ⟨b, off, e, h1⟩, h2⟩)
    obtain ⟨hF, hone⟩ := five_of hCl fun j hj => (hC j hj).2
    have hfl := flat_len C hF
    have hcells : ∀ j u, C.flatten[j]? = some u → w.cell? (p.add j) = some u := by
      intro j u hj
      have hlt : j < C.flatten.length := (List.getElem?_eq_some_iff.1 hj).1
      rw [hfl] at hlt
      have hq : j / 5 < C.length := by omega
      obtain ⟨⟨b, off, e, hr⟩, _⟩ := hC (j / 5) (by omega)
      injection e with e
      subst e
      have h2 := flat_at C hF (j / 5) (j % 5) hq (Nat.mod_lt _ (by omega))
      rw [show j / 5 * 5 + j % 5 = j by omega, hj] at h2
      have := hr (j % 5) u h2.symm
      rw [Addr.add_mid]
      rwa [show off + 5 * (j / 5) + j % 5 = off + j by omega] at this
    obtain ⟨i0, hi, hz0, hz1, hz2⟩ := info_parts info80
    have A : Hid (∀ j u, C.flatten[j]? = some u → w.cell? (p.add j) = some u) := Lib.hid hcells
    have HC := Lib.hid hC
    clear hit hC hcells
    go_enter Tryd.func29, Tryd.ntmps29
    go_wp2_with (at_builtin; refine wpList_append_own _ rfl _ _ 22 rfl w.heap.size 25 i0 _ 5 80 Tryd.underlying22 hi hz0 hz1 hz2 rfl (by decide) _ _ _ rfl (World.ownsRow_made w #[] 0 (Nat.le_refl _) (Nat.zero_le _) (by simp)) p l.length cap C.flatten rfl ?qc1 ?qc2 ?qc3 ?qc4 ?qc5 ?qc6 ?_)
    case qc1 => rw [hfl, hCl]
    case qc2 =>
      intro j u hj
      exact Lib.cell?_alloc_some _ (A.out j u hj)
    case qc3 => exact hone
    case qc4 => unfold maxLen; omega
    case qc5 => omega
    case qc6 => simp
    intro v' w1 hown hgrow hnil
    go_wp2
    go_ret
    refine ⟨v', C, rfl, ⟨hF, ?_⟩, ?_, hCl, fun j hj => (HC.out j hj).2⟩
    · rw [hCl]; simpa using hown
    · exact ((Below.refl _ w).alloc (Nat.le_refl _) _).grown hgrow (by simp) (by intro k hk; simp [Value.ownBlock] at hk; omega)

/-! ### a row whose values are put in one after another -/
theorem getD_set {α : Type} (C : List α) (i j : Nat) (x d : α) (h : i < C.length) : (C.set i x).getD j d = if j = i then x else C.getD j d := by
  rw [List.getD_eq_getElem?_getD, List.getD_eq_getElem?_getD, List.getElem?_set]
  by_cases e : i = j
  · subst e; simp [h]
  · rw [if_neg e, if_neg (fun q => e q.symm)]
/-- The blocks from B on, but for the row's own. -/
def Sv (B : Nat) (v : Value) (b : Nat) : Prop := B ≤ b ∧ ∀ g, v.ownBlock = some g → b ≠ g
/-- The first i values are done. -/
def Half (f : Vt → Vt) (w : World) (B : Nat) (v : Value) (l : List Vt) (C : List (List Value)) (i : Nat) : Prop :=
  ∃ D, OwnR w B v D ∧ D.length = l.length ∧ (∀ j, j < i → InS (Sv B v) w (f (l.getD j V0)) (D.getD j [])) ∧ ∀ j, i ≤ j → D.getD j [] = C.getD j []
theorem Half.start {f : Vt → Vt} {w : World} {B : Nat} {v : Value} {l : List Vt} {C : List (List Value)} (h : OwnR w B v C) (hl : C.length = l.length) : Half f w B v l C 0 :=
  ⟨C, h, hl, fun _ hj => absurd hj (Nat.not_lt_zero _), fun _ _ => rfl⟩
theorem Half.end_ {f : Vt → Vt} {w : World} {B : Nat} {v : Value} {l : List Vt} {C : List (List Value)} (h : Half f w B v l C l.length) : ∃ D, OwnR w B v D ∧ Lie (Sv B v) w (l.map f) D := by
  obtain ⟨D, h1, h2, h3, _⟩ := h
  refine ⟨D, h1, by rw [h2, List.length_map], fun j hj => ?_⟩
  rw [List.length_map] at hj
  have := h3 j hj
  rwa [List.getD_eq_getElem?_getD (l := l.map f), List.getElem?_map, List.getElem?_eq_getElem hj, Option.map_some, Option.getD_some, show l[j] = l.getD j V0 by rw [List.getD_eq_getElem?_getD, List.getElem?_eq_getElem hj]; rfl]
theorem Half.at_ {f : Vt → Vt} {w : World} {B : Nat} {a : Option Addr} {n cap : Nat} {l : List Vt} {C : List (List Value)} {i : Nat} (h : Half f w B (.slice a n cap) l C i) (hi : i < l.length) :
    ∃ g, a = some ⟨g, 0, none⟩ ∧ B ≤ g ∧ g < w.heap.size ∧ w.rangeAt g (i * 5) (C.getD i []) ∧ w.there g (i * 5) 5 := by
  obtain ⟨D, h1, h2, _, h4⟩ := h
  obtain ⟨a', cap', e, ho⟩ := h1.open_
  injection e with e1 e2 e3
  subst e1
  obtain ⟨g, e, hB, hg, hr, ht⟩ := ho i (by omega)
  rw [h4 i (Nat.le_refl _)] at hr
  exact ⟨g, e, hB, hg, hr, ht⟩
theorem Half.step {f : Vt → Vt} {w w3 : World} {B g n cap : Nat} {l : List Vt} {C : List (List Value)} {i : Nat} (h : Half f w B (.slice (some ⟨g, 0, none⟩) n cap) l C i) (hi : i < l.length) (hB : B ≤ w.heap.size) (hb : Below w.heap.size w w3) {ds : List Value}
    (hd : InS (fun b => w.heap.size ≤ b) w3 (f (l.getD i V0)) ds) : Half f (w3.setCells g (i * 5) ds) B (.slice (some ⟨g, 0, none⟩) n cap) l C (i + 1) := by
  obtain ⟨D, h1, h2, h3, h4⟩ := h
  have h5 := InS_five hd
  have hg : g < w.heap.size := by
    rcases h1.shape with ⟨q, _⟩ | ⟨g', cap', q, _, hg⟩
    · cases q
    · injection q with q1 _ _
      injection q1 with q1
      injection q1 with q1
      rw [q1]; exact hg
  refine ⟨D.set i ds, (h1.next hb).set_ (by omega) h5, by rw [List.length_set, h2], fun j hj => ?_, fun j hj => ?_⟩
  · rw [getD_set _ _ _ _ _ (by omega)]
    by_cases e : j = i
    · rw [if_pos e, e]
      refine InS_upd (fun b hb' hl => ?_) _ _ hd
      have hne : b ≠ g := by omega
      exact ⟨sets_other g hne _ _ _, by omega, fun g' e' => by injection e' with e'; rw [← e']; exact hne⟩
    · rw [if_neg e]
      refine InS_upd (fun b hb' hl => ?_) _ _ (h3 j (by omega))
      have hne : b ≠ g := hb'.2 g rfl
      exact ⟨(sets_other g hne _ _ _).trans (hb.block b hl), hb'⟩
  · rw [getD_set _ _ _ _ _ (by omega), if_neg (by omega), h4 j (by omega)]
theorem there_next {w w' : World} {b o n : Nat} (h : w.there b o n) (hl : b < w.heap.size) (hb : Below w.heap.size w w') : w'.there b o n := by
  intro j hj
  have hk := hb.block b hl
  rw [World.cell?_of_block (a := ⟨b, o + j, none⟩) hk, World.frozen?_of_block (a := ⟨b, o + j, none⟩) hk]
  exact h j hj
end Go.Proofs.YtafelidejkppkaaDoor.Tre
