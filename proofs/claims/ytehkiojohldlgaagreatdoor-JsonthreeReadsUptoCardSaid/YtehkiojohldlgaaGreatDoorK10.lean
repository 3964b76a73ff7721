/- Texts of my own, packed: TreG2. Conditions: as each theorem states. -/
import Derived.StillTailTactics
import Derived.Laws.OwnMore
import Derived.Test.YtehkiojohldlgaaGreatDoorK02
import Derived.Test.YtehkiojohldlgaaGreatDoorK07
namespace Go.Proofs.YtehkiojohldlgaaGreatDoor.Tre
open Go.RowKit Go.Lib Go.Proofs.YtehkiojohldlgaaGreatDoor.Byt

/-- The heads of two values, and their items one by one. -/
theorem sm_parts (v u : Vt) : smB v u = (decide (v.k = u.k ∧ v.n = u.n ∧ v.s = u.s ∧ v.ns = u.ns) && smL v.l u.l) := by
  cases v; cases u; rw [smB]; rfl
theorem smL_off : ∀ (l m : List Vt), l.length ≠ m.length → smL l m = false
  | l, m, h => by
    cases hs : smL l m with
    | false => rfl
    | true => exact absurd (smL_len l m hs) h
theorem smL_at : ∀ (l m : List Vt), l.length = m.length → (smL l m = true ↔ ∀ i, i < l.length → smB (l.getD i V0) (m.getD i V0) = true)
  | [], [], _ => by rw [smL]; simp
  | [], _ :: _, h => by simp at h
  | _ :: _, [], h => by simp at h
  | x :: l, y :: m, h => by
    rw [smL, Bool.and_eq_true, smL_at l m (by simpa using h)]
    constructor
    · rintro ⟨h1, h2⟩ i hi
      cases i with
      | zero => exact h1
      | succ i => exact h2 i (by simpa using hi)
    · intro h
      exact ⟨h 0 (by simp), fun i hi => h (i + 1) (by simpa using hi)⟩
theorem smL_stop {l m : List Vt} (h : l.length = m.length) {i : Nat} (hi : i < l.length) (hf : smB (l.getD i V0) (m.getD i V0) = false) : smL l m = false := by
  cases hs : smL l m with
  | false => rfl
  | true => rw [(smL_at l m h).1 hs i hi] at hf; cases hf
theorem ns_at {a b : List ByteArray} (h : a.length = b.length) : a = b ↔ ∀ i, i < a.length → a.getD i ⟨#[]⟩ = b.getD i ⟨#[]⟩ := by
  constructor
  · rintro rfl i _; rfl
  · intro hh
    refine List.ext_getElem h fun i h1 h2 => ?_
    have := hh i h1
    rwa [List.getD_eq_getElem?_getD, List.getD_eq_getElem?_getD, List.getElem?_eq_getElem h1, List.getElem?_eq_getElem h2] at this
end Go.Proofs.YtehkiojohldlgaaGreatDoor.Tre

namespace Go.Proofs.YtehkiojohldlgaaGreatDoor.Tre
open Go.RowKit Go.Lib Go.Proofs.YtehkiojohldlgaaGreatDoor.Byt

theorem below_drewN {B n : Nat} {w W : World} (h : Below B w W) : Below B w (W.drewN n) := ⟨h.os, h.tape, h.output, h.size, h.block⟩
theorem equal_any (xs ys : List ByteArray) (c d : Value) (w : World) (hx : Strs.Row w c xs) (hy : Strs.Row w d ys) (lx : xs.length * 16 ≤ 140737488351232) (ly : ys.length * 16 ≤ 140737488351232) :
    Calls Tryz.prog 46 #[c, d] w fun e w' => e = .returned (.bool (decide (xs = ys))) ∧ Below w.heap.size w w' := by
  obtain ⟨a1, c1, e1, _⟩ := hx.open_
  obtain ⟨a2, c2, e2, _⟩ := hy.open_
  by_cases hl : xs.length = ys.length
  · by_cases h0 : xs.length = 0
    · have hx0 := List.eq_nil_of_length_eq_zero h0
      have hy0 := List.eq_nil_of_length_eq_zero (hl.symm.trans h0)
      subst hx0 hy0 e1 e2
      refine (Tryz.slices_Equal_string_empty a1 a2 c1 0 c2 w (by omega)).mono ?_
      rintro e w' ⟨rfl, rfl⟩
      exact ⟨rfl, Below.refl _ _⟩
    · rcases hx with ⟨q, _⟩ | ⟨b1, o1, c1, rfl, h1⟩
      · exact absurd (by rw [q]; rfl) h0
      · rcases hy with ⟨q, _⟩ | ⟨b2, o2, c2, rfl, h2⟩
        · exact absurd (by rw [hl, q]; rfl) h0
        · refine (Tryz.slices_Equal_string b1 o1 _ c1 b2 o2 _ c2 xs ys w (Nat.le_refl _) (Nat.le_refl _) (by omega) (by omega) h1 h2).mono ?_
          rintro e w' ⟨rfl, q, rfl⟩
          rw [List.take_length, List.take_length]
          exact ⟨rfl, below_drewN (Below.refl _ _)⟩
  · subst e1 e2
    refine (Tryz.slices_Equal_string_lens a1 a2 _ c1 _ c2 w hl).mono ?_
    rintro e w' ⟨rfl, rfl⟩
    refine ⟨?_, Below.refl _ _⟩
    rw [decide_eq_false (fun q => hl (congrArg List.length q))]

set_option maxHeartbeats 1000000 in
set_option maxRecDepth 100000 in
theorem eqfunc_any (l m : List Vt) (a1 a2 : Option Addr) (c1 c2 : Nat) (w : World)
    (h1 : ∀ j, j < l.length → ∃ b off, a1 = some ⟨b, off, none⟩ ∧ ∃ ds, w.rangeAt b (off + 5 * j) ds ∧ InV w (l.getD j V0) ds)
    (h2 : ∀ j, j < m.length → ∃ b off, a2 = some ⟨b, off, none⟩ ∧ ∃ ds, w.rangeAt b (off + 5 * j) ds ∧ InV w (m.getD j V0) ds)
    (hl : l.length * 80 ≤ 140737488351232)
    (ih : ∀ x ∈ l, ∀ y ∈ m, ∀ cs ds w, InV w x cs → InV w y ds → Calls Tryz.prog 23 #[.agg cs.toArray, .agg ds.toArray] w fun e w' => e = .returned (.bool (smB x y)) ∧ Below w.heap.size w w') :
    Calls Tryz.prog 47 #[.slice a1 l.length c1, .slice a2 m.length c2, .func (.func 23) #[] #[]] w fun e w' => e = .returned (.bool (smL l m)) ∧ Below w.heap.size w w' := by
  have eg : ∀ args w, (callFunc 23 args).run Tryz.prog w = .ok (.enter 23 args) w := enters_of Tryz.func23 (by kernel_rfl) rfl
  by_cases hne : l.length = m.length
  · have HNE := Lib.hid hne
    rw [← hne]
    rw [← hne] at h2
    have H1 := Lib.hid h1
    have H2 := Lib.hid h2
    have HIH := Lib.hid ih
    have hmx : l.length ≤ 9223372036854775807 := by omega
    clear h1 h2 ih hne
    go_enter Tryz.func47, Tryz.ntmps47
    go_wp2_with fail
    go_loopw [17] (fun x wr => ∃ i : Nat, x = .int .i64 (i : Int) ∧ i ≤ l.length ∧ Below w.heap.size w wr ∧ Hid (∀ j, j < i → smB (l.getD j V0) (m.getD j V0) = true))
      (fun x _ => l.length - (RowKit.intOf x).toNat)
    case atStart => exact ⟨0, by go_num, by omega, Below.refl _ _, Lib.hid fun j hj => absurd hj (Nat.not_lt_zero _)⟩
    case round =>
      obtain ⟨i, rfl, hi, hb, hz⟩ := hrel
      have hsz := hb.size
      by_cases hlt : i < l.length
      · obtain ⟨b, off, rfl, ds, hrg, hin⟩ := H1.out i hlt
        obtain ⟨bb, oo, rfl, es, hrg', hin'⟩ := H2.out i hlt
        have hrg2 := range_next hrg hb
        rw [Nat.mul_comm 5 i] at hrg2
        have hrg2' := range_next hrg' hb
        rw [Nat.mul_comm 5 i] at hrg2'
        have hin2 := InV_next hb _ ds hin
        have hin2' := InV_next hb _ es hin'
        have HX := Lib.hid fun w2 (hb2 : Below wr.heap.size wr w2) => HIH.out _ (mem_get hlt) _ (mem_get (HNE.out ▸ hlt)) ds es w2 (InV_next hb2 _ ds hin2) (InV_next hb2 _ es hin2')
        have h5 := InV_five hin
        have h5' := size_toArray ds h5
        have g5 := InV_five hin'
        have g5' := size_toArray es g5
        have o1 := InS_one hin
        have o2 := InS_one hin'
        have hstep : smB (l.getD i V0) (m.getD i V0) = true → ∀ j, j < i + 1 → smB (l.getD j V0) (m.getD j V0) = true := by
          intro q j hj
          by_cases hji : j < i
          · exact hz.out j hji
          · obtain rfl : j = i := by omega
            exact q
        have hstop := smL_stop HNE.out hlt
        have HST := Lib.hid hstep
        have HSP := Lib.hid hstop
        clear hstep hstop hin hin' hin2 hin2' hrg hrg' H1 H2 HIH hz
        cases hs : smB (l.getD i V0) (m.getD i V0)
        all_goals
          rw [hs] at HX
          have HS := Lib.hid hs
          clear hs
          go_wp2_with (first
            | (refine wpList_take _ rfl _ rfl b (off + i * 5) ds rfl hrg2 h5 ?_)
            | (refine wpList_keep _ rfl _ _ rfl wr.heap.size wr ((Below.refl _ wr).alloc (Nat.le_refl _) _) wr.heap.size (Nat.le_refl _) ds.toArray _ rfl rfl (box_new _ _) rfl h5' (by simpa using o1) ?_; intro w2 bx2 hb2 _ hs2; clear hs2; have hrg3 := range_next hrg2' hb2)
            | (refine wpList_take _ rfl _ rfl bb (oo + i * 5) es rfl hrg3 g5 ?_)
            | (refine wpList_keep _ rfl _ _ rfl w2.heap.size w2 ((Below.refl _ w2).alloc (Nat.le_refl _) _) w2.heap.size (Nat.le_refl _) es.toArray _ rfl rfl (box_new _ _) rfl g5' (by simpa using o2) ?_; intro w4 bx4 hb4 _ hs4; clear hs4; have bx3 := bx2.next hb4 bx2.lt; have hb5 := next hb2 hb4)
            | (refine wpList_fetch _ rfl _ rfl wr.heap.size ds.toArray rfl bx3 h5' ?_)
            | (refine wpList_fetch _ rfl _ rfl w2.heap.size es.toArray rfl bx4 g5' ?_)
            | (go_at_fn 23; refine (HX.out _ hb5).mono ?_; rintro e w6 ⟨rfl, hb6⟩))
        · go_ret
          exact ⟨by rw [HSP.out HS.out]; rfl, hb.trans ((next hb5 hb6).mono hsz)⟩
        · go_roundw
          case rel => exact ⟨i + 1, by go_num, by omega, hb.trans ((next hb5 hb6).mono hsz), Lib.hid (HST.out HS.out)⟩
          case measure => simp [RowKit.intOf]; omega
      · obtain rfl : i = l.length := by omega
        have HZZ := Lib.hid ((smL_at l m HNE.out).2 hz.out)
        clear hz
        go_wp2_with fail
        go_ret
        exact ⟨by rw [HZZ.out]; rfl, hb⟩
  · rw [smL_off l m hne]
    have hd : ((l.length : Int) != (m.length : Int)) = true := by rw [bne_iff_ne]; omega
    clear h1 h2 ih hne
    go_enter Tryz.func47, Tryz.ntmps47
    go_wp2_with fail
    go_ret
    exact ⟨rfl, Below.refl _ _⟩

theorem two_boxes {w w3 : World} {x y : Obj} (hb : Below ((w.alloc x).alloc y).heap.size ((w.alloc x).alloc y) w3) : w3.heap[w.heap.size]? = some x ∧ w3.heap[w.heap.size + 1]? = some y ∧ Below w.heap.size w w3 := by
  have hs1 : (w.alloc x).heap.size = w.heap.size + 1 := by simp
  have hs : ((w.alloc x).alloc y).heap.size = w.heap.size + 1 + 1 := by simp
  refine ⟨(hb.block _ (by omega)).trans ((Below.heap_alloc _ _ _ (by omega)).trans (heap_alloc_new w x)), (hb.block _ (by omega)).trans ?_, ?_⟩
  · have := heap_alloc_new (w.alloc x) y
    rwa [hs1] at this
  · exact (((Below.refl w.heap.size w).alloc (Nat.le_refl _) x).alloc (by omega) y).trans (hb.mono (by omega))

set_option maxHeartbeats 2000000 in
set_option maxRecDepth 100000 in
theorem psame_any (v u : Vt) (cs ds : List Value) (w : World) (h : InV w v cs) (k : InV w u ds) (hv : okV v) (hu : okV u)
    (ih : ∀ x ∈ v.l, ∀ y ∈ u.l, ∀ cs ds w, InV w x cs → InV w y ds → Calls Tryz.prog 23 #[.agg cs.toArray, .agg ds.toArray] w fun e w' => e = .returned (.bool (smB x y)) ∧ Below w.heap.size w w') :
    Calls Tryz.prog 23 #[.agg cs.toArray, .agg ds.toArray] w fun e w' => e = .returned (.bool (smB v u)) ∧ Below w.heap.size w w' := by
  obtain ⟨a1, p1, c4, rfl, hit, hr⟩ := (InV_iff w v cs).1 h
  obtain ⟨a2, p2, d4, rfl, kit, kr⟩ := (InV_iff w u ds).1 k
  have e : smB v u = ((v.k == u.k) && (v.n == u.n) && (v.s.toList == u.s.toList) && decide (v.ns = u.ns) && smL v.l u.l) := by
    rw [sm_parts]
    congr 1
    rw [Bool.eq_iff_iff, decide_eq_true_eq, Bool.and_eq_true, Bool.and_eq_true, Bool.and_eq_true, beq_iff_eq, beq_iff_eq, beq_iff_eq, decide_eq_true_eq, Byt.toList_data, Byt.toList_data]
    constructor
    · rintro ⟨q1, q2, q3, q4⟩; exact ⟨⟨⟨q1, q2⟩, by rw [q3]⟩, q4⟩
    · rintro ⟨⟨⟨q1, q2⟩, q3⟩, q4⟩; exact ⟨q1, q2, ByteArray.ext (Array.toList_inj.1 q3), q4⟩
  rw [e]
  clear e
  have HEQ := Lib.hid fun (W : World) (hb : Below w.heap.size w W) => equal_any v.ns u.ns c4 d4 W (hr.next hb) (kr.next hb) hv.2.2.2.2.1 hu.2.2.2.2.1
  have mv : ∀ {l : List Vt} {a : Option Addr} (W : World), Below w.heap.size w W → (∀ j, j < l.length → ∃ b off, a = some (⟨b, off, none⟩ : Addr) ∧ ∃ ds, w.rangeAt b (off + 5 * j) ds ∧ InV w (l.getD j V0) ds) → ∀ j, j < l.length → ∃ b off, a = some (⟨b, off, none⟩ : Addr) ∧ ∃ ds, W.rangeAt b (off + 5 * j) ds ∧ InV W (l.getD j V0) ds := by
    intro l a W hb hh j hj
    obtain ⟨b, off, e1, ds, e2, e3⟩ := hh j hj
    exact ⟨b, off, e1, ds, range_next e2 hb, InV_next hb _ ds e3⟩
  have HEF := Lib.hid fun (W : World) (hb : Below w.heap.size w W) => eqfunc_any v.l u.l a1 a2 p1 p2 W (mv W hb hit) (mv W hb kit) hv.2.2.2.1 ih
  obtain ⟨b1, q1, rfl, _⟩ := hr.open_
  obtain ⟨b2, q2, rfl, _⟩ := kr.open_
  clear h k hv hu ih hit kit hr kr mv
  generalize smL v.l u.l = sl at *
  generalize decide (v.ns = u.ns) = se at *
  generalize v.l.length = l1 at *
  generalize u.l.length = l2 at *
  generalize v.ns.length = n1 at *
  generalize u.ns.length = n2 at *
  generalize v.k = k1 at *
  generalize u.k = k2 at *
  generalize v.n = m1 at *
  generalize u.n = m2 at *
  generalize v.s = s1 at *
  generalize u.s = s2 at *
  generalize h1 : (k1 == k2) = x1
  generalize h2 : (m1 == m2) = x2
  generalize h3 : (s1.toList == s2.toList) = x3
  have HB0 := Lib.hid fun (o p : Obj) => two_boxes (Below.refl ((w.alloc o).alloc p).heap.size ((w.alloc o).alloc p))
  cases x1
  case false =>
    clear HEQ HEF
    go_enter Tryz.func23, Tryz.ntmps23
    go_wp2_with fail
    go_ret
    exact ⟨rfl, (HB0.out _ _).2.2⟩
  cases x2
  case false =>
    clear HEQ HEF
    go_enter Tryz.func23, Tryz.ntmps23
    go_wp2_with fail
    go_ret
    exact ⟨rfl, (HB0.out _ _).2.2⟩
  cases x3
  case false =>
    clear HEQ HEF
    go_enter Tryz.func23, Tryz.ntmps23
    go_wp2_with fail
    go_ret
    exact ⟨rfl, (HB0.out _ _).2.2⟩
  cases se
  · clear HEF
    go_enter Tryz.func23, Tryz.ntmps23
    go_wp2_with (go_at_call 46; refine (HEQ.out _ (HB0.out _ _).2.2).mono ?_; rintro e w3 ⟨rfl, hb3⟩)
    go_ret
    exact ⟨rfl, (HB0.out _ _).2.2.trans (hb3.mono (HB0.out _ _).2.2.size)⟩
  · go_enter Tryz.func23, Tryz.ntmps23
    go_wp2_with (first
      | (go_at_call 46; refine (HEQ.out _ (HB0.out _ _).2.2).mono ?_; rintro e w3 ⟨rfl, hb3⟩; have y1 := Box.cell (two_boxes hb3).1 3; have y2 := Box.cell (two_boxes hb3).2.1 3; have hb4 := (two_boxes hb3).2.2; simp at y1 y2)
      | (go_at_call 47; refine (HEF.out _ hb4).mono ?_; rintro e w5 ⟨rfl, hb5⟩))
    go_ret
    exact ⟨by simp, next hb4 hb5⟩
theorem psame (v : Vt) (hv : OkT v) : ∀ (u : Vt), OkT u → ∀ (cs ds : List Value) (w : World), InV w v cs → InV w u ds → Calls Tryz.prog 23 #[.agg cs.toArray, .agg ds.toArray] w fun e w' => e = .returned (.bool (smB v u)) ∧ Below w.heap.size w w' := by
  revert hv
  refine vt_ind (p := fun v => OkT v → ∀ (u : Vt), OkT u → ∀ (cs ds : List Value) (w : World), InV w v cs → InV w u ds → Calls Tryz.prog 23 #[.agg cs.toArray, .agg ds.toArray] w fun e w' => e = .returned (.bool (smB v u)) ∧ Below w.heap.size w w') ?_ v
  intro v ih hv u hu cs ds w h k
  obtain ⟨_, h1, h2⟩ := hv
  obtain ⟨_, k1, k2⟩ := hu
  exact psame_any v u cs ds w h k h1 k1 fun x hx y hy => ih x hx (h2 x hx) y (k2 y hy)
end Go.Proofs.YtehkiojohldlgaaGreatDoor.Tre

namespace Go.Proofs.YtehkiojohldlgaaGreatDoor.Tre
open Go.RowKit Go.Lib Go.Proofs.YtehkiojohldlgaaGreatDoor.Byt

theorem clones_any (ns : List ByteArray) (c : Value) (w : World) (hr : Strs.Row w c ns) (hl : ns.length * 16 ≤ 140737488351232) :
    Calls Tryz.prog 49 #[c] w fun e w' => ∃ v', e = .returned v' ∧ Strs.Own w' w.heap.size v' ns ∧ Below w.heap.size w w' := by
  rcases hr with ⟨rfl, a, cap, rfl⟩ | ⟨b, off, cap, rfl, hc⟩
  · cases a with
    | none =>
      refine (Tryz.slices_Clone_string_nil 0 cap w).mono ?_
      rintro e w' ⟨rfl, rfl⟩
      exact ⟨_, rfl, Strs.Own.nil _ _, Below.refl _ _⟩
    | some p =>
      refine (Tryz.slices_Clone_string_zero p cap w).mono ?_
      rintro e w' ⟨v', rfl, h, _, hb⟩
      exact ⟨_, rfl, h, hb⟩
  · refine (Tryz.slices_Clone_string b off ns.length cap ns w (Nat.le_refl _) (by omega) hc).mono ?_
    rintro e w' ⟨v', rfl, h, _, hb⟩
    rw [List.take_length] at h
    exact ⟨_, rfl, h, hb⟩
theorem cells_of {P : Nat → List Value → Prop} : ∀ n : Nat, (∀ i, i < n → ∃ v, P i v) → ∃ C : List (List Value), C.length = n ∧ ∀ i, i < n → P i (C.getD i [])
  | 0, _ => ⟨[], rfl, fun i h => by omega⟩
  | n + 1, h => by
    obtain ⟨l, h1, h2⟩ := cells_of n fun i hi => h i (by omega)
    obtain ⟨v, hv⟩ := h n (by omega)
    refine ⟨l ++ [v], by simp [h1], fun i hi => ?_⟩
    by_cases hin : i < n
    · have : (l ++ [v]).getD i [] = l.getD i [] := by
        rw [List.getD_eq_getElem?_getD, List.getElem?_append_left (by omega), ← List.getD_eq_getElem?_getD]
      rw [this]; exact h2 i hin
    · obtain rfl : i = n := by omega
      have : (l ++ [v]).getD i [] = v := by
        rw [List.getD_eq_getElem?_getD, List.getElem?_append_right (by omega), h1, Nat.sub_self]; rfl
      rw [this]; exact hv
theorem get_mem {C : List (List Value)} {j : Nat} (h : j < C.length) : C.getD j [] ∈ C := by
  rw [List.getD_eq_getElem?_getD, List.getElem?_eq_getElem h]
  exact List.getElem_mem h
theorem five_of {C : List (List Value)} {l : List Vt} {w : World} (hl : C.length = l.length) (h : ∀ j, j < l.length → InV w (l.getD j V0) (C.getD j [])) : Five C ∧ ∀ u ∈ C.flatten, u.oneCell' = true := by
  have key : ∀ c ∈ C, ∃ v, InV w v c := by
    intro c hc
    obtain ⟨j, hj, rfl⟩ := List.getElem_of_mem hc
    have := h j (by omega)
    rw [List.getD_eq_getElem?_getD (l := C), List.getElem?_eq_getElem hj] at this
    exact ⟨_, this⟩
  refine ⟨fun c hc => ?_, fun u hu => ?_⟩
  · obtain ⟨v, hv⟩ := key c hc; exact InV_five hv
  · obtain ⟨c, hc, hu⟩ := List.mem_flatten.1 hu
    obtain ⟨v, hv⟩ := key c hc
    exact InS_one hv u hu

/-! ### a row whose values are put in one after another -/
theorem getD_set {α : Type} (C : List α) (i j : Nat) (x d : α) (h : i < C.length) : (C.set i x).getD j d = if j = i then x else C.getD j d := by
  rw [List.getD_eq_getElem?_getD, List.getD_eq_getElem?_getD, List.getElem?_set]
  by_cases e : i = j
  · subst e; simp [h]
  · rw [if_neg e, if_neg (fun q => e q.symm)]
/-- The blocks from B on, but for the row's own. -/
def Sv (B : Nat) (v : Value) (b : Nat) : Prop := B ≤ b ∧ ∀ g, v.ownBlock = some g → b ≠ g
/-- The first i values are done. -/
def Half (f : Vt → Vt) (w : World) (B : Nat) (v : Value) (l : List Vt) (C : List (List Value)) (i : Nat) : Prop :=
  ∃ D, OwnR w B v D ∧ D.length = l.length ∧ (∀ j, j < i → InS (Sv B v) w (f (l.getD j V0)) (D.getD j [])) ∧ ∀ j, i ≤ j → D.getD j [] = C.getD j []
theorem Half.start {f : Vt → Vt} {w : World} {B : Nat} {v : Value} {l : List Vt} {C : List (List Value)} (h : OwnR w B v C) (hl : C.length = l.length) : Half f w B v l C 0 :=
  ⟨C, h, hl, fun _ hj => absurd hj (Nat.not_lt_zero _), fun _ _ => rfl⟩
theorem Half.end_ {f : Vt → Vt} {w : World} {B : Nat} {v : Value} {l : List Vt} {C : List (List Value)} (h : Half f w B v l C l.length) : ∃ D, OwnR w B v D ∧ Lie (Sv B v) w (l.map f) D := by
  obtain ⟨D, h1, h2, h3, _⟩ := h
  refine ⟨D, h1, by rw [h2, List.length_map], fun j hj => ?_⟩
  rw [List.length_map] at hj
  have := h3 j hj
  rwa [List.getD_eq_getElem?_getD (l := l.map f), List.getElem?_map, List.getElem?_eq_getElem hj, Option.map_some, Option.getD_some, show l[j] = l.getD j V0 by rw [List.getD_eq_getElem?_getD, List.getElem?_eq_getElem hj]; rfl]
theorem Half.at_ {f : Vt → Vt} {w : World} {B : Nat} {a : Option Addr} {n cap : Nat} {l : List Vt} {C : List (List Value)} {i : Nat} (h : Half f w B (.slice a n cap) l C i) (hi : i < l.length) :
    ∃ g, a = some ⟨g, 0, none⟩ ∧ B ≤ g ∧ g < w.heap.size ∧ w.rangeAt g (i * 5) (C.getD i []) ∧ w.there g (i * 5) 5 := by
  obtain ⟨D, h1, h2, _, h4⟩ := h
  obtain ⟨a', cap', e, ho⟩ := h1.open_
  injection e with e1 e2 e3
  subst e1
  obtain ⟨g, e, hB, hg, hr, ht⟩ := ho i (by omega)
  rw [h4 i (Nat.le_refl _)] at hr
  exact ⟨g, e, hB, hg, hr, ht⟩
theorem Half.step {f : Vt → Vt} {w w3 : World} {B g n cap : Nat} {l : List Vt} {C : List (List Value)} {i : Nat} (h : Half f w B (.slice (some ⟨g, 0, none⟩) n cap) l C i) (hi : i < l.length) (hB : B ≤ w.heap.size) (hb : Below w.heap.size w w3) {ds : List Value}
    (hd : InS (fun b => w.heap.size ≤ b) w3 (f (l.getD i V0)) ds) : Half f (w3.setCells g (i * 5) ds) B (.slice (some ⟨g, 0, none⟩) n cap) l C (i + 1) := by
  obtain ⟨D, h1, h2, h3, h4⟩ := h
  have h5 := InS_five hd
  have hg : g < w.heap.size := by
    rcases h1.shape with ⟨q, _⟩ | ⟨g', cap', q, _, hg⟩
    · cases q
    · injection q with q1 _ _
      injection q1 with q1
      injection q1 with q1
      rw [q1]; exact hg
  refine ⟨D.set i ds, (h1.next hb).set_ (by omega) h5, by rw [List.length_set, h2], fun j hj => ?_, fun j hj => ?_⟩
  · rw [getD_set _ _ _ _ _ (by omega)]
    by_cases e : j = i
    · rw [if_pos e, e]
      refine InS_upd (fun b hb' hl => ?_) _ _ hd
      have hne : b ≠ g := by omega
      exact ⟨sets_other g hne _ _ _, by omega, fun g' e' => by injection e' with e'; rw [← e']; exact hne⟩
    · rw [if_neg e]
      refine InS_upd (fun b hb' hl => ?_) _ _ (h3 j (by omega))
      have hne : b ≠ g := hb'.2 g rfl
      exact ⟨(sets_other g hne _ _ _).trans (hb.block b hl), hb'⟩
  · rw [getD_set _ _ _ _ _ (by omega), if_neg (by omega), h4 j (by omega)]
theorem there_next {w w' : World} {b o n : Nat} (h : w.there b o n) (hl : b < w.heap.size) (hb : Below w.heap.size w w') : w'.there b o n := by
  intro j hj
  have hk := hb.block b hl
  rw [World.cell?_of_block (a := ⟨b, o + j, none⟩) hk, World.frozen?_of_block (a := ⟨b, o + j, none⟩) hk]
  exact h j hj
end Go.Proofs.YtehkiojohldlgaaGreatDoor.Tre

namespace Go.Proofs.YtehkiojohldlgaaGreatDoor.Tre
open Go.RowKit Go.Lib Go.Proofs.YtehkiojohldlgaaGreatDoor.Byt

/-- Where a row lies behind an append: where it lay, or in the newest block. -/
theorem append_block (W : World) (t ty e : TypeId) (i : TypeInfo) (z : Value) (ht : Tryz.prog.underlying t = some (.slice e)) (hi : Tryz.prog.info? e = some i) (hz : i.zero = some z) (B : Nat) (v v' : Value) (w' : World) (n : Nat) (xs : List Value)
    (hown : W.ownsRow B e i.size v n xs) (a : Addr) (c : Nat) (news : List Value) (hl : news.length = 1 * i.size) (hnews : ∀ j u, news[j]? = some u → W.cell? (a.add j) = some u) (h1 : ∀ u ∈ news, u.oneCell' = true) (hbytes : (n + 1) * i.bytes ≤ 140737488355328) (h63 : n + 1 ≤ 9223372036854775807)
    (hr : (Builtin.append_ #[t, t] ty #[v, .slice (some a) 1 c]).run Tryz.prog W = .ok v' w') : ∀ b, v'.ownBlock = some b → v.ownBlock = some b ∨ b = W.heap.size := by
  intro b hb
  rcases hown.2 with ⟨rfl, rfl⟩ | ⟨g, cap, cur, rfl, hB, hg, hnc, hcm, hcs, htake⟩
  · have h2 := run_append_nil (P := Tryz.prog) (w := W) t ty e i z ht hi hz a 1 c news hl hnews (by omega) (by omega) (by omega)
    rw [h2] at hr
    injection hr with hr _
    subst hr
    right
    exact (Option.some.inj hb).symm
  · by_cases hroom : n + 1 ≤ cap
    · obtain ⟨w2, h2, _⟩ := run_append_fits (P := Tryz.prog) (w := W) B t ty e i i.size ht hi rfl g n cap xs hown a 1 c news hl hnews h1 hroom
      rw [h2] at hr
      injection hr with hr _
      subst hr
      exact .inl hb
    · have hcell : ∀ j u, xs[j]? = some u → W.cell? ((⟨g, 0, none⟩ : Addr).add j) = some u := by
        intro j u hj
        have hlt : j < xs.length := (List.getElem?_eq_some_iff.1 hj).1
        rw [hown.1] at hlt
        rw [Addr.add_mid, Nat.zero_add, World.ownsRow.cellAt hown j hlt, hj]
      have h2 := run_append_grow (P := Tryz.prog) (w := W) t ty e i z ht hi hz ⟨g, 0, none⟩ n cap xs hown.1 hcell a 1 c news hl hnews (by omega) (by omega) (Nat.le_trans (Nat.mul_le_mul_right _ (nextslicecap_le (by omega))) (by rw [Nat.mul_assoc]; omega))
      rw [h2] at hr
      injection hr with hr _
      subst hr
      right
      exact (Option.some.inj hb).symm

theorem flat_one (C : List (List Value)) (cs : List Value) : (C ++ [cs]).flatten = C.flatten ++ cs := by simp
/-- Behind 'append(l, x)' of a value: its cells lie in block g. -/
theorem run_vpush (W : World) (ty : TypeId) (B : Nat) (v : Value) (C : List (List Value)) (hown : OwnR W B v C) (hB : B ≤ W.heap.size)
    (g c : Nat) (cs : List Value) (hblk : Box W g cs.toArray) (h5 : cs.length = 5) (h1 : ∀ u ∈ cs, u.oneCell' = true) (hlim : (C.length + 1) * 80 ≤ 140737488355328) :
    ∃ v' w', (Builtin.append_ #[23, 23] ty #[v, .slice (some ⟨g, 0, none⟩) 1 c]).run Tryz.prog W = .ok v' w' ∧ OwnR w' B v' (C ++ [cs]) ∧ W.grownBy w' v.ownBlock ∧ ∀ b, v'.ownBlock = some b → v.ownBlock = some b ∨ b = W.heap.size := by
  obtain ⟨i0, hi, hz0, hz1, hz2⟩ := info_parts info80
  have hnews : ∀ j u, cs[j]? = some u → W.cell? ((⟨g, 0, none⟩ : Addr).add j) = some u := by
    intro j u hj
    rw [Addr.add_mid, Nat.zero_add, hblk.cell j]
    simpa using hj
  obtain ⟨v', w', hr, h2, h3, _⟩ := run_append_own (P := Tryz.prog) W B 23 ty 26 i0 _ 5 80 Tryz.underlying23 hi hz0 hz1 hz2 rfl (by omega) v C.length C.flatten hown.2
    ⟨g, 0, none⟩ 1 c cs (by rw [h5]) hnews h1 (by unfold maxLen; omega) (by omega) hB
  refine ⟨v', w', hr, ⟨fun x hx => ?_, ?_⟩, h3, ?_⟩
  · rcases List.mem_append.1 hx with hx | hx
    · exact hown.1 x hx
    · rw [List.mem_singleton.1 hx]; exact h5
  · rw [List.length_append, flat_one]
    exact h2
  · exact append_block W _ ty _ i0 _ Tryz.underlying23 hi hz0 B v v' w' C.length C.flatten (by rw [hz1]; exact hown.2) ⟨g, 0, none⟩ c cs (by rw [hz1, h5]) hnews h1 (by rw [hz2]; omega) (by omega) hr
/-- The same for names. -/
theorem run_npush (W : World) (ty : TypeId) (B : Nat) (v : Value) (l : List ByteArray) (hown : Strs.Own W B v l) (hB : B ≤ W.heap.size)
    (g c : Nat) (s : ByteArray) (fr : Nat × Nat) (hblk : W.heap[g]? = some (.cells #[.string s] 9 fr)) (hlim : (l.length + 1) * 16 ≤ 140737488355328) :
    ∃ v' w', (Builtin.append_ #[24, 24] ty #[v, .slice (some ⟨g, 0, none⟩) 1 c]).run Tryz.prog W = .ok v' w' ∧ Strs.Own w' B v' (l ++ [s]) ∧ W.grownBy w' v.ownBlock ∧ ∀ b, v'.ownBlock = some b → v.ownBlock = some b ∨ b = W.heap.size := by
  obtain ⟨i0, hi, hz0, hz1, hz2⟩ := info_parts Strs.info16
  have hnews : ∀ j u, ([.string s] : List Value)[j]? = some u → W.cell? ((⟨g, 0, none⟩ : Addr).add j) = some u := by
    intro j u hj
    rw [Addr.add_mid, Nat.zero_add, World.cell?, hblk]
    simpa using hj
  have h1 : ∀ u ∈ ([.string s] : List Value), u.oneCell' = true := by
    intro u hu
    rw [List.mem_singleton.1 hu]; rfl
  obtain ⟨v', w', hr, h2, h3, _⟩ := run_append_own (P := Tryz.prog) W B 24 ty 9 i0 (.string ⟨#[]⟩) 1 16 Tryz.underlying24 hi hz0 hz1 hz2 rfl (by omega) v l.length (l.map (Value.string)) hown
    ⟨g, 0, none⟩ 1 c [.string s] rfl hnews h1 (by unfold maxLen; omega) (by omega) hB
  refine ⟨v', w', hr, ?_, h3, ?_⟩
  · unfold Strs.Own
    rw [List.length_append, List.map_append]
    exact h2
  · exact append_block W _ ty _ i0 _ Tryz.underlying24 hi hz0 B v v' w' l.length (l.map (Value.string)) (by rw [hz1]; exact hown) ⟨g, 0, none⟩ c [.string s] (by rw [hz1]; rfl) hnews h1 (by rw [hz2]; omega) (by omega) hr
section
variable {ops : Array Oper} {o : Oper} {a : Act} {Q : Exit → Act → World → Prop} {K : Act → World → Prop} {E : Prop}
/-- One step of a region that draws. -/
theorem step_vpush (W : World) (hg : o.guard = none) (s x : Operand) (ho : o.op = .call { callee := .builtin .append, args := #[s, x], argTypes := #[23, 23] })
    (B : Nat) (v : Value) (C : List (List Value)) (hs : a.eval s = v) (hown : OwnR W B v C) (hB : B ≤ W.heap.size)
    (g c : Nat) (hx : a.eval x = .slice (some ⟨g, 0, none⟩) 1 c) (cs : List Value) (hblk : Box W g cs.toArray) (h5 : cs.length = 5) (h1 : ∀ u ∈ cs, u.oneCell' = true) (hlim : (C.length + 1) * 80 ≤ 140737488355328)
    (h : ∀ v' w', OwnR w' B v' (C ++ [cs]) → W.grownBy w' v.ownBlock → (∀ b, v'.ownBlock = some b → v.ownBlock = some b ∨ b = W.heap.size) → K (a.put o.dst v') w') : if Region.wanted o (yielded ops a.tmps) = true then Oper.wp Tryz.prog o a W K Q else E := by
  obtain ⟨v', w', hr, h2, h3, h4⟩ := run_vpush W o.type B v C hown hB g c cs hblk h5 h1 hlim
  have hw : Region.wanted o (yielded ops a.tmps) = true := by simp [Region.wanted, hg]
  rw [if_pos hw]
  unfold Oper.wp execOp
  simp only [ho, resolve, invoke, builtin, Sem.run_bind, Sem.run_pure, Result.andThen_ok, List.map_toArray, List.map_cons, List.map_nil, hs, hx, hr]
  exact h v' w' h2 h3 h4
theorem step_npush (W : World) (hg : o.guard = none) (s x : Operand) (ho : o.op = .call { callee := .builtin .append, args := #[s, x], argTypes := #[24, 24] })
    (B : Nat) (v : Value) (l : List ByteArray) (hs : a.eval s = v) (hown : Strs.Own W B v l) (hB : B ≤ W.heap.size)
    (g c : Nat) (hx : a.eval x = .slice (some ⟨g, 0, none⟩) 1 c) (t : ByteArray) (fr : Nat × Nat) (hblk : W.heap[g]? = some (.cells #[.string t] 9 fr)) (hlim : (l.length + 1) * 16 ≤ 140737488355328)
    (h : ∀ v' w', Strs.Own w' B v' (l ++ [t]) → W.grownBy w' v.ownBlock → (∀ b, v'.ownBlock = some b → v.ownBlock = some b ∨ b = W.heap.size) → K (a.put o.dst v') w') : if Region.wanted o (yielded ops a.tmps) = true then Oper.wp Tryz.prog o a W K Q else E := by
  obtain ⟨v', w', hr, h2, h3, h4⟩ := run_npush W o.type B v l hown hB g c t fr hblk hlim
  have hw : Region.wanted o (yielded ops a.tmps) = true := by simp [Region.wanted, hg]
  rw [if_pos hw]
  unfold Oper.wp execOp
  simp only [ho, resolve, invoke, builtin, Sem.run_bind, Sem.run_pure, Result.andThen_ok, List.map_toArray, List.map_cons, List.map_nil, hs, hx, hr]
  exact h v' w' h2 h3 h4
end
end Go.Proofs.YtehkiojohldlgaaGreatDoor.Tre
