/- Contracts of Same. Conditions: as each theorem states. -/
import Derived.Test.YtafelidejkppkaaDoorTreB
import Derived.Test.YtafelidejkppkaaDoorTreD
import Derived.Test.YtafelidejkppkaaDoorShelf
namespace Go.Proofs.YtafelidejkppkaaDoor.Tre
open Go.RowKit Go.Lib Go.Proofs.YtafelidejkppkaaDoor.Byt

theorem below_drewN {B n : Nat} {w W : World} (h : Below B w W) : Below B w (W.drewN n) := ⟨h.os, h.tape, h.output, h.size, h.block⟩
theorem equal_any (xs ys : List ByteArray) (c d : Value) (w : World) (hx : Strs.Row w c xs) (hy : Strs.Row w d ys) (lx : xs.length * 16 ≤ 140737488351232) (ly : ys.length * 16 ≤ 140737488351232) :
    Calls Tryd.prog 27 #[c, d] w fun e w' => e = .returned (.bool (decide (xs = ys))) ∧ Below w.heap.size w w' := by
  obtain ⟨a1, c1, e1, _⟩ := hx.open_
  obtain ⟨a2, c2, e2, _⟩ := hy.open_
  by_cases hl : xs.length = ys.length
  · by_cases h0 : xs.length = 0
    · have hx0 := List.eq_nil_of_length_eq_zero h0
      have hy0 := List.eq_nil_of_length_eq_zero (hl.symm.trans h0)
      subst hx0 hy0 e1 e2
      refine (Tryd.slices_Equal_string_empty a1 a2 c1 0 c2 w (by omega)).mono ?_
      rintro e w' ⟨rfl, rfl⟩
      exact ⟨rfl, Below.refl _ _⟩
    · rcases hx with ⟨q, _⟩ | ⟨b1, o1, c1, rfl, h1⟩
      · exact absurd (by rw [q]; rfl) h0
      · rcases hy with ⟨q, _⟩ | ⟨b2, o2, c2, rfl, h2⟩
        · exact absurd (by rw [hl, q]; rfl) h0
        · refine (Tryd.slices_Equal_string b1 o1 _ c1 b2 o2 _ c2 xs ys w (Nat.le_refl _) (Nat.le_refl _) (by omega) (by omega) h1 h2).mono ?_
          rintro e w' ⟨rfl, q, rfl⟩
          rw [List.take_length, List.take_length]
          exact ⟨rfl, below_drewN (Below.refl _ _)⟩
  · subst e1 e2
    refine (Tryd.slices_Equal_string_lens a1 a2 _ c1 _ c2 w hl).mono ?_
    rintro e w' ⟨rfl, rfl⟩
    refine ⟨?_, Below.refl _ _⟩
    rw [decide_eq_false (fun q => hl (congrArg List.length q))]

set_option maxHeartbeats 1000000 in
set_option maxRecDepth 100000 in
theorem eqfunc_any (l m : List Vt) (a1 a2 : Option Addr) (c1 c2 : Nat) (w : World)
    (h1 : ∀ j, j < l.length → ∃ b off, a1 = some ⟨b, off, none⟩ ∧ ∃ ds, w.rangeAt b (off + 5 * j) ds ∧ InV w (l.getD j V0) ds)
    (h2 : ∀ j, j < m.length → ∃ b off, a2 = some ⟨b, off, none⟩ ∧ ∃ ds, w.rangeAt b (off + 5 * j) ds ∧ InV w (m.getD j V0) ds)
    (hl : l.length * 80 ≤ 140737488351232)
    (ih : ∀ x ∈ l, ∀ y ∈ m, ∀ cs ds w, InV w x cs → InV w y ds → Calls Tryd.prog 15 #[.agg cs.toArray, .agg ds.toArray] w fun e w' => e = .returned (.bool (smB x y)) ∧ Below w.heap.size w w') :
    Calls Tryd.prog 28 #[.slice a1 l.length c1, .slice a2 m.length c2, .func (.func 15) #[] #[]] w fun e w' => e = .returned (.bool (smL l m)) ∧ Below w.heap.size w w' := by
  have eg : ∀ args w, (callFunc 15 args).run Tryd.prog w = .ok (.enter 15 args) w := enters_of Tryd.func15 (by kernel_rfl) rfl
  by_cases hne : l.length = m.length
  · have HNE := Lib.hid hne
    rw [← hne]
    rw [← hne] at h2
    have H1 := Lib.hid h1
    have H2 := Lib.hid h2
    have HIH := Lib.hid ih
    have hmx : l.length ≤ 9223372036854775807 := by omega
    clear h1 h2 ih hne
    go_enter Tryd.func28, Tryd.ntmps28
    go_wp2_with fail
    go_loopw [17] (fun x wr => ∃ i : Nat, x = .int .i64 (i : Int) ∧ i ≤ l.length ∧ Below w.heap.size w wr ∧ Hid (∀ j, j < i → smB (l.getD j V0) (m.getD j V0) = true))
      (fun x _ => l.length - (RowKit.intOf x).toNat)
    case atStart => exact ⟨0, by go_num, by omega, Below.refl _ _, Lib.hid fun j hj => absurd hj (Nat.not_lt_zero _)⟩
    case round =>
      obtain ⟨i, rfl, hi, hb, hz⟩ := hrel
      have hsz := hb.size
      by_cases hlt : i < l.length
      · obtain ⟨b, off, rfl, ds, hrg, hin⟩ := H1.out i hlt
        obtain ⟨bb, oo, rfl, es, hrg', hin'⟩ := H2.out i hlt
        have hrg2 := range_next hrg hb
        rw [Nat.mul_comm 5 i] at hrg2
        have hrg2' := range_next hrg' hb
        rw [Nat.mul_comm 5 i] at hrg2'
        have hin2 := InV_next hb _ ds hin
        have hin2' := InV_next hb _ es hin'
        have HX := Lib.hid fun w2 (hb2 : Below wr.heap.size wr w2) => HIH.out _ (mem_get hlt) _ (mem_get (HNE.out ▸ hlt)) ds es w2 (InV_next hb2 _ ds hin2) (InV_next hb2 _ es hin2')
        have h5 := InV_five hin
        have h5' := size_toArray ds h5
        have g5 := InV_five hin'
        have g5' := size_toArray es g5
        have o1 := InS_one hin
        have o2 := InS_one hin'
        have hstep : smB (l.getD i V0) (m.getD i V0) = true → ∀ j, j < i + 1 → smB (l.getD j V0) (m.getD j V0) = true := by
          intro q j hj
          by_cases hji : j < i
          · exact hz.out j hji
          · obtain rfl : j = i := by omega
            exact q
        have hstop := smL_stop HNE.out hlt
        have HST := Lib.hid hstep
        have HSP := Lib.hid hstop
        clear hstep hstop hin hin' hin2 hin2' hrg hrg' H1 H2 HIH hz
        cases hs : smB (l.getD i V0) (m.getD i V0)
        all_goals
          rw [hs] at HX
          have HS := Lib.hid hs
          clear hs
          go_wp2_with (first
            | (refine wpList_take _ rfl _ rfl b (off + i * 5) ds rfl hrg2 h5 ?_)
            | (refine wpList_keep _ rfl _ _ rfl wr.heap.size wr ((Below.refl _ wr).alloc (Nat.le_refl _) _) wr.heap.size (Nat.le_refl _) ds.toArray _ rfl rfl (box_new _ _) rfl h5' (by simpa using o1) ?_; intro w2 bx2 hb2 _ hs2; clear hs2; have hrg3 := range_next hrg2' hb2)
            | (refine wpList_take _ rfl _ rfl bb (oo + i * 5) es rfl hrg3 g5 ?_)
            | (refine wpList_keep _ rfl _ _ rfl w2.heap.size w2 ((Below.refl _ w2).alloc (Nat.le_refl _) _) w2.heap.size (Nat.le_refl _) es.toArray _ rfl rfl (box_new _ _) rfl g5' (by simpa using o2) ?_; intro w4 bx4 hb4 _ hs4; clear hs4; have bx3 := bx2.next hb4 bx2.lt; have hb5 := next hb2 hb4)
            | (refine wpList_fetch _ rfl _ rfl wr.heap.size ds.toArray rfl bx3 h5' ?_)
            | (refine wpList_fetch _ rfl _ rfl w2.heap.size es.toArray rfl bx4 g5' ?_)
            | (go_at_fn 15; refine (HX.out _ hb5).mono ?_; rintro e w6 ⟨rfl, hb6⟩))
        · go_ret
          exact ⟨by rw [HSP.out HS.out]; rfl, hb.trans ((next hb5 hb6).mono hsz)⟩
        · go_roundw
          case rel => exact ⟨i + 1, by go_num, by omega, hb.trans ((next hb5 hb6).mono hsz), Lib.hid (HST.out HS.out)⟩
          case measure => simp [RowKit.intOf]; omega
      · obtain rfl : i = l.length := by omega
        have HZZ := Lib.hid ((smL_at l m HNE.out).2 hz.out)
        clear hz
        go_wp2_with fail
        go_ret
        exact ⟨by rw [HZZ.out]; rfl, hb⟩
  · rw [smL_off l m hne]
    have hd : ((l.length : Int) != (m.length : Int)) = true := by rw [bne_iff_ne]; omega
    clear h1 h2 ih hne
    go_enter Tryd.func28, Tryd.ntmps28
    go_wp2_with fail
    go_ret
    exact ⟨rfl, Below.refl _ _⟩

theorem two_boxes {w w3 : World} {x y : Obj} (hb : Below ((w.alloc x).alloc y).heap.size ((w.alloc x).alloc y) w3) : w3.heap[w.heap.size]? = some x ∧ w3.heap[w.heap.size + 1]? = some y ∧ Below w.heap.size w w3 := by
  have hs1 : (w.alloc x).heap.size = w.heap.size + 1 := by simp
  have hs : ((w.alloc x).alloc y).heap.size = w.heap.size + 1 + 1 := by simp
  refine ⟨(hb.block _ (by omega)).trans ((Below.heap_alloc _ _ _ (by omega)).trans (heap_alloc_new w x)), (hb.block _ (by omega)).trans ?_, ?_⟩
  · have := heap_alloc_new (w.alloc x) y
    rwa [hs1] at this
  · exact (((Below.refl w.heap.size w).alloc (Nat.le_refl _) x).alloc (by omega) y).trans (hb.mono (by omega))

set_option maxHeartbeats 2000000 in
set_option maxRecDepth 100000 in
theorem psame_any (v u : Vt) (cs ds : List Value) (w : World) (h : InV w v cs) (k : InV w u ds) (hv : okV v) (hu : okV u)
    (ih : ∀ x ∈ v.l, ∀ y ∈ u.l, ∀ cs ds w, InV w x cs → InV w y ds → Calls Tryd.prog 15 #[.agg cs.toArray, .agg ds.toArray] w fun e w' => e = .returned (.bool (smB x y)) ∧ Below w.heap.size w w') :
    Calls Tryd.prog 15 #[.agg cs.toArray, .agg ds.toArray] w fun e w' => e = .returned (.bool (smB v u)) ∧ Below w.heap.size w w' := by
  obtain ⟨a1, p1, c4, rfl, hit, hr⟩ := (InV_iff w v cs).1 h
  obtain ⟨a2, p2, d4, rfl, kit, kr⟩ := (InV_iff w u ds).1 k
  have e : smB v u = ((v.k == u.k) && (v.n == u.n) && (v.s.toList == u.s.toList) && decide (v.ns = u.ns) && smL v.l u.l) := by
    rw [sm_parts]
    congr 1
    rw [Bool.eq_iff_iff, decide_eq_true_eq, Bool.and_eq_true, Bool.and_eq_true, Bool.and_eq_true, beq_iff_eq, beq_iff_eq, beq_iff_eq, decide_eq_true_eq, Byt.toList_data, Byt.toList_data]
    constructor
    · rintro ⟨q1, q2, q3, q4⟩; exact ⟨⟨⟨q1, q2⟩, by rw [q3]⟩, q4⟩
    · rintro ⟨⟨⟨q1, q2⟩, q3⟩, q4⟩; exact ⟨q1, q2, ByteArray.ext (Array.toList_inj.1 q3), q4⟩
  rw [e]
  clear e
  have HEQ := Lib.hid fun (W : World) (hb : Below w.heap.size w W) => equal_any v.ns u.ns c4 d4 W (hr.next hb) (kr.next hb) hv.2.2.2.2.1 hu.2.2.2.2.1
  have mv : ∀ {l : List Vt} {a : Option Addr} (W : World), Below w.heap.size w W → (∀ j, j < l.length → ∃ b off, a = some (⟨b, off, none⟩ : Addr) ∧ ∃ ds, w.rangeAt b (off + 5 * j) ds ∧ InV w (l.getD j V0) ds) → ∀ j, j < l.length → ∃ b off, a = some (⟨b, off, none⟩ : Addr) ∧ ∃ ds, W.rangeAt b (off + 5 * j) ds ∧ InV W (l.getD j V0) ds := by
    intro l a W hb hh j hj
    obtain ⟨b, off, e1, ds, e2, e3⟩ := hh j hj
    exact ⟨b, off, e1, ds, range_next e2 hb, InV_next hb _ ds e3⟩
  have HEF := Lib.hid fun (W : World) (hb : Below w.heap.size w W) => eqfunc_any v.l u.l a1 a2 p1 p2 W (mv W hb hit) (mv W hb kit) hv.2.2.2.1 ih
  obtain ⟨b1, q1, rfl, _⟩ := hr.open_
  obtain ⟨b2, q2, rfl, _⟩ := kr.open_
  clear h k hv hu ih hit kit hr kr mv
  generalize smL v.l u.l = sl at *
  generalize decide (v.ns = u.ns) = se at *
  generalize v.l.length = l1 at *
  generalize u.l.length = l2 at *
  generalize v.ns.length = n1 at *
  generalize u.ns.length = n2 at *
  generalize v.k = k1 at *
  generalize u.k = k2 at *
  generalize v.n = m1 at *
  generalize u.n = m2 at *
  generalize v.s = s1 at *
  generalize u.s = s2 at *
  generalize h1 : (k1 == k2) = x1
  generalize h2 : (m1 == m2) = x2
  generalize h3 : (s1.toList == s2.toList) = x3
  have HB0 := Lib.hid fun (o p : Obj) => two_boxes (Below.refl ((w.alloc o).alloc p).heap.size ((w.alloc o).alloc p))
  cases x1
  case false =>
    clear HEQ HEF
    go_enter Tryd.func15, Tryd.ntmps15
    go_wp2_with fail
    go_ret
    exact ⟨rfl, (HB0.out _ _).2.2⟩
  cases x2
  case false =>
    clear HEQ HEF
    go_enter Tryd.func15, Tryd.ntmps15
    go_wp2_with fail
    go_ret
    exact ⟨rfl, (HB0.out _ _).2.2⟩
  cases x3
  case false =>
    clear HEQ HEF
    go_enter Tryd.func15, Tryd.ntmps15
    go_wp2_with fail
    go_ret
    exact ⟨rfl, (HB0.out _ _).2.2⟩
  cases se
  · clear HEF
    go_enter Tryd.func15, Tryd.ntmps15
    go_wp2_with (go_at_call 27; refine (HEQ.out _ (HB0.out _ _).2.2).mono ?_; rintro e w3 ⟨rfl, hb3⟩)
    go_ret
    exact ⟨rfl, (HB0.out _ _).2.2.trans (hb3.mono (HB0.out _ _).2.2.size)⟩
  · go_enter Tryd.func15, Tryd.ntmps15
    go_wp2_with (first
      | (go_at_call 27; refine (HEQ.out _ (HB0.out _ _).2.2).mono ?_; rintro e w3 ⟨rfl, hb3⟩; have y1 := Box.cell (two_boxes hb3).1 3; have y2 := Box.cell (two_boxes hb3).2.1 3; have hb4 := (two_boxes hb3).2.2; simp at y1 y2)
      | (go_at_call 28; refine (HEF.out _ hb4).mono ?_; rintro e w5 ⟨rfl, hb5⟩))
    go_ret
    exact ⟨by simp, next hb4 hb5⟩
theorem psame (v : Vt) (hv : OkT v) : ∀ (u : Vt), OkT u → ∀ (cs ds : List Value) (w : World), InV w v cs → InV w u ds → Calls Tryd.prog 15 #[.agg cs.toArray, .agg ds.toArray] w fun e w' => e = .returned (.bool (smB v u)) ∧ Below w.heap.size w w' := by
  revert hv
  refine vt_ind (p := fun v => OkT v → ∀ (u : Vt), OkT u → ∀ (cs ds : List Value) (w : World), InV w v cs → InV w u ds → Calls Tryd.prog 15 #[.agg cs.toArray, .agg ds.toArray] w fun e w' => e = .returned (.bool (smB v u)) ∧ Below w.heap.size w w') ?_ v
  intro v ih hv u hu cs ds w h k
  obtain ⟨_, h1, h2⟩ := hv
  obtain ⟨_, k1, k2⟩ := hu
  exact psame_any v u cs ds w h k h1 k1 fun x hx y hy => ih x hx (h2 x hx) y (k2 y hy)
end Go.Proofs.YtafelidejkppkaaDoor.Tre
