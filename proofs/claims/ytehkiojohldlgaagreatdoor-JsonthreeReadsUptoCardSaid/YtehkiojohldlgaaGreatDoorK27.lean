/- Texts of my own, packed: JsnC. Conditions: as each theorem states. -/
import Derived.Test.YtehkiojohldlgaaGreatDoorK23
import Derived.Test.YtehkiojohldlgaaGreatDoorK26
namespace Go.Proofs.YtehkiojohldlgaaGreatDoor.Jsn
open Go.RowKit Go.Lib
open Go.Proofs.YtehkiojohldlgaaGreatDoor.Tre (Vt V0 find OkT OkT_iff InV InV_iff InV_next InV_five InS_one Box box_new)
open Go.Proofs.YtehkiojohldlgaaGreatDoor.Rul (Ru ruC fst fst_yes fst_no Bx)

/-- A value's variable, the result's, and a rule's behind them. -/
structure Tri (w : World) (g : Nat) (cs zs rs : Array Value) (W : World) : Prop where
  one : Box W w.heap.size cs
  two : Bx W (w.heap.size + 1) zs
  thr : Bx W g rs
  lt : w.heap.size + 1 < g
  bel : Below w.heap.size w W
theorem Tri.next {w W W' : World} {g : Nat} {cs zs rs : Array Value} (h : Tri w g cs zs rs W) (hb : Below W.heap.size W W') : Tri w g cs zs rs W' :=
  ⟨h.one.next hb h.one.lt, h.two.next hb h.two.lt, h.thr.next hb h.thr.lt, h.lt, h.bel.trans (hb.mono h.bel.size)⟩
theorem Tri.set {w W : World} {g : Nat} {cs zs rs : Array Value} (h : Tri w g cs zs rs W) (j : Nat) (v : Value) : Tri w g cs zs (rs.setIfInBounds j v) (W.setCell ⟨g, j, none⟩ v) :=
  ⟨(heap_setCell_other W ⟨g, j, none⟩ w.heap.size v (show w.heap.size ≠ g by have := h.lt; omega)).trans h.one, (heap_setCell_other W ⟨g, j, none⟩ (w.heap.size + 1) v (show w.heap.size + 1 ≠ g by have := h.lt; omega)).trans h.two, h.thr.set j v, h.lt, h.bel.setCell (p := ⟨g, j, none⟩) (show w.heap.size ≤ g by have := h.lt; omega) v⟩
theorem Tri.new (w : World) (cs zs rs : Array Value) : Tri w (w.heap.size + 2) cs zs rs (((w.alloc (.cells cs 26)).alloc (.cells zs 49)).alloc (.cells rs 49)) := by
  have b0 : Below w.heap.size w (w.alloc (.cells cs 26)) := (Below.refl _ _).alloc (Nat.le_refl _) _
  have b1 : Below w.heap.size w ((w.alloc (.cells cs 26)).alloc (.cells zs 49)) := b0.alloc (by simp) _
  refine ⟨?_, ?_, ?_, by omega, b1.alloc (by rw [World.size_alloc, World.size_alloc]; omega) _⟩
  · have h0 := box_new w cs
    have h1 := h0.next ((Below.refl _ _).alloc (Nat.le_refl _) (.cells zs 49)) h0.lt
    exact h1.next ((Below.refl _ _).alloc (Nat.le_refl _) (.cells rs 49)) h1.lt
  · have h0 := Rul.bx_new (w.alloc (.cells cs 26)) zs
    rw [World.size_alloc] at h0
    exact h0.next ((Below.refl _ _).alloc (Nat.le_refl _) (.cells rs 49)) h0.lt
  · have h0 := Rul.bx_new ((w.alloc (.cells cs 26)).alloc (.cells zs 49)) rs
    rw [World.size_alloc, World.size_alloc] at h0
    exact h0
def wdE (v : Vt) : ByteArray × Int := fst [(nm 0, (tx v (nm 0)).2), (nm 1, only (tx v (nm 1)).2), (nm 2, (tx v (nm 2)).2)]
def wdR (v : Vt) : Ru := ⟨(tx v (nm 0)).1, (tx v (nm 1)).1, (tx v (nm 2)).1, 0, 0, 0, 0, 0, 0, 0, 0, 0, 0⟩
def okR (e : Int) (r : Ru) : Ru := if e = 0 then r else Rul.zero

set_option maxHeartbeats 8000000 in
set_option maxRecDepth 100000 in
theorem rwords_any (v : Vt) (hv : OkT v) (cs : List Value) (w : World) (h : InV w v cs) :
    Calls Tryz.prog 72 #[.agg cs.toArray] w fun e w' => e = .returned (.tuple #[.agg (ruC (okR (wdE v).2 (wdR v))), .string (wdE v).1, .int .i64 (wdE v).2]) ∧ Below w.heap.size w w' := by
  have HTX := Lib.hid fun s cs W (h : InV W v cs) => rtext_any v hv s cs W h
  obtain ⟨a, cap, c4, rfl, hit, hr⟩ := (InV_iff w v cs).1 h
  obtain ⟨a2, cap2, rfl, -⟩ := hr.open_
  have HI := Lib.hid fun W (hb : Below w.heap.size w W) => InV_next hb v _ h
  have T0 := Lib.hid (Tri.new w #[.int .i64 v.k, .int .i64 v.n, .string v.s, .slice a v.l.length cap, .slice a2 v.ns.length cap2] (ruC Rul.zero) (ruC Rul.zero))
  have H0 := Lib.hid (HTX.out (nm 0))
  have H1 := Lib.hid (HTX.out (nm 1))
  have H2 := Lib.hid (HTX.out (nm 2))
  unfold wdE wdR
  generalize tx v (nm 0) = x0 at *
  generalize tx v (nm 1) = x1 at *
  generalize tx v (nm 2) = x2 at *
  obtain ⟨s0, e0⟩ := x0
  obtain ⟨s1, e1⟩ := x1
  obtain ⟨s2, e2⟩ := x2
  dsimp only at H0 H1 H2 ⊢
  rw [show nm 0 = ⟨#[105, 100]⟩ from rfl] at *
  rw [show nm 1 = ⟨#[110, 111, 116, 101]⟩ from rfl] at *
  rw [show nm 2 = ⟨#[114, 111, 117, 116, 101]⟩ from rfl] at *
  generalize v.k = vk at *
  generalize v.n = vn at *
  generalize v.s = vs at *
  generalize v.l.length = vl at *
  generalize v.ns.length = vm at *
  dsimp only [ruC, Rul.zero] at T0
  clear h hit hr hv HTX
  by_cases h0 : e0 = 0
  · subst h0
    rw [fst_no _ rfl]
    by_cases h1 : e1 = 15
    · subst h1
      rw [fst_yes _ (show only 15 ≠ 0 by decide), show only 15 = 15 from rfl]
      go_enter Tryz.func72, Tryz.ntmps72
      go_wp2_with (first
        | (first | refine Tre.wpList_fetch _ rfl _ rfl _ _ rfl T4.out.one rfl ?_ | refine Tre.wpList_fetch _ rfl _ rfl _ _ rfl T2.out.one rfl ?_ | refine Tre.wpList_fetch _ rfl _ rfl _ _ rfl T0.out.one rfl ?_)
        | (first | (go_at_call 17; (with_reducible refine (H1.out _ _ (HI.out _ T2.out.bel)).mono ?_); rintro e w2 ⟨rfl, hb2⟩; clear H1; have T3 := Lib.hid (T2.out.next hb2); clear hb2) | (go_at_call 17; (with_reducible refine (H0.out _ _ (HI.out _ T0.out.bel)).mono ?_); rintro e w1 ⟨rfl, hb1⟩; clear H0; have T1 := Lib.hid (T0.out.next hb1); clear hb1; have c0 : w1.cell? ⟨w.heap.size + 2, 0, none⟩ = some (.string ⟨#[]⟩) := T1.out.thr.cell 0; have f0 := T1.out.thr.free 0; have T2 := Lib.hid (T1.out.set 0 (.string s0))))
        | (refine Rul.wpList_keep _ rfl _ _ rfl w.heap.size w T3.out.bel _ (Nat.le_succ _) Rul.zero _ rfl rfl T3.out.two rfl ?_; intro w9 hk9 hb9 ho9))
      refine bodyPost_ret (Rul.results_three rfl _ _ _ _ rfl hk9 rfl) rfl ?_
      exact ⟨rfl, hb9⟩
    · have b1 : (e1 == 15) = false := by simpa using h1
      rw [fst_no _ (show only e1 = 0 from if_neg h1)]
      clear h1
      by_cases h2 : e2 = 0
      · subst h2
        rw [fst_no _ rfl]
        go_enter Tryz.func72, Tryz.ntmps72
        go_wp2_with (first
          | (first | refine Tre.wpList_fetch _ rfl _ rfl _ _ rfl T4.out.one rfl ?_ | refine Tre.wpList_fetch _ rfl _ rfl _ _ rfl T2.out.one rfl ?_ | refine Tre.wpList_fetch _ rfl _ rfl _ _ rfl T0.out.one rfl ?_)
          | (first | (go_at_call 17; (with_reducible refine (H2.out _ _ (HI.out _ T4.out.bel)).mono ?_); rintro e w3 ⟨rfl, hb3⟩; clear H2; have T5 := Lib.hid (T4.out.next hb3); clear hb3; have c2 : w3.cell? ⟨w.heap.size + 2, 2, none⟩ = some (.string ⟨#[]⟩) := T5.out.thr.cell 2; have f2 := T5.out.thr.free 2; have T6 := Lib.hid (T5.out.set 2 (.string s2))) | (go_at_call 17; (with_reducible refine (H1.out _ _ (HI.out _ T2.out.bel)).mono ?_); rintro e w2 ⟨rfl, hb2⟩; clear H1; have T3 := Lib.hid (T2.out.next hb2); clear hb2; have c1 : w2.cell? ⟨w.heap.size + 2, 1, none⟩ = some (.string ⟨#[]⟩) := T3.out.thr.cell 1; have f1 := T3.out.thr.free 1; have T4 := Lib.hid (T3.out.set 1 (.string s1))) | (go_at_call 17; (with_reducible refine (H0.out _ _ (HI.out _ T0.out.bel)).mono ?_); rintro e w1 ⟨rfl, hb1⟩; clear H0; have T1 := Lib.hid (T0.out.next hb1); clear hb1; have c0 : w1.cell? ⟨w.heap.size + 2, 0, none⟩ = some (.string ⟨#[]⟩) := T1.out.thr.cell 0; have f0 := T1.out.thr.free 0; have T2 := Lib.hid (T1.out.set 0 (.string s0))))
          | (refine Rul.wpList_fetch _ rfl _ rfl _ _ rfl T6.out.thr rfl ?_)
          | (refine Rul.wpList_keep _ rfl _ _ rfl w.heap.size w T6.out.bel _ (Nat.le_succ _) ⟨s0, s1, s2, 0, 0, 0, 0, 0, 0, 0, 0, 0, 0⟩ _ rfl rfl T6.out.two rfl ?_; intro w9 hk9 hb9 ho9))
        refine bodyPost_ret (Rul.results_three rfl _ _ _ _ rfl hk9 rfl) rfl ?_
        exact ⟨rfl, hb9⟩
      · have b2 : (e2 != 0) = true := by simpa using h2
        rw [fst_yes _ h2, show okR e2 _ = Rul.zero from if_neg h2]
        clear h2
        go_enter Tryz.func72, Tryz.ntmps72
        go_wp2_with (first
          | (first | refine Tre.wpList_fetch _ rfl _ rfl _ _ rfl T4.out.one rfl ?_ | refine Tre.wpList_fetch _ rfl _ rfl _ _ rfl T2.out.one rfl ?_ | refine Tre.wpList_fetch _ rfl _ rfl _ _ rfl T0.out.one rfl ?_)
          | (first | (go_at_call 17; (with_reducible refine (H2.out _ _ (HI.out _ T4.out.bel)).mono ?_); rintro e w3 ⟨rfl, hb3⟩; clear H2; have T5 := Lib.hid (T4.out.next hb3); clear hb3) | (go_at_call 17; (with_reducible refine (H1.out _ _ (HI.out _ T2.out.bel)).mono ?_); rintro e w2 ⟨rfl, hb2⟩; clear H1; have T3 := Lib.hid (T2.out.next hb2); clear hb2; have c1 : w2.cell? ⟨w.heap.size + 2, 1, none⟩ = some (.string ⟨#[]⟩) := T3.out.thr.cell 1; have f1 := T3.out.thr.free 1; have T4 := Lib.hid (T3.out.set 1 (.string s1))) | (go_at_call 17; (with_reducible refine (H0.out _ _ (HI.out _ T0.out.bel)).mono ?_); rintro e w1 ⟨rfl, hb1⟩; clear H0; have T1 := Lib.hid (T0.out.next hb1); clear hb1; have c0 : w1.cell? ⟨w.heap.size + 2, 0, none⟩ = some (.string ⟨#[]⟩) := T1.out.thr.cell 0; have f0 := T1.out.thr.free 0; have T2 := Lib.hid (T1.out.set 0 (.string s0))))
          | (refine Rul.wpList_keep _ rfl _ _ rfl w.heap.size w T5.out.bel _ (Nat.le_succ _) Rul.zero _ rfl rfl T5.out.two rfl ?_; intro w9 hk9 hb9 ho9))
        refine bodyPost_ret (Rul.results_three rfl _ _ _ _ rfl hk9 rfl) rfl ?_
        exact ⟨rfl, hb9⟩
  · have b0 : (e0 != 0) = true := by simpa using h0
    rw [fst_yes _ h0, show okR e0 _ = Rul.zero from if_neg h0]
    clear h0
    go_enter Tryz.func72, Tryz.ntmps72
    go_wp2_with (first
      | (first | refine Tre.wpList_fetch _ rfl _ rfl _ _ rfl T4.out.one rfl ?_ | refine Tre.wpList_fetch _ rfl _ rfl _ _ rfl T2.out.one rfl ?_ | refine Tre.wpList_fetch _ rfl _ rfl _ _ rfl T0.out.one rfl ?_)
      | (first | (go_at_call 17; (with_reducible refine (H0.out _ _ (HI.out _ T0.out.bel)).mono ?_); rintro e w1 ⟨rfl, hb1⟩; clear H0; have T1 := Lib.hid (T0.out.next hb1); clear hb1))
      | (refine Rul.wpList_keep _ rfl _ _ rfl w.heap.size w T1.out.bel _ (Nat.le_succ _) Rul.zero _ rfl rfl T1.out.two rfl ?_; intro w9 hk9 hb9 ho9))
    refine bodyPost_ret (Rul.results_three rfl _ _ _ _ rfl hk9 rfl) rfl ?_
    exact ⟨rfl, hb9⟩
end Go.Proofs.YtehkiojohldlgaaGreatDoor.Jsn
