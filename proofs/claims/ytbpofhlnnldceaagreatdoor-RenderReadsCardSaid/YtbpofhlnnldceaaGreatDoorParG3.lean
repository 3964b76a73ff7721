/- The contract of takeValue. Conditions: as each theorem states. · The contract of Parse. Conditions: the two tables of unicode/utf8 are as its text lays them, the two sentinels of strconv hold errors; as each theorem states. · The laws' own examples of parse. Conditions: the two tables of unicode/utf8 are as its text lays them, the two sentinels of strconv hold errors; as each theorem states. -/
import Derived.Test.YtbpofhlnnldceaaGreatDoorParH
import Derived.Defers
import Derived.Recover
import Derived.Laws.Pointers
namespace Go.Proofs.YtbpofhlnnldceaaGreatDoor.Par
open Go.RowKit Go.Lib Go.Proofs.YtbpofhlnnldceaaGreatDoor.Byt Go.Proofs.YtbpofhlnnldceaaGreatDoor.Lx
open Go.Proofs.YtbpofhlnnldceaaGreatDoor.Tre (Vt V0 InS InS_upd InS_iff)

theorem scal_in (S : Nat → Prop) (w : World) (k n : Int) (s : ByteArray) : InS S w (.mk k n s [] []) [.int .i64 k, .int .i64 n, .string s, .slice none 0 0, .slice none 0 0] :=
  (InS_iff _ _).2 ⟨none, 0, _, rfl, fun _ hj => absurd hj (Nat.not_lt_zero _), Strs.Row.nil _, fun h => absurd rfl h⟩
/-- Which kind a token has, said for each test of the switch. -/
theorem kinds (k : Nat) : (k = 11 ∧ ((k : Int) == 11) = true) ∨ (((k : Int) == 11) = false ∧ k ≠ 11 ∧
    ((k = 10 ∧ ((k : Int) == 10) = true) ∨ (((k : Int) == 10) = false ∧ k ≠ 10 ∧
    ((k = 9 ∧ ((k : Int) == 9) = true) ∨ (((k : Int) == 9) = false ∧ k ≠ 9 ∧
    ((k = 8 ∧ ((k : Int) == 8) = true) ∨ (((k : Int) == 8) = false ∧ k ≠ 8 ∧
    ((k = 7 ∧ ((k : Int) == 7) = true) ∨ (((k : Int) == 7) = false ∧ k ≠ 7 ∧
    ((k = 3 ∧ ((k : Int) == 3) = true) ∨ (((k : Int) == 3) = false ∧ k ≠ 3 ∧
    ((k = 1 ∧ ((k : Int) == 1) = true) ∨ (((k : Int) == 1) = false ∧ k ≠ 1))))))))))))) := by
  have e : ∀ c : Nat, (k = c ∧ ((k : Int) == (c : Int)) = true) ∨ (((k : Int) == (c : Int)) = false ∧ k ≠ c) := fun c => by
    by_cases h : k = c
    · exact .inl ⟨h, by rw [h]; simp⟩
    · exact .inr ⟨by rw [beq_eq_false_iff_ne]; omega, h⟩
  rcases e 11 with h | ⟨h1, h2⟩
  · exact .inl h
  refine .inr ⟨h1, h2, ?_⟩
  rcases e 10 with h | ⟨h1, h2⟩
  · exact .inl h
  refine .inr ⟨h1, h2, ?_⟩
  rcases e 9 with h | ⟨h1, h2⟩
  · exact .inl h
  refine .inr ⟨h1, h2, ?_⟩
  rcases e 8 with h | ⟨h1, h2⟩
  · exact .inl h
  refine .inr ⟨h1, h2, ?_⟩
  rcases e 7 with h | ⟨h1, h2⟩
  · exact .inl h
  refine .inr ⟨h1, h2, ?_⟩
  rcases e 3 with h | ⟨h1, h2⟩
  · exact .inl h
  refine .inr ⟨h1, h2, ?_⟩
  rcases e 1 with h | ⟨h1, h2⟩
  · exact .inl h
  · exact .inr ⟨h1, h2⟩
theorem deeper_end (t : Tk) (lv : Nat) (hl : lv = 64) (w : World) :
    Calls Tryz.prog 30 #[tkV t, .int .i64 (lv : Int)] w fun e w' => e = .panicked (Fp t.o 10) ∧ Below w.heap.size w w' := by
  subst hl
  exact deeper_no t w

set_option maxRecDepth 100000 in
set_option maxHeartbeats 8000000 in
theorem value_at (w0 : World) (b : Nat) (s : ByteArray) (hs : s.size ≤ 8000000) : ∀ (f : Nat) (t : Tk) (lv p : Nat) (W : World), Pr w0 b s p W → At s.data.toList t p → Fu s.data.toList f t p → lv ≤ 64 →
    Calls Tryz.prog 17 #[.pointer (some ⟨b, 0, none⟩), tkV t, .int .i64 (lv : Int)] W (Out w0 b s W (VV W) (val (nt s.data.toList) f t lv p)) := by
  intro f
  induction f with
  | zero =>
    intro t lv p W h ha hf hlv
    have := ha.le
    rcases hf with h | h <;> omega
  | succ f ih =>
  intro t lv p W h ha hf hlv
  have hsl : s.data.toList.length = s.size := by simp
  have hp : p ≤ s.size := by have := ha.le; omega
  have e0 : Below W.heap.size W ((W.alloc (.cells #[.int .i64 (t.k : Int), .int .i64 (t.o : Int), .int .i64 (t.z : Int), .string ⟨t.v.toArray⟩, .int .i64 t.n] 46)).alloc (.cells #[.int .i64 0, .int .i64 0, .string ⟨#[]⟩, .slice none 0 0, .slice none 0 0] 25)) := ((Below.refl _ _).alloc (Nat.le_refl _) _).alloc (by simp) _
  have hbl := h.lt
  have hwz := h.bel.size
  have RF := Lib.hid (fun w => refusal_at t w)
  have hnw := two_new W #[.int .i64 (t.k : Int), .int .i64 (t.o : Int), .int .i64 (t.z : Int), .string ⟨t.v.toArray⟩, .int .i64 t.n] #[.int .i64 0, .int .i64 0, .string ⟨#[]⟩, .slice none 0 0, .slice none 0 0] 46 25
  rw [val]
  unfold tkV at *
  rcases kinds t.k with ⟨hk, k11⟩ | ⟨k11, n11, ⟨hk, k10⟩ | ⟨k10, n10, ⟨hk, k9⟩ | ⟨k9, n9, ⟨hk, k8⟩ | ⟨k8, n8, ⟨hk, k7⟩ | ⟨k7, n7, ⟨hk, k3⟩ | ⟨k3, n3, ⟨hk, k1⟩ | ⟨k1, n1⟩⟩⟩⟩⟩⟩⟩
  · rw [if_pos hk]
    have hbt : Box _ W.heap.size _ := hnw.1
    have t0 : _ = some (Value.int .i64 (t.k : Int)) := hbt.cell 0
    clear ih hf ha hk RF hnw
    go_enter Tryz.func17, Tryz.ntmps17
    go_wp2_with fail
    go_returns
    exact ⟨.of (((Below.refl _ _).alloc (Nat.le_refl _) _).alloc (by simp) _), h.next (((Below.refl _ _).alloc (Nat.le_refl _) _).alloc (by simp) _), _, rfl, _, rfl, scal_in _ _ _ _ _⟩
  · rw [if_neg n11, if_pos hk]
    have hbt : Box _ W.heap.size _ := hnw.1
    have t0 : _ = some (Value.int .i64 (t.k : Int)) := hbt.cell 0
    clear ih hf ha hk RF hnw
    go_enter Tryz.func17, Tryz.ntmps17
    go_wp2_with fail
    go_returns
    exact ⟨.of (((Below.refl _ _).alloc (Nat.le_refl _) _).alloc (by simp) _), h.next (((Below.refl _ _).alloc (Nat.le_refl _) _).alloc (by simp) _), _, rfl, _, rfl, scal_in _ _ _ _ _⟩
  · rw [if_neg n11, if_neg n10, if_pos hk]
    have hbt : Box _ W.heap.size _ := hnw.1
    have t0 : _ = some (Value.int .i64 (t.k : Int)) := hbt.cell 0
    clear ih hf ha hk RF hnw
    go_enter Tryz.func17, Tryz.ntmps17
    go_wp2_with fail
    go_returns
    exact ⟨.of (((Below.refl _ _).alloc (Nat.le_refl _) _).alloc (by simp) _), h.next (((Below.refl _ _).alloc (Nat.le_refl _) _).alloc (by simp) _), _, rfl, _, rfl, scal_in _ _ _ _ _⟩
  · rw [if_neg n11, if_neg n10, if_neg n9, if_pos hk]
    have hbt : Box _ W.heap.size _ := hnw.1
    have t0 : _ = some (Value.int .i64 (t.k : Int)) := hbt.cell 0
    have t4 : _ = some (Value.int .i64 t.n) := hbt.cell 4
    clear ih hf ha hk RF hnw
    go_enter Tryz.func17, Tryz.ntmps17
    go_wp2_with fail
    go_returns
    exact ⟨.of (((Below.refl _ _).alloc (Nat.le_refl _) _).alloc (by simp) _), h.next (((Below.refl _ _).alloc (Nat.le_refl _) _).alloc (by simp) _), _, rfl, _, rfl, scal_in _ _ _ _ _⟩
  · rw [if_neg n11, if_neg n10, if_neg n9, if_neg n8, if_pos hk]
    have hbt : Box _ W.heap.size _ := hnw.1
    have t0 : _ = some (Value.int .i64 (t.k : Int)) := hbt.cell 0
    have t3 : _ = some (Value.string ⟨t.v.toArray⟩) := hbt.cell 3
    clear ih hf ha hk RF hnw
    go_enter Tryz.func17, Tryz.ntmps17
    go_wp2_with fail
    go_returns
    exact ⟨.of (((Below.refl _ _).alloc (Nat.le_refl _) _).alloc (by simp) _), h.next (((Below.refl _ _).alloc (Nat.le_refl _) _).alloc (by simp) _), _, rfl, _, rfl, scal_in _ _ _ _ _⟩
  · rw [if_neg n11, if_neg n10, if_neg n9, if_neg n8, if_neg n7, if_pos hk]
    have hbt : Box _ W.heap.size _ := hnw.1
    have hbv : Tre.Box _ (W.heap.size + 1) _ := hnw.2.1
    have t0 : _ = some (Value.int .i64 (t.k : Int)) := hbt.cell 0
    have hz2 := hnw.2.2
    have hf2 : s.size + 1 ≤ f + p := by rcases hf with h | h <;> omega
    clear ha hf hk RF hnw
    by_cases h64 : lv = 64
    · rw [if_pos h64]
      have DE := Lib.hid (fun w => deeper_end t lv h64 w)
      unfold tkV at DE
      clear ih h64
      go_enter Tryz.func17, Tryz.ntmps17
      go_wp2_with (refine Lx.wpList_fetch _ rfl _ rfl W.heap.size _ rfl hbt rfl ?_)
      refine (DE.out _).mono ?_
      rintro e w1 ⟨rfl, hb1⟩
      go_wp2_with fail
      exact ⟨rfl, .next (.of e0) hb1, ((h.next e0).next hb1).bel, rfl⟩
    · rw [if_neg h64]
      have hl1 : lv < 64 := by omega
      have hl2 : lv + 1 ≤ 64 := by omega
      have DY := Lib.hid (fun w => deeper_yes t lv hl1 w)
      have HL := Lib.hid (list_at f (lv + 1) w0 b s hs (fun t p W h ha hf => ih t (lv + 1) p W h ha hf hl2) hl2 p)
      generalize lst0 (nt s.data.toList) (fun t p => val (nt s.data.toList) f t (lv + 1) p) f p = R at *
      unfold tkV at DY
      clear ih h64 hl1 hl2
      go_enter Tryz.func17, Tryz.ntmps17
      go_wp2_with (refine Lx.wpList_fetch _ rfl _ rfl W.heap.size _ rfl hbt rfl ?_)
      refine (DY.out _).mono ?_
      rintro e w1 ⟨rfl, hb1⟩
      have p1 := (h.next e0).next hb1
      have o1 : Only b W w1 := .next (.of e0) hb1
      have bv1 := hbv.next hb1 (by omega)
      have hz1 := hb1.size
      go_wp2_with fail
      refine (HL.out w1 p1 hp hf2).mono ?_
      rintro e w2 hO
      cases R with
      | no o er =>
        obtain ⟨hO2, hB2, rfl⟩ := hO
        go_wp2_with fail
        exact ⟨rfl, o1.trans hO2, hB2, rfl⟩
      | ok v q =>
        obtain ⟨hO2, hP2, _, rfl, cs, rfl, hI⟩ := hO
        have bv2 := hO2.boxV bv1 (by omega)
        have hone := Tre.InS_one (Tre.InS_in _ _ hI)
        have h5 : cs.toArray.size = 5 := by simp [Tre.InS_five hI]
        have lw := Below.refl W.heap.size w2
        have HI := Lib.hid hI
        have o2 := o1.trans hO2
        clear hI hO2 bv1 hbv hbt t0
        go_wp2_with (refine Tre.wpList_keep _ rfl _ _ rfl W.heap.size _ lw (W.heap.size + 1) (by omega) _ _ rfl rfl bv2 rfl h5 (by simpa using hone) ?_; intro w9 bx9 hb9 hk9 hs9; clear hs9)
        (try simp only [Exit.inBlock, Exit.then])
        refine bodyPost_ret (Tre.results_val rfl _ _ _ _ rfl bx9 h5) rfl ?_
        exact ⟨o2.low2 hb9, hP2.low hb9 hbl hwz, _, rfl, _, rfl, InS_upd (fun b' hb' _ => ⟨hk9 b' (by omega), by omega⟩) _ _ HI.out⟩
  · rw [if_neg n11, if_neg n10, if_neg n9, if_neg n8, if_neg n7, if_neg n3, if_pos hk]
    have hbt : Box _ W.heap.size _ := hnw.1
    have hbv : Tre.Box _ (W.heap.size + 1) _ := hnw.2.1
    have t0 : _ = some (Value.int .i64 (t.k : Int)) := hbt.cell 0
    have hz2 := hnw.2.2
    have hf2 : s.size + 1 ≤ f + p := by rcases hf with h | h <;> omega
    clear ha hf hk RF hnw
    by_cases h64 : lv = 64
    · rw [if_pos h64]
      have DE := Lib.hid (fun w => deeper_end t lv h64 w)
      unfold tkV at DE
      clear ih h64
      go_enter Tryz.func17, Tryz.ntmps17
      go_wp2_with (refine Lx.wpList_fetch _ rfl _ rfl W.heap.size _ rfl hbt rfl ?_)
      refine (DE.out _).mono ?_
      rintro e w1 ⟨rfl, hb1⟩
      go_wp2_with fail
      exact ⟨rfl, .next (.of e0) hb1, ((h.next e0).next hb1).bel, rfl⟩
    · rw [if_neg h64]
      have hl1 : lv < 64 := by omega
      have hl2 : lv + 1 ≤ 64 := by omega
      have DY := Lib.hid (fun w => deeper_yes t lv hl1 w)
      have HL := Lib.hid (object_at f (lv + 1) w0 b s hs (fun t p W h ha hf => ih t (lv + 1) p W h ha hf hl2) hl2 p)
      generalize obj0 (nt s.data.toList) (fun t p => val (nt s.data.toList) f t (lv + 1) p) f p = R at *
      unfold tkV at DY
      clear ih h64 hl1 hl2
      go_enter Tryz.func17, Tryz.ntmps17
      go_wp2_with (refine Lx.wpList_fetch _ rfl _ rfl W.heap.size _ rfl hbt rfl ?_)
      refine (DY.out _).mono ?_
      rintro e w1 ⟨rfl, hb1⟩
      have p1 := (h.next e0).next hb1
      have o1 : Only b W w1 := .next (.of e0) hb1
      have bv1 := hbv.next hb1 (by omega)
      have hz1 := hb1.size
      go_wp2_with fail
      refine (HL.out w1 p1 hp hf2).mono ?_
      rintro e w2 hO
      cases R with
      | no o er =>
        obtain ⟨hO2, hB2, rfl⟩ := hO
        go_wp2_with fail
        exact ⟨rfl, o1.trans hO2, hB2, rfl⟩
      | ok v q =>
        obtain ⟨hO2, hP2, _, rfl, cs, rfl, hI⟩ := hO
        have bv2 := hO2.boxV bv1 (by omega)
        have hone := Tre.InS_one (Tre.InS_in _ _ hI)
        have h5 : cs.toArray.size = 5 := by simp [Tre.InS_five hI]
        have lw := Below.refl W.heap.size w2
        have HI := Lib.hid hI
        have o2 := o1.trans hO2
        clear hI hO2 bv1 hbv hbt t0
        go_wp2_with (refine Tre.wpList_keep _ rfl _ _ rfl W.heap.size _ lw (W.heap.size + 1) (by omega) _ _ rfl rfl bv2 rfl h5 (by simpa using hone) ?_; intro w9 bx9 hb9 hk9 hs9; clear hs9)
        (try simp only [Exit.inBlock, Exit.then])
        refine bodyPost_ret (Tre.results_val rfl _ _ _ _ rfl bx9 h5) rfl ?_
        exact ⟨o2.low2 hb9, hP2.low hb9 hbl hwz, _, rfl, _, rfl, InS_upd (fun b' hb' _ => ⟨hk9 b' (by omega), by omega⟩) _ _ HI.out⟩
  · rw [if_neg n11, if_neg n10, if_neg n9, if_neg n8, if_neg n7, if_neg n3, if_neg n1]
    have hbt : Box _ W.heap.size _ := hnw.1
    have t0 : _ = some (Value.int .i64 (t.k : Int)) := hbt.cell 0
    clear ih hf ha hnw
    unfold refu
    generalize (if t.k = 0 then 3 else 4) = er at *
    go_enter Tryz.func17, Tryz.ntmps17
    go_wp2_with (refine Lx.wpList_fetch _ rfl _ rfl W.heap.size _ rfl hbt rfl ?_)
    refine (RF.out _).mono ?_
    rintro e w1 ⟨rfl, hb1⟩
    go_wp2_with fail
    exact ⟨rfl, .next (.of e0) hb1, ((h.next e0).next hb1).bel, rfl⟩
end Go.Proofs.YtbpofhlnnldceaaGreatDoor.Par

namespace Go.Proofs.YtbpofhlnnldceaaGreatDoor.Par
open Go.RowKit Go.Lib Go.Proofs.YtbpofhlnnldceaaGreatDoor.Byt Go.Proofs.YtbpofhlnnldceaaGreatDoor.Lx
open Go.Proofs.YtbpofhlnnldceaaGreatDoor.Tre (Vt V0 InS InS_upd InS_iff)

/-- The three results in memory, from block H on. -/
structure Rw (H : Nat) (c0 : Array Value) (x y : Int) (W : World) : Prop where
  b0 : W.heap[H]? = some (.cells c0 25 (0, 0))
  b1 : W.heap[H + 1]? = some (.cells #[.int .i64 x] 3 (0, 0))
  b2 : W.heap[H + 2]? = some (.cells #[.int .i64 y] 29 (0, 0))

theorem heap_lt {w : World} {g : Nat} {o : Obj} (h : w.heap[g]? = some o) : g < w.heap.size := by
  rcases Nat.lt_or_ge g w.heap.size with h' | h'
  · exact h'
  · simp [Array.getElem?_eq_none h'] at h
theorem Rw.next {H : Nat} {c0 : Array Value} {x y : Int} {W W' : World} (h : Rw H c0 x y W) (hb : Below W.heap.size W W') : Rw H c0 x y W' :=
  ⟨(hb.block _ (heap_lt h.b0)).trans h.b0, (hb.block _ (heap_lt h.b1)).trans h.b1, (hb.block _ (heap_lt h.b2)).trans h.b2⟩
theorem Rw.two {H : Nat} {c0 : Array Value} {x y : Int} {W5 : World} (h : Rw H c0 x y W5) (x' y' : Int) : Rw H c0 x' y' ((W5.setCell ⟨H + 1, 0, none⟩ (.int .i64 x')).setCell ⟨H + 2, 0, none⟩ (.int .i64 y')) := by
  have e1 : (W5.setCell ⟨H + 1, 0, none⟩ (.int .i64 x')).heap[H + 1]? = some (.cells #[.int .i64 x'] 3 (0, 0)) := heap_setCell_same W5 (H + 1) 0 _ _ (.int .i64 x') h.b1
  have e0 := (heap_setCell_other W5 ⟨H + 1, 0, none⟩ H (.int .i64 x') (by show H ≠ H + 1; omega)).trans h.b0
  have e2 := (heap_setCell_other W5 ⟨H + 1, 0, none⟩ (H + 2) (.int .i64 x') (by show H + 2 ≠ H + 1; omega)).trans h.b2
  generalize W5.setCell ⟨H + 1, 0, none⟩ (.int .i64 x') = W6 at *
  have d2 : (W6.setCell ⟨H + 2, 0, none⟩ (.int .i64 y')).heap[H + 2]? = some (.cells #[.int .i64 y'] 29 (0, 0)) := heap_setCell_same W6 (H + 2) 0 _ _ (.int .i64 y') e2
  have d0 := (heap_setCell_other W6 ⟨H + 2, 0, none⟩ H (.int .i64 y') (by show H ≠ H + 2; omega)).trans e0
  have d1 := (heap_setCell_other W6 ⟨H + 2, 0, none⟩ (H + 1) (.int .i64 y') (by show H + 1 ≠ H + 2; omega)).trans e1
  exact ⟨d0, d1, d2⟩
theorem Rw.put {H : Nat} {a0 a1 a2 a3 a4 : Value} {x y : Int} {W : World} (h : Rw H #[a0, a1, a2, a3, a4] x y W) (u0 u1 u2 u3 u4 : Value) (x' y' : Int) :
    Rw H #[u0, u1, u2, u3, u4] x' y' (((((((W.setCell ⟨H, 0, none⟩ u0).setCell ⟨H, 1, none⟩ u1).setCell ⟨H, 2, none⟩ u2).setCell ⟨H, 3, none⟩ u3).setCell ⟨H, 4, none⟩ u4).setCell ⟨H + 1, 0, none⟩ (.int .i64 x')).setCell ⟨H + 2, 0, none⟩ (.int .i64 y')).drew := by
  have h0 : Tre.Box (((((W.setCell ⟨H, 0, none⟩ u0).setCell ⟨H, 1, none⟩ u1).setCell ⟨H, 2, none⟩ u2).setCell ⟨H, 3, none⟩ u3).setCell ⟨H, 4, none⟩ u4) H #[u0, u1, u2, u3, u4] :=
    heap_setCell_same _ H 4 _ _ u4 (heap_setCell_same _ H 3 _ _ u3 (heap_setCell_same _ H 2 _ _ u2 (heap_setCell_same _ H 1 _ _ u1 (heap_setCell_same W H 0 _ _ u0 h.b0))))
  have o1 : ∀ k, k ≠ H → (((((W.setCell ⟨H, 0, none⟩ u0).setCell ⟨H, 1, none⟩ u1).setCell ⟨H, 2, none⟩ u2).setCell ⟨H, 3, none⟩ u3).setCell ⟨H, 4, none⟩ u4).heap[k]? = W.heap[k]? := fun k hk => by
    rw [heap_setCell_other _ _ _ _ hk, heap_setCell_other _ _ _ _ hk, heap_setCell_other _ _ _ _ hk, heap_setCell_other _ _ _ _ hk, heap_setCell_other _ _ _ _ hk]
  generalize (((((W.setCell ⟨H, 0, none⟩ u0).setCell ⟨H, 1, none⟩ u1).setCell ⟨H, 2, none⟩ u2).setCell ⟨H, 3, none⟩ u3).setCell ⟨H, 4, none⟩ u4) = W5 at *
  have r := Rw.two (x := x) (y := y) ⟨h0, (o1 (H + 1) (by omega)).trans h.b1, (o1 (H + 2) (by omega)).trans h.b2⟩ x' y'
  exact ⟨r.b0, r.b1, r.b2⟩
theorem Rw.puts {w w3 : World} {H : Nat} (h : Below H w w3) (u0 u1 u2 u3 u4 u5 u6 : Value) :
    Below H w (((((((w3.setCell ⟨H, 0, none⟩ u0).setCell ⟨H, 1, none⟩ u1).setCell ⟨H, 2, none⟩ u2).setCell ⟨H, 3, none⟩ u3).setCell ⟨H, 4, none⟩ u4).setCell ⟨H + 1, 0, none⟩ u5).setCell ⟨H + 2, 0, none⟩ u6).drew :=
  (((((((h.setCell (p := ⟨H, 0, none⟩) (Nat.le_refl H) u0).setCell (p := ⟨H, 1, none⟩) (Nat.le_refl H) u1).setCell (p := ⟨H, 2, none⟩) (Nat.le_refl H) u2).setCell (p := ⟨H, 3, none⟩) (Nat.le_refl H) u3).setCell (p := ⟨H, 4, none⟩) (Nat.le_refl H) u4).setCell (p := ⟨H + 1, 0, none⟩) (by show H ≤ H + 1; omega) u5).setCell (p := ⟨H + 2, 0, none⟩) (by show H ≤ H + 2; omega) u6).drew
theorem hidR {a b : Prop} (h : a) (k : b) : Hid (a ∧ b) := Lib.hid ⟨h, k⟩
theorem run_assert (v : Value) (x : TypeId) (w : World) : (Instr.typeAssert (.iface 41 v) x 41 false).run Tryz.prog w = .ok v w := by
  simp [Instr.typeAssert, run_underlying Tryz.underlying41]
theorem catch_idle (x y z : Value) (w : World) :
    CallsD Tryz.prog 16 #[x, y, z] .returning w fun e u' w' => e = .returned (.tuple #[]) ∧ u' = .returning ∧ w' = w := by
  refine callsD_of_wpS Tryz.func16 rfl fun c₀ cs hu => ?_
  apply wpS_seq
  apply wpS_region
  simp [wpOpsS, go_sem, recoverD, hu, Tryz.ntmps16, Exit.thenS]
  refine wpS_of_wp ?_
  change Code.wp _ _ _ ⟨#[x, y, z, .nilIface, undef, .nilIface, undef, undef, undef, undef, undef, undef, undef, undef, undef], []⟩ w
  go_wp2_with fail
  cases c₀
  simp_all [bodyPostS, results, Tryz.results16]
set_option maxRecDepth 100000 in
set_option maxHeartbeats 1000000 in
theorem catch_fault (H : Nat) (c0 : Array Value) (x y : Int) (o er : Nat) (w : World) (h : Rw H c0 x y w) (h5 : c0.size = 5) :
    CallsD Tryz.prog 16 #[.pointer (some ⟨H, 0, none⟩), .pointer (some ⟨H + 1, 0, none⟩), .pointer (some ⟨H + 2, 0, none⟩)] (.panicking [{ v := .iface 41 (.agg #[.int .i64 (o : Int), .int .i64 (er : Int)]), recovered := false }]) w fun e u' w' =>
      e = .returned (.tuple #[]) ∧ u' = .panicking [{ v := .iface 41 (.agg #[.int .i64 (o : Int), .int .i64 (er : Int)]), recovered := true }] ∧
        Rw H #[.int .i64 0, .int .i64 0, .string ⟨#[]⟩, .slice none 0 0, .slice none 0 0] (o : Int) (er : Int) w' ∧ Below H w w' := by
  refine callsD_of_wpS Tryz.func16 rfl fun c₀ cs hu => ?_
  have hta := run_assert
  apply wpS_seq
  apply wpS_region
  simp [wpOpsS, go_sem, recoverD, hu, Tryz.ntmps16, Exit.thenS]
  refine wpS_of_wp ?_
  change Code.wp _ _ _ ⟨#[.pointer (some ⟨H, 0, none⟩), .pointer (some ⟨H + 1, 0, none⟩), .pointer (some ⟨H + 2, 0, none⟩), .iface 41 (.agg #[.int .i64 (o : Int), .int .i64 (er : Int)]), undef, .iface 41 (.agg #[.int .i64 (o : Int), .int .i64 (er : Int)]), undef, undef, undef, undef, undef, undef, undef, undef, undef], []⟩ w
  go_wp2_with fail
  obtain ⟨a0, a1, a2, a3, a4, rfl⟩ : ∃ a0 a1 a2 a3 a4, c0 = #[a0, a1, a2, a3, a4] := by
    obtain ⟨l⟩ := c0
    match l, h5 with
    | [a0, a1, a2, a3, a4], _ => exact ⟨_, _, _, _, _, rfl⟩
  have hb3 : Below w.heap.size w (w.alloc (.cells #[.int .i64 (o : Int), .int .i64 (er : Int)] 41)) := (Below.refl _ _).alloc (Nat.le_refl _) _
  have hg : (w.alloc (.cells #[.int .i64 (o : Int), .int .i64 (er : Int)] 41)).heap[w.heap.size]? = some (.cells #[.int .i64 (o : Int), .int .i64 (er : Int)] 41 (0, 0)) := heap_alloc_new _ _
  have hl0 := heap_lt h.b0
  have hl1 := heap_lt h.b1
  have hl2 := heap_lt h.b2
  have hr : Rw H #[a0, a1, a2, a3, a4] x y (w.alloc (.cells #[.int .i64 (o : Int), .int .i64 (er : Int)] 41)) := h.next hb3
  have hbl : Below H w (w.alloc (.cells #[.int .i64 (o : Int), .int .i64 (er : Int)] 41)) := hb3.mono (by omega)
  generalize w.alloc (.cells #[.int .i64 (o : Int), .int .i64 (er : Int)] 41) = w3 at *
  have n1 : ¬ w.heap.size = H := by omega
  have n2 : ¬ w.heap.size = H + 1 := by omega
  have n3 : ¬ w.heap.size = H + 2 := by omega
  generalize w.heap.size = g at *
  have g0 : w3.cell? ⟨g, 0, none⟩ = some (.int .i64 (o : Int)) := by rw [Lib.cell_of_heap hg]; rfl
  have g1 : w3.cell? ⟨g, 1, none⟩ = some (.int .i64 (er : Int)) := by rw [Lib.cell_of_heap hg]; rfl
  have k0 : w3.cell? ⟨H, 0, none⟩ = some a0 := by rw [Lib.cell_of_heap hr.b0]; rfl
  have k1 : w3.cell? ⟨H, 1, none⟩ = some a1 := by rw [Lib.cell_of_heap hr.b0]; rfl
  have k2 : w3.cell? ⟨H, 2, none⟩ = some a2 := by rw [Lib.cell_of_heap hr.b0]; rfl
  have k3 : w3.cell? ⟨H, 3, none⟩ = some a3 := by rw [Lib.cell_of_heap hr.b0]; rfl
  have k4 : w3.cell? ⟨H, 4, none⟩ = some a4 := by rw [Lib.cell_of_heap hr.b0]; rfl
  have kf : ∀ j, w3.frozen? ⟨H, j, none⟩ = false := Lib.frozen_of_heap hr.b0
  have k5 : w3.cell? ⟨H + 1, 0, none⟩ = some (.int .i64 x) := by rw [Lib.cell_of_heap hr.b1]; rfl
  have k6 : w3.cell? ⟨H + 2, 0, none⟩ = some (.int .i64 y) := by rw [Lib.cell_of_heap hr.b2]; rfl
  have f5 : w3.frozen? ⟨H + 1, 0, none⟩ = false := Lib.frozen_of_heap hr.b1 0
  have f6 : w3.frozen? ⟨H + 2, 0, none⟩ = false := Lib.frozen_of_heap hr.b2 0
  have HR := Lib.hid hr
  clear hr h hg hb3
  go_region
  have R4 := hidR (Rw.put HR.out (.int .i64 0) (.int .i64 0) (.string ⟨#[]⟩) (.slice none 0 0) (.slice none 0 0) (o : Int) (er : Int)) (Rw.puts (w := w) (H := H) hbl (.int .i64 0) (.int .i64 0) (.string ⟨#[]⟩) (.slice none 0 0) (.slice none 0 0) (.int .i64 (o : Int)) (.int .i64 (er : Int)))
  clear HR hbl g0 g1 k0 k1 k2 k3 k4 k5 k6 kf f5 f6
  generalize (((((((w3.setCell ⟨H, 0, none⟩ (.int .i64 0)).setCell ⟨H, 1, none⟩ (.int .i64 0)).setCell ⟨H, 2, none⟩ (.string ⟨#[]⟩)).setCell ⟨H, 3, none⟩ (.slice none 0 0)).setCell ⟨H, 4, none⟩ (.slice none 0 0)).setCell ⟨H + 1, 0, none⟩ (.int .i64 (o : Int))).setCell ⟨H + 2, 0, none⟩ (.int .i64 (er : Int))).drew = w4 at *
  go_wp2_with fail
  cases c₀
  simp_all [bodyPostS, results, Tryz.results16]
  exact R4.out

/-- What Parse says: the value, where the fault stands, which it is. -/
def pV : Rs Vt → Vt | .ok v _ => v | .no _ _ => V0
def pO : Rs Vt → Nat | .ok _ _ => 0 | .no o _ => o
def pE : Rs Vt → Nat | .ok _ _ => 0 | .no _ e => e
def prS (s : ByteArray) : Rs Vt := prs 8000002 s.data.toList
abbrev zeroV : Value := .agg #[.int .i64 0, .int .i64 0, .string ⟨#[]⟩, .slice none 0 0, .slice none 0 0]
/-- How Parse ends. -/
def OutP (w : World) (R : Rs Vt) (e : Ending) (w' : World) : Prop :=
  (match R with
  | .ok v _ => ∃ cs : List Value, e = .returned (.tuple #[.agg cs.toArray, .int .i64 0, .int .i64 0]) ∧ InS (fun k => w.heap.size ≤ k) w' v cs
  | .no o er => e = .returned (.tuple #[zeroV, .int .i64 (o : Int), .int .i64 (er : Int)])) ∧ Below w.heap.size w w'
/-- The same, said of both ends at once. -/
theorem OutP.all {w w' : World} {R : Rs Vt} {e : Ending} (h : OutP w R e w') :
    ∃ cs : List Value, e = .returned (.tuple #[.agg cs.toArray, .int .i64 (pO R : Int), .int .i64 (pE R : Int)]) ∧ InS (fun k => w.heap.size ≤ k) w' (pV R) cs ∧ Below w.heap.size w w' := by
  obtain ⟨h, hb⟩ := h
  cases R with
  | ok v p =>
    obtain ⟨cs, he, hI⟩ := h
    exact ⟨cs, he, hI, hb⟩
  | no o er => exact ⟨_, h, scal_in _ _ _ _ _, hb⟩
theorem results_three (tmps : Array Value) {H : Nat} {c0 : Array Value} {x y : Int} {w : World} (h0 : tmps.getD 2 undef = .pointer (some ⟨H, 0, none⟩)) (h1 : tmps.getD 3 undef = .pointer (some ⟨H + 1, 0, none⟩)) (h2 : tmps.getD 4 undef = .pointer (some ⟨H + 2, 0, none⟩))
    (hr : Rw H c0 x y w) (h5 : c0.size = 5) : (results Tryz.f10 tmps).run Tryz.prog w = .ok (.tuple #[.agg c0, .int .i64 x, .int .i64 y]) w := by
  obtain ⟨a0, a1, a2, a3, a4, rfl⟩ : ∃ a0 a1 a2 a3 a4, c0 = #[a0, a1, a2, a3, a4] := by
    obtain ⟨l⟩ := c0
    match l, h5 with
    | [a0, a1, a2, a3, a4], _ => exact ⟨_, _, _, _, _, rfl⟩
  have h0' : tmps[2]?.getD undef = .pointer (some ⟨H, 0, none⟩) := by simpa using h0
  have h1' : tmps[3]?.getD undef = .pointer (some ⟨H + 1, 0, none⟩) := by simpa using h1
  have h2' : tmps[4]?.getD undef = .pointer (some ⟨H + 2, 0, none⟩) := by simpa using h2
  have k0 : w.cell? ⟨H, 0, none⟩ = some a0 := by rw [Lib.cell_of_heap hr.b0]; rfl
  have k1 : w.cell? ⟨H, 1, none⟩ = some a1 := by rw [Lib.cell_of_heap hr.b0]; rfl
  have k2 : w.cell? ⟨H, 2, none⟩ = some a2 := by rw [Lib.cell_of_heap hr.b0]; rfl
  have k3 : w.cell? ⟨H, 3, none⟩ = some a3 := by rw [Lib.cell_of_heap hr.b0]; rfl
  have k4 : w.cell? ⟨H, 4, none⟩ = some a4 := by rw [Lib.cell_of_heap hr.b0]; rfl
  have k5 : w.cell? ⟨H + 1, 0, none⟩ = some (.int .i64 x) := by rw [Lib.cell_of_heap hr.b1]; rfl
  have k6 : w.cell? ⟨H + 2, 0, none⟩ = some (.int .i64 y) := by rw [Lib.cell_of_heap hr.b2]; rfl
  simp [results, Tryz.results10, h0', h1', h2', asAddr, go_sem, k0, k1, k2, k3, k4, k5, k6]
/-- The deferred closure, as Parse lays it. -/
def clo (H : Nat) : Deferred := { target := .fn (.func 16) #[.pointer (some ⟨H, 0, none⟩), .pointer (some ⟨H + 1, 0, none⟩), .pointer (some ⟨H + 2, 0, none⟩)], args := #[] }
section
variable {tmps : Array Value} {H : Nat} {c0 : Array Value} {x y : Int} {w : World} {R : Ending → World → Prop}
theorem leave_ok (h0 : tmps.getD 2 undef = .pointer (some ⟨H, 0, none⟩)) (h1 : tmps.getD 3 undef = .pointer (some ⟨H + 1, 0, none⟩)) (h2 : tmps.getD 4 undef = .pointer (some ⟨H + 2, 0, none⟩))
    (hr : Rw H c0 x y w) (h5 : c0.size = 5) (hR : R (.returned (.tuple #[.agg c0, .int .i64 x, .int .i64 y])) w) : Leaves Tryz.prog Tryz.f10 tmps R [clo H] .returning w := by
  refine leaves_cons (f := 16) (args := #[.pointer (some ⟨H, 0, none⟩), .pointer (some ⟨H + 1, 0, none⟩), .pointer (some ⟨H + 2, 0, none⟩)]) (by simp) (by simp [go_sem]) ?_
  refine (catch_idle _ _ _ _).mono ?_
  rintro e u' w'' ⟨rfl, rfl, rfl⟩
  exact ⟨_, results_three tmps h0 h1 h2 hr h5, hR⟩
theorem leave_fault (h0 : tmps.getD 2 undef = .pointer (some ⟨H, 0, none⟩)) (h1 : tmps.getD 3 undef = .pointer (some ⟨H + 1, 0, none⟩)) (h2 : tmps.getD 4 undef = .pointer (some ⟨H + 2, 0, none⟩))
    (hr : Rw H c0 x y w) (h5 : c0.size = 5) (o er : Nat) (hR : ∀ w', Below H w w' → R (.returned (.tuple #[.agg #[.int .i64 0, .int .i64 0, .string ⟨#[]⟩, .slice none 0 0, .slice none 0 0], .int .i64 (o : Int), .int .i64 (er : Int)])) w') :
    Leaves Tryz.prog Tryz.f10 tmps R [clo H] (.panicking (Fp o er)) w := by
  refine leaves_cons (f := 16) (args := #[.pointer (some ⟨H, 0, none⟩), .pointer (some ⟨H + 1, 0, none⟩), .pointer (some ⟨H + 2, 0, none⟩)]) (by simp) (by simp [go_sem]) ?_
  refine (catch_fault H c0 x y o er w hr h5).mono ?_
  rintro e u' w'' ⟨rfl, rfl, hr2, hb2⟩
  exact ⟨_, results_three tmps h0 h1 h2 hr2 rfl, hR _ hb2⟩
end
theorem Rw.only {H b : Nat} {c0 : Array Value} {x y : Int} {W W' : World} (h : Rw H c0 x y W) (k : Only b W W') (hb : H + 2 < b) : Rw H c0 x y W' :=
  ⟨(k.at_ (heap_lt h.b0) (by omega)).trans h.b0, (k.at_ (heap_lt h.b1) (by omega)).trans h.b1, (k.at_ (heap_lt h.b2) (by omega)).trans h.b2⟩
abbrev pW (w : World) (s : ByteArray) : World := (((w.alloc (.cells #[.int .i64 0, .int .i64 0, .string ⟨#[]⟩, .slice none 0 0, .slice none 0 0] 25)).alloc (.cells #[.int .i64 0] 3)).alloc (.cells #[.int .i64 0] 29)).alloc (.cells #[.string s, .int .i64 0] 43)
theorem parse_new (w : World) (s : ByteArray) (hE : Env w) : Rw w.heap.size #[.int .i64 0, .int .i64 0, .string ⟨#[]⟩, .slice none 0 0, .slice none 0 0] 0 0 (pW w s) ∧ Pr w (w.heap.size + 3) s 0 (pW w s) := by
  obtain ⟨h1, h2, h3⟩ := two_new w #[.int .i64 0, .int .i64 0, .string ⟨#[]⟩, .slice none 0 0, .slice none 0 0] #[.int .i64 0] 25 3
  have hb : Below w.heap.size w ((w.alloc (.cells #[.int .i64 0, .int .i64 0, .string ⟨#[]⟩, .slice none 0 0, .slice none 0 0] 25)).alloc (.cells #[.int .i64 0] 3)) := ((Below.refl _ _).alloc (Nat.le_refl _) _).alloc (by simp) _
  unfold pW
  generalize (w.alloc (.cells #[.int .i64 0, .int .i64 0, .string ⟨#[]⟩, .slice none 0 0, .slice none 0 0] 25)).alloc (.cells #[.int .i64 0] 3) = W2 at *
  obtain ⟨k1, k2, k3⟩ := two_new W2 #[.int .i64 0] #[.string s, .int .i64 0] 29 43
  have hb2 : Below w.heap.size w ((W2.alloc (.cells #[.int .i64 0] 29)).alloc (.cells #[.string s, .int .i64 0] 43)) := (hb.alloc (by omega) _).alloc (by simp; omega) _
  have keep : ∀ k, k < W2.heap.size → ((W2.alloc (.cells #[.int .i64 0] 29)).alloc (.cells #[.string s, .int .i64 0] 43)).heap[k]? = W2.heap[k]? := fun k hk =>
    (Below.heap_alloc _ _ _ (by simp; omega)).trans (Below.heap_alloc _ _ _ hk)
  rw [h3] at k1 k2
  exact ⟨⟨(keep _ (by omega)).trans h1, (keep _ (by omega)).trans h2, k1⟩, ⟨by omega, k2, hb2, hE⟩⟩
set_option maxRecDepth 100000 in
set_option maxHeartbeats 4000000 in
theorem parse_any (s : ByteArray) (hs : s.size ≤ 8000000) (w : World) (hE : Env w) : Calls Tryz.prog 10 #[.string s] w (OutP w (prS s)) := by
  have hmf : ∀ (fn : Fn) (first cap : Array Value) (w : World), (Instr.makeFunc fn first cap).run Tryz.prog w = .ok (.func fn first cap) w := fun _ _ _ _ => rfl
  obtain ⟨hrw, hpr⟩ := parse_new w s hE
  have hgd := nt_good s.data.toList 0 (Nat.zero_le _)
  have hsl : s.data.toList.length = s.size := by simp
  have N0 := fun W (hw : Pr w (w.heap.size + 3) s 0 W) => next_at w (w.heap.size + 3) s 0 W hw hs (Nat.zero_le _)
  unfold prS prs
  cases hn : nt s.data.toList 0 with
  | no o er =>
    rw [hn] at N0
    have HN := Lib.hid N0
    clear N0 hgd hn
    go_enter_defers Tryz.func10, Tryz.ntmps10
    go_wp2_with fail
    refine (HN.out _ hpr).mono ?_
    rintro e w1 ⟨hO1, hB1, rfl⟩
    go_wp2_with fail
    exact leave_fault (H := w.heap.size) rfl rfl rfl (hrw.only hO1 (by omega)) rfl o er fun w' hb => ⟨rfl, hB1.trans hb⟩
  | ok t p =>
    rw [hn] at N0 hgd
    obtain ⟨_, hp, hat, _⟩ := hgd
    have hp2 : p ≤ s.size := by omega
    have V0' : ∀ W, Pr w (w.heap.size + 3) s p W → Calls Tryz.prog 17 #[.pointer (some ⟨w.heap.size + 3, 0, none⟩), tkV t, .int .i64 0] W (Out w (w.heap.size + 3) s W (VV W) (val (nt s.data.toList) 8000002 t 0 p)) :=
      fun W hw => value_at w (w.heap.size + 3) s hs 8000002 t 0 p W hw hat (.inl (by omega)) (by omega)
    have hgv := val_good (l := s.data.toList) (by omega) 8000002 t 0 p hat (.inl (by omega)) (by omega)
    show Calls _ _ _ _ (OutP w (bnd (val (nt s.data.toList) 8000002 t 0 p) _))
    unfold tkV at N0 V0'
    have HN := Lib.hid N0
    clear N0 hn hat
    cases hv : val (nt s.data.toList) 8000002 t 0 p with
    | no o er =>
      rw [hv] at V0'
      have HV := Lib.hid V0'
      clear V0' hv hgv
      go_enter_defers Tryz.func10, Tryz.ntmps10
      go_wp2_with fail
      refine (HN.out _ hpr).mono ?_
      rintro e w1 ⟨hO1, hP1, _, rfl, rfl⟩
      go_wp2_with fail
      refine (HV.out _ hP1).mono ?_
      rintro e w2 ⟨hO2, hB2, rfl⟩
      go_wp2_with fail
      exact leave_fault (H := w.heap.size) rfl rfl rfl (hrw.only (hO1.trans hO2) (by omega)) rfl o er fun w' hb => ⟨rfl, hB2.trans hb⟩
    | ok v q =>
      rw [hv] at V0' hgv
      have HV := Lib.hid V0'
      have hq : q ≤ s.size := by have := hgv.2.1; omega
      have M0 := fun W (hw : Pr w (w.heap.size + 3) s q W) => next_at w (w.heap.size + 3) s q W hw hs hq
      show Calls _ _ _ _ (OutP w (bnd (nt s.data.toList q) _))
      clear V0' hv hgv
      cases hn2 : nt s.data.toList q with
      | no o er =>
        rw [hn2] at M0
        have HM := Lib.hid M0
        clear M0 hn2
        go_enter_defers Tryz.func10, Tryz.ntmps10
        go_wp2_with fail
        refine (HN.out _ hpr).mono ?_
        rintro e w1 ⟨hO1, hP1, _, rfl, rfl⟩
        go_wp2_with fail
        refine (HV.out _ hP1).mono ?_
        rintro e w2 ⟨hO2, hP2, _, rfl, cs, rfl, hI⟩
        have r2 := hrw.only (hO1.trans hO2) (by omega)
        have hone := Tre.InS_one (Tre.InS_in _ _ hI)
        have h5 : cs.toArray.size = 5 := by simp [Tre.InS_five hI]
        have lw := hP2.bel
        have bx2 : Tre.Box w2 w.heap.size _ := r2.b0
        clear hI
        go_wp2_with (refine Tre.wpList_keep _ rfl _ _ rfl w.heap.size _ lw w.heap.size (Nat.le_refl _) _ _ rfl rfl bx2 rfl h5 (by simpa using hone) ?_; intro w9 bx9 hb9 hk9 hs9; have r9 : Rw w.heap.size cs.toArray 0 0 w9 := ⟨bx9, (hk9 _ (by omega)).trans r2.b1, (hk9 _ (by omega)).trans r2.b2⟩; have p9 := hP2.beside hb9 (hk9 _ (by omega)); clear hs9)
        refine (HM.out _ p9).mono ?_
        rintro e w3 ⟨hO3, hB3, rfl⟩
        go_wp2_with fail
        exact leave_fault (H := w.heap.size) rfl rfl rfl (r9.only hO3 (by omega)) h5 o er fun w' hb => ⟨rfl, hB3.trans hb⟩
      | ok t2 q2 =>
        rw [hn2] at M0
        have HM := Lib.hid M0
        clear M0 hn2
        show Calls _ _ _ _ (OutP w (if t2.k = 0 then .ok v q2 else .no t2.o 7))
        unfold tkV at HM
        by_cases h0 : t2.k = 0
        · rw [if_pos h0]
          have hkb : ((t2.k : Int) != 0) = false := by rw [h0]; rfl
          clear h0
          go_enter_defers Tryz.func10, Tryz.ntmps10
          go_wp2_with fail
          refine (HN.out _ hpr).mono ?_
          rintro e w1 ⟨hO1, hP1, _, rfl, rfl⟩
          go_wp2_with fail
          refine (HV.out _ hP1).mono ?_
          rintro e w2 ⟨hO2, hP2, _, rfl, cs, rfl, hI⟩
          have r2 := hrw.only (hO1.trans hO2) (by omega)
          have hone := Tre.InS_one (Tre.InS_in _ _ hI)
          have h5 : cs.toArray.size = 5 := by simp [Tre.InS_five hI]
          have lw := hP2.bel
          have bx2 : Tre.Box w2 w.heap.size _ := r2.b0
          have hz1 : w.heap.size + 4 ≤ w1.heap.size := by have := hP1.lt; omega
          have HI := Lib.hid hI
          clear hI
          go_wp2_with (refine Tre.wpList_keep _ rfl _ _ rfl w.heap.size _ lw w.heap.size (Nat.le_refl _) _ _ rfl rfl bx2 rfl h5 (by simpa using hone) ?_; intro w9 bx9 hb9 hk9 hs9; have r9 : Rw w.heap.size cs.toArray 0 0 w9 := ⟨bx9, (hk9 _ (by omega)).trans r2.b1, (hk9 _ (by omega)).trans r2.b2⟩; have p9 := hP2.beside hb9 (hk9 _ (by omega)); clear hs9)
          have HI9 := Lib.hid (InS_upd (S' := fun k => w1.heap.size ≤ k) (fun b' hb' _ => ⟨hk9 b' (by omega), hb'⟩) _ _ HI.out)
          refine (HM.out _ p9).mono ?_
          rintro e w3 ⟨hO3, hP3, _, rfl, rfl⟩
          have e3 : Below w3.heap.size w3 (w3.alloc (.cells #[.int .i64 (t2.k : Int), .int .i64 (t2.o : Int), .int .i64 (t2.z : Int), .string ⟨t2.v.toArray⟩, .int .i64 t2.n] 46)) := (Below.refl _ _).alloc (Nat.le_refl _) _
          have r4 := (r9.only hO3 (by omega)).next e3
          have bx4 : Tre.Box _ w.heap.size cs.toArray := r4.b0
          have hb4 := hP3.bel.trans (e3.mono hP3.bel.size)
          have HI4 := Lib.hid (InS_upd (S' := fun k => w1.heap.size ≤ k) (fun b' hb' hl => ⟨((Only.of (b := w.heap.size + 3) e3).at_ (by have := hO3.size; omega) (by omega)).trans (hO3.at_ hl (by omega)), hb'⟩) _ _ HI9.out)
          clear bx9 hk9 hb9 r9 p9 hO1 hO2 hP1 hP2 r2 lw bx2 hrw hpr
          go_wp2_with (first
            | (refine Tre.wpList_fetch _ rfl _ rfl w.heap.size _ rfl bx4 h5 ?_)
            | (refine Tre.wpList_keep _ rfl _ _ rfl w.heap.size _ hb4 w.heap.size (Nat.le_refl _) _ _ rfl rfl bx4 h5 h5 (by simpa using hone) ?_; intro w10 bx10 hb10 hk10 hs10; have r10 : Rw w.heap.size cs.toArray 0 0 w10 := ⟨bx10, (hk10 _ (by omega)).trans r4.b1, (hk10 _ (by omega)).trans r4.b2⟩; have c5 : w10.cell? ⟨w.heap.size + 1, 0, none⟩ = some (.int .i64 0) := (by rw [Lib.cell_of_heap r10.b1]; rfl); have c6 : w10.cell? ⟨w.heap.size + 1 + 1, 0, none⟩ = some (.int .i64 0) := (by rw [Lib.cell_of_heap r10.b2]; rfl); have f5 : w10.frozen? ⟨w.heap.size + 1, 0, none⟩ = false := Lib.frozen_of_heap r10.b1 0; have f6 : w10.frozen? ⟨w.heap.size + 1 + 1, 0, none⟩ = false := Lib.frozen_of_heap r10.b2 0; clear hs10))
          have HI10 := InS_upd (S' := fun k => w1.heap.size ≤ k) (fun b' hb' _ => ⟨hk10 b' (by omega), hb'⟩) _ _ HI4.out
          refine leave_ok (H := w.heap.size) rfl rfl rfl (r10.two 0 0) h5 ⟨⟨_, rfl, ?_⟩, ?_⟩
          · refine InS_upd (fun b' hb' _ => ⟨?_, by omega⟩) _ _ HI10
            exact (heap_setCell_other _ ⟨w.heap.size + 2, 0, none⟩ b' _ (by show b' ≠ w.heap.size + 2; omega)).trans (heap_setCell_other _ ⟨w.heap.size + 1, 0, none⟩ b' _ (by show b' ≠ w.heap.size + 1; omega))
          · exact (hb10.setCell (p := ⟨w.heap.size + 1, 0, none⟩) (by show w.heap.size ≤ w.heap.size + 1; omega) _).setCell (p := ⟨w.heap.size + 2, 0, none⟩) (by show w.heap.size ≤ w.heap.size + 2; omega) _
        · rw [if_neg h0]
          have hkb : ((t2.k : Int) != 0) = true := by rw [bne_iff_ne]; omega
          clear h0
          go_enter_defers Tryz.func10, Tryz.ntmps10
          go_wp2_with fail
          refine (HN.out _ hpr).mono ?_
          rintro e w1 ⟨hO1, hP1, _, rfl, rfl⟩
          go_wp2_with fail
          refine (HV.out _ hP1).mono ?_
          rintro e w2 ⟨hO2, hP2, _, rfl, cs, rfl, hI⟩
          have r2 := hrw.only (hO1.trans hO2) (by omega)
          have hone := Tre.InS_one (Tre.InS_in _ _ hI)
          have h5 : cs.toArray.size = 5 := by simp [Tre.InS_five hI]
          have lw := hP2.bel
          have bx2 : Tre.Box w2 w.heap.size _ := r2.b0
          clear hI
          go_wp2_with (refine Tre.wpList_keep _ rfl _ _ rfl w.heap.size _ lw w.heap.size (Nat.le_refl _) _ _ rfl rfl bx2 rfl h5 (by simpa using hone) ?_; intro w9 bx9 hb9 hk9 hs9; have r9 : Rw w.heap.size cs.toArray 0 0 w9 := ⟨bx9, (hk9 _ (by omega)).trans r2.b1, (hk9 _ (by omega)).trans r2.b2⟩; have p9 := hP2.beside hb9 (hk9 _ (by omega)); clear hs9)
          refine (HM.out _ p9).mono ?_
          rintro e w3 ⟨hO3, hP3, _, rfl, rfl⟩
          have e3 : Below w3.heap.size w3 (w3.alloc (.cells #[.int .i64 (t2.k : Int), .int .i64 (t2.o : Int), .int .i64 (t2.z : Int), .string ⟨t2.v.toArray⟩, .int .i64 t2.n] 46)) := (Below.refl _ _).alloc (Nat.le_refl _) _
          have r4 := (r9.only hO3 (by omega)).next e3
          have hb4 := hP3.bel.trans (e3.mono hP3.bel.size)
          clear bx9 hk9 hb9 r9 p9 hO1 hO2 hP1 hP2 r2 lw bx2 hrw hpr hO3 hP3 e3
          go_wp2_with fail
          exact leave_fault (H := w.heap.size) rfl rfl rfl r4 h5 t2.o 7 fun w' hb => ⟨rfl, hb4.trans hb⟩
end Go.Proofs.YtbpofhlnnldceaaGreatDoor.Par

namespace Go.Proofs.YtbpofhlnnldceaaGreatDoor.Par
open Go.RowKit Go.Lib Go.Proofs.YtbpofhlnnldceaaGreatDoor.Byt Go.Proofs.YtbpofhlnnldceaaGreatDoor.Lx
open Go.Proofs.YtbpofhlnnldceaaGreatDoor.Tre (Vt V0 InS InV InS_upd InS_iff InV_iff)

/-- What a law's walk carries: what was there stays, the tables too. -/
structure Io (w W : World) : Prop where
  env0 : Env w
  bel : Below w.heap.size w W
theorem Io.env {w W : World} (h : Io w W) : Env W := h.env0.next h.bel
theorem Io.next {w W W' : World} (h : Io w W) (k : Below W.heap.size W W') : Io w W' := ⟨h.env0, h.bel.trans (k.mono h.bel.size)⟩
theorem Io.alloc {w W : World} (h : Io w W) (o : Obj) : Io w (W.alloc o) := h.next ((Below.refl _ _).alloc (Nat.le_refl _) o)
theorem Io.drew {w W : World} (h : Io w W) : Io w W.drew := ⟨h.env0, h.bel.drew⟩

abbrev a1 : ByteArray := ⟨#[123, 34, 97, 34, 58, 91, 49, 44, 116, 114, 117, 101, 93, 125]⟩
abbrev vA : Vt := .mk 5 0 ⟨#[]⟩ [.mk 4 0 ⟨#[]⟩ [.mk 2 1 ⟨#[]⟩ [] [], .mk 1 1 ⟨#[]⟩ [] []] []] [⟨#[97]⟩]
theorem aw1 : prS a1 = .ok vA 14 := by kernel_rfl
theorem aw2 : prS ⟨#[123, 34, 97, 34, 58, 49, 44, 34, 97, 34, 58, 50, 125]⟩ = .no 7 11 := by kernel_rfl
theorem aw3 : prS ⟨#[91, 49]⟩ = .no 2 3 := by kernel_rfl
theorem aw4 : prS ⟨#[49, 32, 50]⟩ = .no 2 7 := by kernel_rfl
theorem open_aw {w : World} {cs : List Value} (h : InV w vA cs) : ∃ b off cap nb noff ncap b2 off2 cap2, cs = [.int .i64 5, .int .i64 0, .string ⟨#[]⟩, .slice (some ⟨b, off, none⟩) 1 cap, .slice (some ⟨nb, noff, none⟩) 1 ncap] ∧
    w.cell? ⟨nb, noff, none⟩ = some (.string ⟨#[97]⟩) ∧ w.cell? ⟨b, off + 3, none⟩ = some (.slice (some ⟨b2, off2, none⟩) 2 cap2) ∧ w.cell? ⟨b2, off2 + 5 + 1, none⟩ = some (.int .i64 1) := by
  obtain ⟨a, cap, c4, rfl, hit, hr⟩ := (InV_iff w vA cs).1 h
  obtain ⟨b, off, rfl, ds, hR, hd⟩ := hit 0 (by decide)
  obtain ⟨na, ncap, rfl, hn⟩ := hr.open_
  obtain ⟨nb, noff, rfl, hc⟩ := hn 0 (by decide)
  obtain ⟨a2, cap2, d4, rfl, hit2, _⟩ := (InV_iff w _ ds).1 hd
  obtain ⟨b2, off2, rfl, es, hR2, he⟩ := hit2 1 (by decide)
  obtain ⟨a3, cap3, e4, rfl, _, _⟩ := (InV_iff w _ es).1 he
  refine ⟨b, off, cap, nb, noff, ncap, b2, off2, cap2, rfl, hc, hR 3 _ rfl, ?_⟩
  have := hR2 1 _ rfl
  exact this
theorem pno {s : ByteArray} {o e : Nat} (h : prS s = .no o e) (hs : s.size ≤ 8000000) (w W : World) (hw : Io w W) :
    Calls Tryz.prog 10 #[.string s] W fun e' w' => e' = .returned (.tuple #[zeroV, .int .i64 (o : Int), .int .i64 (e : Int)]) ∧ Below W.heap.size W w' := by
  have := parse_any s hs W hw.env
  rw [h] at this
  exact this.mono fun _ _ k => ⟨k.1, k.2⟩
theorem pok {s : ByteArray} {v : Vt} {p : Nat} (h : prS s = .ok v p) (hs : s.size ≤ 8000000) (w W : World) (hw : Io w W) :
    Calls Tryz.prog 10 #[.string s] W fun e' w' => ∃ cs : List Value, e' = .returned (.tuple #[.agg cs.toArray, .int .i64 0, .int .i64 0]) ∧ InS (fun k => W.heap.size ≤ k) w' v cs ∧ Below W.heap.size W w' := by
  have := parse_any s hs W hw.env
  rw [h] at this
  exact this.mono fun _ _ ⟨⟨cs, k1, k2⟩, k3⟩ => ⟨cs, k1, k2, k3⟩
theorem below_at {w W : World} {b j : Nat} {v : Value} (h : Below w.heap.size w W) (hc : w.cell? ⟨b, j, none⟩ = some v) : W.cell? ⟨b, j, none⟩ = some v := (h.cell (Strs.cell_lt hc)).trans hc

end Go.Proofs.YtbpofhlnnldceaaGreatDoor.Par
