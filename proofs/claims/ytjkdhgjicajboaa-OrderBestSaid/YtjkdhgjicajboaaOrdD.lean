/- The law OrderBest. Conditions: as each theorem states. -/
import Derived.Test.YtjkdhgjicajboaaOrdC
import Derived.Deep.RegionHeld3
namespace Go.Proofs.Ytjkdhgjicajboaa.Ord
open Go.RowKit Go.Lib Go.Proofs.Ytjkdhgjicajboaa.Byt Go.Proofs.Ytjkdhgjicajboaa.Rou Go.Proofs.Ytjkdhgjicajboaa.Mat

/-! ### plain -/
/-- l from place m on, turned about. -/
def bkL (l : List ByteArray) (m : Nat) : List ByteArray := (l.drop m).reverse
theorem bkL_all (l : List ByteArray) : bkL l 0 = l.reverse := by unfold bkL; rw [List.drop_zero]
theorem bkL_none (l : List ByteArray) : bkL l l.length = [] := by unfold bkL; rw [List.drop_length]; rfl
theorem bkL_next {l : List ByteArray} {j : Nat} (h : j < l.length) : bkL l (j + 1) ++ [ga l j] = bkL l j := by
  unfold bkL
  rw [List.drop_eq_getElem_cons h, List.reverse_cons]
  unfold ga
  rw [List.getD_eq_getElem?_getD, List.getElem?_eq_getElem h]
  rfl
theorem bkL_len (l : List ByteArray) (m : Nat) : (bkL l m).length ≤ l.length := by unfold bkL; rw [List.length_reverse, List.length_drop]; omega
/-- What both answers are. -/
theorem be_both (l : List ByteArray) (s : ByteArray) :
    (beI l s l.length = -1 ∧ beI l.reverse s l.reverse.length = -1 ∧ ∀ j, j < l.length → matB (ga l j) s = false) ∨
    ∃ n m : Nat, beI l s l.length = (n : Int) ∧ beI l.reverse s l.reverse.length = (m : Int) ∧ n < l.length ∧ m < l.length ∧ matB (ga l n) s = true ∧ ga l.reverse m = ga l n ∧ ∀ j, j < l.length → matB (ga l j) s = true → ls (ga l j) (ga l n) = false := by
  have h1 := bst_bs (fun p => matB p s) l l.length
  have h2 := bst_bs (fun p => matB p s) l.reverse l.reverse.length
  rw [List.length_reverse] at h2
  have h3 := bst_rev h1 h2
  unfold beI
  rw [List.length_reverse]
  rcases h3 with ⟨e1, e2⟩ | h3
  · left
    refine ⟨e1, e2, ?_⟩
    rcases h1 with ⟨_, h⟩ | ⟨n, e, _⟩
    · exact h
    · rw [e1] at e; omega
  · exact .inr h3

/-! ### cells of what was there, and the row under way -/
theorem so_next {w0 W W' : World} {b o1 : Nat} {x : ByteArray} {B : Nat} {v : Value} {bk : List ByteArray} (h : Below w0.heap.size w0 W ∧ Strs.Own W B v bk ∧ W.cell? ⟨b, o1, none⟩ = some (.string x)) (hb : Below W.heap.size W W') :
    Below w0.heap.size w0 W' ∧ Strs.Own W' B v bk ∧ W'.cell? ⟨b, o1, none⟩ = some (.string x) :=
  ⟨h.1.trans (hb.mono h.1.size), h.2.1.next hb, (hb.cell (Strs.cell_lt h.2.2)).trans h.2.2⟩
theorem so2_next {w0 W W' : World} {b o1 o2 : Nat} {x y : ByteArray} {B : Nat} {v : Value} {bk : List ByteArray} (h : Below w0.heap.size w0 W ∧ Strs.Own W B v bk ∧ W.cell? ⟨b, o1, none⟩ = some (.string x) ∧ W.cell? ⟨b, o2, none⟩ = some (.string y)) (hb : Below W.heap.size W W') :
    Below w0.heap.size w0 W' ∧ Strs.Own W' B v bk ∧ W'.cell? ⟨b, o1, none⟩ = some (.string x) ∧ W'.cell? ⟨b, o2, none⟩ = some (.string y) :=
  ⟨h.1.trans (hb.mono h.1.size), h.2.1.next hb, (hb.cell (Strs.cell_lt h.2.2.1)).trans h.2.2.1, (hb.cell (Strs.cell_lt h.2.2.2)).trans h.2.2.2⟩
theorem sc_next {w0 W W' : World} {b o1 g o2 : Nat} {x y : ByteArray} (h : Below w0.heap.size w0 W ∧ W.cell? ⟨b, o1, none⟩ = some (.string x) ∧ W.cell? ⟨g, o2, none⟩ = some (.string y)) (hb : Below W.heap.size W W') :
    Below w0.heap.size w0 W' ∧ W'.cell? ⟨b, o1, none⟩ = some (.string x) ∧ W'.cell? ⟨g, o2, none⟩ = some (.string y) :=
  ⟨h.1.trans (hb.mono h.1.size), (hb.cell (Strs.cell_lt h.2.1)).trans h.2.1, (hb.cell (Strs.cell_lt h.2.2)).trans h.2.2⟩

/-! ### OrderBest -/
set_option maxHeartbeats 8000000 in
set_option maxRecDepth 100000 in
theorem best_law0 (l : List ByteArray) (v : Value) (s : ByteArray) (w : World) (hr : Strs.Row w v l) (hs0 : s.size ≤ 9223372036854775807) (hl : l.length ≤ 9223372036854775807) :
    Calls Try.prog 5 #[v, .string s] w fun e w' => e = .returned (.bool true) ∧ Below w.heap.size w w' := by
  have HAW := Lib.hid awake_any
  have HLT := Lib.hid (light_any v l w hr hl)
  cases hlg : lgt l with
  | false =>
    rw [hlg] at HLT
    clear hr
    go_enter Try.func5, Try.ntmps5
    go_wp2_with (first
      | (go_at_call 6; (with_reducible refine HLT.out.mono ?_); rintro e w1 ⟨rfl, rfl⟩)
      | (go_at_call 7; (with_reducible refine (HAW.out _).mono ?_); rintro e w1 ⟨rfl, hb1⟩))
    go_ret
    exact ⟨rfl, hb1⟩
  | true =>
    rw [hlg] at HLT
    obtain ⟨hl60, hl100⟩ := lgt_yes hlg
    clear hlg
    by_cases hls : 400 < s.size
    · have g0 : decide ((400 : Int) < (s.size : Int)) = true := decide_eq_true (by omega)
      have gn0 : decide (400 < s.size) = true := decide_eq_true hls
      clear hr
      go_enter Try.func5, Try.ntmps5
      go_wp2_with (first
        | (go_at_call 6; (with_reducible refine HLT.out.mono ?_); rintro e w1 ⟨rfl, rfl⟩)
        | (go_at_call 7; (with_reducible refine (HAW.out _).mono ?_); rintro e w1 ⟨rfl, hb1⟩))
      go_ret
      exact ⟨rfl, hb1⟩
    have g0 : decide ((400 : Int) < (s.size : Int)) = false := decide_eq_false (by omega)
    have gn0 : decide (400 < s.size) = false := decide_eq_false hls
    have hs : s.size ≤ 140737488355328 := by omega
    clear hs0 hls
    have hll : l.length ≤ 140737488355328 := by omega
    have hlm : ∀ x ∈ l, x.size ≤ 140737488355328 := fun x hx => by have := hl100 x hx; omega
    have HM := Lib.hid fun k (h : k < l.length) => hlm _ (ga_mem2 h)
    have HI := Lib.hid fun k (h : k < l.length) W => mat_any (ga l k) s W (HM.out k h) hs
    have B1 := Lib.hid (best_any l s v w hr hll hlm hs)
    have B2 := Lib.hid fun u W hr => best_any l.reverse s u W hr (by rw [List.length_reverse]; exact hll) (fun x hx => hlm x (List.mem_reverse.1 hx)) hs
    have HX := Lib.hid fun j (h : j < l.length) => bkL_next h
    have HX0 := Lib.hid (bkL_all l)
    have HX1 := Lib.hid (bkL_none l)
    have HXL := Lib.hid (bkL_len l)
    obtain ⟨a, cap, rfl, hc⟩ := hr.open_
    have HC := Lib.hid hc
    rcases be_both l s with ⟨e1, e2, e3⟩ | ⟨n, m, e1, e2, hn, hm, e3, e4, e5⟩
    · rw [e1] at B1
      rw [e2] at B2
      have E3 := Lib.hid e3
      generalize l.reverse = lr at *
      clear e1 e2 e3 hlm hl100 hll HM hc hr
      go_enter Try.func5, Try.ntmps5
      go_wp2_with (first
        | (go_at_call 6; (with_reducible refine HLT.out.mono ?_); rintro e w1 ⟨rfl, rfl⟩)
        | (go_at_call 12; (with_reducible refine B1.out.mono ?_); rintro e w1 ⟨rfl, hb1⟩))
      go_loopw [6, 7] (fun u i wr => ∃ (m : Nat) (x : Int), i = .int .i64 x ∧ x = (m : Int) - 1 ∧ m ≤ l.length ∧ Hid (Strs.Own wr w.heap.size u (bkL l m)) ∧ Hid (Below w.heap.size w wr)) (fun _ i _ => ((RowKit.intOf i) + 1).toNat)
      case atStart => exact ⟨l.length, _, rfl, rfl, Nat.le_refl _, by rw [HX1.out]; exact Lib.hid (Strs.Own.nil _ _), Lib.hid hb1⟩
      case round =>
        obtain ⟨m, x0, rfl, hx0, hm, HO, HB⟩ := hrel
        cases m with
        | zero =>
          obtain rfl : x0 = -1 := by omega
          rw [HX0.out] at HO
          clear HX HXL HC hx0
          have q1 : ((-1 : Int) == -1) = true := rfl
          go_wp2_with (first
            | (go_at_call 12; (with_reducible refine (B2.out _ _ HO.out.row).mono ?_); rintro e w2 ⟨rfl, hb2⟩; have HB := Lib.hid (HB.out.trans (hb2.mono HB.out.size)))
            | (go_at_call 7; (with_reducible refine (HAW.out _).mono ?_); rintro e w3 ⟨rfl, hb3⟩; have HB := Lib.hid (HB.out.trans (hb3.mono HB.out.size))))
          go_ret
          exact ⟨rfl, HB.out⟩
        | succ j =>
          obtain rfl : x0 = (j : Int) := by omega
          have hj : j < l.length := by omega
          obtain ⟨b, off, rfl, h1⟩ := HC.out j hj
          change w.cell? _ = some (Value.string (ga l j)) at h1
          have HC1 := Lib.hid fun (W : World) (hb : Below w.heap.size w W) => (hb.cell (Strs.cell_lt h1)).trans h1
          have c1 := HC1.out _ HB.out
          have HIx := Lib.hid (HI.out j hj)
          rw [E3.out j hj] at HIx
          have HBK := Lib.hid (HX.out j hj)
          have hlen := HXL.out (j + 1)
          have hlim : (bkL l (j + 1)).length + 1 ≤ 8796093022208 := by omega
          have gj : (j : Int) < (l.length : Int) := by omega
          have gj0 : (0 : Int) ≤ (j : Int) := by omega
          clear h1 hx0 HX HXL hlen HI B1 B2
          generalize ga l j = x at *
          go_wp2_with (with_reducible refine Strs.wpList_push _ rfl _ _ rfl w.heap.size w _ _ rfl (HO.out.alloc _) (HB.out.alloc HB.out.size _) (Nat.le_refl _) _ _ _ rfl _ _ (heap_alloc_new _ _) [x] rfl rfl hlim ?_; intro v2 w2 hown2 hb2 _)
          rw [HBK.out] at hown2
          obtain ⟨bk, hbk⟩ : ∃ bk, bkL l j = bk := ⟨_, rfl⟩
          have HBQ := Lib.hid hbk
          rw [hbk] at hown2
          clear hbk HBK
          have hs0 := And.intro hb2.drew (And.intro (hown2.drewN 1) (HC1.out _ hb2.drew))
          refine wp_region_held_drew (S := (fun w' => Below w.heap.size w w' ∧ Strs.Own w' w.heap.size v2 bk ∧ w'.cell? ⟨b, off + j, none⟩ = some (.string x))) (by kernel_rfl) hs0 (fun hHeld => ?_)
          refine wpAnyH_take (i := 0) (oi := { dst := some 35, op := Op.move (Operand.tmp 0), type := 22, pos := "law.go:58", after := #[], guard := none }) (v := ?_) rfl (by kernel_rfl) (by kernel_rfl) (by kernel_rfl) (fun _ _ _ h => h) (Or.inl ⟨by rfl, ?_⟩) (by assumption) ?_
          rotate_left
          · intro w hSw; (try dsimp only at hSw); go_simp; (try with_reducible rfl)
          try simp only [Act.put, List.setIfInBounds_toArray, List.set_cons_zero, List.set_cons_succ]
          refine wpAnyH_take (i := 1) (oi := { dst := some 36, op := Op.move (Operand.tmp 7), type := 3, pos := "law.go:58", after := #[], guard := none }) (v := ?_) rfl (by kernel_rfl) (by kernel_rfl) (by kernel_rfl) (fun _ _ _ h => h) (Or.inl ⟨by rfl, ?_⟩) (by assumption) ?_
          rotate_left
          · intro w hSw; (try dsimp only at hSw); go_simp; (try with_reducible rfl)
          try simp only [Act.put, List.setIfInBounds_toArray, List.set_cons_zero, List.set_cons_succ]
          refine wpAnyH_take (i := 2) (oi := { dst := some 37, op := Op.indexAddr 22 (Operand.tmp 35) (Operand.tmp 36), type := 0, pos := "law.go:58", after := #[{ on := 0, ground := Ground.data }, { on := 1, ground := Ground.data }], guard := none }) (v := ?_) rfl (by kernel_rfl) (by kernel_rfl) (by kernel_rfl) (fun _ _ _ h => h) (Or.inl ⟨by rfl, ?_⟩) (by assumption) ?_
          rotate_left
          · intro w hSw; (try dsimp only at hSw); go_simp; (try with_reducible rfl)
          try simp only [Act.put, List.setIfInBounds_toArray, List.set_cons_zero, List.set_cons_succ]
          refine wpAnyH_take (i := 3) (oi := { dst := some 38, op := Op.load 9 (Operand.tmp 37), type := 9, pos := "law.go:58", after := #[{ on := 2, ground := Ground.data }], guard := none }) (v := ?_) rfl (by kernel_rfl) (by kernel_rfl) (by kernel_rfl) (fun _ _ _ h => h) (Or.inl ⟨by rfl, ?_⟩) (by assumption) ?_
          rotate_left
          · intro w hSw; (try dsimp only at hSw); go_simp; (try with_reducible rfl)
          try simp only [Act.put, List.setIfInBounds_toArray, List.set_cons_zero, List.set_cons_succ]
          refine wpAnyH_take (i := 4) (oi := { dst := some 39, op := Op.move (Operand.tmp 1), type := 9, pos := "law.go:58", after := #[], guard := none }) (v := ?_) rfl (by kernel_rfl) (by kernel_rfl) (by kernel_rfl) (fun _ _ _ h => h) (Or.inl ⟨by rfl, ?_⟩) (by assumption) ?_
          rotate_left
          · intro w hSw; (try dsimp only at hSw); go_simp; (try with_reducible rfl)
          try simp only [Act.put, List.setIfInBounds_toArray, List.set_cons_zero, List.set_cons_succ]
          refine wpAnyH_ready (rs := [5]) (by kernel_rfl) (by simp) ?_
          refine AllReadyH.cons (o := { dst := some 40, op := Op.call { callee := Callee.value (Operand.func 15), args := #[Operand.tmp 38, Operand.tmp 39], argTypes := #[9, 9] }, type := 4, pos := "law.go:58", after := #[{ on := 3, ground := Ground.data }, { on := 4, ground := Ground.data }], guard := none }) rfl (fun K hK => ?_) AllReadyH.nil
          go_simp
          (go_at_call 15; (with_reducible refine (HIx.out _).mono ?_); rintro e wx ⟨rfl, hbx⟩; have sbx := so_next hHeld hbx; clear hbx)
          refine hK.out _ _ (by assumption) (fun hHeld => ?_)
          clear hK K
          try simp only [Act.put, List.setIfInBounds_toArray, List.set_cons_zero, List.set_cons_succ]
          refine wpAnyH_take (i := 6) (oi := { dst := some 41, op := Op.move (Operand.tmp 40), type := 4, pos := "law.go:58", after := #[{ on := 5, ground := Ground.data }, { on := 5, ground := Ground.chain }], guard := none }) (v := ?_) rfl (by kernel_rfl) (by kernel_rfl) (by kernel_rfl) (fun _ _ _ h => h) (Or.inl ⟨by rfl, ?_⟩) (by assumption) ?_
          rotate_left
          · intro w hSw; (try dsimp only at hSw); go_simp; (try with_reducible rfl)
          try simp only [Act.put, List.setIfInBounds_toArray, List.set_cons_zero, List.set_cons_succ]
          refine wpAnyH_take (i := 7) (oi := { dst := some 42, op := Op.move (Operand.tmp 5), type := 3, pos := "law.go:58", after := #[{ on := 6, ground := Ground.guard }], guard := some (6, true) }) (v := undef) rfl (by kernel_rfl) (by kernel_rfl) (by kernel_rfl) (fun _ _ _ h => h) (Or.inr ⟨by rfl, rfl⟩) (by assumption) ?_
          try simp only [Act.put, List.setIfInBounds_toArray, List.set_cons_zero, List.set_cons_succ]
          refine wpAnyH_take (i := 8) (oi := { dst := some 43, op := Op.binOp BinOp.lss 3 (Operand.tmp 42) (Operand.const (Value.int IntKind.i64 0)) 3, type := 4, pos := "law.go:58", after := #[{ on := 7, ground := Ground.data }, { on := 6, ground := Ground.guard }], guard := some (6, true) }) (v := undef) rfl (by kernel_rfl) (by kernel_rfl) (by kernel_rfl) (fun _ _ _ h => h) (Or.inr ⟨by rfl, rfl⟩) (by assumption) ?_
          try simp only [Act.put, List.setIfInBounds_toArray, List.set_cons_zero, List.set_cons_succ]
          refine wpAnyH_take (i := 9) (oi := { dst := some 44, op := Op.move (Operand.tmp 43), type := 4, pos := "law.go:58", after := #[{ on := 8, ground := Ground.data }, { on := 6, ground := Ground.chain }, { on := 6, ground := Ground.guard }], guard := some (6, true) }) (v := undef) rfl (by kernel_rfl) (by kernel_rfl) (by kernel_rfl) (fun _ _ _ h => h) (Or.inr ⟨by rfl, rfl⟩) (by assumption) ?_
          try simp only [Act.put, List.setIfInBounds_toArray, List.set_cons_zero, List.set_cons_succ]
          refine wpAnyH_take (i := 10) (oi := { dst := some 45, op := Op.move (Operand.tmp 5), type := 3, pos := "law.go:58", after := #[{ on := 9, ground := Ground.guard }], guard := some (9, false) }) (v := undef) rfl (by kernel_rfl) (by kernel_rfl) (by kernel_rfl) (fun _ _ _ h => h) (Or.inr ⟨by rfl, rfl⟩) (by assumption) ?_
          try simp only [Act.put, List.setIfInBounds_toArray, List.set_cons_zero, List.set_cons_succ]
          refine wpAnyH_take (i := 11) (oi := { dst := some 46, op := Op.move (Operand.tmp 0), type := 22, pos := "law.go:58", after := #[{ on := 9, ground := Ground.guard }], guard := some (9, false) }) (v := undef) rfl (by kernel_rfl) (by kernel_rfl) (by kernel_rfl) (fun _ _ _ h => h) (Or.inr ⟨by rfl, rfl⟩) (by assumption) ?_
          try simp only [Act.put, List.setIfInBounds_toArray, List.set_cons_zero, List.set_cons_succ]
          refine wpAnyH_take (i := 12) (oi := { dst := some 47, op := Op.call { callee := Callee.builtin Builtin.len, args := #[Operand.tmp 46], argTypes := #[22] }, type := 3, pos := "law.go:58", after := #[{ on := 11, ground := Ground.data }, { on := 9, ground := Ground.guard }], guard := some (9, false) }) (v := undef) rfl (by kernel_rfl) (by kernel_rfl) (by kernel_rfl) (fun _ _ _ h => h) (Or.inr ⟨by rfl, rfl⟩) (by assumption) ?_
          try simp only [Act.put, List.setIfInBounds_toArray, List.set_cons_zero, List.set_cons_succ]
          refine wpAnyH_take (i := 13) (oi := { dst := some 48, op := Op.binOp BinOp.geq 3 (Operand.tmp 45) (Operand.tmp 47) 3, type := 4, pos := "law.go:58", after := #[{ on := 10, ground := Ground.data }, { on := 12, ground := Ground.data }, { on := 9, ground := Ground.guard }], guard := some (9, false) }) (v := undef) rfl (by kernel_rfl) (by kernel_rfl) (by kernel_rfl) (fun _ _ _ h => h) (Or.inr ⟨by rfl, rfl⟩) (by assumption) ?_
          try simp only [Act.put, List.setIfInBounds_toArray, List.set_cons_zero, List.set_cons_succ]
          refine wpAnyH_take (i := 14) (oi := { dst := some 49, op := Op.pick (Operand.tmp 44) (Operand.const (Value.bool true)) (Operand.tmp 48), type := 4, pos := "law.go:58", after := #[{ on := 9, ground := Ground.data }, { on := 13, ground := Ground.data }, { on := 6, ground := Ground.guard }], guard := some (6, true) }) (v := undef) rfl (by kernel_rfl) (by kernel_rfl) (by kernel_rfl) (fun _ _ _ h => h) (Or.inr ⟨by rfl, rfl⟩) (by assumption) ?_
          try simp only [Act.put, List.setIfInBounds_toArray, List.set_cons_zero, List.set_cons_succ]
          refine wpAnyH_take (i := 15) (oi := { dst := some 50, op := Op.move (Operand.tmp 49), type := 4, pos := "law.go:58", after := #[{ on := 14, ground := Ground.data }, { on := 9, ground := Ground.chain }, { on := 6, ground := Ground.guard }], guard := some (6, true) }) (v := undef) rfl (by kernel_rfl) (by kernel_rfl) (by kernel_rfl) (fun _ _ _ h => h) (Or.inr ⟨by rfl, rfl⟩) (by assumption) ?_
          try simp only [Act.put, List.setIfInBounds_toArray, List.set_cons_zero, List.set_cons_succ]
          refine wpAnyH_take (i := 16) (oi := { dst := some 51, op := Op.move (Operand.tmp 0), type := 22, pos := "law.go:58", after := #[{ on := 15, ground := Ground.guard }], guard := some (15, false) }) (v := undef) rfl (by kernel_rfl) (by kernel_rfl) (by kernel_rfl) (fun _ _ _ h => h) (Or.inr ⟨by rfl, rfl⟩) (by assumption) ?_
          try simp only [Act.put, List.setIfInBounds_toArray, List.set_cons_zero, List.set_cons_succ]
          refine wpAnyH_take (i := 17) (oi := { dst := some 52, op := Op.move (Operand.tmp 7), type := 3, pos := "law.go:58", after := #[{ on := 15, ground := Ground.guard }], guard := some (15, false) }) (v := undef) rfl (by kernel_rfl) (by kernel_rfl) (by kernel_rfl) (fun _ _ _ h => h) (Or.inr ⟨by rfl, rfl⟩) (by assumption) ?_
          try simp only [Act.put, List.setIfInBounds_toArray, List.set_cons_zero, List.set_cons_succ]
          refine wpAnyH_take (i := 18) (oi := { dst := some 53, op := Op.indexAddr 22 (Operand.tmp 51) (Operand.tmp 52), type := 0, pos := "law.go:58", after := #[{ on := 16, ground := Ground.data }, { on := 17, ground := Ground.data }, { on := 15, ground := Ground.guard }], guard := some (15, false) }) (v := undef) rfl (by kernel_rfl) (by kernel_rfl) (by kernel_rfl) (fun _ _ _ h => h) (Or.inr ⟨by rfl, rfl⟩) (by assumption) ?_
          try simp only [Act.put, List.setIfInBounds_toArray, List.set_cons_zero, List.set_cons_succ]
          refine wpAnyH_take (i := 19) (oi := { dst := some 54, op := Op.load 9 (Operand.tmp 53), type := 9, pos := "law.go:58", after := #[{ on := 18, ground := Ground.data }, { on := 15, ground := Ground.guard }], guard := some (15, false) }) (v := undef) rfl (by kernel_rfl) (by kernel_rfl) (by kernel_rfl) (fun _ _ _ h => h) (Or.inr ⟨by rfl, rfl⟩) (by assumption) ?_
          try simp only [Act.put, List.setIfInBounds_toArray, List.set_cons_zero, List.set_cons_succ]
          refine wpAnyH_take (i := 20) (oi := { dst := some 55, op := Op.move (Operand.tmp 0), type := 22, pos := "law.go:58", after := #[{ on := 15, ground := Ground.guard }], guard := some (15, false) }) (v := undef) rfl (by kernel_rfl) (by kernel_rfl) (by kernel_rfl) (fun _ _ _ h => h) (Or.inr ⟨by rfl, rfl⟩) (by assumption) ?_
          try simp only [Act.put, List.setIfInBounds_toArray, List.set_cons_zero, List.set_cons_succ]
          refine wpAnyH_take (i := 21) (oi := { dst := some 56, op := Op.move (Operand.tmp 5), type := 3, pos := "law.go:58", after := #[{ on := 15, ground := Ground.guard }], guard := some (15, false) }) (v := undef) rfl (by kernel_rfl) (by kernel_rfl) (by kernel_rfl) (fun _ _ _ h => h) (Or.inr ⟨by rfl, rfl⟩) (by assumption) ?_
          try simp only [Act.put, List.setIfInBounds_toArray, List.set_cons_zero, List.set_cons_succ]
          refine wpAnyH_take (i := 22) (oi := { dst := some 57, op := Op.indexAddr 22 (Operand.tmp 55) (Operand.tmp 56), type := 0, pos := "law.go:58", after := #[{ on := 20, ground := Ground.data }, { on := 21, ground := Ground.data }, { on := 15, ground := Ground.guard }], guard := some (15, false) }) (v := undef) rfl (by kernel_rfl) (by kernel_rfl) (by kernel_rfl) (fun _ _ _ h => h) (Or.inr ⟨by rfl, rfl⟩) (by assumption) ?_
          try simp only [Act.put, List.setIfInBounds_toArray, List.set_cons_zero, List.set_cons_succ]
          refine wpAnyH_take (i := 23) (oi := { dst := some 58, op := Op.load 9 (Operand.tmp 57), type := 9, pos := "law.go:58", after := #[{ on := 22, ground := Ground.data }, { on := 15, ground := Ground.guard }], guard := some (15, false) }) (v := undef) rfl (by kernel_rfl) (by kernel_rfl) (by kernel_rfl) (fun _ _ _ h => h) (Or.inr ⟨by rfl, rfl⟩) (by assumption) ?_
          try simp only [Act.put, List.setIfInBounds_toArray, List.set_cons_zero, List.set_cons_succ]
          refine wpAnyH_take (i := 24) (oi := { dst := some 59, op := Op.call { callee := Callee.value (Operand.func 10), args := #[Operand.tmp 54, Operand.tmp 58], argTypes := #[9, 9] }, type := 4, pos := "law.go:58", after := #[{ on := 19, ground := Ground.data }, { on := 23, ground := Ground.data }, { on := 15, ground := Ground.chain }, { on := 15, ground := Ground.guard }], guard := some (15, false) }) (v := undef) rfl (by kernel_rfl) (by kernel_rfl) (by kernel_rfl) (fun _ _ _ h => h) (Or.inr ⟨by rfl, rfl⟩) (by assumption) ?_
          try simp only [Act.put, List.setIfInBounds_toArray, List.set_cons_zero, List.set_cons_succ]
          refine wpAnyH_take (i := 25) (oi := { dst := some 60, op := Op.pick (Operand.tmp 50) (Operand.const (Value.bool true)) (Operand.tmp 59), type := 4, pos := "law.go:58", after := #[{ on := 15, ground := Ground.data }, { on := 24, ground := Ground.data }, { on := 6, ground := Ground.guard }], guard := some (6, true) }) (v := undef) rfl (by kernel_rfl) (by kernel_rfl) (by kernel_rfl) (fun _ _ _ h => h) (Or.inr ⟨by rfl, rfl⟩) (by assumption) ?_
          try simp only [Act.put, List.setIfInBounds_toArray, List.set_cons_zero, List.set_cons_succ]
          refine wpAnyH_take (i := 26) (oi := { dst := some 61, op := Op.pick (Operand.tmp 41) (Operand.tmp 60) (Operand.const (Value.bool false)), type := 4, pos := "law.go:58", after := #[{ on := 6, ground := Ground.data }, { on := 25, ground := Ground.data }], guard := none }) (v := ?_) rfl (by kernel_rfl) (by kernel_rfl) (by kernel_rfl) (fun _ _ _ h => h) (Or.inl ⟨by rfl, ?_⟩) (by assumption) ?_
          rotate_left
          · intro w hSw; (try dsimp only at hSw); go_simp; (try with_reducible rfl)
          try simp only [Act.put, List.setIfInBounds_toArray, List.set_cons_zero, List.set_cons_succ]
          refine wpAnyH_done (by kernel_rfl) ?_ _
          go_wp2_with fail
          go_roundw
          case rel => exact ⟨j, _, by go_num, rfl, by omega, by rw [HBQ.out]; exact Lib.hid hHeld.2.1, Lib.hid hHeld.1⟩
          case measure => simp [RowKit.intOf]; try omega
    · rw [e1] at B1
      rw [e2] at B2
      have IN := Lib.hid (HI.out n hn)
      rw [e3] at IN
      have E4 := Lib.hid e4
      have E5 := Lib.hid fun j (h : j < l.length) (h2 : matB (ga l j) s = true) W => less_at (ga l j) (ga l n) false (e5 j h h2) (HM.out j h) (HM.out n hn) W
      have hrl : l.reverse.length = l.length := List.length_reverse
      obtain ⟨b, off, rfl, h2⟩ := HC.out n hn
      change w.cell? _ = some (Value.string (ga l n)) at h2
      have HC2 := Lib.hid fun (W : World) (hb : Below w.heap.size w W) => (hb.cell (Strs.cell_lt h2)).trans h2
      have gn : (n : Int) < (l.length : Int) := by omega
      have gn1 : (0 : Int) ≤ (n : Int) := by omega
      have gn2 : decide ((n : Int) < 0) = false := decide_eq_false (by omega)
      have gn3 : decide ((l.length : Int) ≤ (n : Int)) = false := decide_eq_false (by omega)
      have gn4 : decide (l.length ≤ n) = false := decide_eq_false (by omega)
      clear e1 e2 e3 e4 e5 hlm hl100 hll HM hc hr h2
      go_enter Try.func5, Try.ntmps5
      go_wp2_with (first
        | (go_at_call 6; (with_reducible refine HLT.out.mono ?_); rintro e w1 ⟨rfl, rfl⟩)
        | (go_at_call 12; (with_reducible refine B1.out.mono ?_); rintro e w1 ⟨rfl, hb1⟩))
      go_loopw [6, 7] (fun u i wr => ∃ (m : Nat) (x : Int), i = .int .i64 x ∧ x = (m : Int) - 1 ∧ m ≤ l.length ∧ Hid (Strs.Own wr w.heap.size u (bkL l m)) ∧ Hid (Below w.heap.size w wr)) (fun _ i _ => ((RowKit.intOf i) + 1).toNat)
      case atStart => exact ⟨l.length, _, rfl, rfl, Nat.le_refl _, by rw [HX1.out]; exact Lib.hid (Strs.Own.nil _ _), Lib.hid hb1⟩
      case round =>
        obtain ⟨t, x0, rfl, hx0, ht, HO, HB⟩ := hrel
        cases t with
        | zero =>
          obtain rfl : x0 = -1 := by omega
          rw [HX0.out] at HO
          clear HX HXL HC hx0 HI E5 HX0 HX1
          rcases own_shape HO.out with ⟨_, he⟩ | ⟨g, cap2, eu, hg⟩
          · rw [he] at hrl; simp at hrl; omega
          rw [hrl] at eu
          subst eu
          have gm : (m : Int) < (l.length : Int) := by omega
          have gm0 : (0 : Int) ≤ (m : Int) := by omega
          have gm1 : decide ((m : Int) < 0) = false := decide_eq_false (by omega)
          have gm2 : decide ((m : Int) < (l.length : Int)) = true := decide_eq_true (by omega)
          have gm3 : decide (m < l.length) = true := decide_eq_true (by omega)
          have gm4 : decide ((0 : Int) ≤ (m : Int)) = true := decide_eq_true (by omega)
          have gn5 : decide ((n : Int) < (l.length : Int)) = true := decide_eq_true (by omega)
          have gn6 : decide (n < l.length) = true := decide_eq_true hn
          have HG := Lib.hid fun (W : World) (h : Strs.Own W w.heap.size (.slice (some ⟨g, 0, none⟩) l.length cap2) l.reverse) => own_cell (by rw [hrl]; exact h) m (by omega)
          change Hid (∀ W : World, _ → W.cell? ⟨g, m, none⟩ = some (.string (ga l.reverse m))) at HG
          rw [E4.out] at HG
          have B3 := Lib.hid fun W (h : Strs.Own W w.heap.size (.slice (some ⟨g, 0, none⟩) l.length cap2) l.reverse) => B2.out _ W h.row
          clear B1 B2 E4 hrl
          generalize l.reverse = lr at *
          generalize ga l n = x at *
          generalize l.length = ll at *
          have q1 : (x.toList == x.toList) = true := beq_self_eq_true _
          go_wp2_with (go_at_call 12; (with_reducible refine (B3.out _ HO.out).mono ?_); rintro e w2 ⟨rfl, hb2⟩; have HB := Lib.hid (HB.out.trans (hb2.mono HB.out.size)); have HO := Lib.hid (HO.out.next hb2); clear hb2)
          have hs0 := And.intro HB.out.drew (And.intro (HC2.out _ HB.out.drew) (HG.out _ (HO.out.drewN 1)))
          go_region_held3 (fun w' => Below w.heap.size w w' ∧ w'.cell? ⟨b, off + n, none⟩ = some (.string x) ∧ w'.cell? ⟨g, m, none⟩ = some (.string x)) (first | exact hs0 | assumption)
            (first
              | (go_at_call 15; (with_reducible refine (IN.out _).mono ?_); rintro e wx ⟨rfl, hbx⟩; have sbx := sc_next (by assumption) hbx; clear hbx)
              | (go_at_call 7; (with_reducible refine (HAW.out _).mono ?_); rintro e wx ⟨rfl, hbx⟩; have sbx := sc_next (by assumption) hbx; clear hbx))
          go_wp2_with fail
          go_ret
          exact ⟨rfl, And.left (by assumption)⟩
        | succ j =>
          obtain rfl : x0 = (j : Int) := by omega
          have hj : j < l.length := by omega
          obtain ⟨b', off', e', h1⟩ := HC.out j hj
          obtain ⟨rfl, rfl⟩ : b = b' ∧ off = off' := by injection e' with e'; injection e' with q1 q2; exact ⟨q1, q2⟩
          change w.cell? _ = some (Value.string (ga l j)) at h1
          have HC1 := Lib.hid fun (W : World) (hb : Below w.heap.size w W) => (hb.cell (Strs.cell_lt h1)).trans h1
          have c1 := HC1.out _ HB.out
          have HIx := Lib.hid (HI.out j hj)
          have EX := Lib.hid (E5.out j hj)
          have HBK := Lib.hid (HX.out j hj)
          have hlen := HXL.out (j + 1)
          have hlim : (bkL l (j + 1)).length + 1 ≤ 8796093022208 := by omega
          have gj : (j : Int) < (l.length : Int) := by omega
          have gj0 : (0 : Int) ≤ (j : Int) := by omega
          clear h1 hx0 HX HXL hlen HI B1 B2 E5 e'
          generalize matB (ga l j) s = f at *
          generalize ga l j = x at *
          generalize ga l n = y at *
          cases f with
          | false =>
            clear EX
            go_wp2_with (with_reducible refine Strs.wpList_push _ rfl _ _ rfl w.heap.size w _ _ rfl (HO.out.alloc _) (HB.out.alloc HB.out.size _) (Nat.le_refl _) _ _ _ rfl _ _ (heap_alloc_new _ _) [x] rfl rfl hlim ?_; intro v2 w2 hown2 hb2 _)
            rw [HBK.out] at hown2
            obtain ⟨bk, hbk⟩ : ∃ bk, bkL l j = bk := ⟨_, rfl⟩
            have HBQ := Lib.hid hbk
            rw [hbk] at hown2
            clear hbk HBK
            have hs0 := And.intro hb2.drew (And.intro (hown2.drewN 1) (HC1.out _ hb2.drew))
            refine wp_region_held_drew (S := (fun w' => Below w.heap.size w w' ∧ Strs.Own w' w.heap.size v2 bk ∧ w'.cell? ⟨b, off + j, none⟩ = some (.string x))) (by kernel_rfl) hs0 (fun hHeld => ?_)
            refine wpAnyH_take (i := 0) (oi := { dst := some 35, op := Op.move (Operand.tmp 0), type := 22, pos := "law.go:58", after := #[], guard := none }) (v := ?_) rfl (by kernel_rfl) (by kernel_rfl) (by kernel_rfl) (fun _ _ _ h => h) (Or.inl ⟨by rfl, ?_⟩) (by assumption) ?_
            rotate_left
            · intro w hSw; (try dsimp only at hSw); go_simp; (try with_reducible rfl)
            try simp only [Act.put, List.setIfInBounds_toArray, List.set_cons_zero, List.set_cons_succ]
            refine wpAnyH_take (i := 1) (oi := { dst := some 36, op := Op.move (Operand.tmp 7), type := 3, pos := "law.go:58", after := #[], guard := none }) (v := ?_) rfl (by kernel_rfl) (by kernel_rfl) (by kernel_rfl) (fun _ _ _ h => h) (Or.inl ⟨by rfl, ?_⟩) (by assumption) ?_
            rotate_left
            · intro w hSw; (try dsimp only at hSw); go_simp; (try with_reducible rfl)
            try simp only [Act.put, List.setIfInBounds_toArray, List.set_cons_zero, List.set_cons_succ]
            refine wpAnyH_take (i := 2) (oi := { dst := some 37, op := Op.indexAddr 22 (Operand.tmp 35) (Operand.tmp 36), type := 0, pos := "law.go:58", after := #[{ on := 0, ground := Ground.data }, { on := 1, ground := Ground.data }], guard := none }) (v := ?_) rfl (by kernel_rfl) (by kernel_rfl) (by kernel_rfl) (fun _ _ _ h => h) (Or.inl ⟨by rfl, ?_⟩) (by assumption) ?_
            rotate_left
            · intro w hSw; (try dsimp only at hSw); go_simp; (try with_reducible rfl)
            try simp only [Act.put, List.setIfInBounds_toArray, List.set_cons_zero, List.set_cons_succ]
            refine wpAnyH_take (i := 3) (oi := { dst := some 38, op := Op.load 9 (Operand.tmp 37), type := 9, pos := "law.go:58", after := #[{ on := 2, ground := Ground.data }], guard := none }) (v := ?_) rfl (by kernel_rfl) (by kernel_rfl) (by kernel_rfl) (fun _ _ _ h => h) (Or.inl ⟨by rfl, ?_⟩) (by assumption) ?_
            rotate_left
            · intro w hSw; (try dsimp only at hSw); go_simp; (try with_reducible rfl)
            try simp only [Act.put, List.setIfInBounds_toArray, List.set_cons_zero, List.set_cons_succ]
            refine wpAnyH_take (i := 4) (oi := { dst := some 39, op := Op.move (Operand.tmp 1), type := 9, pos := "law.go:58", after := #[], guard := none }) (v := ?_) rfl (by kernel_rfl) (by kernel_rfl) (by kernel_rfl) (fun _ _ _ h => h) (Or.inl ⟨by rfl, ?_⟩) (by assumption) ?_
            rotate_left
            · intro w hSw; (try dsimp only at hSw); go_simp; (try with_reducible rfl)
            try simp only [Act.put, List.setIfInBounds_toArray, List.set_cons_zero, List.set_cons_succ]
            refine wpAnyH_ready (rs := [5]) (by kernel_rfl) (by simp) ?_
            refine AllReadyH.cons (o := { dst := some 40, op := Op.call { callee := Callee.value (Operand.func 15), args := #[Operand.tmp 38, Operand.tmp 39], argTypes := #[9, 9] }, type := 4, pos := "law.go:58", after := #[{ on := 3, ground := Ground.data }, { on := 4, ground := Ground.data }], guard := none }) rfl (fun K hK => ?_) AllReadyH.nil
            go_simp
            (go_at_call 15; (with_reducible refine (HIx.out _).mono ?_); rintro e wx ⟨rfl, hbx⟩; have sbx := so_next hHeld hbx; clear hbx)
            refine hK.out _ _ (by assumption) (fun hHeld => ?_)
            clear hK K
            try simp only [Act.put, List.setIfInBounds_toArray, List.set_cons_zero, List.set_cons_succ]
            refine wpAnyH_take (i := 6) (oi := { dst := some 41, op := Op.move (Operand.tmp 40), type := 4, pos := "law.go:58", after := #[{ on := 5, ground := Ground.data }, { on := 5, ground := Ground.chain }], guard := none }) (v := ?_) rfl (by kernel_rfl) (by kernel_rfl) (by kernel_rfl) (fun _ _ _ h => h) (Or.inl ⟨by rfl, ?_⟩) (by assumption) ?_
            rotate_left
            · intro w hSw; (try dsimp only at hSw); go_simp; (try with_reducible rfl)
            try simp only [Act.put, List.setIfInBounds_toArray, List.set_cons_zero, List.set_cons_succ]
            refine wpAnyH_take (i := 7) (oi := { dst := some 42, op := Op.move (Operand.tmp 5), type := 3, pos := "law.go:58", after := #[{ on := 6, ground := Ground.guard }], guard := some (6, true) }) (v := undef) rfl (by kernel_rfl) (by kernel_rfl) (by kernel_rfl) (fun _ _ _ h => h) (Or.inr ⟨by rfl, rfl⟩) (by assumption) ?_
            try simp only [Act.put, List.setIfInBounds_toArray, List.set_cons_zero, List.set_cons_succ]
            refine wpAnyH_take (i := 8) (oi := { dst := some 43, op := Op.binOp BinOp.lss 3 (Operand.tmp 42) (Operand.const (Value.int IntKind.i64 0)) 3, type := 4, pos := "law.go:58", after := #[{ on := 7, ground := Ground.data }, { on := 6, ground := Ground.guard }], guard := some (6, true) }) (v := undef) rfl (by kernel_rfl) (by kernel_rfl) (by kernel_rfl) (fun _ _ _ h => h) (Or.inr ⟨by rfl, rfl⟩) (by assumption) ?_
            try simp only [Act.put, List.setIfInBounds_toArray, List.set_cons_zero, List.set_cons_succ]
            refine wpAnyH_take (i := 9) (oi := { dst := some 44, op := Op.move (Operand.tmp 43), type := 4, pos := "law.go:58", after := #[{ on := 8, ground := Ground.data }, { on := 6, ground := Ground.chain }, { on := 6, ground := Ground.guard }], guard := some (6, true) }) (v := undef) rfl (by kernel_rfl) (by kernel_rfl) (by kernel_rfl) (fun _ _ _ h => h) (Or.inr ⟨by rfl, rfl⟩) (by assumption) ?_
            try simp only [Act.put, List.setIfInBounds_toArray, List.set_cons_zero, List.set_cons_succ]
            refine wpAnyH_take (i := 10) (oi := { dst := some 45, op := Op.move (Operand.tmp 5), type := 3, pos := "law.go:58", after := #[{ on := 9, ground := Ground.guard }], guard := some (9, false) }) (v := undef) rfl (by kernel_rfl) (by kernel_rfl) (by kernel_rfl) (fun _ _ _ h => h) (Or.inr ⟨by rfl, rfl⟩) (by assumption) ?_
            try simp only [Act.put, List.setIfInBounds_toArray, List.set_cons_zero, List.set_cons_succ]
            refine wpAnyH_take (i := 11) (oi := { dst := some 46, op := Op.move (Operand.tmp 0), type := 22, pos := "law.go:58", after := #[{ on := 9, ground := Ground.guard }], guard := some (9, false) }) (v := undef) rfl (by kernel_rfl) (by kernel_rfl) (by kernel_rfl) (fun _ _ _ h => h) (Or.inr ⟨by rfl, rfl⟩) (by assumption) ?_
            try simp only [Act.put, List.setIfInBounds_toArray, List.set_cons_zero, List.set_cons_succ]
            refine wpAnyH_take (i := 12) (oi := { dst := some 47, op := Op.call { callee := Callee.builtin Builtin.len, args := #[Operand.tmp 46], argTypes := #[22] }, type := 3, pos := "law.go:58", after := #[{ on := 11, ground := Ground.data }, { on := 9, ground := Ground.guard }], guard := some (9, false) }) (v := undef) rfl (by kernel_rfl) (by kernel_rfl) (by kernel_rfl) (fun _ _ _ h => h) (Or.inr ⟨by rfl, rfl⟩) (by assumption) ?_
            try simp only [Act.put, List.setIfInBounds_toArray, List.set_cons_zero, List.set_cons_succ]
            refine wpAnyH_take (i := 13) (oi := { dst := some 48, op := Op.binOp BinOp.geq 3 (Operand.tmp 45) (Operand.tmp 47) 3, type := 4, pos := "law.go:58", after := #[{ on := 10, ground := Ground.data }, { on := 12, ground := Ground.data }, { on := 9, ground := Ground.guard }], guard := some (9, false) }) (v := undef) rfl (by kernel_rfl) (by kernel_rfl) (by kernel_rfl) (fun _ _ _ h => h) (Or.inr ⟨by rfl, rfl⟩) (by assumption) ?_
            try simp only [Act.put, List.setIfInBounds_toArray, List.set_cons_zero, List.set_cons_succ]
            refine wpAnyH_take (i := 14) (oi := { dst := some 49, op := Op.pick (Operand.tmp 44) (Operand.const (Value.bool true)) (Operand.tmp 48), type := 4, pos := "law.go:58", after := #[{ on := 9, ground := Ground.data }, { on := 13, ground := Ground.data }, { on := 6, ground := Ground.guard }], guard := some (6, true) }) (v := undef) rfl (by kernel_rfl) (by kernel_rfl) (by kernel_rfl) (fun _ _ _ h => h) (Or.inr ⟨by rfl, rfl⟩) (by assumption) ?_
            try simp only [Act.put, List.setIfInBounds_toArray, List.set_cons_zero, List.set_cons_succ]
            refine wpAnyH_take (i := 15) (oi := { dst := some 50, op := Op.move (Operand.tmp 49), type := 4, pos := "law.go:58", after := #[{ on := 14, ground := Ground.data }, { on := 9, ground := Ground.chain }, { on := 6, ground := Ground.guard }], guard := some (6, true) }) (v := undef) rfl (by kernel_rfl) (by kernel_rfl) (by kernel_rfl) (fun _ _ _ h => h) (Or.inr ⟨by rfl, rfl⟩) (by assumption) ?_
            try simp only [Act.put, List.setIfInBounds_toArray, List.set_cons_zero, List.set_cons_succ]
            refine wpAnyH_take (i := 16) (oi := { dst := some 51, op := Op.move (Operand.tmp 0), type := 22, pos := "law.go:58", after := #[{ on := 15, ground := Ground.guard }], guard := some (15, false) }) (v := undef) rfl (by kernel_rfl) (by kernel_rfl) (by kernel_rfl) (fun _ _ _ h => h) (Or.inr ⟨by rfl, rfl⟩) (by assumption) ?_
            try simp only [Act.put, List.setIfInBounds_toArray, List.set_cons_zero, List.set_cons_succ]
            refine wpAnyH_take (i := 17) (oi := { dst := some 52, op := Op.move (Operand.tmp 7), type := 3, pos := "law.go:58", after := #[{ on := 15, ground := Ground.guard }], guard := some (15, false) }) (v := undef) rfl (by kernel_rfl) (by kernel_rfl) (by kernel_rfl) (fun _ _ _ h => h) (Or.inr ⟨by rfl, rfl⟩) (by assumption) ?_
            try simp only [Act.put, List.setIfInBounds_toArray, List.set_cons_zero, List.set_cons_succ]
            refine wpAnyH_take (i := 18) (oi := { dst := some 53, op := Op.indexAddr 22 (Operand.tmp 51) (Operand.tmp 52), type := 0, pos := "law.go:58", after := #[{ on := 16, ground := Ground.data }, { on := 17, ground := Ground.data }, { on := 15, ground := Ground.guard }], guard := some (15, false) }) (v := undef) rfl (by kernel_rfl) (by kernel_rfl) (by kernel_rfl) (fun _ _ _ h => h) (Or.inr ⟨by rfl, rfl⟩) (by assumption) ?_
            try simp only [Act.put, List.setIfInBounds_toArray, List.set_cons_zero, List.set_cons_succ]
            refine wpAnyH_take (i := 19) (oi := { dst := some 54, op := Op.load 9 (Operand.tmp 53), type := 9, pos := "law.go:58", after := #[{ on := 18, ground := Ground.data }, { on := 15, ground := Ground.guard }], guard := some (15, false) }) (v := undef) rfl (by kernel_rfl) (by kernel_rfl) (by kernel_rfl) (fun _ _ _ h => h) (Or.inr ⟨by rfl, rfl⟩) (by assumption) ?_
            try simp only [Act.put, List.setIfInBounds_toArray, List.set_cons_zero, List.set_cons_succ]
            refine wpAnyH_take (i := 20) (oi := { dst := some 55, op := Op.move (Operand.tmp 0), type := 22, pos := "law.go:58", after := #[{ on := 15, ground := Ground.guard }], guard := some (15, false) }) (v := undef) rfl (by kernel_rfl) (by kernel_rfl) (by kernel_rfl) (fun _ _ _ h => h) (Or.inr ⟨by rfl, rfl⟩) (by assumption) ?_
            try simp only [Act.put, List.setIfInBounds_toArray, List.set_cons_zero, List.set_cons_succ]
            refine wpAnyH_take (i := 21) (oi := { dst := some 56, op := Op.move (Operand.tmp 5), type := 3, pos := "law.go:58", after := #[{ on := 15, ground := Ground.guard }], guard := some (15, false) }) (v := undef) rfl (by kernel_rfl) (by kernel_rfl) (by kernel_rfl) (fun _ _ _ h => h) (Or.inr ⟨by rfl, rfl⟩) (by assumption) ?_
            try simp only [Act.put, List.setIfInBounds_toArray, List.set_cons_zero, List.set_cons_succ]
            refine wpAnyH_take (i := 22) (oi := { dst := some 57, op := Op.indexAddr 22 (Operand.tmp 55) (Operand.tmp 56), type := 0, pos := "law.go:58", after := #[{ on := 20, ground := Ground.data }, { on := 21, ground := Ground.data }, { on := 15, ground := Ground.guard }], guard := some (15, false) }) (v := undef) rfl (by kernel_rfl) (by kernel_rfl) (by kernel_rfl) (fun _ _ _ h => h) (Or.inr ⟨by rfl, rfl⟩) (by assumption) ?_
            try simp only [Act.put, List.setIfInBounds_toArray, List.set_cons_zero, List.set_cons_succ]
            refine wpAnyH_take (i := 23) (oi := { dst := some 58, op := Op.load 9 (Operand.tmp 57), type := 9, pos := "law.go:58", after := #[{ on := 22, ground := Ground.data }, { on := 15, ground := Ground.guard }], guard := some (15, false) }) (v := undef) rfl (by kernel_rfl) (by kernel_rfl) (by kernel_rfl) (fun _ _ _ h => h) (Or.inr ⟨by rfl, rfl⟩) (by assumption) ?_
            try simp only [Act.put, List.setIfInBounds_toArray, List.set_cons_zero, List.set_cons_succ]
            refine wpAnyH_take (i := 24) (oi := { dst := some 59, op := Op.call { callee := Callee.value (Operand.func 10), args := #[Operand.tmp 54, Operand.tmp 58], argTypes := #[9, 9] }, type := 4, pos := "law.go:58", after := #[{ on := 19, ground := Ground.data }, { on := 23, ground := Ground.data }, { on := 15, ground := Ground.chain }, { on := 15, ground := Ground.guard }], guard := some (15, false) }) (v := undef) rfl (by kernel_rfl) (by kernel_rfl) (by kernel_rfl) (fun _ _ _ h => h) (Or.inr ⟨by rfl, rfl⟩) (by assumption) ?_
            try simp only [Act.put, List.setIfInBounds_toArray, List.set_cons_zero, List.set_cons_succ]
            refine wpAnyH_take (i := 25) (oi := { dst := some 60, op := Op.pick (Operand.tmp 50) (Operand.const (Value.bool true)) (Operand.tmp 59), type := 4, pos := "law.go:58", after := #[{ on := 15, ground := Ground.data }, { on := 24, ground := Ground.data }, { on := 6, ground := Ground.guard }], guard := some (6, true) }) (v := undef) rfl (by kernel_rfl) (by kernel_rfl) (by kernel_rfl) (fun _ _ _ h => h) (Or.inr ⟨by rfl, rfl⟩) (by assumption) ?_
            try simp only [Act.put, List.setIfInBounds_toArray, List.set_cons_zero, List.set_cons_succ]
            refine wpAnyH_take (i := 26) (oi := { dst := some 61, op := Op.pick (Operand.tmp 41) (Operand.tmp 60) (Operand.const (Value.bool false)), type := 4, pos := "law.go:58", after := #[{ on := 6, ground := Ground.data }, { on := 25, ground := Ground.data }], guard := none }) (v := ?_) rfl (by kernel_rfl) (by kernel_rfl) (by kernel_rfl) (fun _ _ _ h => h) (Or.inl ⟨by rfl, ?_⟩) (by assumption) ?_
            rotate_left
            · intro w hSw; (try dsimp only at hSw); go_simp; (try with_reducible rfl)
            try simp only [Act.put, List.setIfInBounds_toArray, List.set_cons_zero, List.set_cons_succ]
            refine wpAnyH_done (by kernel_rfl) ?_ _
            go_wp2_with fail
            go_roundw
            case rel => exact ⟨j, _, by go_num, rfl, by omega, by rw [HBQ.out]; exact Lib.hid hHeld.2.1, Lib.hid hHeld.1⟩
            case measure => simp [RowKit.intOf]; try omega
          | true =>
            have EL := Lib.hid (EX.out rfl)
            clear EX
            go_wp2_with (with_reducible refine Strs.wpList_push _ rfl _ _ rfl w.heap.size w _ _ rfl (HO.out.alloc _) (HB.out.alloc HB.out.size _) (Nat.le_refl _) _ _ _ rfl _ _ (heap_alloc_new _ _) [x] rfl rfl hlim ?_; intro v2 w2 hown2 hb2 _)
            rw [HBK.out] at hown2
            obtain ⟨bk, hbk⟩ : ∃ bk, bkL l j = bk := ⟨_, rfl⟩
            have HBQ := Lib.hid hbk
            rw [hbk] at hown2
            clear hbk HBK
            have hs0 := And.intro hb2.drew (And.intro (hown2.drewN 1) (And.intro (HC1.out _ hb2.drew) (HC2.out _ hb2.drew)))
            go_region_held3 (fun w' => Below w.heap.size w w' ∧ Strs.Own w' w.heap.size v2 bk ∧ w'.cell? ⟨b, off + j, none⟩ = some (.string x) ∧ w'.cell? ⟨b, off + n, none⟩ = some (.string y)) (first | exact hs0 | assumption)
              (first
                | (go_at_call 15; (with_reducible refine (HIx.out _).mono ?_); rintro e wx ⟨rfl, hbx⟩; have sbx := so2_next (by assumption) hbx; clear hbx)
                | (go_at_call 10; (with_reducible refine (EL.out _).mono ?_); rintro e wx ⟨rfl, hbx⟩; have sbx := so2_next (by assumption) hbx; clear hbx))
            go_wp2_with fail
            go_roundw
            case rel => exact ⟨j, _, by go_num, rfl, by omega, by rw [HBQ.out]; exact Lib.hid (And.left (And.right (by assumption))), Lib.hid (And.left (by assumption))⟩
            case measure => simp [RowKit.intOf]; try omega

theorem best_law (l : List ByteArray) (s : ByteArray) {v : Value} {Q : Prop} {W : World} (hr : Strs.Row W v l) (hl : l.length ≤ 9223372036854775807) (_ : Q) (ws : s.size ≤ maxLen) (_ : World) :
    Calls Try.prog 5 #[v, .string s] W fun e W' => e = .returned (.bool true) ∧ Below W.heap.size W W' :=
  best_law0 l v s W hr (by unfold maxLen at ws; omega) hl
end Go.Proofs.Ytjkdhgjicajboaa.Ord
