/- Contracts of Level, Is. Conditions: the two tables of unicode/utf8 are as its text lays them, strconv.ErrSyntax holds an error; as each theorem states. -/
import Derived.Test.YtggahjhjapnfeaaDoorGraD
import Derived.Deep.MidRow
import Derived.Laws.CopyOwn
namespace Go.Proofs.YtggahjhjapnfeaaDoor.Gr
open Go.RowKit Go.Lib Go.Proofs.YtggahjhjapnfeaaDoor.Byt Go.Proofs.YtggahjhjapnfeaaDoor.Lx

theorem orE_all {α} {a b : Option α} {P : α → Prop} (ha : ∀ x, a = some x → P x) (hb : ∀ x, b = some x → P x) : ∀ x, orE a b = some x → P x := by
  intro x h
  rcases orE_some h with h | h
  · exact ha x h
  · exact hb x h
/-- How a step changes what is expected and what is open. -/
theorem step_in {t : St} {m : List UInt8} : ∀ q, step t m = some q → q.1.ex ≤ 4 ∧ q.1.E.length ≤ t.E.length + 1 := by
  have hv : ∀ q, vStep t m = some q → q.1.ex ≤ 4 ∧ q.1.E.length ≤ t.E.length + 1 := by
    intro q h
    unfold vStep at h
    split at h
    · cases h; exact ⟨by show 1 ≤ 4; omega, by simp [opened]⟩
    · split at h
      · cases h; exact ⟨by show 2 ≤ 4; omega, by simp [opened]⟩
      · split at h
        · cases h; exact ⟨Nat.le_refl _, by simp⟩
        · cases h
  have hn : ∀ q, nStep t m = some q → q.1.ex ≤ 4 ∧ q.1.E.length ≤ t.E.length + 1 := by
    intro q h
    unfold nStep at h
    split at h
    · cases h; exact ⟨Nat.zero_le _, by simp⟩
    · cases h
  have he : ∀ q, eStep t m = some q → q.1.ex ≤ 4 ∧ q.1.E.length ≤ t.E.length + 1 := by
    intro q h
    unfold eStep at h
    split at h
    · cases h; exact ⟨Nat.le_refl _, by simp; omega⟩
    · cases h
  have hc : ∀ q, cStep t m = some q → q.1.ex ≤ 4 ∧ q.1.E.length ≤ t.E.length + 1 := by
    intro q h
    unfold cStep at h
    split at h
    · cases h; exact ⟨by simp only; split <;> omega, by simp⟩
    · cases h
  unfold step
  split
  · exact hv
  · split
    · exact orE_all he hv
    · split
      · exact orE_all he hn
      · split
        · exact hn
        · exact orE_all hc he

/-! ### the reader, made -/
theorem infoR : (Tryd.prog.info? 36).map (·.size) = some 5 := by kernel_rfl
section
variable {ops : Array Oper} {rest : List Oper} {o : Oper} {a : Act} {Q : Exit → Act → World → Prop}
theorem wpList_keepR (W : World) (hgd : o.guard = none) (x y : Operand) (ho : o.op = .store 36 x y) (B : Nat) (w0 : World) (hb : Below B w0 W) (g : Nat) (hB : B ≤ g) (s : ByteArray) (old : Array Value)
    (hx : a.eval x = .pointer (some ⟨g, 0, none⟩)) (hy : a.eval y = .agg #[.string s, .int .i64 0, .int .i64 0, .slice none 0 0, .int .i64 0]) (hk : W.heap[g]? = some (.cells old 36 (0, 0))) (ho5 : old.size = 5)
    (h : ∀ w', w'.heap[g]? = some (.cells #[.string s, .int .i64 0, .int .i64 0, .slice none 0 0, .int .i64 0] 36 (0, 0)) → Below B w0 w' → wpList Tryd.prog ops Q rest (a.put o.dst undef) w') : wpList Tryd.prog ops Q (o :: rest) a W := by
  refine wpList_store_row hgd _ x y ho g _ hx hy _ old hk infoR ho5 (by simp [Value.oneCell']) ?_
  exact h _ (setRow_heap W g old _ _ _ hk) (below_setRow hb hB _)
end
theorem Sr.made {w0 W : World} {b : Nat} {s : ByteArray} (hb : w0.heap.size ≤ b) (h : W.heap[b]? = some (.cells #[.string s, .int .i64 0, .int .i64 0, .slice none 0 0, .int .i64 0] 36 (0, 0))) (hB : Below w0.heap.size w0 W) (hE : Env w0) :
    Sr w0 b s 0 0 [] 0 W := ⟨⟨hb, none, 0, h, Own.nil _ _, by simp [Value.ownBlock]⟩, hB, hE⟩

set_option maxHeartbeats 1000000 in
set_option maxRecDepth 100000 in
theorem level_any (s : ByteArray) (w : World) (hE : Env w) (hs : s.size ≤ 1000000) :
    Calls Tryd.prog 8 #[.string s] w fun e w' => e = .returned (.int .i64 (lvl s.data.toList)) ∧ Below w.heap.size w w' := by
  have HM := Lib.hid (fun W h hB => Sr.made (w0 := w) (W := W) (s := s) (Nat.le_refl _) h hB hE)
  have hr0 : run ⟨0, [], 0⟩ (sf s (0 + skp (sf s 0))) = lvl s.data.toList := by
    rw [Nat.zero_add, show sf s (skp (sf s 0)) = (sf s 0).drop (skp (sf s 0)) by rw [sf_drop, Nat.zero_add], run_skp]
    rfl
  have hl0 : 0 + skp (sf s 0) ≤ s.size := by
    have := skp_le (sf s 0)
    rw [sf_len] at this
    omega
  have HB := Lib.hid (fun k ex E lv W h hk => blanks_at w w.heap.size s k ex E lv W h hk hs)
  have HN := Lib.hid (fun k ex E lv W h hp hl hex => next_any w w.heap.size s k ex E lv W h hp hs hl hex)
  have hsk0 : skp (sf s (0 + skp (sf s 0))) = 0 := by
    rw [← sf_drop]; exact skp_none (skp_head _)
  generalize hZ : lvl s.data.toList = Z at *
  have HZ := Lib.hid hr0
  have HS0 := Lib.hid hsk0
  clear hZ hr0 hsk0 hE
  go_enter Tryd.func8, Tryd.ntmps8
  go_wp2_with (first
    | (refine wpList_keepR _ rfl _ _ rfl w.heap.size w ((Below.refl _ w).alloc (Nat.le_refl _) _) w.heap.size (Nat.le_refl _) s _ rfl rfl (heap_alloc_new _ _) rfl ?_; intro w1 hk1 hb1)
    | (go_at_call 15; (with_reducible refine (HB.out 0 0 [] 0 _ (HM.out _ hk1 hb1) (Nat.zero_le _)).mono ?_); rintro e w2 ⟨rfl, hR2⟩))
  go_loopw [] (fun wr => ∃ k ex E lv, Sr w w.heap.size s k ex E lv wr ∧ k ≤ s.size ∧ E.length ≤ k ∧ ex ≤ 4 ∧ Hid (skp (sf s k) = 0) ∧ Hid (run ⟨ex, E, lv⟩ (sf s k) = Z)) (fun wr => s.size - (RowKit.intOf ((wr.cell? ⟨w.heap.size, 1, none⟩).getD undef)).toNat)
  case atStart => exact ⟨_, 0, [], 0, hR2, hl0, Nat.zero_le _, Nat.zero_le _, HS0, HZ⟩
  case round =>
    clear hR2 HZ HS0 hl0 hk1 hb1 HM
    obtain ⟨k, ex, E, lv, hR, hk, hEk, hex, hsk, hrun⟩ := hrel
    have c0 := hR.c0
    have c1 := hR.c1
    by_cases hkl : k < s.size
    · have hne : sf s k ≠ [] := fun e => by have := congrArg List.length e; rw [sf_len] at this; simp at this; omega
      have hrun2 := hrun.out
      have e0 : (sf s k).drop (skp (sf s k)) = sf s k := by rw [hsk.out, List.drop_zero]
      rw [run_eq, e0, if_neg hne] at hrun2
      have HN2 := HN.out k ex E lv wr hR hkl (by omega) hex
      have HR := Lib.hid hR
      clear hrun e0 hsk
      cases hst : step ⟨ex, E, lv⟩ (sf s k) with
      | none =>
        rw [hst] at HN2 hrun2
        have HZ2 := Lib.hid hrun2
        have HN3 := Lib.hid HN2
        clear HN2 hrun2 hst
        go_wp2_with (go_at_call 16; refine HN3.out.mono ?_; rintro e wx ⟨rfl, hx⟩)
        first | go_ret | go_returns
        exact ⟨by rw [← HZ2.out]; rfl, hx⟩
      | some q =>
        obtain ⟨g1, g2⟩ := step_in q hst
        obtain ⟨p1, p2⟩ := step_pos hne hst
        rw [sf_len] at p2
        rw [hst] at HN2 hrun2
        simp only at g1 g2
        have hkq : k + q.2 ≤ s.size := by omega
        have hsd : (sf s k).drop q.2 = sf s (k + q.2) := sf_drop s k q.2
        simp only [hsd] at hrun2
        rw [← run_skp, sf_drop] at hrun2
        have HZ2 := Lib.hid hrun2
        have hle : k + q.2 + skp (sf s (k + q.2)) ≤ s.size := by
          have := skp_le (sf s (k + q.2))
          rw [sf_len] at this
          omega
        have HSK : Hid (skp (sf s (k + q.2 + skp (sf s (k + q.2)))) = 0) := Lib.hid (by rw [← sf_drop]; exact skp_none (skp_head _))
        have hm := hR.c1
        have HN3 := Lib.hid HN2
        have HK := Lib.hid (show k < k + q.2 + skp (sf s (k + q.2)) ∧ q.1.E.length ≤ k + q.2 + skp (sf s (k + q.2)) by omega)
        clear HN2 hrun2 hst hsd
        go_wp2_with (first
          | (go_at_call 16; refine HN3.out.mono ?_; rintro e wx ⟨rfl, hx⟩)
          | (go_at_call 15; (with_reducible refine (HB.out _ _ _ _ _ hx hkq).mono ?_); rintro e wy ⟨rfl, hy⟩))
        go_roundw
        case rel => exact ⟨_, _, _, _, hy, hle, HK.out.2, g1, HSK, HZ2⟩
        case measure =>
          have h9 := hy.c1
          have := HK.out.1
          rw [hm, h9]
          simp [RowKit.intOf]
          omega
    · have hke : k = s.size := by omega
      have hrun2 := hrun.out
      rw [sf_nil s k (by omega), run_end (by rfl)] at hrun2
      unfold Gr.fin at hrun2
      simp only at hrun2
      have c2 := hR.c2
      have c4 := hR.c4
      obtain ⟨ao, cap, c3⟩ := hR.len3
      have HR := Lib.hid hR
      clear hrun hsk hR
      by_cases h4 : ex = 4
      · subst h4
        cases E with
        | nil =>
          rw [if_pos ⟨rfl, rfl⟩] at hrun2
          have HZ2 := Lib.hid hrun2
          clear hrun2
          rw [List.length_nil] at c3
          go_wp2_with fail
          first | go_ret | go_returns
          exact ⟨by rw [← HZ2.out]; rfl, HR.out.bel⟩
        | cons c F =>
          rw [if_neg (by simp)] at hrun2
          have HZ2 := Lib.hid hrun2
          have hpos : decide ((0 : Int) < ((F.length + 1 : Nat) : Int)) = true := decide_eq_true (by omega)
          rw [List.length_cons] at c3
          clear hrun2
          go_wp2_with fail
          first | go_ret | go_returns
          exact ⟨by rw [← HZ2.out]; rfl, HR.out.bel⟩
      · rw [if_neg (fun h => h4 h.1)] at hrun2
        have HZ2 := Lib.hid hrun2
        have hne : ((ex : Int) != 4) = true := by rw [bne_iff_ne]; omega
        clear hrun2 h4
        go_wp2_with fail
        first | go_ret | go_returns
        exact ⟨by rw [← HZ2.out]; rfl, HR.out.bel⟩
/-- What Is says. -/
def isB (z : Int) : Bool := decide (0 ≤ z) && decide (z ≤ 64)
theorem is_any (s : ByteArray) (w : World) (hE : Env w) (hs : s.size ≤ 1000000) :
    Calls Tryd.prog 9 #[.string s] w fun e w' => e = .returned (.bool (isB (lvl s.data.toList))) ∧ Below w.heap.size w w' := by
  have HL := Lib.hid (level_any s w hE hs)
  unfold isB
  generalize lvl s.data.toList = z at *
  by_cases h0 : 0 ≤ z
  · have d0 : decide (0 ≤ z) = true := decide_eq_true h0
    by_cases h1 : z ≤ 64
    · have d1 : decide (z ≤ 64) = true := decide_eq_true h1
      rw [d0, d1]
      go_enter Tryd.func9, Tryd.ntmps9
      go_wp2_with (go_at_call 8; (with_reducible refine HL.out.mono ?_); rintro e wx ⟨rfl, hx⟩)
      go_ret
      exact ⟨rfl, hx⟩
    · have d1 : decide (z ≤ 64) = false := decide_eq_false h1
      rw [d0, d1]
      go_enter Tryd.func9, Tryd.ntmps9
      go_wp2_with (go_at_call 8; (with_reducible refine HL.out.mono ?_); rintro e wx ⟨rfl, hx⟩)
      go_ret
      exact ⟨rfl, hx⟩
  · have d0 : decide (0 ≤ z) = false := decide_eq_false h0
    rw [d0]
    go_enter Tryd.func9, Tryd.ntmps9
    go_wp2_with (go_at_call 8; (with_reducible refine HL.out.mono ?_); rintro e wx ⟨rfl, hx⟩)
    go_ret
    exact ⟨rfl, hx⟩
end Go.Proofs.YtggahjhjapnfeaaDoor.Gr
