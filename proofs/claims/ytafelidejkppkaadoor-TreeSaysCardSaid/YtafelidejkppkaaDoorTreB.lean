/- Contracts of Depth, the document's and the program's. Conditions: as each theorem states. -/
import Derived.Test.YtafelidejkppkaaDoorTreP
namespace Go.Proofs.YtafelidejkppkaaDoor.Tre
open Go.RowKit Go.Lib Go.Proofs.YtafelidejkppkaaDoor.Byt

mutual
/-- The depth as a number of 64 bits has it. -/
def dpw : Vt → Int
  | .mk k _ _ l _ => if k = 4 ∨ k = 5 then IntKind.i64.wrap (1 + dpwL l) else 0
def dpwL : List Vt → Int
  | [] => 0
  | x :: l => max (dpw x) (dpwL l)
end
theorem dpw_parts (v : Vt) : dpw v = if v.k = 4 ∨ v.k = 5 then IntKind.i64.wrap (1 + dpwL v.l) else 0 := by cases v; rw [dpw]; rfl
theorem dpw_bd (v : Vt) : -9223372036854775808 ≤ dpw v ∧ dpw v ≤ 9223372036854775807 := by
  rw [dpw_parts]
  split
  · rw [IntKind.wrap_i64]; omega
  · omega
theorem dpwL_bd : ∀ l : List Vt, 0 ≤ dpwL l ∧ dpwL l ≤ 9223372036854775807
  | [] => by rw [dpwL]; omega
  | x :: l => by rw [dpwL]; have := dpwL_bd l; have := dpw_bd x; omega
theorem dpwL_le : ∀ {l : List Vt} {d : Int}, dpwL l ≤ d ↔ 0 ≤ d ∧ ∀ x ∈ l, dpw x ≤ d
  | [], d => by simp [dpwL]
  | x :: l, d => by
    rw [dpwL, show max (dpw x) (dpwL l) ≤ d ↔ dpw x ≤ d ∧ dpwL l ≤ d by omega, dpwL_le]
    simp only [List.mem_cons, forall_eq_or_imp]
    constructor
    · rintro ⟨a, b, c⟩; exact ⟨b, a, c⟩
    · rintro ⟨b, a, c⟩; exact ⟨a, b, c⟩
theorem dpwL_same {l m : List Vt} (h : ∀ d, (∀ x ∈ l, dpw x ≤ d) ↔ ∀ x ∈ m, dpw x ≤ d) : dpwL l = dpwL m := by
  have h1 : dpwL l ≤ dpwL m := dpwL_le.2 ⟨(dpwL_bd m).1, (h _).2 (dpwL_le.1 (Int.le_refl _)).2⟩
  have h2 : dpwL m ≤ dpwL l := dpwL_le.2 ⟨(dpwL_bd l).1, (h _).1 (dpwL_le.1 (Int.le_refl _)).2⟩
  omega
theorem dpwL_perm {l m : List Vt} (h : l.Perm m) : dpwL l = dpwL m :=
  dpwL_same fun _ => ⟨fun a x hx => a x (h.mem_iff.2 hx), fun a x hx => a x (h.mem_iff.1 hx)⟩
theorem dpw_mkO (k n : Int) (s : ByteArray) (l : List Vt) (ns : List ByteArray) : dpw (mkO k n s l ns) = if k = 4 ∨ k = 5 then IntKind.i64.wrap (1 + dpwL l) else 0 := by
  unfold mkO
  split
  · rename_i h; rw [dpw, dpwL_perm (items_perm h.2)]
  · rw [dpw]
theorem dpwL_map (l : List Vt) (f : Vt → Vt) (h : ∀ x ∈ l, dpw (f x) = dpw x) : dpwL (l.map f) = dpwL l :=
  dpwL_same fun _ => by
    simp only [List.forall_mem_map]
    exact ⟨fun a x hx => by rw [← h x hx]; exact a x hx, fun a x hx => by rw [h x hx]; exact a x hx⟩
theorem dpw_srt (v : Vt) : dpw (srt v) = dpw v := by
  refine vt_ind (p := fun v => dpw (srt v) = dpw v) ?_ v
  intro v ih
  cases v with
  | mk k n s l ns => rw [srt, dpw_mkO, dpw, srtL_map, dpwL_map l srt fun x hx => ih x hx]
theorem dpwL_take (l : List Vt) (i : Nat) (h : i < l.length) : dpwL (l.take (i + 1)) = max (dpwL (l.take i)) (dpw (l.getD i V0)) := by
  rw [List.take_add_one, List.getElem?_eq_getElem h, Option.toList_some, List.getD_eq_getElem?_getD, List.getElem?_eq_getElem h]
  have : ∀ (a : List Vt) (x : Vt), dpwL (a ++ [x]) = max (dpwL a) (dpw x) := by
    intro a x
    induction a with
    | nil => simp only [List.nil_append, dpwL]; omega
    | cons y a ih => rw [List.cons_append, dpwL, dpwL, ih]; omega
  exact this _ _

theorem nests_any (v : Vt) (cs : List Value) (w : World) (h : InV w v cs) :
    Calls Tryd.prog 26 #[.agg cs.toArray] w fun e w' => e = .returned (.bool (decide (v.k = 4 ∨ v.k = 5))) ∧ Below w.heap.size w w' := by
  obtain ⟨a, cap, c4, rfl, _⟩ := (InV_iff w v cs).1 h
  clear h
  generalize v.l.length = l at *
  generalize v.k = k at *
  generalize v.n = n at *
  generalize v.s = s at *
  have hc : (k = 4 ∧ (k == 4) = true ∧ decide (k = 4 ∨ k = 5) = true) ∨ (k ≠ 4 ∧ (k == 4) = false ∧ (k == 5) = decide (k = 4 ∨ k = 5)) := by
    by_cases h4 : k = 4
    · exact .inl ⟨h4, by rw [beq_iff_eq]; exact h4, by rw [decide_eq_true_eq]; exact .inl h4⟩
    · exact .inr ⟨h4, by rw [beq_eq_false_iff_ne]; exact h4, by rw [Bool.eq_iff_iff, beq_iff_eq, decide_eq_true_eq]; exact ⟨.inr, fun q => q.resolve_left h4⟩⟩
  rcases hc with ⟨_, h1, h2⟩ | ⟨_, h1, h2⟩
  · rw [h2]
    clear h2
    go_enter Tryd.func26, Tryd.ntmps26
    go_wp2_with fail
    go_ret
    exact ⟨rfl, (Below.refl _ _).alloc (Nat.le_refl _) _⟩
  · generalize decide (k = 4 ∨ k = 5) = D at *
    go_enter Tryd.func26, Tryd.ntmps26
    go_wp2_with fail
    go_ret
    exact ⟨rfl, (Below.refl _ _).alloc (Nat.le_refl _) _⟩

set_option maxRecDepth 100000 in
theorem rdepth_any (v : Vt) : ∀ (cs : List Value) (w : World), InV w v cs → v.l.length ≤ maxLen →
    (∀ x ∈ v.l, ∀ cs w, InV w x cs → Calls Tryd.prog 13 #[.agg cs.toArray] w fun e w' => e = .returned (.int .i64 (dpw x)) ∧ Below w.heap.size w w') →
    Calls Tryd.prog 13 #[.agg cs.toArray] w fun e w' => e = .returned (.int .i64 (dpw v)) ∧ Below w.heap.size w w' := by
  intro cs w h hmax ih
  obtain ⟨a, cap, c4, rfl, hit, _⟩ := (InV_iff w v cs).1 h
  have HIT := Lib.hid hit
  have HIH := Lib.hid ih
  have hcnt := dpw_parts v
  generalize v.l = l at *
  generalize dpw v = C at *
  generalize v.k = k at *
  generalize v.n = n at *
  generalize v.s = s at *
  have hmx : l.length ≤ 9223372036854775807 := by unfold maxLen at hmax; omega
  clear hmax hit ih h
  by_cases hk : k = 4 ∨ k = 5
  · rw [if_pos hk] at hcnt
    have HCN := Lib.hid hcnt
    clear hcnt
    rcases hk with rfl | rfl
    all_goals
      go_enter Tryd.func13, Tryd.ntmps13
      go_wp2_with fail
      go_loopw [3, 16] (fun y x wr => ∃ (i : Nat) (z : Int) (kk : Value), x = .int .i64 (i : Int) ∧ y = .int .i64 z ∧ i ≤ l.length ∧ (0 ≤ z ∧ z ≤ 9223372036854775807) ∧ wr.heap[w.heap.size]? = some (.cells #[kk, .int .i64 n, .string s, .slice a l.length cap, c4] 25 (0, 0)) ∧ Below w.heap.size w wr ∧ Hid (z = dpwL (l.take i)))
        (fun _ x _ => l.length - (RowKit.intOf x).toNat)
      case atStart => exact ⟨0, 0, _, by go_num, rfl, by omega, by omega, heap_alloc_new _ _, (Below.refl _ _).alloc (Nat.le_refl _) _, Lib.hid (by rw [List.take_zero, dpwL])⟩
      case round =>
        obtain ⟨i, z, kk, rfl, rfl, hi, hzb, hbx, hb, hz⟩ := hrel
        have hsz := hb.size
        have hlt0 : w.heap.size < wr.heap.size := by
          rcases Nat.lt_or_ge w.heap.size wr.heap.size with h' | h'
          · exact h'
          · simp [Array.getElem?_eq_none h'] at hbx
        by_cases hlt : i < l.length
        · obtain ⟨b, off, rfl, ds, hrg, hin⟩ := HIT.out i hlt
          have hrg2 := range_next hrg hb
          rw [Nat.mul_comm 5 i] at hrg2
          have hin2 := InV_next hb _ ds hin
          have HX := Lib.hid fun w2 (hb2 : Below wr.heap.size wr w2) => HIH.out _ (mem_get hlt) ds w2 (InV_next hb2 _ ds hin2)
          have h5 := InV_five hin
          have h5' := size_toArray ds h5
          have h1 := InS_one hin
          have hst := dpwL_take l i hlt
          rw [← hz.out] at hst
          have hdb := dpw_bd (l.getD i V0)
          generalize dpw (l.getD i V0) = d at *
          generalize l.getD i V0 = X at *
          obtain ⟨z2, hz2⟩ : ∃ z2, z2 = max z d := ⟨_, rfl⟩
          have hz2b : 0 ≤ z2 ∧ z2 ≤ 9223372036854775807 := by omega
          have HZ2 := Lib.hid (show z2 = dpwL (l.take (i + 1)) by rw [hst, hz2])
          have HZM := Lib.hid hz2
          clear hst HIT HIH hz2 hz hin hin2
          have hx3 : wr.cell? ⟨w.heap.size, 3, none⟩ = some (.slice (some ⟨b, off, none⟩) l.length cap) := by simp [World.cell?, hbx]
          go_wp2_with (first
            | (refine wpList_take _ rfl _ rfl b (off + i * 5) ds rfl hrg2 h5 ?_)
            | (go_at_call 13; refine (HX.out _ (Below.refl _ _)).mono ?_; rintro e w3 ⟨rfl, hb3⟩))
          go_roundw
          case rel => exact ⟨i + 1, z2, kk, by go_num, (by have := HZM.out; congr 1; (try split) <;> omega), by omega, hz2b, (hb3.block _ hlt0).trans hbx, hb.trans (hb3.mono hsz), HZ2⟩
          case measure => simp [RowKit.intOf]; omega
        · obtain rfl : i = l.length := by omega
          have hzz := hz.out
          rw [List.take_length] at hzz
          have hw : IntKind.i64.wrap (1 + z) = C := by rw [HCN.out, ← hzz]
          clear hz hzz
          go_wp2_with fail
          go_ret
          exact ⟨rfl, hb⟩
  · rw [if_neg hk] at hcnt
    subst hcnt
    have k4 : ((k : Int) != 4) = true := by rw [bne_iff_ne]; omega
    have k5 : ((k : Int) != 5) = true := by rw [bne_iff_ne]; omega
    clear hk HIT HIH
    go_enter Tryd.func13, Tryd.ntmps13
    go_wp2_with fail
    go_ret
    exact ⟨rfl, (Below.refl _ _).alloc (Nat.le_refl _) _⟩
theorem rdepth (v : Vt) (hv : OkT v) : ∀ (cs : List Value) (w : World), InV w v cs → Calls Tryd.prog 13 #[.agg cs.toArray] w fun e w' => e = .returned (.int .i64 (dpw v)) ∧ Below w.heap.size w w' := by
  revert hv
  refine vt_ind (p := fun v => OkT v → ∀ (cs : List Value) (w : World), InV w v cs → Calls Tryd.prog 13 #[.agg cs.toArray] w fun e w' => e = .returned (.int .i64 (dpw v)) ∧ Below w.heap.size w w') ?_ v
  intro v ih hv cs w h
  obtain ⟨_, h1, h2⟩ := hv
  exact rdepth_any v cs w h (by have := h1.2.2.2.1; unfold maxLen; omega) fun x hx => ih x hx (h2 x hx)

set_option maxRecDepth 100000 in
theorem pdepth_any (v : Vt) : ∀ (cs : List Value) (w : World), InV w v cs → v.l.length ≤ maxLen →
    (∀ x ∈ v.l, ∀ cs w, InV w x cs → Calls Tryd.prog 12 #[.agg cs.toArray] w fun e w' => e = .returned (.int .i64 (dpw x)) ∧ Below w.heap.size w w') →
    Calls Tryd.prog 12 #[.agg cs.toArray] w fun e w' => e = .returned (.int .i64 (dpw v)) ∧ Below w.heap.size w w' := by
  intro cs w h hmax ih
  obtain ⟨a, cap, c4, rfl, hit, _⟩ := (InV_iff w v cs).1 h
  have HNS := Lib.hid (nests_any v _ _ (InV_next ((Below.refl _ w).alloc (Nat.le_refl _) (.cells #[.int .i64 v.k, .int .i64 v.n, .string v.s, .slice a v.l.length cap, c4] 25 (0, 0))) v _ h))
  have HIT := Lib.hid hit
  have HIH := Lib.hid ih
  have hcnt := dpw_parts v
  generalize v.l = l at *
  generalize dpw v = C at *
  generalize v.k = k at *
  generalize v.n = n at *
  generalize v.s = s at *
  have hmx : l.length ≤ 9223372036854775807 := by unfold maxLen at hmax; omega
  clear hmax hit ih h
  by_cases hk : k = 4 ∨ k = 5
  · rw [if_pos hk] at hcnt
    have HCN := Lib.hid hcnt
    clear hcnt
    rw [show decide (k = 4 ∨ k = 5) = true from decide_eq_true hk] at HNS
    clear hk
    all_goals
      go_enter Tryd.func12, Tryd.ntmps12
      go_wp2_with (first
        | (refine wpList_fetch _ rfl _ rfl w.heap.size _ rfl (box_new _ _) rfl ?_)
        | (go_at_call 26; refine HNS.out.mono ?_; rintro e w1 ⟨rfl, hb0⟩; obtain ⟨hbx, hb1⟩ := box_after hb0; have hx3 := Box.cell hbx 3; simp at hx3))
      go_loopw [3, 12] (fun y x wr => ∃ (i : Nat) (z : Int), x = .int .i64 (i : Int) ∧ y = .int .i64 z ∧ i ≤ l.length ∧ (0 ≤ z ∧ z ≤ 9223372036854775807) ∧ Below w.heap.size w wr ∧ Hid (z = dpwL (l.take i)))
        (fun _ x _ => l.length - (RowKit.intOf x).toNat)
      case atStart => exact ⟨0, 0, by go_num, rfl, by omega, by omega, hb1, Lib.hid (by rw [List.take_zero, dpwL])⟩
      case round =>
        obtain ⟨i, z, rfl, rfl, hi, hzb, hb, hz⟩ := hrel
        have hsz := hb.size
        by_cases hlt : i < l.length
        · obtain ⟨b, off, rfl, ds, hrg, hin⟩ := HIT.out i hlt
          have hrg2 := range_next hrg hb
          rw [Nat.mul_comm 5 i] at hrg2
          have hin2 := InV_next hb _ ds hin
          have HX := Lib.hid fun w2 (hb2 : Below wr.heap.size wr w2) => HIH.out _ (mem_get hlt) ds w2 (InV_next hb2 _ ds hin2)
          have h5 := InV_five hin
          have h5' := size_toArray ds h5
          have h1 := InS_one hin
          have hst := dpwL_take l i hlt
          rw [← hz.out] at hst
          have hdb := dpw_bd (l.getD i V0)
          generalize dpw (l.getD i V0) = d at *
          generalize l.getD i V0 = X at *
          obtain ⟨z2, hz2⟩ : ∃ z2, z2 = max z d := ⟨_, rfl⟩
          have hz2b : 0 ≤ z2 ∧ z2 ≤ 9223372036854775807 := by omega
          have HZ2 := Lib.hid (show z2 = dpwL (l.take (i + 1)) by rw [hst, hz2])
          have HZM := Lib.hid hz2
          clear hst HIT HIH hz2 hz hin hin2
          go_wp2_with (first
            | (refine wpList_take _ rfl _ rfl b (off + i * 5) ds rfl hrg2 h5 ?_)
            | (refine wpList_keep _ rfl _ _ rfl wr.heap.size wr ((Below.refl _ wr).alloc (Nat.le_refl _) _) wr.heap.size (Nat.le_refl _) ds.toArray _ rfl rfl (box_new _ _) rfl h5' (by simpa using h1) ?_; intro w2 bx2 hb2 _ _)
            | (refine wpList_fetch _ rfl _ rfl wr.heap.size ds.toArray rfl bx2 h5' ?_)
            | (go_at_call 12; refine (HX.out _ hb2).mono ?_; rintro e w3 ⟨rfl, hb3⟩))
          go_roundw
          case rel => exact ⟨i + 1, z2, by go_num, (by have := HZM.out; congr 1; (try split) <;> omega), by omega, hz2b, hb.trans ((next hb2 hb3).mono hsz), HZ2⟩
          case measure => simp [RowKit.intOf]; omega
        · obtain rfl : i = l.length := by omega
          have hzz := hz.out
          rw [List.take_length] at hzz
          have hw : IntKind.i64.wrap (1 + z) = C := by rw [HCN.out, ← hzz]
          clear hz hzz
          go_wp2_with fail
          go_ret
          exact ⟨rfl, hb⟩
  · rw [if_neg hk] at hcnt
    subst hcnt
    rw [show decide (k = 4 ∨ k = 5) = false from decide_eq_false hk] at HNS
    clear hk HIT HIH
    go_enter Tryd.func12, Tryd.ntmps12
    go_wp2_with (first
        | (refine wpList_fetch _ rfl _ rfl w.heap.size _ rfl (box_new _ _) rfl ?_)
        | (go_at_call 26; refine HNS.out.mono ?_; rintro e w1 ⟨rfl, hb0⟩; obtain ⟨hbx, hb1⟩ := box_after hb0; have hx3 := Box.cell hbx 3; simp at hx3))
    go_ret
    exact ⟨rfl, hb1⟩
theorem pdepth (v : Vt) (hv : OkT v) : ∀ (cs : List Value) (w : World), InV w v cs → Calls Tryd.prog 12 #[.agg cs.toArray] w fun e w' => e = .returned (.int .i64 (dpw v)) ∧ Below w.heap.size w w' := by
  revert hv
  refine vt_ind (p := fun v => OkT v → ∀ (cs : List Value) (w : World), InV w v cs → Calls Tryd.prog 12 #[.agg cs.toArray] w fun e w' => e = .returned (.int .i64 (dpw v)) ∧ Below w.heap.size w w') ?_ v
  intro v ih hv cs w h
  obtain ⟨_, h1, h2⟩ := hv
  exact pdepth_any v cs w h (by have := h1.2.2.2.1; unfold maxLen; omega) fun x hx => ih x hx (h2 x hx)
end Go.Proofs.YtafelidejkppkaaDoor.Tre
