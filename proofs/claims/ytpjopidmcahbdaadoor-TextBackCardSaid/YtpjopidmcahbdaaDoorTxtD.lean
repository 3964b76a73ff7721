/- TextBack as a contract over every input. Conditions: the two tables of unicode/utf8 are as its text lays them; as each theorem states. -/
import Derived.Test.YtpjopidmcahbdaaDoorTxtC
namespace Go.Proofs.YtpjopidmcahbdaaDoor.Txt
open Go.RowKit Go.Lib Go.Proofs.YtpjopidmcahbdaaDoor.Byt Go.Proofs.YtpjopidmcahbdaaDoor.Var Go.Proofs.YtpjopidmcahbdaaDoor.Utf Go.Proofs.YtpjopidmcahbdaaDoor.Oct

theorem lB_bound (n : Nat) : ∀ l : List ByteArray, (∀ x ∈ l, x.size ≤ n) → n < 18446744073709551616 → (lB l).length ≤ l.length * (n + 10)
  | [], _, _ => by simp [lB]
  | x :: r, h, hn => by
    have h1 := lB_bound n r (fun y hy => h y (List.mem_cons_of_mem _ hy)) hn
    have h2 := h x List.mem_cons_self
    have h3 := putV_len10 x.size (by omega)
    rw [lB_cons, List.length_append, tB_len, List.length_cons, Nat.add_mul]
    omega
theorem paS_yes {l : List ByteArray} {m : Int} (h : paE m l = 0) : paS l m = ⟨(paB l).toArray⟩ := by unfold paS; rw [if_pos h]
theorem paS_no {l : List ByteArray} {m : Int} (h : paE m l ≠ 0) : paS l m = ⟨#[]⟩ := by unfold paS; rw [if_neg h]
theorem fact_put (l : List ByteArray) (a b : ByteArray) (m : Int) (hm : m ≤ 9223372036854775807) (hl : l.length ≤ 50) (h : paE m l = 0) :
    taR (a ++ paS l m ++ b) (a.size : Nat) m = (0, l, a.size + (paS l m).size) := by
  have e : (paS l m).data.toList = paB l := by rw [paS_yes h]
  have e2 : (paS l m).size = (paB l).length := by rw [← size_list, e]
  rw [e2]
  refine ta_put b.data.toList (by simp; omega) hm (by omega) h ?_
  rw [ByteArray.data_append, ByteArray.data_append, Array.toList_append, Array.toList_append, List.append_assoc, e]
  rw [← size_list a, List.drop_left]
theorem fact_take (t : ByteArray) (m : Int) (h : (taR t 0 m).1 = 0) : paE m (taR t 0 m).2.1 = 0 ∧ paS (taR t 0 m).2.1 m = cutB t 0 (taR t 0 m).2.2 ∧ (taR t 0 m).2.2 ≤ t.size ∧ (lB (taR t 0 m).2.1).length ≤ t.size := by
  obtain ⟨h1, h2, h3, h4, h5⟩ := ta_at (s := t) (p := 0) (m := m) h
  rw [show ((0 : Nat) : Int) = 0 from rfl] at h1 h2 h3 h4 h5
  rw [List.drop_zero, Nat.sub_zero] at h5
  refine ⟨h4, ?_, h2, ?_⟩
  · rw [paS_yes h4, h5]; simp [cutB]
  · have : (paB (taR t 0 m).2.1).length ≤ t.size := by rw [h5, List.length_take, size_list]; omega
    unfold paB at this
    rw [List.length_append] at this
    omega

/-- A guard struck: the example alone. -/
theorem back_guard (v : Value) (l : List ByteArray) (a b t : ByteArray) (w : World) (hr : Strs.Row w v l) (hT : Tabs w) (hg : 50 < l.length ∨ 100 < a.size ∨ 100 < b.size ∨ 400 < t.size) :
    Calls Tryd.prog 3 #[v, .agg #[.string a, .string b], .string t] w fun e w' => e = .returned (.bool true) ∧ Below w.heap.size w w' := by
  have hg' : 50 < l.length ∨ (¬ 50 < l.length ∧ 100 < a.size) ∨ (¬ 50 < l.length ∧ ¬ 100 < a.size ∧ 100 < b.size) ∨ (¬ 50 < l.length ∧ ¬ 100 < a.size ∧ ¬ 100 < b.size ∧ 400 < t.size) := by omega
  obtain ⟨p, cap, rfl, hc⟩ := hr.open_
  clear hg hc
  have HT := Lib.hid hT
  clear hT hr
  rcases hg' with h | ⟨h1, h⟩ | ⟨h1, h2, h⟩ | ⟨h1, h2, h3, h⟩
  all_goals
    go_enter Tryd.func3, Tryd.ntmps3
    go_wp2_with fail
    refine (awake_any _ (HT.out.next ((Below.refl _ _).alloc (Nat.le_refl _) _))).mono ?_; rintro e w1 ⟨rfl, hb1⟩
    go_wp2_with fail
    go_ret
    exact ⟨rfl, below_next ((Below.refl _ _).alloc (Nat.le_refl _) _) (by simp) hb1⟩

set_option maxHeartbeats 2000000 in
theorem back_walk (v : Value) (l : List ByteArray) (a b t : ByteArray) (w : World) (hr : Strs.Row w v l) (hT : Tabs w) :
    Calls Tryd.prog 3 #[v, .agg #[.string a, .string b], .string t] w fun e w' => e = .returned (.bool true) ∧ Below w.heap.size w w' := by
  by_cases hg : 50 < l.length ∨ 100 < a.size ∨ 100 < b.size ∨ 400 < t.size
  · exact back_guard v l a b t w hr hT hg
  have hl : l.length ≤ 50 := by omega
  have ha : a.size ≤ 100 := by omega
  have hb : b.size ≤ 100 := by omega
  have ht : t.size ≤ 400 := by omega
  clear hg
  have HR := Lib.hid hr
  obtain ⟨p, cap, rfl, hc⟩ := hr.open_
  have HC := Lib.hid hc
  clear hc hr
  obtain ⟨c0, d0, g0, l0⟩ := two_new w (.string a) (.string b) 23
  have HT := Lib.hid (hT.next l0)
  have HR0 := Lib.hid (HR.out.next l0)
  clear hT
  go_enter Tryd.func3, Tryd.ntmps3
  go_wp2_with fail
  go_loopw [41] (fun i wr => ∃ k : Nat, i = .int .i64 (k : Int) ∧ k ≤ l.length ∧ wr = w.alloc (.cells #[.string a, .string b] 23) ∧ Hid (∀ j, j < k → (l.getD j ⟨#[]⟩).size ≤ 100)) (fun i _ => l.length - (RowKit.intOf i).toNat)
  case atStart => exact ⟨0, rfl, Nat.zero_le _, rfl, Lib.hid fun j hj => by omega⟩
  case round =>
    obtain ⟨k, rfl, hk, rfl, hS⟩ := hrel
    by_cases hlt : k < l.length
    · obtain ⟨b1, off, rfl, c1⟩ := HC.out k hlt
      have c2 := (l0.cell (Strs.cell_lt c1)).trans c1
      have HST := Lib.hid (fun (h : (l.getD k ⟨#[]⟩).size ≤ 100) j (hj : j < k + 1) => if q : j < k then hS.out j q else (show j = k by omega) ▸ h)
      clear c1 hS
      generalize l.getD k ⟨#[]⟩ = x at *
      by_cases hx : 100 < x.size
      · go_wp2_with fail
        refine (awake_any _ HT.out).mono ?_; rintro e w1 ⟨rfl, hb1⟩
        go_wp2_with fail
        go_ret
        exact ⟨rfl, below_next l0 (by omega) hb1⟩
      · have HST2 := Lib.hid (HST.out (by omega))
        clear HST
        go_wp2_with fail
        go_roundw
        case rel => exact ⟨k + 1, by go_num, by omega, trivial, HST2⟩
        case measure => simp [RowKit.intOf]; omega
    · obtain rfl : k = l.length := by omega
      have hle : ∀ x ∈ l, x.size ≤ 100 := by
        intro x hx
        obtain ⟨j, hj, rfl⟩ := List.getElem_of_mem hx
        have := hS.out j hj
        rwa [List.getD_eq_getElem?_getD, List.getElem?_eq_getElem hj] at this
      have hlb := lB_bound 100 l hle (by decide)
      have HP := Lib.hid (fun w hr hT => tputall_any (.slice p l.length cap) l 100 w hr hT (by omega) (by decide))
      clear hS hle
      have hps : (paS l 100).size ≤ 6000 := by
        unfold paS
        split
        · show (List.toArray _).size ≤ _
          have := putV_len10 l.length (by omega)
          rw [List.size_toArray]; unfold paB; rw [List.length_append]; omega
        · exact Nat.zero_le _
      have HA := Lib.hid (fun w hT => ttakeall_any (a ++ paS l 100 ++ b) (a.size : Nat) 100 w hT (by simp; omega) (by decide))
      have HG := Lib.hid (fun w hT => ttakeall_any t 0 400 w hT (by omega) (by decide))
      have HW := Lib.hid (fun w u hu => texts_same u (.slice p l.length cap) l w hu)
      have hF := fun h => fact_put l a b 100 (by decide) hl h
      have hFt := fact_take t 400
      have hE0 := fun h => paS_no (l := l) (m := 100) h
      have hEt := @ta_err t 0 400
      generalize paS l 100 = S at *
      generalize taR (a ++ S ++ b) (a.size : Nat) 100 = R at *
      have hz1 : (a ++ S).size = a.size + S.size := by simp
      by_cases he : paE 100 l = 0
      · have hR := hF he
        subst hR
        rw [he] at HP
        clear hF hE0 he
        by_cases hg : (taR t 0 400).1 = 0
        · obtain ⟨f1, f2, f3, f4⟩ := hFt hg
          have HQ := Lib.hid (fun w u hu hT => tputall_any u (taR t 0 400).2.1 400 w hu hT (by omega) (by decide))
          rw [hg] at HG
          rw [f1, f2] at HQ
          have hsl : ∀ w, (Instr.slice 9 (.string t) none (some (.int .i64 ((taR t 0 400).2.2 : Nat))) none).run Tryd.prog w = .ok (.string (cutB t 0 (taR t 0 400).2.2)) w := fun w => sl_to t _ f3 w
          clear hg f1 f2 f4 hFt hEt
          generalize cutB t 0 (taR t 0 400).2.2 = C at *
          generalize (taR t 0 400).2.2 = O at *
          generalize (taR t 0 400).2.1 = L at *
          go_wp2_with fail
          refine (HP.out _ HR0.out HT.out).mono ?_; rintro e w1 ⟨rfl, hb1⟩
          have HT1 := Lib.hid (HT.out.next hb1)
          have HR1 := Lib.hid (HR0.out.next hb1)
          obtain ⟨c1, d1, g1, l1⟩ := two_keep hb1 c0 d0 g0 l0; clear hb1 c0 d0 g0 l0 HT HR0
          go_wp2_with fail
          with_reducible refine (HA.out _ HT1.out).mono ?_; rintro e w2 ⟨v2, rfl, hr2, hb2⟩
          have HT2 := Lib.hid (HT1.out.next hb2)
          have HR2 := Lib.hid (HR1.out.next hb2)
          obtain ⟨c2, d2, g2, l2⟩ := two_keep hb2 c1 d1 g1 l1; clear hb2 c1 d1 g1 l1 HT1 HR1
          go_wp2_with fail
          refine (HW.out _ _ hr2 HR2.out (by omega)).mono ?_; rintro e w3 ⟨rfl, hb3⟩
          have HT3 := Lib.hid (HT2.out.next hb3)
          obtain ⟨c3, d3, g3, l3⟩ := two_keep hb3 c2 d2 g2 l2; clear hb3 c2 d2 g2 l2 HT2 HR2 hr2
          go_wp2_with fail
          with_reducible refine (HG.out _ HT3.out).mono ?_; rintro e w4 ⟨v4, rfl, hr4, hb4⟩
          have HT4 := Lib.hid (HT3.out.next hb4)
          obtain ⟨c4, d4, g4, l4⟩ := two_keep hb4 c3 d3 g3 l3; clear hb4 c3 d3 g3 l3 HT3
          go_wp2_with fail
          refine (HQ.out _ _ hr4 HT4.out).mono ?_; rintro e w5 ⟨rfl, hb5⟩
          have HT5 := Lib.hid (HT4.out.next hb5)
          have l5 := below_next l4 (by omega) hb5
          have g5 := hb5.size
          go_wp2_with fail
          refine (awake_any _ HT5.out).mono ?_; rintro e w6 ⟨rfl, hb6⟩
          go_wp2_with fail
          go_ret
          exact ⟨rfl, below_next l5 (by omega) hb6⟩
        · obtain ⟨f1, f2⟩ := hEt hg
          rw [f1, f2] at HG
          have hg2 : (((taR t 0 400).1 : Int) == 0) = false := by rw [beq_eq_false_iff_ne]; omega
          clear hg f1 f2 hFt hEt
          generalize (taR t 0 400).1 = gq at *
          go_wp2_with fail
          refine (HP.out _ HR0.out HT.out).mono ?_; rintro e w1 ⟨rfl, hb1⟩
          have HT1 := Lib.hid (HT.out.next hb1)
          have HR1 := Lib.hid (HR0.out.next hb1)
          obtain ⟨c1, d1, g1, l1⟩ := two_keep hb1 c0 d0 g0 l0; clear hb1 c0 d0 g0 l0 HT HR0
          go_wp2_with fail
          with_reducible refine (HA.out _ HT1.out).mono ?_; rintro e w2 ⟨v2, rfl, hr2, hb2⟩
          have HT2 := Lib.hid (HT1.out.next hb2)
          have HR2 := Lib.hid (HR1.out.next hb2)
          obtain ⟨c2, d2, g2, l2⟩ := two_keep hb2 c1 d1 g1 l1; clear hb2 c1 d1 g1 l1 HT1 HR1
          go_wp2_with fail
          refine (HW.out _ _ hr2 HR2.out (by omega)).mono ?_; rintro e w3 ⟨rfl, hb3⟩
          have HT3 := Lib.hid (HT2.out.next hb3)
          obtain ⟨c3, d3, g3, l3⟩ := two_keep hb3 c2 d2 g2 l2; clear hb3 c2 d2 g2 l2 HT2 HR2 hr2
          go_wp2_with fail
          with_reducible refine (HG.out _ HT3.out).mono ?_; rintro e w4 ⟨v4, rfl, hr4, hb4⟩
          have HT4 := Lib.hid (HT3.out.next hb4)
          have l4 := below_next l3 (by omega) hb4
          have g4 := hb4.size
          obtain ⟨p4, cap4, rfl⟩ : ∃ p4 cap4, v4 = .slice p4 0 cap4 := by
            obtain ⟨p4, cap4, h4, _⟩ := hr4.open_
            exact ⟨p4, cap4, h4⟩
          go_wp2_with fail
          refine (awake_any _ HT4.out).mono ?_; rintro e w6 ⟨rfl, hb6⟩
          go_wp2_with fail
          go_ret
          exact ⟨rfl, below_next l4 (by omega) hb6⟩
      · have he2 : ((paE 100 l : Int) == 0) = false := by rw [beq_eq_false_iff_ne]; omega
        clear hF hE0 he
        generalize paE 100 l = eq at *
        by_cases hg : (taR t 0 400).1 = 0
        · obtain ⟨f1, f2, f3, f4⟩ := hFt hg
          have HQ := Lib.hid (fun w u hu hT => tputall_any u (taR t 0 400).2.1 400 w hu hT (by omega) (by decide))
          rw [hg] at HG
          rw [f1, f2] at HQ
          have hsl : ∀ w, (Instr.slice 9 (.string t) none (some (.int .i64 ((taR t 0 400).2.2 : Nat))) none).run Tryd.prog w = .ok (.string (cutB t 0 (taR t 0 400).2.2)) w := fun w => sl_to t _ f3 w
          clear hg f1 f2 f4 hFt hEt
          generalize cutB t 0 (taR t 0 400).2.2 = C at *
          generalize (taR t 0 400).2.2 = O at *
          generalize (taR t 0 400).2.1 = L at *
          go_wp2_with fail
          refine (HP.out _ HR0.out HT.out).mono ?_; rintro e w1 ⟨rfl, hb1⟩
          have HT1 := Lib.hid (HT.out.next hb1)
          have HR1 := Lib.hid (HR0.out.next hb1)
          obtain ⟨c1, d1, g1, l1⟩ := two_keep hb1 c0 d0 g0 l0; clear hb1 c0 d0 g0 l0 HT HR0
          go_wp2_with fail
          with_reducible refine (HA.out _ HT1.out).mono ?_; rintro e w2 ⟨v2, rfl, hr2, hb2⟩
          have HT2 := Lib.hid (HT1.out.next hb2)
          have HR2 := Lib.hid (HR1.out.next hb2)
          obtain ⟨c2, d2, g2, l2⟩ := two_keep hb2 c1 d1 g1 l1; clear hb2 c1 d1 g1 l1 HT1 HR1
          have HT3 := HT2
          have c3 := c2; have d3 := d2; have g3 := g2; have l3 := l2
          clear c2 d2 g2 l2 HT2 HR2 hr2
          go_wp2_with fail
          with_reducible refine (HG.out _ HT3.out).mono ?_; rintro e w4 ⟨v4, rfl, hr4, hb4⟩
          have HT4 := Lib.hid (HT3.out.next hb4)
          obtain ⟨c4, d4, g4, l4⟩ := two_keep hb4 c3 d3 g3 l3; clear hb4 c3 d3 g3 l3 HT3
          go_wp2_with fail
          refine (HQ.out _ _ hr4 HT4.out).mono ?_; rintro e w5 ⟨rfl, hb5⟩
          have HT5 := Lib.hid (HT4.out.next hb5)
          have l5 := below_next l4 (by omega) hb5
          have g5 := hb5.size
          go_wp2_with fail
          refine (awake_any _ HT5.out).mono ?_; rintro e w6 ⟨rfl, hb6⟩
          go_wp2_with fail
          go_ret
          exact ⟨rfl, below_next l5 (by omega) hb6⟩
        · obtain ⟨f1, f2⟩ := hEt hg
          rw [f1, f2] at HG
          have hg2 : (((taR t 0 400).1 : Int) == 0) = false := by rw [beq_eq_false_iff_ne]; omega
          clear hg f1 f2 hFt hEt
          generalize (taR t 0 400).1 = gq at *
          go_wp2_with fail
          refine (HP.out _ HR0.out HT.out).mono ?_; rintro e w1 ⟨rfl, hb1⟩
          have HT1 := Lib.hid (HT.out.next hb1)
          have HR1 := Lib.hid (HR0.out.next hb1)
          obtain ⟨c1, d1, g1, l1⟩ := two_keep hb1 c0 d0 g0 l0; clear hb1 c0 d0 g0 l0 HT HR0
          go_wp2_with fail
          with_reducible refine (HA.out _ HT1.out).mono ?_; rintro e w2 ⟨v2, rfl, hr2, hb2⟩
          have HT2 := Lib.hid (HT1.out.next hb2)
          have HR2 := Lib.hid (HR1.out.next hb2)
          obtain ⟨c2, d2, g2, l2⟩ := two_keep hb2 c1 d1 g1 l1; clear hb2 c1 d1 g1 l1 HT1 HR1
          have HT3 := HT2
          have c3 := c2; have d3 := d2; have g3 := g2; have l3 := l2
          clear c2 d2 g2 l2 HT2 HR2 hr2
          go_wp2_with fail
          with_reducible refine (HG.out _ HT3.out).mono ?_; rintro e w4 ⟨v4, rfl, hr4, hb4⟩
          have HT4 := Lib.hid (HT3.out.next hb4)
          have l4 := below_next l3 (by omega) hb4
          have g4 := hb4.size
          obtain ⟨p4, cap4, rfl⟩ : ∃ p4 cap4, v4 = .slice p4 0 cap4 := by
            obtain ⟨p4, cap4, h4, _⟩ := hr4.open_
            exact ⟨p4, cap4, h4⟩
          go_wp2_with fail
          refine (awake_any _ HT4.out).mono ?_; rintro e w6 ⟨rfl, hb6⟩
          go_wp2_with fail
          go_ret
          exact ⟨rfl, below_next l4 (by omega) hb6⟩

end Go.Proofs.YtpjopidmcahbdaaDoor.Txt
