/- Contracts of text's PutAll and TakeAll. Conditions: the two tables of unicode/utf8 are as its text lays them; as each theorem states. -/
import Derived.Test.YtpjopidmcahbdaaDoorTxtA
import Derived.Test.YtpjopidmcahbdaaDoorStrs
import Derived.Test.YtpjopidmcahbdaaDoorBld
namespace Go.Proofs.YtpjopidmcahbdaaDoor.Txt
open Go.RowKit Go.Lib Go.Proofs.YtpjopidmcahbdaaDoor.Byt Go.Proofs.YtpjopidmcahbdaaDoor.Var Go.Proofs.YtpjopidmcahbdaaDoor.Utf Go.Proofs.YtpjopidmcahbdaaDoor.Oct

theorem paE_step (m : Int) (l : List ByteArray) (k : Nat) (h : k < l.length) : paE m (l.drop k) = if tE (l.getD k ⟨#[]⟩) m = 0 then paE m (l.drop (k + 1)) else tE (l.getD k ⟨#[]⟩) m := by
  have e : l.drop k = l.getD k ⟨#[]⟩ :: l.drop (k + 1) := by
    rw [List.getD_eq_getElem?_getD, List.getElem?_eq_getElem h]
    exact List.drop_eq_getElem_cons h
  rw [e, paE]
theorem lB_step (l : List ByteArray) (k : Nat) (h : k < l.length) : lB (l.take (k + 1)) = lB (l.take k) ++ tB (l.getD k ⟨#[]⟩) := by
  rw [List.take_add_one, List.getElem?_eq_getElem h, List.getD_eq_getElem?_getD, List.getElem?_eq_getElem h]
  simp only [lB_app, Option.toList_some, Option.getD_some]
  simp [lB]
theorem tB_le (l : List ByteArray) (k : Nat) (h : k < l.length) : (lB (l.take k)).length + (tB (l.getD k ⟨#[]⟩)).length ≤ (lB l).length := by
  have h1 := lB_take_len l (k + 1)
  rw [lB_step l k h, List.length_append] at h1
  exact h1
theorem tS_yes {s : ByteArray} {m : Int} (h : tE s m = 0) : tS s m = ⟨(tB s).toArray⟩ := by unfold tS; rw [if_pos h]
theorem ret_pa (m : Int) (l : List ByteArray) : Ending.returned (.tuple #[.string (paS l m), .int .i64 (paE m l : Nat)]) = if paE m l = 0 then .returned (.tuple #[.string ⟨(paB l).toArray⟩, .int .i64 0]) else .returned (.tuple #[.string ⟨#[]⟩, .int .i64 (paE m l : Nat)]) := by
  unfold paS
  by_cases h : paE m l = 0
  · rw [if_pos h, if_pos h, h]; rfl
  · rw [if_neg h, if_neg h]
theorem pa_no {m : Int} {l : List ByteArray} {e : Nat} (h : paE m l = e) (h0 : e ≠ 0) : Ending.returned (.tuple #[.string ⟨#[]⟩, .int .i64 (e : Int)]) = Ending.returned (.tuple #[.string (paS l m), .int .i64 (paE m l : Nat)]) := by
  rw [ret_pa, if_neg (by omega), h]
theorem pa_yes {m : Int} {l : List ByteArray} (h : paE m l = 0) : Ending.returned (.tuple #[.string ⟨(paB l).toArray⟩, .int .i64 0]) = Ending.returned (.tuple #[.string (paS l m), .int .i64 (paE m l : Nat)]) := by
  rw [ret_pa, if_pos h]

set_option maxHeartbeats 1000000 in
theorem tputall_any (v : Value) (l : List ByteArray) (m : Int) (w : World) (hr : Strs.Row w v l) (hT : Tabs w) (hz : (lB l).length ≤ 100000000000000) (hm : m ≤ 9223372036854775807) :
    Calls Tryd.prog 5 #[v, .int .i64 m] w fun e w' => e = .returned (.tuple #[.string (paS l m), .int .i64 (paE m l : Nat)]) ∧ Below w.heap.size w w' := by
  have hlen : l.length ≤ (lB l).length := by
    clear hr hz
    induction l with
    | nil => simp
    | cons x r ih => rw [lB_cons, List.length_append, List.length_cons]; have := tB_pos x; omega
  have hw : IntKind.u64.wrap (l.length : Int) = (l.length : Int) := by rw [IntKind.wrap_u64]; omega
  have HP := Lib.hid (fun w => puts_any l.length w (by omega))
  have hpl : (putS l.length).size ≤ 10 := by rw [putS_size]; exact putV_len10 _ (by omega)
  have HPL := Lib.hid (show (putS l.length).data.toList = putV l.length by simp [putS])
  generalize hu : putS l.length = u at *
  clear hu
  have HTab := Lib.hid hT
  clear hT
  rcases hr with ⟨rfl, a, cap, rfl⟩ | ⟨b, off, cap, rfl, hcell⟩
  · have hR := Lib.hid (pa_yes (m := m) (l := []) rfl)
    go_enter Tryd.func5, Tryd.ntmps5
    go_wp2_with (first
      | (go_at_call 11; refine (HP.out _).mono ?_; rintro e w1 ⟨rfl, hb1⟩)
      | (go_at_call 10; refine (Bld.write_any w.heap.size w.heap.size [] u _ ((Bld.holds_new w _ (Nat.le_refl _)).next hb1) (by simp; omega) (by have := hb1.size; simp at this; omega)).mono ?_; rintro e w2 ⟨rfl, hh2, hb2⟩))
    go_loopw [18] (fun i wr => i = .int .i64 0 ∧ wr = w2) (fun _ _ => 0)
    case atStart => exact ⟨rfl, rfl⟩
    case round =>
      obtain ⟨rfl, rfl⟩ := hrel
      rw [HPL.out] at hh2
      go_wp2_with (go_at_call 12; refine (Bld.string_any _ _ _ _ hh2 (by have h9 := hb1.size; have := hb2.size; simp at h9; omega)).mono ?_; rintro e w3 ⟨rfl, hb3⟩)
      go_ret2
      refine ⟨?_, ?_⟩
      · rw [← hR.out]; simp [paB, lB]
      · exact Below.trans (Below.trans (((Below.refl _ w).alloc (Nat.le_refl _) _).trans (hb1.mono (by simp))) hb2) hb3
  · have HCell := Lib.hid hcell
    clear hcell
    go_enter Tryd.func5, Tryd.ntmps5
    go_wp2_with (first
      | (go_at_call 11; refine (HP.out _).mono ?_; rintro e w1 ⟨rfl, hb1⟩)
      | (go_at_call 10; refine (Bld.write_any w.heap.size w.heap.size [] u _ ((Bld.holds_new w _ (Nat.le_refl _)).next hb1) (by simp; omega) (by have := hb1.size; simp at this; omega)).mono ?_; rintro e w2 ⟨rfl, hh2, hb2⟩))
    rw [HPL.out, List.nil_append] at hh2
    have hb02 : Below w.heap.size w w2 := (((Below.refl _ w).alloc (Nat.le_refl _) _).trans (hb1.mono (by simp))).trans hb2
    clear hb1 hb2
    go_loopw [18] (fun i wr => ∃ k : Nat, i = .int .i64 (k : Int) ∧ k ≤ l.length ∧ Bld.Holds wr w.heap.size w.heap.size (putV l.length ++ lB (l.take k)) ∧ Hid (paE m l = paE m (l.drop k)) ∧ Below w.heap.size w wr) (fun i _ => l.length - (RowKit.intOf i).toNat)
    case atStart => exact ⟨0, rfl, Nat.zero_le _, by simpa [lB] using hh2, Lib.hid rfl, hb02⟩
    case round =>
      obtain ⟨k, rfl, hk, hh, hE, hb⟩ := hrel
      by_cases hlt : k < l.length
      · have hc0 := HCell.out k hlt
        have hc := (hb.cell (Strs.cell_lt hc0)).trans hc0
        clear hc0
        have hst := paE_step m l k hlt
        have hle := tB_le l k hlt
        have HB := Lib.hid (lB_step l k hlt)
        rw [hE.out.symm] at hst
        generalize l.getD k ⟨#[]⟩ = x at *
        have hxz := tB_len x
        have hsz := hb.size
        have HTP := Lib.hid (tput_any x m wr (HTab.out.next hb) (by omega) hm)
        by_cases h0 : tE x m = 0
        · rw [if_pos h0] at hst
          rw [tS_yes h0, h0] at HTP
          have hZ : (⟨(tB x).toArray⟩ : ByteArray).size = (tB x).length := by show (List.toArray _).size = _; simp
          have HZL := Lib.hid (show (⟨(tB x).toArray⟩ : ByteArray).data.toList = tB x by simp)
          have HST := Lib.hid hst
          have hpl2 := putV_len10 l.length (by omega)
          clear hst h0
          generalize ByteArray.mk (tB x).toArray = y at *
          go_wp2_with (first
            | (go_at_call 8; refine HTP.out.mono ?_; rintro e w3 ⟨rfl, hb3⟩)
            | (go_at_call 10; refine (Bld.write_any _ _ _ y _ (hh.next hb3) (by rw [List.length_append]; omega) (by have := hb3.size; omega)).mono ?_; rintro e w4 ⟨rfl, hh4, hb4⟩))
          go_roundw
          case rel => exact ⟨k + 1, by go_num, by omega, by rw [HB.out, ← List.append_assoc]; rw [HZL.out] at hh4; exact hh4, Lib.hid (hE.out.symm ▸ HST.out), (hb.trans (hb3.mono hsz)).trans hb4⟩
          case measure => simp [RowKit.intOf]; omega
        · rw [if_neg h0] at hst
          have HR := Lib.hid (pa_no hst h0)
          have e1 : tS x m = ⟨#[]⟩ := by unfold tS; rw [if_neg h0]
          rw [e1] at HTP
          have h02 : ((tE x m : Int) == 0) = false := by rw [beq_eq_false_iff_ne]; omega
          clear hst h0 e1
          generalize tE x m = q at *
          go_wp2_with (go_at_call 8; refine HTP.out.mono ?_; rintro e w3 ⟨rfl, hb3⟩)
          go_ret2
          exact ⟨HR.out, hb.trans (hb3.mono hsz)⟩
      · obtain rfl : k = l.length := by omega
        have h0 : paE m l = 0 := by rw [hE.out, List.drop_length]; rfl
        have HR := Lib.hid (pa_yes h0)
        rw [List.take_length] at hh
        have hsz := hb.size
        clear hE h0
        go_wp2_with (go_at_call 12; refine (Bld.string_any _ _ _ _ hh hsz).mono ?_; rintro e w3 ⟨rfl, hb3⟩)
        go_ret2
        exact ⟨HR.out, hb.trans hb3⟩

theorem taR_no {s : ByteArray} {a m : Int} (h : nmC s a 4611686018427387904 ≠ 0) : taR s a m = (nmC s a 4611686018427387904, [], 0) := by unfold taR; rw [if_neg h]
theorem taR_yes {s : ByteArray} {a m : Int} (h : nmC s a 4611686018427387904 = 0) : taR s a m = taF s m (nmN s a 4611686018427387904) (nmE s a 4611686018427387904) ∧ nmE s a 4611686018427387904 ≤ s.size ∧ nmN s a 4611686018427387904 ≤ 4611686018427387904 := by
  obtain ⟨h1, h2, h3, h4⟩ := nm_at s a _ h
  have := tkE_le s a
  refine ⟨by unfold taR; rw [if_pos h], by omega, by omega⟩
theorem str_one (x y : ByteArray) (h : x = y) : (#[Value.string x]).toList = [y].map Value.string := by subst h; rfl

set_option maxHeartbeats 1000000 in
theorem ttakeall_any (s : ByteArray) (a m : Int) (w : World) (hT : Tabs w) (hs : s.size ≤ 4000000000000) (hm : m ≤ 9223372036854775807) :
    Calls Tryd.prog 6 #[.string s, .int .i64 a, .int .i64 m] w fun e w' => ∃ v, e = .returned (.tuple #[v, .int .i64 ((taR s a m).2.2 : Nat), .int .i64 ((taR s a m).1 : Nat)]) ∧ Strs.Row w' v (taR s a m).2.1 ∧ Below w.heap.size w w' := by
  have HN := Lib.hid (fun w => number_any s a 4611686018427387904 w (by omega) (by omega) (by omega))
  have HTab := Lib.hid hT
  have hno := @taR_no s a m
  have hye := @taR_yes s a m
  clear hT
  generalize nmN s a 4611686018427387904 = n at *
  generalize nmE s a 4611686018427387904 = p0 at *
  generalize nmC s a 4611686018427387904 = c at *
  by_cases hc : c = 0
  · subst hc
    obtain ⟨e1, hp0, hn⟩ := hye rfl
    rw [e1]
    clear hno hye
    have HF := Lib.hid e1
    generalize hF : taF s m n p0 = F at *
    have HFF := Lib.hid hF
    clear e1 hF HF
    go_enter Tryd.func6, Tryd.ntmps6
    go_wp2_with (go_at_call 13; refine (HN.out _).mono ?_; rintro e w1 ⟨rfl, rfl⟩)
    go_loopw [10, 11, 12, 25] (fun q c v i wr => ∃ (k p : Nat) (acc : List ByteArray), i = .int .i64 (k : Int) ∧ q = .int .i64 (p : Int) ∧ c = .int .i64 0 ∧ k ≤ n ∧ acc.length = k ∧ k ≤ p ∧ p ≤ s.size ∧ Strs.Own wr w.heap.size v acc ∧ Hid (glue acc (taF s m (n - k) p) = F) ∧ Below w.heap.size w wr) (fun _ _ _ i _ => n - (RowKit.intOf i).toNat)
    case atStart => exact ⟨0, p0, [], rfl, rfl, rfl, Nat.zero_le _, rfl, Nat.zero_le _, hp0, Strs.Own.nil _ _, Lib.hid (by rw [glue_nil]; exact HFF.out), Below.refl _ _⟩
    case round =>
      obtain ⟨k, p, acc, rfl, rfl, rfl, hk, hal, hkp, hp, hown, hG, hb⟩ := hrel
      have hsz := hb.size
      by_cases hlt : k < n
      · have HTG := Lib.hid (tget_any s p m wr (HTab.out.next hb) (by omega) hm)
        have hG2 := hG.out
        rw [show n - k = n - (k + 1) + 1 by omega] at hG2
        by_cases h0 : gE s p m = 0
        · obtain ⟨_, g2, g3, _⟩ := g_at h0
          rw [glue_step _ _ h0] at hG2
          have HG2 := Lib.hid hG2
          rw [h0] at HTG
          clear hG hG2 h0
          generalize gS s p m = x at *
          generalize gO s p m = o at *
          go_wp2_with (first
            | (go_at_call 9; refine HTG.out.mono ?_; rintro e w2 ⟨rfl, hb2⟩)
            | (with_reducible refine Strs.wpList_push _ rfl _ _ rfl w.heap.size w _ _ rfl (((hown.next hb2).alloc _)) ((hb.trans (hb2.mono hsz)).alloc (by have := hb2.size; omega) _) (Nat.le_refl _) _ _ _ rfl _ _ (heap_alloc_new _ _) [x] rfl (str_one _ _ rfl) (by simp; omega) ?_; intro v3 w3 hown3 hb3 _))
          go_roundw
          case rel => exact ⟨k + 1, o, acc ++ [x], by go_num, rfl, rfl, by omega, by simp; omega, by omega, g3, hown3, HG2, hb3⟩
          case measure => simp [RowKit.intOf]; omega
        · rw [glue_stop _ _ h0] at hG2
          have e2 : gS s p m = ⟨#[]⟩ := by unfold gS; rw [if_neg h0]
          have e3 : gO s p m = 0 := by unfold gO; rw [if_neg h0]
          rw [e2, e3] at HTG
          have h02 : ((gE s p m : Int) == 0) = false := by rw [beq_eq_false_iff_ne]; omega
          have HF2 := Lib.hid hG2
          clear hG hG2 h0 e2 e3
          generalize gE s p m = q at *
          go_wp2_with (go_at_call 9; refine HTG.out.mono ?_; rintro e w2 ⟨rfl, hb2⟩)
          go_ret3
          exact ⟨_, by rw [← HF2.out]; rfl, by rw [← HF2.out]; exact Strs.Row.nil _, hb.trans (hb2.mono hsz)⟩
      · have hG2 := hG.out
        rw [show n - k = 0 by omega, glue_end] at hG2
        have HF2 := Lib.hid hG2
        clear hG hG2
        go_wp2_with fail
        go_ret3
        exact ⟨_, by rw [← HF2.out]; rfl, by rw [← HF2.out]; exact hown.row, hb⟩
  · have e1 := hno hc
    have HF2 := Lib.hid e1
    have h02 : ((c : Int) == 0) = false := by rw [beq_eq_false_iff_ne]; omega
    clear hno hye hc e1
    go_enter Tryd.func6, Tryd.ntmps6
    go_wp2_with (go_at_call 13; refine (HN.out _).mono ?_; rintro e w1 ⟨rfl, rfl⟩)
    go_ret3
    exact ⟨_, by rw [HF2.out]; rfl, by rw [HF2.out]; exact Strs.Row.nil _, Below.refl _ _⟩
end Go.Proofs.YtpjopidmcahbdaaDoor.Txt
