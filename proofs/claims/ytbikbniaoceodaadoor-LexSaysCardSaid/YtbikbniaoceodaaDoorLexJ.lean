/- LexFills. Conditions: the tables of unicode/utf8 and the errors of strconv (what the row lists). -/
import Derived.Test.YtbikbniaoceodaaDoorLexI
namespace Go.Proofs.YtbikbniaoceodaaDoor.Lx
open Go.RowKit Go.Lib Go.Proofs.YtbikbniaoceodaaDoor.Byt Go.Proofs.YtbikbniaoceodaaDoor.Quo

/-! ### LexFills -/
theorem Fl_drop {S : List UInt8} {E : Nat} {L : List Tk} {i : Nat} (h : Fl S E (L.drop i)) (hi : i < L.length) :
    E ≤ (L.getD i T0).o ∧ (L.getD i T0).o + (L.getD i T0).z ≤ S.length ∧ ((L.getD i T0).k = 0 ↔ i + 1 = L.length) ∧ ((L.getD i T0).z = 0 ↔ (L.getD i T0).k = 0) ∧ (∀ j, E ≤ j → j < (L.getD i T0).o → bl (S.getD j 0).toNat = true) ∧ Fl S ((L.getD i T0).o + (L.getD i T0).z) (L.drop (i + 1)) := by
  have e : L.drop i = L.getD i T0 :: L.drop (i + 1) := by
    rw [List.drop_eq_getElem_cons hi, List.getD_eq_getElem?_getD, List.getElem?_eq_getElem hi]; rfl
  rw [e] at h
  obtain ⟨h1, h2, h3, h4, h5, _, _, h8⟩ := h
  refine ⟨h1, h2, h3.trans ⟨fun q => ?_, fun q => ?_⟩, h4, h5, h8⟩
  · have := congrArg List.length q
    rw [List.length_drop] at this
    simp at this
    omega
  · exact List.drop_eq_nil_of_le (by omega)
set_option maxRecDepth 100000 in
set_option maxHeartbeats 4000000 in
theorem fills_walk (s : ByteArray) (w : World) (hE : Env w) : Calls Tryd.prog 4 #[.string s] w fun e w' => e = .returned (.bool true) ∧ Below w.heap.size w w' := by
  have HE := Lib.hid hE
  clear hE
  by_cases hg : 400 < s.size
  · go_enter Tryd.func4, Tryd.ntmps4
    go_wp2_with fail
    refine (awake_any _ HE.out).mono ?_; rintro e w1 ⟨rfl, hb1⟩
    go_wp2_with fail
    go_ret
    exact ⟨rfl, hb1⟩
  · have ht : s.size ≤ 400 := by omega
    clear hg
    have HT0 := fun w hE => tokens_any s (by omega) w hE
    have hl : s.data.toList.length = s.size := by simp
    by_cases he : (tkS s).1 = 0
    · obtain ⟨f1, f2, f3, f4⟩ := fills s.data.toList 0 s.data.toList (by simp) (by omega) he
      change Fl _ 0 (tkS s).2.2 at f1
      change (tkS s).2.2 ≠ [] at f2
      change (tkS s).2.2.length + 0 ≤ _ at f3
      rw [he] at HT0
      have HT := Lib.hid HT0
      have HF := Lib.hid f1
      have hlp := List.length_pos_iff.2 f2
      clear HT0 he f4 f1 f2
      generalize (tkS s).2.2 = L at *
      generalize (tkS s).2.1 = B at *
      rw [hl] at f3
      go_enter Tryd.func4, Tryd.ntmps4
      go_wp2_with fail
      refine (HT.out _ HE.out).mono ?_; rintro e w1 ⟨v, rfl, hr1, hb1⟩
      obtain ⟨ba, cap, rfl, hc⟩ := hr1.open_
      have hsz1 := hb1.size
      have HC := Lib.hid hc
      clear hc hr1
      go_wp2_with fail
      go_loopw [6, 40] (fun e x wr => ∃ (i E : Nat), x = .int .i64 (i : Int) ∧ e = .int .i64 (E : Int) ∧ i ≤ L.length ∧ E ≤ s.size ∧ Below w1.heap.size w1 wr ∧ Hid (Fl s.data.toList E (L.drop i)))
        (fun _ x _ => L.length - (RowKit.intOf x).toNat)
      case atStart => exact ⟨0, 0, by go_num, by go_num, by omega, by omega, Below.refl _ _, HF⟩
      case round =>
        obtain ⟨i, E, rfl, rfl, hi, hE, hb, hF⟩ := hrel
        have hsz := hb.size
        by_cases hlt : i < L.length
        · obtain ⟨g1, g2, g3, g4, g5, g6⟩ := Fl_drop hF.out hlt
          obtain ⟨b, rfl, hrg0⟩ := HC.out i hlt
          have hrg : wr.rangeAt b (i * 5) (tkC (L.getD i T0)) := fun f u hf => (hb.cell (Lib.lt_of_cell (hrg0 f u hf))).trans (hrg0 f u hf)
          clear hrg0
          rw [hl] at g2
          generalize L.getD i T0 = X at *
          have HL := Lib.hid g5
          have HF2 := Lib.hid g6
          have kk : (((X.k : Int) == 0) = true ∧ ((i : Int) == (L.length : Int) - 1) = true ∧ ((X.z : Int) == 0) = true) ∨ (((X.k : Int) == 0) = false ∧ ((i : Int) == (L.length : Int) - 1) = false ∧ ((X.z : Int) == 0) = false) := by
            by_cases h : X.k = 0
            · exact .inl ⟨by rw [beq_iff_eq]; omega, by rw [beq_iff_eq]; have := g3.1 h; omega, by rw [beq_iff_eq]; have := g4.2 h; omega⟩
            · refine .inr ⟨by rw [beq_eq_false_iff_ne]; omega, by rw [beq_eq_false_iff_ne]; intro q; exact h (g3.2 (by omega)), by rw [beq_eq_false_iff_ne]; intro q; exact h (g4.1 (by omega))⟩
          clear g3 g4 g5 g6 hF HF
          rcases kk with ⟨k1, k2, k3⟩ | ⟨k1, k2, k3⟩
          all_goals
            go_wp2_with (refine wpList_take _ rfl _ rfl b (i * 5) X rfl hrg ?_)
            go_loop [9] (fun x => ∃ j : Nat, x = .int .i64 (j : Int) ∧ E ≤ j ∧ j ≤ X.o) (fun x => X.o - (RowKit.intOf x).toNat)
            case atStart => exact ⟨E, rfl, Nat.le_refl _, g1⟩
            case round =>
              obtain ⟨j, rfl, hj1, hj2⟩ := hrel
              by_cases hjl : j < X.o
              · have hix := fun w => index_of s j (j : Int) rfl (by omega) w
                have hbl := HL.out j hj1 hjl
                change bl (by8 s j) = true at hbl
                have hc4 : by8 s j = 32 ∨ by8 s j = 9 ∨ by8 s j = 10 ∨ by8 s j = 13 := by unfold bl at hbl; simpa using hbl
                clear hbl
                rcases hc4 with h4 | h4 | h4 | h4
                all_goals
                  rw [h4] at hix
                  clear h4
                  go_wp2_with fail
                  go_round
                  case rel => exact ⟨j + 1, by go_num, by omega, by omega⟩
                  case measure => simp [RowKit.intOf]; omega
              · obtain rfl : j = X.o := by omega
                go_wp2_with fail
                go_roundw
                case rel => exact ⟨i + 1, X.o + X.z, by go_num, by go_num, by omega, g2, hb.alloc hsz _, HF2⟩
                case measure => simp [RowKit.intOf]; omega
        · obtain rfl : i = L.length := by omega
          have hEs : (E : Int) = (s.size : Int) := by have := hF.out; rw [List.drop_length] at this; have : E = _ := this; omega
          have hEb : ((E : Int) == (s.size : Int)) = true := by rw [beq_iff_eq]; exact hEs
          have HEr := Lib.hid (HE.out.next (next hb1 hb))
          have hb0 := next hb1 hb
          clear hF HF hEs
          go_wp2_with fail
          refine (awake_any _ HEr.out).mono ?_; rintro e w2 ⟨rfl, hb2⟩
          go_wp2_with fail
          go_ret
          exact ⟨rfl, next hb0 hb2⟩
    · obtain ⟨f1, f2⟩ := faults 0 s.data.toList he
      change (tkS s).2.2 = [] at f1
      change (tkS s).2.1 ≤ 0 + _ at f2
      rw [f1] at HT0
      have HT := Lib.hid HT0
      have he2 : (((tkS s).1 : Int) != 0) = true := by rw [bne_iff_ne]; omega
      rw [hl] at f2
      clear HT0 f1 he
      generalize (tkS s).2.1 = B at *
      generalize (tkS s).1 = C at *
      go_enter Tryd.func4, Tryd.ntmps4
      go_wp2_with fail
      refine (HT.out _ HE.out).mono ?_; rintro e w1 ⟨v, rfl, hr1, hb1⟩
      obtain ⟨ba, cap, rfl, _⟩ := hr1.open_
      have HE1 := Lib.hid (HE.out.next hb1)
      have hBs : B ≤ s.size := by omega
      clear hr1 f2
      go_wp2_with fail
      refine (awake_any _ HE1.out).mono ?_; rintro e w2 ⟨rfl, hb2⟩
      go_wp2_with fail
      go_ret
      exact ⟨rfl, next hb1 hb2⟩
end Go.Proofs.YtbikbniaoceodaaDoor.Lx
