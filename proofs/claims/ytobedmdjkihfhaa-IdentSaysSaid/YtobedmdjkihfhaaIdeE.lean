/- The laws IdentSays and IdentRising. Conditions: as each theorem states. -/
import Derived.Test.YtobedmdjkihfhaaIdeD
namespace Go.Proofs.Ytobedmdjkihfhaa.Ide
open Go.RowKit Go.Lib Go.Proofs.Ytobedmdjkihfhaa.Byt

/-! ### IdentSays -/
set_option maxHeartbeats 8000000 in
set_option maxRecDepth 100000 in
theorem says_any (s : ByteArray) (l : List ByteArray) (v : Value) (w : World) (hr : Strs.Row w v l) (hs : s.size ≤ 9223372036854775807) (hl : l.length ≤ 9223372036854775807) :
    Calls Try.prog 3 #[.string s, v] w fun e w' => e = .returned (.bool true) ∧ Below w.heap.size w w' := by
  have HAW := Lib.hid awake_any
  have HLT := Lib.hid (light_any v l w hr hl)
  have HR := Lib.hid hr
  clear hr
  cases hlg : lgt l with
  | false =>
    rw [hlg] at HLT
    go_enter Try.func3, Try.ntmps3
    go_wp2_with (first
      | (go_at_call 6; (with_reducible refine HLT.out.mono ?_); rintro e w1 ⟨rfl, rfl⟩)
      | (go_at_call 7; (with_reducible refine (HAW.out _).mono ?_); rintro e w1 ⟨rfl, hb1⟩))
    go_ret
    exact ⟨rfl, hb1⟩
  | true =>
    rw [hlg] at HLT
    obtain ⟨hl60, hl100⟩ := lgt_yes hlg
    clear hlg
    by_cases h3 : 300 < s.size
    · have g : decide ((300 : Int) < (s.size : Int)) = true := decide_eq_true (by omega)
      have gn : decide (300 < s.size) = true := decide_eq_true h3
      go_enter Try.func3, Try.ntmps3
      go_wp2_with (first
        | (go_at_call 6; (with_reducible refine HLT.out.mono ?_); rintro e w1 ⟨rfl, rfl⟩)
        | (go_at_call 7; (with_reducible refine (HAW.out _).mono ?_); rintro e w1 ⟨rfl, hb1⟩))
      go_ret
      exact ⟨rfl, hb1⟩
    · have g : decide ((300 : Int) < (s.size : Int)) = false := decide_eq_false (by omega)
      have gn : decide (300 < s.size) = false := decide_eq_false h3
      have HI := Lib.hid fun W => is_any s W (by omega)
      have HJ := Lib.hid fun W => ris_any s W (by omega)
      have HT := Lib.hid fun W hr => twice_any l v W hr (by omega) (fun x hx => by have := hl100 x hx; omega)
      have HU := Lib.hid fun W hr => rtwice_any l v W hr (by omega)
      have HG := Lib.hid fun W hr => rising_any l v W hr (by omega)
      have HH := Lib.hid fun W hr => rrising_any l v W hr (by omega)
      have HF := Lib.hid fun W hr h => find_any l v s h W hr (by omega)
      have HE := Lib.hid fun W hr => rfind_any l v s W hr (by omega)
      generalize isI s = b1 at *
      generalize tw l = n1 at *
      have e1 : (b1 != b1) = false := by simp
      have e2 : (n1 != n1) = false := by simp
      have e3 : (rs l != rs l) = false := by simp
      by_cases hrs : rs l < 0
      · have g0 : decide ((0 : Int) ≤ rs l) = false := decide_eq_false (by omega)
        have HF2 := Lib.hid fun W hr => HF.out W hr hrs
        clear HF
        generalize rs l = n2 at *
        generalize fn l s = k at *
        generalize fi l s = b at *
        have e4 : ((k : Int) == (k : Int)) = true := by simp
        have e5 : (b == b) = true := by simp
        clear hl60 hl100 hrs h3
        go_enter Try.func3, Try.ntmps3
        go_wp2_with (first
          | (go_at_call 6; (with_reducible refine HLT.out.mono ?_); rintro e w1 ⟨rfl, rfl⟩)
          | (go_at_call 8; (with_reducible refine (HI.out _).mono ?_); rintro e w1 ⟨rfl, rfl⟩)
          | (go_at_call 9; (with_reducible refine (HJ.out _).mono ?_); rintro e w1 ⟨rfl, rfl⟩)
          | (go_at_call 10; (with_reducible refine (HT.out _ HR.out).mono ?_); rintro e w2 ⟨rfl, hb2⟩; have r2 := HR.out.next hb2)
          | (go_at_call 11; (with_reducible refine (HU.out _ r2).mono ?_); rintro e w3 ⟨rfl, hb3⟩; have r3 := r2.next hb3; have c3 := hb2.trans (hb3.mono hb2.size); clear hb2 hb3 r2)
          | (go_at_call 12; (with_reducible refine (HG.out _ r3).mono ?_); rintro e w4 ⟨rfl, hb4⟩; have r4 := r3.next hb4; have c4 := c3.trans (hb4.mono c3.size); clear hb4 c3 r3)
          | (go_at_call 13; first
              | ((with_reducible refine (HH.out _ r5).mono ?_); rintro e w6 ⟨rfl, hb6⟩; have r6 := r5.next hb6; have c6 := c5.trans (hb6.mono c5.size); clear hb6 c5 r5)
              | ((with_reducible refine (HH.out _ r4).mono ?_); rintro e w5 ⟨rfl, hb5⟩; have r5 := r4.next hb5; have c5 := c4.trans (hb5.mono c4.size); clear hb5 c4 r4))
          | (go_at_call 14; (with_reducible refine (HF2.out _ r6).mono ?_); rintro e w7 ⟨rfl, hb7⟩; have r7 := r6.next hb7; have c7 := c6.trans (hb7.mono c6.size); clear hb7 c6 r6)
          | (go_at_call 15; (with_reducible refine (HE.out _ r7).mono ?_); rintro e w8 ⟨rfl, hb8⟩; have r8 := r7.next hb8; have c8 := c7.trans (hb8.mono c7.size); clear hb8 c7 r7)
          | (go_at_call 7; (with_reducible refine (HAW.out _).mono ?_); rintro e w9 ⟨rfl, hb9⟩))
        go_ret
        exact ⟨rfl, c8.trans (hb9.mono c8.size)⟩
      · have g0 : decide ((0 : Int) ≤ rs l) = true := decide_eq_true (by omega)
        clear HF
        generalize rs l = n2 at *
        clear hl60 hl100 hrs h3
        go_enter Try.func3, Try.ntmps3
        go_wp2_with (first
          | (go_at_call 6; (with_reducible refine HLT.out.mono ?_); rintro e w1 ⟨rfl, rfl⟩)
          | (go_at_call 8; (with_reducible refine (HI.out _).mono ?_); rintro e w1 ⟨rfl, rfl⟩)
          | (go_at_call 9; (with_reducible refine (HJ.out _).mono ?_); rintro e w1 ⟨rfl, rfl⟩)
          | (go_at_call 10; (with_reducible refine (HT.out _ HR.out).mono ?_); rintro e w2 ⟨rfl, hb2⟩; have r2 := HR.out.next hb2)
          | (go_at_call 11; (with_reducible refine (HU.out _ r2).mono ?_); rintro e w3 ⟨rfl, hb3⟩; have r3 := r2.next hb3; have c3 := hb2.trans (hb3.mono hb2.size); clear hb2 hb3 r2)
          | (go_at_call 12; (with_reducible refine (HG.out _ r3).mono ?_); rintro e w4 ⟨rfl, hb4⟩; have r4 := r3.next hb4; have c4 := c3.trans (hb4.mono c3.size); clear hb4 c3 r3)
          | (go_at_call 13; first
              | ((with_reducible refine (HH.out _ r5).mono ?_); rintro e w6 ⟨rfl, hb6⟩; have r6 := r5.next hb6; have c6 := c5.trans (hb6.mono c5.size); clear hb6 c5 r5)
              | ((with_reducible refine (HH.out _ r4).mono ?_); rintro e w5 ⟨rfl, hb5⟩; have r5 := r4.next hb5; have c5 := c4.trans (hb5.mono c4.size); clear hb5 c4 r4))
          | (go_at_call 7; (with_reducible refine (HAW.out _).mono ?_); rintro e w9 ⟨rfl, hb9⟩))
        go_ret
        exact ⟨rfl, c6.trans (hb9.mono c6.size)⟩
end Go.Proofs.Ytobedmdjkihfhaa.Ide
