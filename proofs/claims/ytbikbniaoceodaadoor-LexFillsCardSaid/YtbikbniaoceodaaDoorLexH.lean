/- Contracts of the document's Next and Tokens. Conditions: as each theorem states. -/
import Derived.Test.YtbikbniaoceodaaDoorLexD
import Derived.Test.YtbikbniaoceodaaDoorLexF
import Derived.Test.YtbikbniaoceodaaDoorLexG
import Derived.Test.YtbikbniaoceodaaDoorQuoG
namespace Go.Proofs.YtbikbniaoceodaaDoor.Lx
open Go.RowKit Go.Lib Go.Proofs.YtbikbniaoceodaaDoor.Byt Go.Proofs.YtbikbniaoceodaaDoor.Quo

theorem rtext_run (s : ByteArray) (i : Nat) (hi : i < s.size) (hs : s.size ≤ 1000000) (hc : by8 s i = 34) (w : World) :
    Calls Tryd.prog 21 #[.string s, .int .i64 (i : Int)] w fun e w' => e = .returned (.tuple #[.string ⟨(if (tkQ ((sf s i).drop 1)).1 = 0 then (tkQ ((sf s i).drop 1)).2.2 else []).toArray⟩, .int .i64 ((i + 1 + (tkQ ((sf s i).drop 1)).2.1 : Nat) : Int), .int .i64 ((tkQ ((sf s i).drop 1)).1 : Int)]) ∧ Below w.heap.size w w' := by
  have ht : tQ s (i : Int) = fin [] (i + 1) (tkQ ((sf s i).drop 1)) := by
    unfold tQ
    have hb : Utf.bt s i = 34 := hc
    rw [Int.toNat_natCast, if_pos ⟨by omega, by omega, hb⟩, sf_drop]
    rfl
  have := rqtake_any s (i : Int) w hs
  rw [ht] at this
  exact this
theorem cl_two (s : ByteArray) (a : Int) : min (max a 0) (s.size : Int) = (cl s a : Int) := by unfold cl; omega

set_option maxRecDepth 100000 in
set_option maxHeartbeats 4000000 in
theorem rnext_any (s : ByteArray) (a : Int) (hs : s.size ≤ 1000000) (w : World) :
    Calls Tryd.prog 11 #[.string s, .int .i64 a] w fun e w' => e = .returned (nR (nxA s a)) ∧ Below w.heap.size w w' := by
  rw [nxA_tok]
  have hcl := cl_le s a
  have hcla := cl_two s a
  obtain ⟨j, hJ⟩ : ∃ j, j = cl s a + skp (sf s (cl s a)) := ⟨_, rfl⟩
  have hj : j ≤ s.size := by
    have := skp_le (sf s (cl s a))
    rw [sf_len] at this
    omega
  rw [← hJ]
  generalize cl s a = i at *
  have HJ := Lib.hid hJ
  clear hJ
  have hsl : s.size ≤ 140737488355328 := by omega
  rcases tok_cases s j hj with ⟨hend, ht⟩ | ⟨hlt, hsg, ht⟩ | ⟨hlt, hsg, hrest⟩
  · rw [ht, nR_bad]
    clear ht
    clear hcl hj
    have hcl : i ≤ s.size := by have := HJ.out; omega
    go_enter Tryd.func11, Tryd.ntmps11
    go_wp2_with fail
    go_loop [6] (fun x => ∃ k : Nat, x = .int .i64 (k : Int) ∧ i ≤ k ∧ k ≤ s.size ∧ Hid (j = k + skp (sf s k))) (fun x => s.size - (RowKit.intOf x).toNat)
    case atStart => exact ⟨i, rfl, Nat.le_refl _, hcl, HJ⟩
    case round =>
      obtain ⟨k, rfl, hik, hk, hh⟩ := hrel
      have st := skp_sf s k
      by_cases hkl : k < s.size
      · have hixk := fun w => index_of s k (k : Int) rfl hkl w
        have HB := Lib.hid (fun w => blank_any (by8 s k) w)
        cases hb : bl (by8 s k) with
        | true =>
          rw [if_pos hb] at st
          rw [hb] at HB
          have HE2 := Lib.hid (show j = k + 1 + skp (sf s (k + 1)) by rw [hh.out, st]; omega)
          clear st hb hh
          go_wp2_with (go_at_call 19; (with_reducible refine (HB.out _).mono ?_); rintro e w1 ⟨rfl, rfl⟩)
          go_round
          case rel => exact ⟨k + 1, by go_num, by omega, by omega, HE2⟩
          case measure => simp [RowKit.intOf]; omega
        | false =>
          rw [if_neg (by rw [hb]; simp)] at st
          rw [hb] at HB
          have e : j = k := by rw [hh.out, st]; rfl
          exfalso; omega
      · obtain rfl : j = k := by rw [hh.out, st, by8_end s k (by omega)]; rfl
        clear st hh
        go_wp2_with fail
        go_returns
        exact ⟨rfl, (Below.refl _ _).alloc (Nat.le_refl _) _⟩
  · rw [ht, nR_good]
    have HS := Lib.hid (fun w => sign_any (by8 s j) w)
    have h6 := sg_le (by8 s j)
    clear ht
    have hsgb : ((sg (by8 s j) : Int) != 0) = true := by rw [bne_iff_ne]; omega
    generalize hG : sg (by8 s j) = g at *
    clear hG
    go_enter Tryd.func11, Tryd.ntmps11
    go_wp2_with fail
    go_loop [6] (fun x => ∃ k : Nat, x = .int .i64 (k : Int) ∧ i ≤ k ∧ k ≤ s.size ∧ Hid (j = k + skp (sf s k))) (fun x => s.size - (RowKit.intOf x).toNat)
    case atStart => exact ⟨i, rfl, Nat.le_refl _, hcl, HJ⟩
    case round =>
      obtain ⟨k, rfl, hik, hk, hh⟩ := hrel
      have st := skp_sf s k
      by_cases hkl : k < s.size
      · have hixk := fun w => index_of s k (k : Int) rfl hkl w
        have HB := Lib.hid (fun w => blank_any (by8 s k) w)
        cases hb : bl (by8 s k) with
        | true =>
          rw [if_pos hb] at st
          rw [hb] at HB
          have HE2 := Lib.hid (show j = k + 1 + skp (sf s (k + 1)) by rw [hh.out, st]; omega)
          clear st hb hh
          go_wp2_with (go_at_call 19; (with_reducible refine (HB.out _).mono ?_); rintro e w1 ⟨rfl, rfl⟩)
          go_round
          case rel => exact ⟨k + 1, by go_num, by omega, by omega, HE2⟩
          case measure => simp [RowKit.intOf]; omega
        | false =>
          rw [if_neg (by rw [hb]; simp)] at st
          rw [hb] at HB
          obtain rfl : j = k := by rw [hh.out, st]; rfl
          clear st hb hh
          go_wp2_with (first
            | (go_at_call 19; (with_reducible refine (HB.out _).mono ?_); rintro e w1 ⟨rfl, rfl⟩)
            | (go_at_call 20; (with_reducible refine (HS.out _).mono ?_); rintro e w1 ⟨rfl, rfl⟩))
          go_returns
          exact ⟨rfl, (Below.refl _ _).alloc (Nat.le_refl _) _⟩
      · exfalso
        have e : j = k := by rw [hh.out, st, by8_end s k (by omega)]; rfl
        omega
  · have HS0 := fun w => sign_any (by8 s j) w
    rw [hsg] at HS0
    have HS := Lib.hid HS0
    clear HS0 hsg
    rcases hrest with ⟨h34, ht⟩ | ⟨h34, h45, ht⟩ | ⟨h34, h45, hd, ht⟩ | ⟨h34, h45, hd, ht⟩
    · have HT0 := fun w => rtext_run s j hlt hs h34 w
      have hin := (tkQ_in ((sf s j).drop 1)).1
      rw [sf_drop, sf_len, ← sf_drop] at hin
      rw [ht]
      unfold txt
      clear ht
      generalize tkQ ((sf s j).drop 1) = R at *
      obtain ⟨E, n, v⟩ := R
      simp only at HT0 hin ⊢
      have h34b : ((by8 s j : Int) == 34) = true := by rw [h34]; rfl
      by_cases hE : E = 0
      · subst hE
        rw [if_pos rfl] at HT0 ⊢
        rw [nR_good]
        have hz : ((n + 1 : Nat) : Int) = ((j + 1 + n : Nat) : Int) - (j : Int) := by omega
        simp only
        rw [hz]
        have HT := Lib.hid HT0
        have hlo : (j : Int) ≤ ((j + 1 + n : Nat) : Int) := by omega
        have hhi : j + 1 + n ≤ s.size := by omega
        clear HT0 hz hin h34
        generalize (⟨v.toArray⟩ : ByteArray) = V at *
        generalize hO : j + 1 + n = O at *
        clear hO
        go_enter Tryd.func11, Tryd.ntmps11
        go_wp2_with fail
        go_loop [6] (fun x => ∃ k : Nat, x = .int .i64 (k : Int) ∧ i ≤ k ∧ k ≤ s.size ∧ Hid (j = k + skp (sf s k))) (fun x => s.size - (RowKit.intOf x).toNat)
        case atStart => exact ⟨i, rfl, Nat.le_refl _, hcl, HJ⟩
        case round =>
          obtain ⟨k, rfl, hik, hk, hh⟩ := hrel
          have st := skp_sf s k
          by_cases hkl : k < s.size
          · have hixk := fun w => index_of s k (k : Int) rfl hkl w
            have HB := Lib.hid (fun w => blank_any (by8 s k) w)
            cases hb : bl (by8 s k) with
            | true =>
              rw [if_pos hb] at st
              rw [hb] at HB
              have HE2 := Lib.hid (show j = k + 1 + skp (sf s (k + 1)) by rw [hh.out, st]; omega)
              clear st hb hh
              go_wp2_with (go_at_call 19; (with_reducible refine (HB.out _).mono ?_); rintro e w1 ⟨rfl, rfl⟩)
              go_round
              case rel => exact ⟨k + 1, by go_num, by omega, by omega, HE2⟩
              case measure => simp [RowKit.intOf]; omega
            | false =>
              rw [if_neg (by rw [hb]; simp)] at st
              rw [hb] at HB
              obtain rfl : j = k := by rw [hh.out, st]; rfl
              clear st hb hh
              go_wp2_with (first
                | (go_at_call 19; (with_reducible refine (HB.out _).mono ?_); rintro e w1 ⟨rfl, rfl⟩)
                | (go_at_call 20; (with_reducible refine (HS.out _).mono ?_); rintro e w1 ⟨rfl, rfl⟩))
              refine (HT.out _).mono ?_
              rintro e w1 ⟨rfl, hb1⟩
              have hb0 : Below w.heap.size w w1 := ((Below.refl _ _).alloc (Nat.le_refl _) _).trans (hb1.mono (by simp))
              have hk4 : Box w1 w.heap.size _ := (box_new w _).next hb1 (by simp)
              clear hb1
              go_wp2_with (refine wpList_keep _ rfl _ _ rfl w.heap.size w hb0 w.heap.size (Nat.le_refl _) _ _ _ _ _ _ rfl rfl hk4 rfl ?_; intro w2 hk5 hb5 _)
              try simp only [Exit.inBlock, Exit.then]
              refine bodyPost_ret (results_tok rfl _ _ _ _ rfl hk5 rfl) rfl ?_
              exact ⟨rfl, hb5⟩
          · exfalso
            have e : j = k := by rw [hh.out, st, by8_end s k (by omega)]; rfl
            omega
      · rw [if_neg hE] at HT0 ⊢
        rw [nR_bad, show j + (n + 1) = j + 1 + n by omega]
        have hE2 : ((E : Int) != 0) = true := by rw [bne_iff_ne]; omega
        have HT := Lib.hid HT0
        clear HT0 hin h34 hE
        generalize hO : j + 1 + n = O at *
        clear hO
        go_enter Tryd.func11, Tryd.ntmps11
        go_wp2_with fail
        go_loop [6] (fun x => ∃ k : Nat, x = .int .i64 (k : Int) ∧ i ≤ k ∧ k ≤ s.size ∧ Hid (j = k + skp (sf s k))) (fun x => s.size - (RowKit.intOf x).toNat)
        case atStart => exact ⟨i, rfl, Nat.le_refl _, hcl, HJ⟩
        case round =>
          obtain ⟨k, rfl, hik, hk, hh⟩ := hrel
          have st := skp_sf s k
          by_cases hkl : k < s.size
          · have hixk := fun w => index_of s k (k : Int) rfl hkl w
            have HB := Lib.hid (fun w => blank_any (by8 s k) w)
            cases hb : bl (by8 s k) with
            | true =>
              rw [if_pos hb] at st
              rw [hb] at HB
              have HE2 := Lib.hid (show j = k + 1 + skp (sf s (k + 1)) by rw [hh.out, st]; omega)
              clear st hb hh
              go_wp2_with (go_at_call 19; (with_reducible refine (HB.out _).mono ?_); rintro e w1 ⟨rfl, rfl⟩)
              go_round
              case rel => exact ⟨k + 1, by go_num, by omega, by omega, HE2⟩
              case measure => simp [RowKit.intOf]; omega
            | false =>
              rw [if_neg (by rw [hb]; simp)] at st
              rw [hb] at HB
              obtain rfl : j = k := by rw [hh.out, st]; rfl
              clear st hb hh
              go_wp2_with (first
                | (go_at_call 19; (with_reducible refine (HB.out _).mono ?_); rintro e w1 ⟨rfl, rfl⟩)
                | (go_at_call 20; (with_reducible refine (HS.out _).mono ?_); rintro e w1 ⟨rfl, rfl⟩))
              refine (HT.out _).mono ?_
              rintro e w0 ⟨rfl, hb9⟩
              go_wp2_with fail
              refine (fault_any _ _ _).mono ?_
              rintro e w1 ⟨rfl, hb8⟩
              have hb1 := hb9.trans (hb8.mono hb9.size)
              clear hb9 hb8
              have hb0 : Below w.heap.size w w1 := ((Below.refl _ _).alloc (Nat.le_refl _) _).trans (hb1.mono (by simp))
              have hk4 : Box w1 w.heap.size _ := (box_new w _).next hb1 (by simp)
              clear hb1
              go_wp2_with (refine wpList_keep _ rfl _ _ rfl w.heap.size w hb0 w.heap.size (Nat.le_refl _) _ _ _ _ _ _ rfl rfl hk4 rfl ?_; intro w2 hk5 hb5 _)
              try simp only [Exit.inBlock, Exit.then]
              refine bodyPost_ret (results_tok rfl _ _ _ _ rfl hk5 rfl) rfl ?_
              exact ⟨rfl, hb5⟩
          · exfalso
            have e : j = k := by rw [hh.out, st, by8_end s k (by omega)]; rfl
            omega
    · have HT0 := fun w => number_any s j (j : Int) rfl hlt (by omega) w
      rw [ht, nR_all]
      rw [nR_all] at HT0
      have HT := Lib.hid HT0
      clear HT0 ht
      generalize (num (sf s j)).1 = E at *
      generalize (num (sf s j)).2.k = K at *
      generalize j + (num (sf s j)).2.o = O at *
      generalize (num (sf s j)).2.z = Z at *
      generalize (⟨(num (sf s j)).2.v.toArray⟩ : ByteArray) = V at *
      generalize (num (sf s j)).2.n = M at *
      have h34b : ((by8 s j : Int) == 34) = false := by rw [beq_eq_false_iff_ne]; omega
      have h45b : ((by8 s j : Int) == 45) = true := by rw [h45]; rfl
      clear h34 h45
      go_enter Tryd.func11, Tryd.ntmps11
      go_wp2_with fail
      go_loop [6] (fun x => ∃ k : Nat, x = .int .i64 (k : Int) ∧ i ≤ k ∧ k ≤ s.size ∧ Hid (j = k + skp (sf s k))) (fun x => s.size - (RowKit.intOf x).toNat)
      case atStart => exact ⟨i, rfl, Nat.le_refl _, hcl, HJ⟩
      case round =>
        obtain ⟨k, rfl, hik, hk, hh⟩ := hrel
        have st := skp_sf s k
        by_cases hkl : k < s.size
        · have hixk := fun w => index_of s k (k : Int) rfl hkl w
          have HB := Lib.hid (fun w => blank_any (by8 s k) w)
          cases hb : bl (by8 s k) with
          | true =>
            rw [if_pos hb] at st
            rw [hb] at HB
            have HE2 := Lib.hid (show j = k + 1 + skp (sf s (k + 1)) by rw [hh.out, st]; omega)
            clear st hb hh
            go_wp2_with (go_at_call 19; (with_reducible refine (HB.out _).mono ?_); rintro e w1 ⟨rfl, rfl⟩)
            go_round
            case rel => exact ⟨k + 1, by go_num, by omega, by omega, HE2⟩
            case measure => simp [RowKit.intOf]; omega
          | false =>
            rw [if_neg (by rw [hb]; simp)] at st
            rw [hb] at HB
            obtain rfl : j = k := by rw [hh.out, st]; rfl
            clear st hb hh
            go_wp2_with (first
              | (go_at_call 19; (with_reducible refine (HB.out _).mono ?_); rintro e w1 ⟨rfl, rfl⟩)
              | (go_at_call 20; (with_reducible refine (HS.out _).mono ?_); rintro e w1 ⟨rfl, rfl⟩))
            refine (HT.out _).mono ?_
            rintro e w1 ⟨rfl, hb1⟩
            have hb0 : Below w.heap.size w w1 := ((Below.refl _ _).alloc (Nat.le_refl _) _).trans (hb1.mono (by simp))
            have hk4 : Box w1 w.heap.size _ := (box_new w _).next hb1 (by simp)
            clear hb1
            go_wp2_with (refine wpList_keep _ rfl _ _ rfl w.heap.size w hb0 w.heap.size (Nat.le_refl _) _ _ _ _ _ _ rfl rfl hk4 rfl ?_; intro w2 hk5 hb5 _)
            try simp only [Exit.inBlock, Exit.then]
            refine bodyPost_ret (results_tok rfl _ _ _ _ rfl hk5 rfl) rfl ?_
            exact ⟨rfl, hb5⟩
        · exfalso
          have e : j = k := by rw [hh.out, st, by8_end s k (by omega)]; rfl
          omega
    · have HT0 := fun w => number_any s j (j : Int) rfl hlt (by omega) w
      rw [ht, nR_all]
      rw [nR_all] at HT0
      have HT := Lib.hid HT0
      clear HT0 ht
      generalize (num (sf s j)).1 = E at *
      generalize (num (sf s j)).2.k = K at *
      generalize j + (num (sf s j)).2.o = O at *
      generalize (num (sf s j)).2.z = Z at *
      generalize (⟨(num (sf s j)).2.v.toArray⟩ : ByteArray) = V at *
      generalize (num (sf s j)).2.n = M at *
      have h34b : ((by8 s j : Int) == 34) = false := by rw [beq_eq_false_iff_ne]; omega
      have h45b : ((by8 s j : Int) == 45) = false := by rw [beq_eq_false_iff_ne]; omega
      have HD0 := fun w => digit_any s j (j : Int) rfl w
      rw [hd] at HD0
      have HD := Lib.hid HD0
      clear h34 h45 hd HD0
      go_enter Tryd.func11, Tryd.ntmps11
      go_wp2_with fail
      go_loop [6] (fun x => ∃ k : Nat, x = .int .i64 (k : Int) ∧ i ≤ k ∧ k ≤ s.size ∧ Hid (j = k + skp (sf s k))) (fun x => s.size - (RowKit.intOf x).toNat)
      case atStart => exact ⟨i, rfl, Nat.le_refl _, hcl, HJ⟩
      case round =>
        obtain ⟨k, rfl, hik, hk, hh⟩ := hrel
        have st := skp_sf s k
        by_cases hkl : k < s.size
        · have hixk := fun w => index_of s k (k : Int) rfl hkl w
          have HB := Lib.hid (fun w => blank_any (by8 s k) w)
          cases hb : bl (by8 s k) with
          | true =>
            rw [if_pos hb] at st
            rw [hb] at HB
            have HE2 := Lib.hid (show j = k + 1 + skp (sf s (k + 1)) by rw [hh.out, st]; omega)
            clear st hb hh
            go_wp2_with (go_at_call 19; (with_reducible refine (HB.out _).mono ?_); rintro e w1 ⟨rfl, rfl⟩)
            go_round
            case rel => exact ⟨k + 1, by go_num, by omega, by omega, HE2⟩
            case measure => simp [RowKit.intOf]; omega
          | false =>
            rw [if_neg (by rw [hb]; simp)] at st
            rw [hb] at HB
            obtain rfl : j = k := by rw [hh.out, st]; rfl
            clear st hb hh
            go_wp2_with (first
              | (go_at_call 19; (with_reducible refine (HB.out _).mono ?_); rintro e w1 ⟨rfl, rfl⟩)
              | (go_at_call 20; (with_reducible refine (HS.out _).mono ?_); rintro e w1 ⟨rfl, rfl⟩)
              | (go_at_call 23; (with_reducible refine (HD.out _).mono ?_); rintro e w1 ⟨rfl, rfl⟩))
            refine (HT.out _).mono ?_
            rintro e w1 ⟨rfl, hb1⟩
            have hb0 : Below w.heap.size w w1 := ((Below.refl _ _).alloc (Nat.le_refl _) _).trans (hb1.mono (by simp))
            have hk4 : Box w1 w.heap.size _ := (box_new w _).next hb1 (by simp)
            clear hb1
            go_wp2_with (refine wpList_keep _ rfl _ _ rfl w.heap.size w hb0 w.heap.size (Nat.le_refl _) _ _ _ _ _ _ rfl rfl hk4 rfl ?_; intro w2 hk5 hb5 _)
            try simp only [Exit.inBlock, Exit.then]
            refine bodyPost_ret (results_tok rfl _ _ _ _ rfl hk5 rfl) rfl ?_
            exact ⟨rfl, hb5⟩
        · exfalso
          have e : j = k := by rw [hh.out, st, by8_end s k (by omega)]; rfl
          omega
    · have HT0 := fun w => word_any s j (j : Int) rfl hj hsl w
      rw [ht, nR_all]
      rw [nR_all] at HT0
      have HT := Lib.hid HT0
      clear HT0 ht
      generalize (wrd (sf s j)).1 = E at *
      generalize (wrd (sf s j)).2.k = K at *
      generalize j + (wrd (sf s j)).2.o = O at *
      generalize (wrd (sf s j)).2.z = Z at *
      generalize (⟨(wrd (sf s j)).2.v.toArray⟩ : ByteArray) = V at *
      generalize (wrd (sf s j)).2.n = M at *
      have h34b : ((by8 s j : Int) == 34) = false := by rw [beq_eq_false_iff_ne]; omega
      have h45b : ((by8 s j : Int) == 45) = false := by rw [beq_eq_false_iff_ne]; omega
      have HD0 := fun w => digit_any s j (j : Int) rfl w
      rw [hd] at HD0
      have HD := Lib.hid HD0
      clear h34 h45 hd HD0
      go_enter Tryd.func11, Tryd.ntmps11
      go_wp2_with fail
      go_loop [6] (fun x => ∃ k : Nat, x = .int .i64 (k : Int) ∧ i ≤ k ∧ k ≤ s.size ∧ Hid (j = k + skp (sf s k))) (fun x => s.size - (RowKit.intOf x).toNat)
      case atStart => exact ⟨i, rfl, Nat.le_refl _, hcl, HJ⟩
      case round =>
        obtain ⟨k, rfl, hik, hk, hh⟩ := hrel
        have st := skp_sf s k
        by_cases hkl : k < s.size
        · have hixk := fun w => index_of s k (k : Int) rfl hkl w
          have HB := Lib.hid (fun w => blank_any (by8 s k) w)
          cases hb : bl (by8 s k) with
          | true =>
            rw [if_pos hb] at st
            rw [hb] at HB
            have HE2 := Lib.hid (show j = k + 1 + skp (sf s (k + 1)) by rw [hh.out, st]; omega)
            clear st hb hh
            go_wp2_with (go_at_call 19; (with_reducible refine (HB.out _).mono ?_); rintro e w1 ⟨rfl, rfl⟩)
            go_round
            case rel => exact ⟨k + 1, by go_num, by omega, by omega, HE2⟩
            case measure => simp [RowKit.intOf]; omega
          | false =>
            rw [if_neg (by rw [hb]; simp)] at st
            rw [hb] at HB
            obtain rfl : j = k := by rw [hh.out, st]; rfl
            clear st hb hh
            go_wp2_with (first
              | (go_at_call 19; (with_reducible refine (HB.out _).mono ?_); rintro e w1 ⟨rfl, rfl⟩)
              | (go_at_call 20; (with_reducible refine (HS.out _).mono ?_); rintro e w1 ⟨rfl, rfl⟩)
              | (go_at_call 23; (with_reducible refine (HD.out _).mono ?_); rintro e w1 ⟨rfl, rfl⟩))
            refine (HT.out _).mono ?_
            rintro e w1 ⟨rfl, hb1⟩
            have hb0 : Below w.heap.size w w1 := ((Below.refl _ _).alloc (Nat.le_refl _) _).trans (hb1.mono (by simp))
            have hk4 : Box w1 w.heap.size _ := (box_new w _).next hb1 (by simp)
            clear hb1
            go_wp2_with (refine wpList_keep _ rfl _ _ rfl w.heap.size w hb0 w.heap.size (Nat.le_refl _) _ _ _ _ _ _ rfl rfl hk4 rfl ?_; intro w2 hk5 hb5 _)
            try simp only [Exit.inBlock, Exit.then]
            refine bodyPost_ret (results_tok rfl _ _ _ _ rfl hk5 rfl) rfl ?_
            exact ⟨rfl, hb5⟩
        · exfalso
          have e : j = k := by rw [hh.out, st, by8_end s k (by omega)]; rfl
          omega

set_option maxRecDepth 100000 in
set_option maxHeartbeats 2000000 in
theorem rtokens_any (s : ByteArray) (hs : s.size ≤ 1000000) (w : World) :
    Calls Tryd.prog 9 #[.string s] w fun e w' => ∃ v, e = .returned (.tuple #[v, .int .i64 ((tkS s).2.1 : Int), .int .i64 ((tkS s).1 : Int)]) ∧ Row w' v (tkS s).2.2 ∧ Below w.heap.size w w' := by
  have HR0 : tkS s = finT [] (tkA 0 (sf s 0)) := (finT_nil 0 _).symm
  generalize tkS s = R at *
  have HR := Lib.hid HR0
  clear HR0
  go_enter Tryd.func9, Tryd.ntmps9
  go_wp2_with fail
  go_loopw [5, 6] (fun v x wr => ∃ (k : Nat) (acc : List Tk), x = .int .i64 (k : Int) ∧ k ≤ s.size ∧ acc.length ≤ k ∧ Own wr w.heap.size v acc ∧ Below w.heap.size w wr ∧ Hid (R = finT acc (tkA k (sf s k))))
    (fun _ x _ => s.size - (RowKit.intOf x).toNat)
  case atStart => exact ⟨0, [], by go_num, by omega, by simp, Own.nil _ _, Below.refl _ _, HR⟩
  case round =>
    obtain ⟨k, acc, rfl, hk, hal, hown, hb, hr⟩ := hrel
    have hsz := hb.size
    have HN0 := fun w => rnext_any s (k : Int) hs w
    have e1 : nxA s (k : Int) = atR k (nx (sf s k)) := by unfold nxA; rw [cl_in s k hk]
    rw [e1, show nR (atR k (nx (sf s k))) = .tuple #[.agg #[.int .i64 (((nx (sf s k)).2.sh k).k : Int), .int .i64 (((nx (sf s k)).2.sh k).o : Int), .int .i64 (((nx (sf s k)).2.sh k).z : Int), .string ⟨((nx (sf s k)).2.sh k).v.toArray⟩, .int .i64 ((nx (sf s k)).2.sh k).n], .int .i64 ((nx (sf s k)).1 : Int)] from rfl] at HN0
    have HN := Lib.hid HN0
    clear HN0 e1
    by_cases he : (nx (sf s k)).1 = 0
    · have hg := nx_good (sf s k) he
      have hst := nx_step (sf s k) he
      rw [sf_len] at hst
      have hxo : ((nx (sf s k)).2.sh k).o = k + (nx (sf s k)).2.o := rfl
      have hxz : ((nx (sf s k)).2.sh k).z = (nx (sf s k)).2.z := rfl
      have hxk : ((nx (sf s k)).2.sh k).k = (nx (sf s k)).2.k := rfl
      rw [he] at HN
      by_cases hk0 : (nx (sf s k)).2.k = 0
      · have HR2 := Lib.hid (hr.out.trans (finT_end acc k _ he hk0))
        have hkb : ((((nx (sf s k)).2.sh k).k : Int) == 0) = true := by rw [hxk, hk0]; rfl
        clear hr hg hst hxo hxz he hk0 hxk
        generalize (nx (sf s k)).2.sh k = X at *
        go_wp2_with fail
        refine (HN.out _).mono ?_
        rintro e w1 ⟨rfl, hb1⟩
        have hb01 := hb.trans (hb1.mono hsz)
        have hown1 := hown.next hb1
        have hsz1 := hb01.size
        clear hb1
        go_wp2_with (at_builtin; refine wpList_push _ rfl _ _ rfl w.heap.size w _ _ rfl ((hown1.alloc _).alloc _) ((hb01.alloc hsz1 _).alloc (by simp; omega) _) (Nat.le_refl _) _ _ rfl X _ _ (heap_new2 _ _ _) rfl (by omega) ?_; intro v3 w3 hown3 hb3 hst; have hkX := hst w1.heap.size _ (box_old (box_new w1 _) _) (fun e => by have := (World.ownsRow.lt hown1 _ e).2; omega); have hc0 : w3.cell? ⟨w1.heap.size, 0, none⟩ = some (.int .i64 (X.k : Int)) := hkX.cell 0; have hc1 : w3.cell? ⟨w1.heap.size, 1, none⟩ = some (.int .i64 (X.o : Int)) := hkX.cell 1; have hc2 : w3.cell? ⟨w1.heap.size, 2, none⟩ = some (.int .i64 (X.z : Int)) := hkX.cell 2)
        go_ret3
        exact ⟨_, by rw [HR2.out]; rfl, by rw [HR2.out]; exact hown3.row, hb3⟩
      · have HR2 := hr.out.trans (finT_step acc k _ he hk0)
        rw [sf_drop] at HR2
        obtain ⟨st1, st2⟩ := hst hk0
        have hkb : ((((nx (sf s k)).2.sh k).k : Int) == 0) = false := by rw [hxk, beq_eq_false_iff_ne]; omega
        have hn1 : k + (nx (sf s k)).2.o + (nx (sf s k)).2.z = ((nx (sf s k)).2.sh k).o + ((nx (sf s k)).2.sh k).z := rfl
        rw [show k + ((nx (sf s k)).2.o + (nx (sf s k)).2.z) = k + (nx (sf s k)).2.o + (nx (sf s k)).2.z by omega, hn1] at HR2
        have HR3 := Lib.hid HR2
        have hx1 : ((nx (sf s k)).2.sh k).o + ((nx (sf s k)).2.sh k).z ≤ s.size := by rw [hxo, hxz]; omega
        have hx2 : k < ((nx (sf s k)).2.sh k).o + ((nx (sf s k)).2.sh k).z := by rw [hxo, hxz]; omega
        clear hr hg hxo hxz he hk0 hxk hn1 HR2 st1 st2 hst
        generalize (nx (sf s k)).2.sh k = X at *
        go_wp2_with fail
        refine (HN.out _).mono ?_
        rintro e w1 ⟨rfl, hb1⟩
        have hb01 := hb.trans (hb1.mono hsz)
        have hown1 := hown.next hb1
        have hsz1 := hb01.size
        clear hb1
        go_wp2_with (at_builtin; refine wpList_push _ rfl _ _ rfl w.heap.size w _ _ rfl ((hown1.alloc _).alloc _) ((hb01.alloc hsz1 _).alloc (by simp; omega) _) (Nat.le_refl _) _ _ rfl X _ _ (heap_new2 _ _ _) rfl (by omega) ?_; intro v3 w3 hown3 hb3 hst; have hkX := hst w1.heap.size _ (box_old (box_new w1 _) _) (fun e => by have := (World.ownsRow.lt hown1 _ e).2; omega); have hc0 : w3.cell? ⟨w1.heap.size, 0, none⟩ = some (.int .i64 (X.k : Int)) := hkX.cell 0; have hc1 : w3.cell? ⟨w1.heap.size, 1, none⟩ = some (.int .i64 (X.o : Int)) := hkX.cell 1; have hc2 : w3.cell? ⟨w1.heap.size, 2, none⟩ = some (.int .i64 (X.z : Int)) := hkX.cell 2)
        go_roundw
        case rel => exact ⟨X.o + X.z, acc ++ [X], by go_num, hx1, by simp; omega, hown3, hb3, HR3⟩
        case measure => simp [RowKit.intOf]; omega
    · have HR2 := Lib.hid (hr.out.trans (finT_bad acc k _ he))
      clear hr
      have he2 : (((nx (sf s k)).1 : Int) != 0) = true := by rw [bne_iff_ne]; omega
      have hxo : k + (nx (sf s k)).2.o = ((nx (sf s k)).2.sh k).o := rfl
      rw [hxo] at HR2
      generalize (nx (sf s k)).2.sh k = X at *
      clear hxo
      generalize (nx (sf s k)).1 = E at *
      go_wp2_with fail
      refine (HN.out _).mono ?_
      rintro e w1 ⟨rfl, hb1⟩
      have hb01 := hb.trans (hb1.mono hsz)
      have hsz1 := hb01.size
      clear hb1
      go_wp2_with fail
      go_region
      all_goals go_wp2_with fail
      all_goals go_ret3
      all_goals exact ⟨_, by rw [HR2.out]; rfl, by rw [HR2.out]; exact Row.nil _, (hb01.alloc hsz1 _).drew⟩
end Go.Proofs.YtbikbniaoceodaaDoor.Lx
