/- Contracts of the document's Next and Tokens. Conditions: as each theorem states. -/
import Derived.Test.YteinaclkpickaaaGreatDoorLexD
import Derived.Test.YteinaclkpickaaaGreatDoorLexF
import Derived.Test.YteinaclkpickaaaGreatDoorLexG2
import Derived.Test.YteinaclkpickaaaGreatDoorQuoG2
namespace Go.Proofs.YteinaclkpickaaaGreatDoor.Lx
open Go.RowKit Go.Lib Go.Proofs.YteinaclkpickaaaGreatDoor.Byt Go.Proofs.YteinaclkpickaaaGreatDoor.Quo

theorem rtext_run (s : ByteArray) (i : Nat) (hi : i < s.size) (hs : s.size ≤ 1000000) (hc : by8 s i = 34) (w : World) :
    Calls Tryz.prog 52 #[.string s, .int .i64 (i : Int)] w fun e w' => e = .returned (.tuple #[.string ⟨(if (tkQ ((sf s i).drop 1)).1 = 0 then (tkQ ((sf s i).drop 1)).2.2 else []).toArray⟩, .int .i64 ((i + 1 + (tkQ ((sf s i).drop 1)).2.1 : Nat) : Int), .int .i64 ((tkQ ((sf s i).drop 1)).1 : Int)]) ∧ Below w.heap.size w w' := by
  have ht : tQ s (i : Int) = fin [] (i + 1) (tkQ ((sf s i).drop 1)) := by
    unfold tQ
    have hb : Utf.bt s i = 34 := hc
    rw [Int.toNat_natCast, if_pos ⟨by omega, by omega, hb⟩, sf_drop]
    rfl
  have := rqtake_any s (i : Int) w hs
  rw [ht] at this
  exact this
theorem cl_two (s : ByteArray) (a : Int) : min (max a 0) (s.size : Int) = (cl s a : Int) := by unfold cl; omega

set_option maxRecDepth 100000 in
set_option maxHeartbeats 4000000 in
theorem rnext_any (s : ByteArray) (a : Int) (hs : s.size ≤ 1000000) (w : World) :
    Calls Tryz.prog 33 #[.string s, .int .i64 a] w fun e w' => e = .returned (nR (nxA s a)) ∧ Below w.heap.size w w' := by
  rw [nxA_tok]
  have hcl := cl_le s a
  have hcla := cl_two s a
  obtain ⟨j, hJ⟩ : ∃ j, j = cl s a + skp (sf s (cl s a)) := ⟨_, rfl⟩
  have hj : j ≤ s.size := by
    have := skp_le (sf s (cl s a))
    rw [sf_len] at this
    omega
  rw [← hJ]
  generalize cl s a = i at *
  have HJ := Lib.hid hJ
  clear hJ
  have hsl : s.size ≤ 140737488355328 := by omega
  rcases tok_cases s j hj with ⟨hend, ht⟩ | ⟨hlt, hsg, ht⟩ | ⟨hlt, hsg, hrest⟩
  · rw [ht, nR_bad]
    clear ht
    clear hcl hj
    have hcl : i ≤ s.size := by have := HJ.out; omega
    go_enter Tryz.func33, Tryz.ntmps33
    go_wp2_with fail
    go_loop [6] (fun x => ∃ k : Nat, x = .int .i64 (k : Int) ∧ i ≤ k ∧ k ≤ s.size ∧ Hid (j = k + skp (sf s k))) (fun x => s.size - (RowKit.intOf x).toNat)
    case atStart => exact ⟨i, rfl, Nat.le_refl _, hcl, HJ⟩
    case round =>
      obtain ⟨k, rfl, hik, hk, hh⟩ := hrel
      have st := skp_sf s k
      by_cases hkl : k < s.size
      · have hixk := fun w => index_of s k (k : Int) rfl hkl w
        have HB := Lib.hid (fun w => blank_any (by8 s k) w)
        cases hb : bl (by8 s k) with
        | true =>
          rw [if_pos hb] at st
          rw [hb] at HB
          have HE2 := Lib.hid (show j = k + 1 + skp (sf s (k + 1)) by rw [hh.out, st]; omega)
          clear st hb hh
          go_wp2_with (go_at_call 50; (with_reducible refine (HB.out _).mono ?_); rintro e w1 ⟨rfl, rfl⟩)
          go_round
          case rel => exact ⟨k + 1, by go_num, by omega, by omega, HE2⟩
          case measure => simp [RowKit.intOf]; omega
        | false =>
          rw [if_neg (by rw [hb]; simp)] at st
          rw [hb] at HB
          have e : j = k := by rw [hh.out, st]; rfl
          exfalso; omega
      · obtain rfl : j = k := by rw [hh.out, st, by8_end s k (by omega)]; rfl
        clear st hh
        go_wp2_with fail
        go_returns
        exact ⟨rfl, (Below.refl _ _).alloc (Nat.le_refl _) _⟩
  · rw [ht, nR_good]
    have HS := Lib.hid (fun w => sign_any (by8 s j) w)
    have h6 := sg_le (by8 s j)
    clear ht
    have hsgb : ((sg (by8 s j) : Int) != 0) = true := by rw [bne_iff_ne]; omega
    generalize hG : sg (by8 s j) = g at *
    clear hG
    go_enter Tryz.func33, Tryz.ntmps33
    go_wp2_with fail
    go_loop [6] (fun x => ∃ k : Nat, x = .int .i64 (k : Int) ∧ i ≤ k ∧ k ≤ s.size ∧ Hid (j = k + skp (sf s k))) (fun x => s.size - (RowKit.intOf x).toNat)
    case atStart => exact ⟨i, rfl, Nat.le_refl _, hcl, HJ⟩
    case round =>
      obtain ⟨k, rfl, hik, hk, hh⟩ := hrel
      have st := skp_sf s k
      by_cases hkl : k < s.size
      · have hixk := fun w => index_of s k (k : Int) rfl hkl w
        have HB := Lib.hid (fun w => blank_any (by8 s k) w)
        cases hb : bl (by8 s k) with
        | true =>
          rw [if_pos hb] at st
          rw [hb] at HB
          have HE2 := Lib.hid (show j = k + 1 + skp (sf s (k + 1)) by rw [hh.out, st]; omega)
          clear st hb hh
          go_wp2_with (go_at_call 50; (with_reducible refine (HB.out _).mono ?_); rintro e w1 ⟨rfl, rfl⟩)
          go_round
          case rel => exact ⟨k + 1, by go_num, by omega, by omega, HE2⟩
          case measure => simp [RowKit.intOf]; omega
        | false =>
          rw [if_neg (by rw [hb]; simp)] at st
          rw [hb] at HB
          obtain rfl : j = k := by rw [hh.out, st]; rfl
          clear st hb hh
          go_wp2_with (first
            | (go_at_call 50; (with_reducible refine (HB.out _).mono ?_); rintro e w1 ⟨rfl, rfl⟩)
            | (go_at_call 51; (with_reducible refine (HS.out _).mono ?_); rintro e w1 ⟨rfl, rfl⟩))
          go_returns
          exact ⟨rfl, (Below.refl _ _).alloc (Nat.le_refl _) _⟩
      · exfalso
        have e : j = k := by rw [hh.out, st, by8_end s k (by omega)]; rfl
        omega
  · have HS0 := fun w => sign_any (by8 s j) w
    rw [hsg] at HS0
    have HS := Lib.hid HS0
    clear HS0 hsg
    rcases hrest with ⟨h34, ht⟩ | ⟨h34, h45, ht⟩ | ⟨h34, h45, hd, ht⟩ | ⟨h34, h45, hd, ht⟩
    · have HT0 := fun w => rtext_run s j hlt hs h34 w
      have hin := (tkQ_in ((sf s j).drop 1)).1
      rw [sf_drop, sf_len, ← sf_drop] at hin
      rw [ht]
      unfold txt
      clear ht
      generalize tkQ ((sf s j).drop 1) = R at *
      obtain ⟨E, n, v⟩ := R
      simp only at HT0 hin ⊢
      have h34b : ((by8 s j : Int) == 34) = true := by rw [h34]; rfl
      by_cases hE : E = 0
      · subst hE
        rw [if_pos rfl] at HT0 ⊢
        rw [nR_good]
        have hz : ((n + 1 : Nat) : Int) = ((j + 1 + n : Nat) : Int) - (j : Int) := by omega
        simp only
        rw [hz]
        have HT := Lib.hid HT0
        have hlo : (j : Int) ≤ ((j + 1 + n : Nat) : Int) := by omega
        have hhi : j + 1 + n ≤ s.size := by omega
        clear HT0 hz hin h34
        generalize (⟨v.toArray⟩ : ByteArray) = V at *
        generalize hO : j + 1 + n = O at *
        clear hO
        go_enter Tryz.func33, Tryz.ntmps33
        go_wp2_with fail
        go_loop [6] (fun x => ∃ k : Nat, x = .int .i64 (k : Int) ∧ i ≤ k ∧ k ≤ s.size ∧ Hid (j = k + skp (sf s k))) (fun x => s.size - (RowKit.intOf x).toNat)
        case atStart => exact ⟨i, rfl, Nat.le_refl _, hcl, HJ⟩
        case round =>
          obtain ⟨k, rfl, hik, hk, hh⟩ := hrel
          have st := skp_sf s k
          by_cases hkl : k < s.size
          · have hixk := fun w => index_of s k (k : Int) rfl hkl w
            have HB := Lib.hid (fun w => blank_any (by8 s k) w)
            cases hb : bl (by8 s k) with
            | true =>
              rw [if_pos hb] at st
              rw [hb] at HB
              have HE2 := Lib.hid (show j = k + 1 + skp (sf s (k + 1)) by rw [hh.out, st]; omega)
              clear st hb hh
              go_wp2_with (go_at_call 50; (with_reducible refine (HB.out _).mono ?_); rintro e w1 ⟨rfl, rfl⟩)
              go_round
              case rel => exact ⟨k + 1, by go_num, by omega, by omega, HE2⟩
              case measure => simp [RowKit.intOf]; omega
            | false =>
              rw [if_neg (by rw [hb]; simp)] at st
              rw [hb] at HB
              obtain rfl : j = k := by rw [hh.out, st]; rfl
              clear st hb hh
              go_wp2_with (first
                | (go_at_call 50; (with_reducible refine (HB.out _).mono ?_); rintro e w1 ⟨rfl, rfl⟩)
                | (go_at_call 51; (with_reducible refine (HS.out _).mono ?_); rintro e w1 ⟨rfl, rfl⟩))
              refine (HT.out _).mono ?_
              rintro e w1 ⟨rfl, hb1⟩
              have hb0 : Below w.heap.size w w1 := ((Below.refl _ _).alloc (Nat.le_refl _) _).trans (hb1.mono (by simp))
              have hk4 : Box w1 w.heap.size _ := (box_new w _).next hb1 (by simp)
              clear hb1
              go_wp2_with (refine wpList_keep _ rfl _ _ rfl w.heap.size w hb0 w.heap.size (Nat.le_refl _) _ _ _ _ _ _ rfl rfl hk4 rfl ?_; intro w2 hk5 hb5 _)
              try simp only [Exit.inBlock, Exit.then]
              refine bodyPost_ret (results_tok rfl _ _ _ _ rfl hk5 rfl) rfl ?_
              exact ⟨rfl, hb5⟩
          · exfalso
            have e : j = k := by rw [hh.out, st, by8_end s k (by omega)]; rfl
            omega
      · rw [if_neg hE] at HT0 ⊢
        rw [nR_bad, show j + (n + 1) = j + 1 + n by omega]
        have hE2 : ((E : Int) != 0) = true := by rw [bne_iff_ne]; omega
        have HT := Lib.hid HT0
        clear HT0 hin h34 hE
        generalize hO : j + 1 + n = O at *
        clear hO
        go_enter Tryz.func33, Tryz.ntmps33
        go_wp2_with fail
        go_loop [6] (fun x => ∃ k : Nat, x = .int .i64 (k : Int) ∧ i ≤ k ∧ k ≤ s.size ∧ Hid (j = k + skp (sf s k))) (fun x => s.size - (RowKit.intOf x).toNat)
        case atStart => exact ⟨i, rfl, Nat.le_refl _, hcl, HJ⟩
        case round =>
          obtain ⟨k, rfl, hik, hk, hh⟩ := hrel
          have st := skp_sf s k
          by_cases hkl : k < s.size
          · have hixk := fun w => index_of s k (k : Int) rfl hkl w
            have HB := Lib.hid (fun w => blank_any (by8 s k) w)
            cases hb : bl (by8 s k) with
            | true =>
              rw [if_pos hb] at st
              rw [hb] at HB
              have HE2 := Lib.hid (show j = k + 1 + skp (sf s (k + 1)) by rw [hh.out, st]; omega)
              clear st hb hh
              go_wp2_with (go_at_call 50; (with_reducible refine (HB.out _).mono ?_); rintro e w1 ⟨rfl, rfl⟩)
              go_round
              case rel => exact ⟨k + 1, by go_num, by omega, by omega, HE2⟩
              case measure => simp [RowKit.intOf]; omega
            | false =>
              rw [if_neg (by rw [hb]; simp)] at st
              rw [hb] at HB
              obtain rfl : j = k := by rw [hh.out, st]; rfl
              clear st hb hh
              go_wp2_with (first
                | (go_at_call 50; (with_reducible refine (HB.out _).mono ?_); rintro e w1 ⟨rfl, rfl⟩)
                | (go_at_call 51; (with_reducible refine (HS.out _).mono ?_); rintro e w1 ⟨rfl, rfl⟩))
              refine (HT.out _).mono ?_
              rintro e w0 ⟨rfl, hb9⟩
              go_wp2_with fail
              refine (fault_any _ _ _).mono ?_
              rintro e w1 ⟨rfl, hb8⟩
              have hb1 := hb9.trans (hb8.mono hb9.size)
              clear hb9 hb8
              have hb0 : Below w.heap.size w w1 := ((Below.refl _ _).alloc (Nat.le_refl _) _).trans (hb1.mono (by simp))
              have hk4 : Box w1 w.heap.size _ := (box_new w _).next hb1 (by simp)
              clear hb1
              go_wp2_with (refine wpList_keep _ rfl _ _ rfl w.heap.size w hb0 w.heap.size (Nat.le_refl _) _ _ _ _ _ _ rfl rfl hk4 rfl ?_; intro w2 hk5 hb5 _)
              try simp only [Exit.inBlock, Exit.then]
              refine bodyPost_ret (results_tok rfl _ _ _ _ rfl hk5 rfl) rfl ?_
              exact ⟨rfl, hb5⟩
          · exfalso
            have e : j = k := by rw [hh.out, st, by8_end s k (by omega)]; rfl
            omega
    · have HT0 := fun w => number_any s j (j : Int) rfl hlt (by omega) w
      rw [ht, nR_all]
      rw [nR_all] at HT0
      have HT := Lib.hid HT0
      clear HT0 ht
      generalize (num (sf s j)).1 = E at *
      generalize (num (sf s j)).2.k = K at *
      generalize j + (num (sf s j)).2.o = O at *
      generalize (num (sf s j)).2.z = Z at *
      generalize (⟨(num (sf s j)).2.v.toArray⟩ : ByteArray) = V at *
      generalize (num (sf s j)).2.n = M at *
      have h34b : ((by8 s j : Int) == 34) = false := by rw [beq_eq_false_iff_ne]; omega
      have h45b : ((by8 s j : Int) == 45) = true := by rw [h45]; rfl
      clear h34 h45
      go_enter Tryz.func33, Tryz.ntmps33
      go_wp2_with fail
      go_loop [6] (fun x => ∃ k : Nat, x = .int .i64 (k : Int) ∧ i ≤ k ∧ k ≤ s.size ∧ Hid (j = k + skp (sf s k))) (fun x => s.size - (RowKit.intOf x).toNat)
      case atStart => exact ⟨i, rfl, Nat.le_refl _, hcl, HJ⟩
      case round =>
        obtain ⟨k, rfl, hik, hk, hh⟩ := hrel
        have st := skp_sf s k
        by_cases hkl : k < s.size
        · have hixk := fun w => index_of s k (k : Int) rfl hkl w
          have HB := Lib.hid (fun w => blank_any (by8 s k) w)
          cases hb : bl (by8 s k) with
          | true =>
            rw [if_pos hb] at st
            rw [hb] at HB
            have HE2 := Lib.hid (show j = k + 1 + skp (sf s (k + 1)) by rw [hh.out, st]; omega)
            clear st hb hh
            go_wp2_with (go_at_call 50; (with_reducible refine (HB.out _).mono ?_); rintro e w1 ⟨rfl, rfl⟩)
            go_round
            case rel => exact ⟨k + 1, by go_num, by omega, by omega, HE2⟩
            case measure => simp [RowKit.intOf]; omega
          | false =>
            rw [if_neg (by rw [hb]; simp)] at st
            rw [hb] at HB
            obtain rfl : j = k := by rw [hh.out, st]; rfl
            clear st hb hh
            go_wp2_with (first
              | (go_at_call 50; (with_reducible refine (HB.out _).mono ?_); rintro e w1 ⟨rfl, rfl⟩)
              | (go_at_call 51; (with_reducible refine (HS.out _).mono ?_); rintro e w1 ⟨rfl, rfl⟩))
            refine (HT.out _).mono ?_
            rintro e w1 ⟨rfl, hb1⟩
            have hb0 : Below w.heap.size w w1 := ((Below.refl _ _).alloc (Nat.le_refl _) _).trans (hb1.mono (by simp))
            have hk4 : Box w1 w.heap.size _ := (box_new w _).next hb1 (by simp)
            clear hb1
            go_wp2_with (refine wpList_keep _ rfl _ _ rfl w.heap.size w hb0 w.heap.size (Nat.le_refl _) _ _ _ _ _ _ rfl rfl hk4 rfl ?_; intro w2 hk5 hb5 _)
            try simp only [Exit.inBlock, Exit.then]
            refine bodyPost_ret (results_tok rfl _ _ _ _ rfl hk5 rfl) rfl ?_
            exact ⟨rfl, hb5⟩
        · exfalso
          have e : j = k := by rw [hh.out, st, by8_end s k (by omega)]; rfl
          omega
    · have HT0 := fun w => number_any s j (j : Int) rfl hlt (by omega) w
      rw [ht, nR_all]
      rw [nR_all] at HT0
      have HT := Lib.hid HT0
      clear HT0 ht
      generalize (num (sf s j)).1 = E at *
      generalize (num (sf s j)).2.k = K at *
      generalize j + (num (sf s j)).2.o = O at *
      generalize (num (sf s j)).2.z = Z at *
      generalize (⟨(num (sf s j)).2.v.toArray⟩ : ByteArray) = V at *
      generalize (num (sf s j)).2.n = M at *
      have h34b : ((by8 s j : Int) == 34) = false := by rw [beq_eq_false_iff_ne]; omega
      have h45b : ((by8 s j : Int) == 45) = false := by rw [beq_eq_false_iff_ne]; omega
      have HD0 := fun w => digit_any s j (j : Int) rfl w
      rw [hd] at HD0
      have HD := Lib.hid HD0
      clear h34 h45 hd HD0
      go_enter Tryz.func33, Tryz.ntmps33
      go_wp2_with fail
      go_loop [6] (fun x => ∃ k : Nat, x = .int .i64 (k : Int) ∧ i ≤ k ∧ k ≤ s.size ∧ Hid (j = k + skp (sf s k))) (fun x => s.size - (RowKit.intOf x).toNat)
      case atStart => exact ⟨i, rfl, Nat.le_refl _, hcl, HJ⟩
      case round =>
        obtain ⟨k, rfl, hik, hk, hh⟩ := hrel
        have st := skp_sf s k
        by_cases hkl : k < s.size
        · have hixk := fun w => index_of s k (k : Int) rfl hkl w
          have HB := Lib.hid (fun w => blank_any (by8 s k) w)
          cases hb : bl (by8 s k) with
          | true =>
            rw [if_pos hb] at st
            rw [hb] at HB
            have HE2 := Lib.hid (show j = k + 1 + skp (sf s (k + 1)) by rw [hh.out, st]; omega)
            clear st hb hh
            go_wp2_with (go_at_call 50; (with_reducible refine (HB.out _).mono ?_); rintro e w1 ⟨rfl, rfl⟩)
            go_round
            case rel => exact ⟨k + 1, by go_num, by omega, by omega, HE2⟩
            case measure => simp [RowKit.intOf]; omega
          | false =>
            rw [if_neg (by rw [hb]; simp)] at st
            rw [hb] at HB
            obtain rfl : j = k := by rw [hh.out, st]; rfl
            clear st hb hh
            go_wp2_with (first
              | (go_at_call 50; (with_reducible refine (HB.out _).mono ?_); rintro e w1 ⟨rfl, rfl⟩)
              | (go_at_call 51; (with_reducible refine (HS.out _).mono ?_); rintro e w1 ⟨rfl, rfl⟩)
              | (go_at_call 54; (with_reducible refine (HD.out _).mono ?_); rintro e w1 ⟨rfl, rfl⟩))
            refine (HT.out _).mono ?_
            rintro e w1 ⟨rfl, hb1⟩
            have hb0 : Below w.heap.size w w1 := ((Below.refl _ _).alloc (Nat.le_refl _) _).trans (hb1.mono (by simp))
            have hk4 : Box w1 w.heap.size _ := (box_new w _).next hb1 (by simp)
            clear hb1
            go_wp2_with (refine wpList_keep _ rfl _ _ rfl w.heap.size w hb0 w.heap.size (Nat.le_refl _) _ _ _ _ _ _ rfl rfl hk4 rfl ?_; intro w2 hk5 hb5 _)
            try simp only [Exit.inBlock, Exit.then]
            refine bodyPost_ret (results_tok rfl _ _ _ _ rfl hk5 rfl) rfl ?_
            exact ⟨rfl, hb5⟩
        · exfalso
          have e : j = k := by rw [hh.out, st, by8_end s k (by omega)]; rfl
          omega
    · have HT0 := fun w => word_any s j (j : Int) rfl hj hsl w
      rw [ht, nR_all]
      rw [nR_all] at HT0
      have HT := Lib.hid HT0
      clear HT0 ht
      generalize (wrd (sf s j)).1 = E at *
      generalize (wrd (sf s j)).2.k = K at *
      generalize j + (wrd (sf s j)).2.o = O at *
      generalize (wrd (sf s j)).2.z = Z at *
      generalize (⟨(wrd (sf s j)).2.v.toArray⟩ : ByteArray) = V at *
      generalize (wrd (sf s j)).2.n = M at *
      have h34b : ((by8 s j : Int) == 34) = false := by rw [beq_eq_false_iff_ne]; omega
      have h45b : ((by8 s j : Int) == 45) = false := by rw [beq_eq_false_iff_ne]; omega
      have HD0 := fun w => digit_any s j (j : Int) rfl w
      rw [hd] at HD0
      have HD := Lib.hid HD0
      clear h34 h45 hd HD0
      go_enter Tryz.func33, Tryz.ntmps33
      go_wp2_with fail
      go_loop [6] (fun x => ∃ k : Nat, x = .int .i64 (k : Int) ∧ i ≤ k ∧ k ≤ s.size ∧ Hid (j = k + skp (sf s k))) (fun x => s.size - (RowKit.intOf x).toNat)
      case atStart => exact ⟨i, rfl, Nat.le_refl _, hcl, HJ⟩
      case round =>
        obtain ⟨k, rfl, hik, hk, hh⟩ := hrel
        have st := skp_sf s k
        by_cases hkl : k < s.size
        · have hixk := fun w => index_of s k (k : Int) rfl hkl w
          have HB := Lib.hid (fun w => blank_any (by8 s k) w)
          cases hb : bl (by8 s k) with
          | true =>
            rw [if_pos hb] at st
            rw [hb] at HB
            have HE2 := Lib.hid (show j = k + 1 + skp (sf s (k + 1)) by rw [hh.out, st]; omega)
            clear st hb hh
            go_wp2_with (go_at_call 50; (with_reducible refine (HB.out _).mono ?_); rintro e w1 ⟨rfl, rfl⟩)
            go_round
            case rel => exact ⟨k + 1, by go_num, by omega, by omega, HE2⟩
            case measure => simp [RowKit.intOf]; omega
          | false =>
            rw [if_neg (by rw [hb]; simp)] at st
            rw [hb] at HB
            obtain rfl : j = k := by rw [hh.out, st]; rfl
            clear st hb hh
            go_wp2_with (first
              | (go_at_call 50; (with_reducible refine (HB.out _).mono ?_); rintro e w1 ⟨rfl, rfl⟩)
              | (go_at_call 51; (with_reducible refine (HS.out _).mono ?_); rintro e w1 ⟨rfl, rfl⟩)
              | (go_at_call 54; (with_reducible refine (HD.out _).mono ?_); rintro e w1 ⟨rfl, rfl⟩))
            refine (HT.out _).mono ?_
            rintro e w1 ⟨rfl, hb1⟩
            have hb0 : Below w.heap.size w w1 := ((Below.refl _ _).alloc (Nat.le_refl _) _).trans (hb1.mono (by simp))
            have hk4 : Box w1 w.heap.size _ := (box_new w _).next hb1 (by simp)
            clear hb1
            go_wp2_with (refine wpList_keep _ rfl _ _ rfl w.heap.size w hb0 w.heap.size (Nat.le_refl _) _ _ _ _ _ _ rfl rfl hk4 rfl ?_; intro w2 hk5 hb5 _)
            try simp only [Exit.inBlock, Exit.then]
            refine bodyPost_ret (results_tok rfl _ _ _ _ rfl hk5 rfl) rfl ?_
            exact ⟨rfl, hb5⟩
        · exfalso
          have e : j = k := by rw [hh.out, st, by8_end s k (by omega)]; rfl
          omega

end Go.Proofs.YteinaclkpickaaaGreatDoor.Lx
