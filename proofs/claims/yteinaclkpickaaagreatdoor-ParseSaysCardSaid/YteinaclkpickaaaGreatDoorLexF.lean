/- Contracts of the document's number and word. Conditions: as each theorem states. -/
import Derived.Test.YteinaclkpickaaaGreatDoorLexG2
import Derived.Test.YteinaclkpickaaaGreatDoorOctG1
namespace Go.Proofs.YteinaclkpickaaaGreatDoor.Lx
open Go.RowKit Go.Lib Go.Proofs.YteinaclkpickaaaGreatDoor.Byt Go.Proofs.YteinaclkpickaaaGreatDoor.Quo

theorem whole_is (s : ByteArray) (i : Nat) (h : 0 < dc (sf s i)) (hs : s.size ≤ 140737488355328) (w : World) :
    Calls Tryz.prog 69 #[.string (cutB s i (sgn (sf s i) + dc (sf s i)))] w fun e w' => e = .returned (if vo (sf s i) = true then .tuple #[.int .i64 (vi (sf s i)), .bool true] else .tuple #[.int .i64 0, .bool false]) ∧ Below w.heap.size w w' := by
  have hz := dc_le (sf s i)
  have hdt := cut_take s i (sgn (sf s i) + dc (sf s i))
  have hsz : (cutB s i (sgn (sf s i) + dc (sf s i))).size ≤ 140737488355328 := by
    have e : (cutB s i (sgn (sf s i) + dc (sf s i))).size = (cutB s i (sgn (sf s i) + dc (sf s i))).data.toList.length := by simp
    rw [e, hdt, List.length_take]
    have := sf_len s i
    omega
  generalize cutB s i (sgn (sf s i) + dc (sf s i)) = t at *
  generalize sf s i = l at *
  have ha : allD ((l.drop (sgn l)).take (dc l)) := dgc_take _
  have hlen : ((l.drop (sgn l)).take (dc l)).length = dc l := by rw [List.length_take, List.length_drop]; omega
  have hne : (l.drop (sgn l)).take (dc l) ≠ [] := fun e => by rw [e] at hlen; simp at hlen; omega
  have hv : vl ((l.drop (sgn l)).take (dc l)) = vz l := rfl
  have e : l.take (sgn l + dc l) = l.take (sgn l) ++ (l.drop (sgn l)).take (dc l) := by rw [List.take_add]
  rw [e] at hdt
  by_cases h45 : hd l = 45
  · have hs1 : sgn l = 1 := if_pos h45
    have hvi : vi l = -(vz l : Int) := if_pos hs1
    have ht : l.take (sgn l) = [45] := by
      rw [hs1]
      cases l with
      | nil => cases h45
      | cons c l =>
        have : c.toNat = 45 := h45
        have : c = 45 := UInt8.toNat_inj.1 this
        rw [this]; rfl
    rw [ht, List.singleton_append] at hdt
    have := whole_neg t _ hdt hne ha hsz w
    rw [hv] at this
    unfold vo
    rw [hvi]
    by_cases g : vz l ≤ 9223372036854775808
    · rw [if_pos g] at this; rw [if_pos (by simp; omega)]; exact this
    · rw [if_neg g] at this; rw [if_neg (by simp; omega)]; exact this
  · have hs0 : sgn l = 0 := if_neg h45
    have hvi : vi l = (vz l : Int) := if_neg (by rw [hs0]; simp)
    rw [show l.take (sgn l) = [] by rw [hs0]; rfl, List.nil_append] at hdt
    have := whole_pos t _ hdt hne ha hsz w
    rw [hv] at this
    unfold vo
    rw [hvi]
    by_cases g : vz l ≤ 9223372036854775807
    · rw [if_pos g] at this; rw [if_pos (by simp; omega)]; exact this
    · rw [if_neg g] at this; rw [if_neg (by simp; omega)]; exact this

set_option maxRecDepth 100000 in
set_option maxHeartbeats 4000000 in
theorem number_any (s : ByteArray) (i : Nat) (x : Int) (hx : x = (i : Int)) (hi : i < s.size) (hs : s.size ≤ 140737488355328) (w : World) :
    Calls Tryz.prog 55 #[.string s, .int .i64 x] w fun e w' => e = .returned (nR (atR i (num (sf s i)))) ∧ Below w.heap.size w w' := by
  subst hx
  have hix := fun w => index_of s i (i : Int) rfl hi w
  have hle := dc_le (sf s i)
  rw [sf_len] at hle
  have hgl := sgn_le1 (sf s i)
  obtain ⟨E, hE⟩ : ∃ E, E = i + sgn (sf s i) + dc (sf s i) := ⟨_, rfl⟩
  have hdc : dc (sf s i) = dgc (sf s (i + sgn (sf s i))) := by unfold dc; rw [sf_drop]
  have hDd : dg (by8 s (i + sgn (sf s i))) = false ↔ dc (sf s i) = 0 := by
    rw [hdc]
    unfold dgc
    rw [sf_hd]
    by_cases h : by8 s (i + sgn (sf s i)) = 48
    · rw [if_pos h, h]; decide
    · rw [if_neg h, dgs_sf]
      cases dg (by8 s (i + sgn (sf s i))) <;> simp
  have hzero : by8 s (i + sgn (sf s i)) = 48 → E = i + sgn (sf s i) + 1 := fun h => by
    rw [hE, hdc]; unfold dgc; rw [sf_hd, if_pos h]
  have hloop : by8 s (i + sgn (sf s i)) ≠ 48 → E = i + sgn (sf s i) + dgs (sf s (i + sgn (sf s i))) := fun h => by
    rw [hE, hdc]; unfold dgc; rw [sf_hd, if_neg h]
  have HD0 := fun w => digit_any s (i + sgn (sf s i)) _ rfl w
  have hsg : sgn (sf s i) = if by8 s i = 45 then 1 else 0 := by unfold sgn; rw [sf_hd]
  have hmk : ((sf s i).getD (sgn (sf s i) + dc (sf s i)) 0).toNat = by8 s E := by rw [sf_get, hE, Nat.add_assoc]
  have hnum : num (sf s i) = if dc (sf s i) = 0 then (4, bad 0) else if mk (by8 s E) = true then (18, bad 0) else if vo (sf s i) = true then (0, ⟨8, 0, sgn (sf s i) + dc (sf s i), [], vi (sf s i)⟩) else (6, bad 0) := by unfold num; rw [hmk]
  have hwh := fun h => whole_is s i h hs
  have hcut := fun w => run_cut s (i : Int) (E : Int) i (sgn (sf s i) + dc (sf s i)) rfl (by omega) (by omega) w
  have sgns : (by8 s i = 45 ∧ sgn (sf s i) = 1) ∨ (by8 s i ≠ 45 ∧ sgn (sf s i) = 0) := by
    by_cases h : by8 s i = 45
    · exact .inl ⟨h, by rw [hsg, if_pos h]⟩
    · exact .inr ⟨h, by rw [hsg, if_neg h]⟩
  clear hdc
  generalize num (sf s i) = R at *
  generalize vi (sf s i) = V at *
  generalize vo (sf s i) = O at *
  generalize dc (sf s i) = D at *
  generalize sgn (sf s i) = g at *
  rcases sgns with ⟨h45, rfl⟩ | ⟨h45, rfl⟩
  · have hFc : ((i + 1 : Nat) : Int) = (i : Int) + 1 := by omega
    rw [hFc] at HD0
    clear hFc hsg hmk
    have HD := Lib.hid HD0
    clear HD0
    rw [h45] at hix; clear h45
    
    cases hd : dg (by8 s (i + 1)) with
    | false =>
      have hD0 : D = 0 := hDd.1 hd
      rw [if_pos hD0] at hnum
      have HN := Lib.hid hnum
      rw [hd] at HD
      clear hnum hwh hcut hE hle hD0 hgl hDd hloop hzero hd
      go_enter Tryz.func55, Tryz.ntmps55
      go_wp2_with (go_at_call 54; (with_reducible refine (HD.out _).mono ?_); rintro e w1 ⟨rfl, rfl⟩)
      refine (fault_any _ _ _).mono ?_
      rintro e w1 ⟨rfl, hb1⟩
      have hb0 : Below w.heap.size w w1 := ((Below.refl _ _).alloc (Nat.le_refl _) _).trans (hb1.mono (by simp))
      have hk4 : Box w1 w.heap.size _ := (box_new w _).next hb1 (by simp)
      clear hb1
      go_wp2_with (refine wpList_keep _ rfl _ _ rfl w.heap.size w hb0 w.heap.size (Nat.le_refl _) _ _ _ _ _ _ rfl rfl hk4 rfl ?_; intro w2 hk5 hb5 _)
      try simp only [Exit.inBlock, Exit.then]
      refine bodyPost_ret (results_tok rfl _ _ _ _ rfl hk5 rfl) rfl ?_
      exact ⟨by rw [HN.out]; rfl, hb5⟩
    | true =>
      have hD : 0 < D := by
        rcases Nat.eq_zero_or_pos D with h | h
        · have := hDd.2 h; rw [hd] at this; cases this
        · exact h
      have hFl : i + 1 < s.size := by omega
      have hiF := fun w => index_of s (i + 1) ((i : Int) + 1) (by push_cast; rfl) hFl w
      rw [if_neg (by omega)] at hnum
      rw [hd] at HD
      replace hwh := hwh hD
      have HZ : Hid (((1 + D : Nat) : Int) = (E : Int) - (i : Int)) := Lib.hid (by omega)
      have hE1 : i + 1 < E := by omega
      have hE2 : E ≤ s.size := by omega
      clear hd hDd hgl
      by_cases h48 : by8 s (i + 1) = 48
      · have hE3 : (i : Int) + 1 + 1 = (E : Int) := by have := hzero h48; omega
        rw [h48] at hiF
        clear hzero hloop h48 hE hle
        cases hm : mk (by8 s E) with
        | true =>
          rw [hm, if_pos rfl] at hnum
          have HN := Lib.hid hnum
          have hEl : E < s.size := by
            rcases Nat.lt_or_ge E s.size with h | h
            · exact h
            · rw [by8_end s E h] at hm; cases hm
          have hm3 : by8 s E = 46 ∨ by8 s E = 101 ∨ by8 s E = 69 := by unfold mk at hm; simpa using hm
          have hiE := fun w => index_of s E (E : Int) rfl hEl w
          clear hnum hm hwh hcut HZ
          rcases hm3 with hm3 | hm3 | hm3
          all_goals
            rw [hm3] at hiE
            clear hm3
            go_enter Tryz.func55, Tryz.ntmps55
            go_wp2_with (go_at_call 54; (with_reducible refine (HD.out _).mono ?_); rintro e w1 ⟨rfl, rfl⟩)
            refine (fault_any _ _ _).mono ?_
            rintro e w1 ⟨rfl, hb1⟩
            have hb0 : Below w.heap.size w w1 := ((Below.refl _ _).alloc (Nat.le_refl _) _).trans (hb1.mono (by simp))
            have hk4 : Box w1 w.heap.size _ := (box_new w _).next hb1 (by simp)
            clear hb1
            go_wp2_with (refine wpList_keep _ rfl _ _ rfl w.heap.size w hb0 w.heap.size (Nat.le_refl _) _ _ _ _ _ _ rfl rfl hk4 rfl ?_; intro w2 hk5 hb5 _)
            try simp only [Exit.inBlock, Exit.then]
            refine bodyPost_ret (results_tok rfl _ _ _ _ rfl hk5 rfl) rfl ?_
            exact ⟨by rw [HN.out]; rfl, hb5⟩
        | false =>
          rw [hm, if_neg (by simp)] at hnum
          have hends : (E < s.size ∧ (∀ w, (Instr.index 9 (.string s) (.int .i64 (E : Int))).run Tryz.prog w = .ok (.int .u8 (by8 s E : Int)) w) ∧ ((by8 s E : Int) == 46) = false ∧ ((by8 s E : Int) == 101) = false ∧ ((by8 s E : Int) == 69) = false) ∨ s.size ≤ E := by
            rcases Nat.lt_or_ge E s.size with h | h
            · unfold mk at hm
              rw [decide_eq_false_iff_not] at hm
              refine .inl ⟨h, fun w => index_of s E (E : Int) rfl h w, ?_, ?_, ?_⟩
              · rw [beq_eq_false_iff_ne]; omega
              · rw [beq_eq_false_iff_ne]; omega
              · rw [beq_eq_false_iff_ne]; omega
            · exact .inr (by omega)
          clear hm
          cases O with
          | true =>
            rw [if_pos rfl] at hnum hwh
            have HW := Lib.hid hwh
            have HN := Lib.hid hnum
            clear hnum hwh
            rcases hends with ⟨hEl, hiE, m1, m2, m3⟩ | hEl
            all_goals
              go_enter Tryz.func55, Tryz.ntmps55
              go_wp2_with (go_at_call 54; (with_reducible refine (HD.out _).mono ?_); rintro e w1 ⟨rfl, rfl⟩)
              refine (HW.out _).mono ?_
              rintro e w1 ⟨rfl, hb1⟩
              have hb0 : Below w.heap.size w w1 := ((Below.refl _ _).alloc (Nat.le_refl _) _).trans (hb1.mono (by simp))
              have hk4 : Box w1 w.heap.size _ := (box_new w _).next hb1 (by simp)
              clear hb1
              go_wp2_with (refine wpList_keep _ rfl _ _ rfl w.heap.size w hb0 w.heap.size (Nat.le_refl _) _ _ _ _ _ _ rfl rfl hk4 rfl ?_; intro w2 hk5 hb5 _)
              try simp only [Exit.inBlock, Exit.then]
              refine bodyPost_ret (results_tok rfl _ _ _ _ rfl hk5 rfl) rfl ?_
              exact ⟨by rw [HN.out]; unfold nR tkV atR Tk.sh; simp only; rw [HZ.out]; rfl, hb5⟩
          | false =>
            rw [if_neg (by simp)] at hnum hwh
            have HW := Lib.hid hwh
            have HN := Lib.hid hnum
            clear hnum hwh HZ
            rcases hends with ⟨hEl, hiE, m1, m2, m3⟩ | hEl
            all_goals
              go_enter Tryz.func55, Tryz.ntmps55
              go_wp2_with (go_at_call 54; (with_reducible refine (HD.out _).mono ?_); rintro e w1 ⟨rfl, rfl⟩)
              refine (HW.out _).mono ?_
              rintro e w0 ⟨rfl, hb9⟩
              go_wp2_with fail
              refine (fault_any _ _ _).mono ?_
              rintro e w1 ⟨rfl, hb8⟩
              have hb1 := hb9.trans (hb8.mono hb9.size)
              clear hb9 hb8
              have hb0 : Below w.heap.size w w1 := ((Below.refl _ _).alloc (Nat.le_refl _) _).trans (hb1.mono (by simp))
              have hk4 : Box w1 w.heap.size _ := (box_new w _).next hb1 (by simp)
              clear hb1
              go_wp2_with (refine wpList_keep _ rfl _ _ rfl w.heap.size w hb0 w.heap.size (Nat.le_refl _) _ _ _ _ _ _ rfl rfl hk4 rfl ?_; intro w2 hk5 hb5 _)
              try simp only [Exit.inBlock, Exit.then]
              refine bodyPost_ret (results_tok rfl _ _ _ _ rfl hk5 rfl) rfl ?_
              exact ⟨by rw [HN.out]; rfl, hb5⟩
      · have hE3 := hloop h48
        have HE := Lib.hid hE3
        have h48b : ((by8 s (i + 1) : Int) == 48) = false := by rw [beq_eq_false_iff_ne]; omega
        clear hzero hloop h48 hE hle hE3
        cases hm : mk (by8 s E) with
        | true =>
          rw [hm, if_pos rfl] at hnum
          have HN := Lib.hid hnum
          have hEl : E < s.size := by
            rcases Nat.lt_or_ge E s.size with h | h
            · exact h
            · rw [by8_end s E h] at hm; cases hm
          have hm3 : by8 s E = 46 ∨ by8 s E = 101 ∨ by8 s E = 69 := by unfold mk at hm; simpa using hm
          have hiE := fun w => index_of s E (E : Int) rfl hEl w
          clear hnum hm hwh hcut HZ
          rcases hm3 with hm3 | hm3 | hm3
          all_goals
            rw [hm3] at hiE
            clear hm3
            go_enter Tryz.func55, Tryz.ntmps55
            go_wp2_with (go_at_call 54; (with_reducible refine (HD.out _).mono ?_); rintro e w1 ⟨rfl, rfl⟩)
            go_loop [6] (fun x => ∃ k : Nat, x = .int .i64 (k : Int) ∧ i + 1 ≤ k ∧ k ≤ s.size ∧ Hid (E = k + dgs (sf s k))) (fun x => s.size - (RowKit.intOf x).toNat)
            case atStart => exact ⟨i + 1, by go_num, Nat.le_refl _, by omega, HE⟩
            case round =>
              obtain ⟨k, rfl, hik, hk, hh⟩ := hrel
              have HK2 := Lib.hid (fun w => digit_any s k (k : Int) rfl w)
              have st := dgs_sf s k
              cases hdk : dg (by8 s k) with
              | true =>
                have hkl : k < s.size := by
                  rcases Nat.lt_or_ge k s.size with h | h
                  · exact h
                  · rw [by8_end s k h] at hdk; cases hdk
                rw [if_pos hdk] at st
                rw [hdk] at HK2
                have HE2 := Lib.hid (show E = k + 1 + dgs (sf s (k + 1)) by rw [hh.out, st]; omega)
                clear st hdk hh
                go_wp2_with (go_at_call 54; (with_reducible refine (HK2.out _).mono ?_); rintro e w1 ⟨rfl, rfl⟩)
                go_round
                case rel => exact ⟨k + 1, by go_num, by omega, by omega, HE2⟩
                case measure => simp [RowKit.intOf]; omega
              | false =>
                rw [if_neg (by rw [hdk]; simp)] at st
                rw [hdk] at HK2
                obtain rfl : E = k := by rw [hh.out, st]; rfl
                clear st hdk hh
                go_wp2_with (go_at_call 54; (with_reducible refine (HK2.out _).mono ?_); rintro e w1 ⟨rfl, rfl⟩)
                refine (fault_any _ _ _).mono ?_
                rintro e w1 ⟨rfl, hb1⟩
                have hb0 : Below w.heap.size w w1 := ((Below.refl _ _).alloc (Nat.le_refl _) _).trans (hb1.mono (by simp))
                have hk4 : Box w1 w.heap.size _ := (box_new w _).next hb1 (by simp)
                clear hb1
                go_wp2_with (refine wpList_keep _ rfl _ _ rfl w.heap.size w hb0 w.heap.size (Nat.le_refl _) _ _ _ _ _ _ rfl rfl hk4 rfl ?_; intro w2 hk5 hb5 _)
                try simp only [Exit.inBlock, Exit.then]
                refine bodyPost_ret (results_tok rfl _ _ _ _ rfl hk5 rfl) rfl ?_
                exact ⟨by rw [HN.out]; rfl, hb5⟩
        | false =>
          rw [hm, if_neg (by simp)] at hnum
          have hends : (E < s.size ∧ (∀ w, (Instr.index 9 (.string s) (.int .i64 (E : Int))).run Tryz.prog w = .ok (.int .u8 (by8 s E : Int)) w) ∧ ((by8 s E : Int) == 46) = false ∧ ((by8 s E : Int) == 101) = false ∧ ((by8 s E : Int) == 69) = false) ∨ s.size ≤ E := by
            rcases Nat.lt_or_ge E s.size with h | h
            · unfold mk at hm
              rw [decide_eq_false_iff_not] at hm
              refine .inl ⟨h, fun w => index_of s E (E : Int) rfl h w, ?_, ?_, ?_⟩
              · rw [beq_eq_false_iff_ne]; omega
              · rw [beq_eq_false_iff_ne]; omega
              · rw [beq_eq_false_iff_ne]; omega
            · exact .inr (by omega)
          clear hm
          cases O with
          | true =>
            rw [if_pos rfl] at hnum hwh
            have HW := Lib.hid hwh
            have HN := Lib.hid hnum
            clear hnum hwh
            rcases hends with ⟨hEl, hiE, m1, m2, m3⟩ | hEl
            all_goals
              go_enter Tryz.func55, Tryz.ntmps55
              go_wp2_with (go_at_call 54; (with_reducible refine (HD.out _).mono ?_); rintro e w1 ⟨rfl, rfl⟩)
              go_loop [6] (fun x => ∃ k : Nat, x = .int .i64 (k : Int) ∧ i + 1 ≤ k ∧ k ≤ s.size ∧ Hid (E = k + dgs (sf s k))) (fun x => s.size - (RowKit.intOf x).toNat)
              case atStart => exact ⟨i + 1, by go_num, Nat.le_refl _, by omega, HE⟩
              case round =>
                obtain ⟨k, rfl, hik, hk, hh⟩ := hrel
                have HK2 := Lib.hid (fun w => digit_any s k (k : Int) rfl w)
                have st := dgs_sf s k
                cases hdk : dg (by8 s k) with
                | true =>
                  have hkl : k < s.size := by
                    rcases Nat.lt_or_ge k s.size with h | h
                    · exact h
                    · rw [by8_end s k h] at hdk; cases hdk
                  rw [if_pos hdk] at st
                  rw [hdk] at HK2
                  have HE2 := Lib.hid (show E = k + 1 + dgs (sf s (k + 1)) by rw [hh.out, st]; omega)
                  clear st hdk hh
                  go_wp2_with (go_at_call 54; (with_reducible refine (HK2.out _).mono ?_); rintro e w1 ⟨rfl, rfl⟩)
                  go_round
                  case rel => exact ⟨k + 1, by go_num, by omega, by omega, HE2⟩
                  case measure => simp [RowKit.intOf]; omega
                | false =>
                  rw [if_neg (by rw [hdk]; simp)] at st
                  rw [hdk] at HK2
                  obtain rfl : E = k := by rw [hh.out, st]; rfl
                  clear st hdk hh
                  go_wp2_with (go_at_call 54; (with_reducible refine (HK2.out _).mono ?_); rintro e w1 ⟨rfl, rfl⟩)
                  refine (HW.out _).mono ?_
                  rintro e w1 ⟨rfl, hb1⟩
                  have hb0 : Below w.heap.size w w1 := ((Below.refl _ _).alloc (Nat.le_refl _) _).trans (hb1.mono (by simp))
                  have hk4 : Box w1 w.heap.size _ := (box_new w _).next hb1 (by simp)
                  clear hb1
                  go_wp2_with (refine wpList_keep _ rfl _ _ rfl w.heap.size w hb0 w.heap.size (Nat.le_refl _) _ _ _ _ _ _ rfl rfl hk4 rfl ?_; intro w2 hk5 hb5 _)
                  try simp only [Exit.inBlock, Exit.then]
                  refine bodyPost_ret (results_tok rfl _ _ _ _ rfl hk5 rfl) rfl ?_
                  exact ⟨by rw [HN.out]; unfold nR tkV atR Tk.sh; simp only; rw [HZ.out]; rfl, hb5⟩
          | false =>
            rw [if_neg (by simp)] at hnum hwh
            have HW := Lib.hid hwh
            have HN := Lib.hid hnum
            clear hnum hwh HZ
            rcases hends with ⟨hEl, hiE, m1, m2, m3⟩ | hEl
            all_goals
              go_enter Tryz.func55, Tryz.ntmps55
              go_wp2_with (go_at_call 54; (with_reducible refine (HD.out _).mono ?_); rintro e w1 ⟨rfl, rfl⟩)
              go_loop [6] (fun x => ∃ k : Nat, x = .int .i64 (k : Int) ∧ i + 1 ≤ k ∧ k ≤ s.size ∧ Hid (E = k + dgs (sf s k))) (fun x => s.size - (RowKit.intOf x).toNat)
              case atStart => exact ⟨i + 1, by go_num, Nat.le_refl _, by omega, HE⟩
              case round =>
                obtain ⟨k, rfl, hik, hk, hh⟩ := hrel
                have HK2 := Lib.hid (fun w => digit_any s k (k : Int) rfl w)
                have st := dgs_sf s k
                cases hdk : dg (by8 s k) with
                | true =>
                  have hkl : k < s.size := by
                    rcases Nat.lt_or_ge k s.size with h | h
                    · exact h
                    · rw [by8_end s k h] at hdk; cases hdk
                  rw [if_pos hdk] at st
                  rw [hdk] at HK2
                  have HE2 := Lib.hid (show E = k + 1 + dgs (sf s (k + 1)) by rw [hh.out, st]; omega)
                  clear st hdk hh
                  go_wp2_with (go_at_call 54; (with_reducible refine (HK2.out _).mono ?_); rintro e w1 ⟨rfl, rfl⟩)
                  go_round
                  case rel => exact ⟨k + 1, by go_num, by omega, by omega, HE2⟩
                  case measure => simp [RowKit.intOf]; omega
                | false =>
                  rw [if_neg (by rw [hdk]; simp)] at st
                  rw [hdk] at HK2
                  obtain rfl : E = k := by rw [hh.out, st]; rfl
                  clear st hdk hh
                  go_wp2_with (go_at_call 54; (with_reducible refine (HK2.out _).mono ?_); rintro e w1 ⟨rfl, rfl⟩)
                  refine (HW.out _).mono ?_
                  rintro e w0 ⟨rfl, hb9⟩
                  go_wp2_with fail
                  refine (fault_any _ _ _).mono ?_
                  rintro e w1 ⟨rfl, hb8⟩
                  have hb1 := hb9.trans (hb8.mono hb9.size)
                  clear hb9 hb8
                  have hb0 : Below w.heap.size w w1 := ((Below.refl _ _).alloc (Nat.le_refl _) _).trans (hb1.mono (by simp))
                  have hk4 : Box w1 w.heap.size _ := (box_new w _).next hb1 (by simp)
                  clear hb1
                  go_wp2_with (refine wpList_keep _ rfl _ _ rfl w.heap.size w hb0 w.heap.size (Nat.le_refl _) _ _ _ _ _ _ rfl rfl hk4 rfl ?_; intro w2 hk5 hb5 _)
                  try simp only [Exit.inBlock, Exit.then]
                  refine bodyPost_ret (results_tok rfl _ _ _ _ rfl hk5 rfl) rfl ?_
                  exact ⟨by rw [HN.out]; rfl, hb5⟩
  · have hFc : ((i + 0 : Nat) : Int) = (i : Int) := by omega
    rw [hFc] at HD0
    clear hFc hsg hmk
    have HD := Lib.hid HD0
    clear HD0
    have h45b : ((by8 s i : Int) == 45) = false := by rw [beq_eq_false_iff_ne]; omega
    simp only [Nat.zero_add, Nat.add_zero] at *
    cases hd : dg (by8 s (i)) with
    | false =>
      have hD0 : D = 0 := hDd.1 hd
      rw [if_pos hD0] at hnum
      have HN := Lib.hid hnum
      rw [hd] at HD
      clear hnum hwh hcut hE hle hD0 hgl hDd hloop hzero hd
      go_enter Tryz.func55, Tryz.ntmps55
      go_wp2_with (go_at_call 54; (with_reducible refine (HD.out _).mono ?_); rintro e w1 ⟨rfl, rfl⟩)
      refine (fault_any _ _ _).mono ?_
      rintro e w1 ⟨rfl, hb1⟩
      have hb0 : Below w.heap.size w w1 := ((Below.refl _ _).alloc (Nat.le_refl _) _).trans (hb1.mono (by simp))
      have hk4 : Box w1 w.heap.size _ := (box_new w _).next hb1 (by simp)
      clear hb1
      go_wp2_with (refine wpList_keep _ rfl _ _ rfl w.heap.size w hb0 w.heap.size (Nat.le_refl _) _ _ _ _ _ _ rfl rfl hk4 rfl ?_; intro w2 hk5 hb5 _)
      try simp only [Exit.inBlock, Exit.then]
      refine bodyPost_ret (results_tok rfl _ _ _ _ rfl hk5 rfl) rfl ?_
      exact ⟨by rw [HN.out]; rfl, hb5⟩
    | true =>
      have hD : 0 < D := by
        rcases Nat.eq_zero_or_pos D with h | h
        · have := hDd.2 h; rw [hd] at this; cases this
        · exact h
      have hFl : i < s.size := by omega
      have hiF := fun w => index_of s (i) ((i : Int)) (by push_cast; rfl) hFl w
      rw [if_neg (by omega)] at hnum
      rw [hd] at HD
      replace hwh := hwh hD
      have HZ : Hid (((D : Nat) : Int) = (E : Int) - (i : Int)) := Lib.hid (by omega)
      have hE1 : i < E := by omega
      have hE2 : E ≤ s.size := by omega
      clear hd hDd hgl
      by_cases h48 : by8 s (i) = 48
      · have hE3 : (i : Int) + 1 = (E : Int) := by have := hzero h48; omega
        rw [h48] at hix; clear hiF h45b
        clear hzero hloop h48 hE hle
        cases hm : mk (by8 s E) with
        | true =>
          rw [hm, if_pos rfl] at hnum
          have HN := Lib.hid hnum
          have hEl : E < s.size := by
            rcases Nat.lt_or_ge E s.size with h | h
            · exact h
            · rw [by8_end s E h] at hm; cases hm
          have hm3 : by8 s E = 46 ∨ by8 s E = 101 ∨ by8 s E = 69 := by unfold mk at hm; simpa using hm
          have hiE := fun w => index_of s E (E : Int) rfl hEl w
          clear hnum hm hwh hcut HZ
          rcases hm3 with hm3 | hm3 | hm3
          all_goals
            rw [hm3] at hiE
            clear hm3
            go_enter Tryz.func55, Tryz.ntmps55
            go_wp2_with (go_at_call 54; (with_reducible refine (HD.out _).mono ?_); rintro e w1 ⟨rfl, rfl⟩)
            refine (fault_any _ _ _).mono ?_
            rintro e w1 ⟨rfl, hb1⟩
            have hb0 : Below w.heap.size w w1 := ((Below.refl _ _).alloc (Nat.le_refl _) _).trans (hb1.mono (by simp))
            have hk4 : Box w1 w.heap.size _ := (box_new w _).next hb1 (by simp)
            clear hb1
            go_wp2_with (refine wpList_keep _ rfl _ _ rfl w.heap.size w hb0 w.heap.size (Nat.le_refl _) _ _ _ _ _ _ rfl rfl hk4 rfl ?_; intro w2 hk5 hb5 _)
            try simp only [Exit.inBlock, Exit.then]
            refine bodyPost_ret (results_tok rfl _ _ _ _ rfl hk5 rfl) rfl ?_
            exact ⟨by rw [HN.out]; rfl, hb5⟩
        | false =>
          rw [hm, if_neg (by simp)] at hnum
          have hends : (E < s.size ∧ (∀ w, (Instr.index 9 (.string s) (.int .i64 (E : Int))).run Tryz.prog w = .ok (.int .u8 (by8 s E : Int)) w) ∧ ((by8 s E : Int) == 46) = false ∧ ((by8 s E : Int) == 101) = false ∧ ((by8 s E : Int) == 69) = false) ∨ s.size ≤ E := by
            rcases Nat.lt_or_ge E s.size with h | h
            · unfold mk at hm
              rw [decide_eq_false_iff_not] at hm
              refine .inl ⟨h, fun w => index_of s E (E : Int) rfl h w, ?_, ?_, ?_⟩
              · rw [beq_eq_false_iff_ne]; omega
              · rw [beq_eq_false_iff_ne]; omega
              · rw [beq_eq_false_iff_ne]; omega
            · exact .inr (by omega)
          clear hm
          cases O with
          | true =>
            rw [if_pos rfl] at hnum hwh
            have HW := Lib.hid hwh
            have HN := Lib.hid hnum
            clear hnum hwh
            rcases hends with ⟨hEl, hiE, m1, m2, m3⟩ | hEl
            all_goals
              go_enter Tryz.func55, Tryz.ntmps55
              go_wp2_with (go_at_call 54; (with_reducible refine (HD.out _).mono ?_); rintro e w1 ⟨rfl, rfl⟩)
              refine (HW.out _).mono ?_
              rintro e w1 ⟨rfl, hb1⟩
              have hb0 : Below w.heap.size w w1 := ((Below.refl _ _).alloc (Nat.le_refl _) _).trans (hb1.mono (by simp))
              have hk4 : Box w1 w.heap.size _ := (box_new w _).next hb1 (by simp)
              clear hb1
              go_wp2_with (refine wpList_keep _ rfl _ _ rfl w.heap.size w hb0 w.heap.size (Nat.le_refl _) _ _ _ _ _ _ rfl rfl hk4 rfl ?_; intro w2 hk5 hb5 _)
              try simp only [Exit.inBlock, Exit.then]
              refine bodyPost_ret (results_tok rfl _ _ _ _ rfl hk5 rfl) rfl ?_
              exact ⟨by rw [HN.out]; unfold nR tkV atR Tk.sh; simp only; rw [HZ.out]; rfl, hb5⟩
          | false =>
            rw [if_neg (by simp)] at hnum hwh
            have HW := Lib.hid hwh
            have HN := Lib.hid hnum
            clear hnum hwh HZ
            rcases hends with ⟨hEl, hiE, m1, m2, m3⟩ | hEl
            all_goals
              go_enter Tryz.func55, Tryz.ntmps55
              go_wp2_with (go_at_call 54; (with_reducible refine (HD.out _).mono ?_); rintro e w1 ⟨rfl, rfl⟩)
              refine (HW.out _).mono ?_
              rintro e w0 ⟨rfl, hb9⟩
              go_wp2_with fail
              refine (fault_any _ _ _).mono ?_
              rintro e w1 ⟨rfl, hb8⟩
              have hb1 := hb9.trans (hb8.mono hb9.size)
              clear hb9 hb8
              have hb0 : Below w.heap.size w w1 := ((Below.refl _ _).alloc (Nat.le_refl _) _).trans (hb1.mono (by simp))
              have hk4 : Box w1 w.heap.size _ := (box_new w _).next hb1 (by simp)
              clear hb1
              go_wp2_with (refine wpList_keep _ rfl _ _ rfl w.heap.size w hb0 w.heap.size (Nat.le_refl _) _ _ _ _ _ _ rfl rfl hk4 rfl ?_; intro w2 hk5 hb5 _)
              try simp only [Exit.inBlock, Exit.then]
              refine bodyPost_ret (results_tok rfl _ _ _ _ rfl hk5 rfl) rfl ?_
              exact ⟨by rw [HN.out]; rfl, hb5⟩
      · have hE3 := hloop h48
        have HE := Lib.hid hE3
        have h48b : ((by8 s (i) : Int) == 48) = false := by rw [beq_eq_false_iff_ne]; omega
        clear hzero hloop h48 hE hle hE3
        cases hm : mk (by8 s E) with
        | true =>
          rw [hm, if_pos rfl] at hnum
          have HN := Lib.hid hnum
          have hEl : E < s.size := by
            rcases Nat.lt_or_ge E s.size with h | h
            · exact h
            · rw [by8_end s E h] at hm; cases hm
          have hm3 : by8 s E = 46 ∨ by8 s E = 101 ∨ by8 s E = 69 := by unfold mk at hm; simpa using hm
          have hiE := fun w => index_of s E (E : Int) rfl hEl w
          clear hnum hm hwh hcut HZ
          rcases hm3 with hm3 | hm3 | hm3
          all_goals
            rw [hm3] at hiE
            clear hm3
            go_enter Tryz.func55, Tryz.ntmps55
            go_wp2_with (go_at_call 54; (with_reducible refine (HD.out _).mono ?_); rintro e w1 ⟨rfl, rfl⟩)
            go_loop [6] (fun x => ∃ k : Nat, x = .int .i64 (k : Int) ∧ i ≤ k ∧ k ≤ s.size ∧ Hid (E = k + dgs (sf s k))) (fun x => s.size - (RowKit.intOf x).toNat)
            case atStart => exact ⟨i, by go_num, Nat.le_refl _, by omega, HE⟩
            case round =>
              obtain ⟨k, rfl, hik, hk, hh⟩ := hrel
              have HK2 := Lib.hid (fun w => digit_any s k (k : Int) rfl w)
              have st := dgs_sf s k
              cases hdk : dg (by8 s k) with
              | true =>
                have hkl : k < s.size := by
                  rcases Nat.lt_or_ge k s.size with h | h
                  · exact h
                  · rw [by8_end s k h] at hdk; cases hdk
                rw [if_pos hdk] at st
                rw [hdk] at HK2
                have HE2 := Lib.hid (show E = k + 1 + dgs (sf s (k + 1)) by rw [hh.out, st]; omega)
                clear st hdk hh
                go_wp2_with (go_at_call 54; (with_reducible refine (HK2.out _).mono ?_); rintro e w1 ⟨rfl, rfl⟩)
                go_round
                case rel => exact ⟨k + 1, by go_num, by omega, by omega, HE2⟩
                case measure => simp [RowKit.intOf]; omega
              | false =>
                rw [if_neg (by rw [hdk]; simp)] at st
                rw [hdk] at HK2
                obtain rfl : E = k := by rw [hh.out, st]; rfl
                clear st hdk hh
                go_wp2_with (go_at_call 54; (with_reducible refine (HK2.out _).mono ?_); rintro e w1 ⟨rfl, rfl⟩)
                refine (fault_any _ _ _).mono ?_
                rintro e w1 ⟨rfl, hb1⟩
                have hb0 : Below w.heap.size w w1 := ((Below.refl _ _).alloc (Nat.le_refl _) _).trans (hb1.mono (by simp))
                have hk4 : Box w1 w.heap.size _ := (box_new w _).next hb1 (by simp)
                clear hb1
                go_wp2_with (refine wpList_keep _ rfl _ _ rfl w.heap.size w hb0 w.heap.size (Nat.le_refl _) _ _ _ _ _ _ rfl rfl hk4 rfl ?_; intro w2 hk5 hb5 _)
                try simp only [Exit.inBlock, Exit.then]
                refine bodyPost_ret (results_tok rfl _ _ _ _ rfl hk5 rfl) rfl ?_
                exact ⟨by rw [HN.out]; rfl, hb5⟩
        | false =>
          rw [hm, if_neg (by simp)] at hnum
          have hends : (E < s.size ∧ (∀ w, (Instr.index 9 (.string s) (.int .i64 (E : Int))).run Tryz.prog w = .ok (.int .u8 (by8 s E : Int)) w) ∧ ((by8 s E : Int) == 46) = false ∧ ((by8 s E : Int) == 101) = false ∧ ((by8 s E : Int) == 69) = false) ∨ s.size ≤ E := by
            rcases Nat.lt_or_ge E s.size with h | h
            · unfold mk at hm
              rw [decide_eq_false_iff_not] at hm
              refine .inl ⟨h, fun w => index_of s E (E : Int) rfl h w, ?_, ?_, ?_⟩
              · rw [beq_eq_false_iff_ne]; omega
              · rw [beq_eq_false_iff_ne]; omega
              · rw [beq_eq_false_iff_ne]; omega
            · exact .inr (by omega)
          clear hm
          cases O with
          | true =>
            rw [if_pos rfl] at hnum hwh
            have HW := Lib.hid hwh
            have HN := Lib.hid hnum
            clear hnum hwh
            rcases hends with ⟨hEl, hiE, m1, m2, m3⟩ | hEl
            all_goals
              go_enter Tryz.func55, Tryz.ntmps55
              go_wp2_with (go_at_call 54; (with_reducible refine (HD.out _).mono ?_); rintro e w1 ⟨rfl, rfl⟩)
              go_loop [6] (fun x => ∃ k : Nat, x = .int .i64 (k : Int) ∧ i ≤ k ∧ k ≤ s.size ∧ Hid (E = k + dgs (sf s k))) (fun x => s.size - (RowKit.intOf x).toNat)
              case atStart => exact ⟨i, by go_num, Nat.le_refl _, by omega, HE⟩
              case round =>
                obtain ⟨k, rfl, hik, hk, hh⟩ := hrel
                have HK2 := Lib.hid (fun w => digit_any s k (k : Int) rfl w)
                have st := dgs_sf s k
                cases hdk : dg (by8 s k) with
                | true =>
                  have hkl : k < s.size := by
                    rcases Nat.lt_or_ge k s.size with h | h
                    · exact h
                    · rw [by8_end s k h] at hdk; cases hdk
                  rw [if_pos hdk] at st
                  rw [hdk] at HK2
                  have HE2 := Lib.hid (show E = k + 1 + dgs (sf s (k + 1)) by rw [hh.out, st]; omega)
                  clear st hdk hh
                  go_wp2_with (go_at_call 54; (with_reducible refine (HK2.out _).mono ?_); rintro e w1 ⟨rfl, rfl⟩)
                  go_round
                  case rel => exact ⟨k + 1, by go_num, by omega, by omega, HE2⟩
                  case measure => simp [RowKit.intOf]; omega
                | false =>
                  rw [if_neg (by rw [hdk]; simp)] at st
                  rw [hdk] at HK2
                  obtain rfl : E = k := by rw [hh.out, st]; rfl
                  clear st hdk hh
                  go_wp2_with (go_at_call 54; (with_reducible refine (HK2.out _).mono ?_); rintro e w1 ⟨rfl, rfl⟩)
                  refine (HW.out _).mono ?_
                  rintro e w1 ⟨rfl, hb1⟩
                  have hb0 : Below w.heap.size w w1 := ((Below.refl _ _).alloc (Nat.le_refl _) _).trans (hb1.mono (by simp))
                  have hk4 : Box w1 w.heap.size _ := (box_new w _).next hb1 (by simp)
                  clear hb1
                  go_wp2_with (refine wpList_keep _ rfl _ _ rfl w.heap.size w hb0 w.heap.size (Nat.le_refl _) _ _ _ _ _ _ rfl rfl hk4 rfl ?_; intro w2 hk5 hb5 _)
                  try simp only [Exit.inBlock, Exit.then]
                  refine bodyPost_ret (results_tok rfl _ _ _ _ rfl hk5 rfl) rfl ?_
                  exact ⟨by rw [HN.out]; unfold nR tkV atR Tk.sh; simp only; rw [HZ.out]; rfl, hb5⟩
          | false =>
            rw [if_neg (by simp)] at hnum hwh
            have HW := Lib.hid hwh
            have HN := Lib.hid hnum
            clear hnum hwh HZ
            rcases hends with ⟨hEl, hiE, m1, m2, m3⟩ | hEl
            all_goals
              go_enter Tryz.func55, Tryz.ntmps55
              go_wp2_with (go_at_call 54; (with_reducible refine (HD.out _).mono ?_); rintro e w1 ⟨rfl, rfl⟩)
              go_loop [6] (fun x => ∃ k : Nat, x = .int .i64 (k : Int) ∧ i ≤ k ∧ k ≤ s.size ∧ Hid (E = k + dgs (sf s k))) (fun x => s.size - (RowKit.intOf x).toNat)
              case atStart => exact ⟨i, by go_num, Nat.le_refl _, by omega, HE⟩
              case round =>
                obtain ⟨k, rfl, hik, hk, hh⟩ := hrel
                have HK2 := Lib.hid (fun w => digit_any s k (k : Int) rfl w)
                have st := dgs_sf s k
                cases hdk : dg (by8 s k) with
                | true =>
                  have hkl : k < s.size := by
                    rcases Nat.lt_or_ge k s.size with h | h
                    · exact h
                    · rw [by8_end s k h] at hdk; cases hdk
                  rw [if_pos hdk] at st
                  rw [hdk] at HK2
                  have HE2 := Lib.hid (show E = k + 1 + dgs (sf s (k + 1)) by rw [hh.out, st]; omega)
                  clear st hdk hh
                  go_wp2_with (go_at_call 54; (with_reducible refine (HK2.out _).mono ?_); rintro e w1 ⟨rfl, rfl⟩)
                  go_round
                  case rel => exact ⟨k + 1, by go_num, by omega, by omega, HE2⟩
                  case measure => simp [RowKit.intOf]; omega
                | false =>
                  rw [if_neg (by rw [hdk]; simp)] at st
                  rw [hdk] at HK2
                  obtain rfl : E = k := by rw [hh.out, st]; rfl
                  clear st hdk hh
                  go_wp2_with (go_at_call 54; (with_reducible refine (HK2.out _).mono ?_); rintro e w1 ⟨rfl, rfl⟩)
                  refine (HW.out _).mono ?_
                  rintro e w0 ⟨rfl, hb9⟩
                  go_wp2_with fail
                  refine (fault_any _ _ _).mono ?_
                  rintro e w1 ⟨rfl, hb8⟩
                  have hb1 := hb9.trans (hb8.mono hb9.size)
                  clear hb9 hb8
                  have hb0 : Below w.heap.size w w1 := ((Below.refl _ _).alloc (Nat.le_refl _) _).trans (hb1.mono (by simp))
                  have hk4 : Box w1 w.heap.size _ := (box_new w _).next hb1 (by simp)
                  clear hb1
                  go_wp2_with (refine wpList_keep _ rfl _ _ rfl w.heap.size w hb0 w.heap.size (Nat.le_refl _) _ _ _ _ _ _ rfl rfl hk4 rfl ?_; intro w2 hk5 hb5 _)
                  try simp only [Exit.inBlock, Exit.then]
                  refine bodyPost_ret (results_tok rfl _ _ _ _ rfl hk5 rfl) rfl ?_
                  exact ⟨by rw [HN.out]; rfl, hb5⟩
end Go.Proofs.YteinaclkpickaaaGreatDoor.Lx
