/- Contracts of the document's Put and Take. Conditions: as each theorem states. -/
import Derived.Test.YtggahjhjapnfeaaDoorQuoF
namespace Go.Proofs.YtggahjhjapnfeaaDoor.Quo
open Go.RowKit Go.Lib Go.Proofs.YtggahjhjapnfeaaDoor.Byt Go.Proofs.YtggahjhjapnfeaaDoor.Oct Go.Proofs.YtggahjhjapnfeaaDoor.Utf

theorem own_next {w w' : World} {B : Nat} {v : Value} {l : List UInt8} (h : Own w B v l) (hb : Below w.heap.size w w') : Own w' B v l := by
  refine ⟨h.1, ?_⟩
  rcases h.2 with hn | ⟨g, cap, cur, hv, hbg, hg, rest⟩
  · exact .inl hn
  · have hg2 : g < w.heap.size := by
      rcases Nat.lt_or_ge g w.heap.size with h' | h'
      · exact h'
      · simp [Array.getElem?_eq_none h'] at hg
    exact .inr ⟨g, cap, cur, hv, hbg, (hb.block g hg2).trans hg, rest⟩
theorem qL_take (s : ByteArray) (k : Nat) (h : k < s.size) : qL (s.data.toList.take (k + 1)) = qL (s.data.toList.take k) ++ qB (UInt8.ofNat (bt s k)) := by
  have hl : s.data.toList.length = s.size := by simp
  have e : UInt8.ofNat (bt s k) = s.data.toList[k]'(by omega) := by
    apply UInt8.toNat_inj.1
    rw [ofNat_toNat _ (bt_lt s k)]
    unfold bt
    rw [List.getD_eq_getElem?_getD, List.getElem?_eq_getElem (by omega)]
    rfl
  rw [List.take_add_one, List.getElem?_eq_getElem (by omega), qL_append, e]
  simp [qL]
theorem qL_take_len (s : ByteArray) (k : Nat) : (qL (s.data.toList.take k)).length ≤ 6 * s.size := by
  have h1 := qL_len (s.data.toList.take k)
  have h2 : (s.data.toList.take k).length ≤ s.size := by rw [List.length_take]; have : s.data.toList.length = s.size := by simp
                                                         omega
  omega
theorem two_u8 (m : Nat) (x : Int) (hm : m < 256) (h : x = (m : Int)) : (#[Value.int .u8 92, .int .u8 x]).toList = byteCells [92, UInt8.ofNat m] := by
  subst h
  have := ofNat_toNat m hm
  simp [byteCells, this]
theorem shN_lt (c : Nat) : shN c < 256 := by unfold shN; repeat' split
                                             all_goals omega
theorem cut_one (s : ByteArray) (k : Nat) (h : k < s.size) : (cutB s k 1).data.toList = [UInt8.ofNat (bt s k)] := by
  have hl : s.data.toList.length = s.size := by simp
  have e : UInt8.ofNat (bt s k) = s.data.toList[k]'(by omega) := by
    apply UInt8.toNat_inj.1
    rw [ofNat_toNat _ (bt_lt s k)]
    unfold bt
    rw [List.getD_eq_getElem?_getD, List.getElem?_eq_getElem (by omega)]
    rfl
  show (s.data.toList.drop k).take 1 = _
  rw [List.drop_eq_getElem_cons (by omega), e]
  rfl

/-! ### Take -/
theorem bytes_of (l : List UInt8) : (⟨l.toArray⟩ : ByteArray).data.toList = l ∧ (⟨l.toArray⟩ : ByteArray).size = l.length := ⟨by simp, by show l.toArray.size = _; simp⟩
set_option maxRecDepth 100000 in
set_option maxHeartbeats 1000000 in
theorem rtake_in (s : ByteArray) (i : Nat) (w : World) (hs : s.size ≤ 1000000) (h : i < s.size) (hq : bt s i = 34) :
    Calls Tryd.prog 33 #[.string s, .int .i64 (i : Int)] w fun e w' => e = .returned (rT (fin [] (i + 1) (tkQ (dr s (i + 1))))) ∧ Below w.heap.size w w' := by
  have hix := fun w => index_at s i (i : Int) rfl h w
  rw [hq] at hix
  clear hq
  obtain ⟨R, hR⟩ : ∃ R, R = fin [] (i + 1) (tkQ (dr s (i + 1))) := ⟨_, rfl⟩
  rw [← hR]
  have HR := Lib.hid hR
  clear hR
  unfold rT
  have d0 : decide ((i : Int) < 0) = false := by simp
  have d1 : decide ((s.size : Int) ≤ (i : Int)) = false := by simp; omega
  have d2 : decide (s.size ≤ i) = false := by simp; omega
  go_enter Tryd.func33, Tryd.ntmps33
  go_wp2_with fail
  go_loopw [8, 7] (fun x v wr => ∃ (k : Nat) (acc : List UInt8), x = .int .i64 (k : Int) ∧ i + 1 ≤ k ∧ k ≤ s.size ∧ acc.length + (i + 1) ≤ k ∧ Own wr w.heap.size v acc ∧ Below w.heap.size w wr ∧ Hid (R = fin acc k (tkQ (dr s k))))
    (fun x _ _ => s.size - (RowKit.intOf x).toNat)
  case atStart => exact ⟨i + 1, [], by go_num, by omega, by omega, by simp, Own.nil _ _, Below.refl _ _, HR⟩
  case round =>
    obtain ⟨k, acc, rfl, hik, hk, hal, hown, hb, hr⟩ := hrel
    have hsz := hb.size
    clear hix d0 d1 d2
    by_cases hlt : k < s.size
    · have hix := fun w => index_at s k (k : Int) rfl hlt w
      have hbl := bt_lt s k
      have hg : ((dr s k).getD 0 0).toNat = bt s k := dr_get s k 0
      have hne := dr_ne s k hlt
      by_cases hc : bt s k = 34
      · have HR2 := Lib.hid (hr.out.trans (fin_close acc k (hg.trans hc)))
        rw [hc] at hix
        clear hr hg hne hc hbl
        go_wp2_with (with_reducible refine wpList_string _ rfl _ rfl _ _ _ rfl hown ?_)
        go_ret3
        exact ⟨by rw [HR2.out]; rfl, hb⟩
      · have hc2 : ((bt s k : Int) == 34) = false := by rw [beq_eq_false_iff_ne]; omega
        have hst : stp (dr s k) = if bt s k = 92 then escL (dr s k) else if bt s k < 32 then (4, 0, []) else if wL (dr s k) = 0 then (8, 0, []) else (0, wL (dr s k), (dr s k).take (wL (dr s k))) := by unfold stp; rw [hg]
        by_cases he : (stp (dr s k)).1 = 0
        · have HR2 := hr.out.trans (fin_step acc k hne (by omega) he)
          obtain ⟨z1, z2, z3⟩ := stp_ok hne he
          rw [dr_len] at z2
          rw [dr_drop] at HR2
          have HR3 := Lib.hid HR2
          clear hr HR2
          by_cases h92 : bt s k = 92
          · rw [if_pos h92] at hst
            rw [hst] at he z1 z2 z3 HR3
            have HE := Lib.hid (fun w => rescape_at s k ((k : Int) + 1) rfl w hs hlt h92)
            rw [h92] at hix
            unfold rE at HE
            rw [he] at HE
            generalize (escL (dr s k)).2.1 = n at *
            generalize (escL (dr s k)).2.2 = p at *
            have hn : ((n - 1 : Nat) : Int) = (n : Int) - 1 := by omega
            rw [hn] at HE
            obtain ⟨pl, pz⟩ := bytes_of p
            generalize (⟨p.toArray⟩ : ByteArray) = q at *
            have hbd : acc.length + q.size ≤ 140737488355328 := by omega
            have HPL := Lib.hid pl
            clear hst hg hne hc hc2 h92 he hn pl hbl
            go_wp2_with (first
              | (go_at_call 37; refine (HE.out _).mono ?_; rintro e w3 ⟨rfl, hb3⟩)
              | (at_builtin; refine wpList_text _ rfl _ _ rfl w.heap.size w _ _ rfl (own_next hown hb3) (hb.trans (hb3.mono hsz)) (Nat.le_refl _) q rfl hbd ?_; intro v4 w4 hown4 hb4))
            go_roundw
            case rel => exact ⟨k + n, acc ++ p, by go_num, by omega, by omega, by simp; omega, by rw [HPL.out] at hown4; exact hown4, hb4, HR3⟩
            case measure => simp [RowKit.intOf]; omega
          · rw [if_neg h92] at hst
            by_cases h32 : bt s k < 32
            · rw [if_pos h32] at hst
              rw [hst] at he
              cases he
            · rw [if_neg h32] at hst
              by_cases hw : wL (dr s k) = 0
              · rw [if_pos hw] at hst
                rw [hst] at he
                cases he
              · rw [if_neg hw] at hst
                rw [hst] at z1 z2 z3 HR3
                simp only at z1 z2 z3 HR3
                have HW := Lib.hid (fun w => rwidth_in s k w hlt (by omega))
                rw [wS_dr] at HW
                have hcut := cut_dr s k (wL (dr s k))
                have hrun := run_cut s (k : Int) ((k : Int) + (wL (dr s k) : Int)) k (wL (dr s k)) rfl rfl (by omega)
                rw [hcut] at hrun
                generalize (dr s k).take (wL (dr s k)) = p at *
                generalize wL (dr s k) = n at *
                obtain ⟨pl, pz⟩ := bytes_of p
                generalize (⟨p.toArray⟩ : ByteArray) = q at *
                have hbd : acc.length + q.size ≤ 140737488355328 := by omega
                have HPL := Lib.hid pl
                have hn0 : ((n : Int) == 0) = false := by rw [beq_eq_false_iff_ne]; omega
                have h922 : ((bt s k : Int) == 92) = false := by rw [beq_eq_false_iff_ne]; omega
                have h322 : 32 ≤ bt s k := by omega
                clear hst hg hne hc h92 he h32 hw pl hcut
                generalize bt s k = c at *
                go_wp2_with (first
                  | (go_at_call 38; refine (HW.out _).mono ?_; rintro e w3 ⟨rfl, rfl⟩)
                  | (at_builtin; refine wpList_text _ rfl _ _ rfl w.heap.size w _ _ rfl hown hb (Nat.le_refl _) q rfl hbd ?_; intro v4 w4 hown4 hb4))
                go_roundw
                case rel => exact ⟨k + n, acc ++ p, by go_num, by omega, by omega, by simp; omega, by rw [HPL.out] at hown4; exact hown4, hb4, HR3⟩
                case measure => simp [RowKit.intOf]; omega
        · have HR2 := hr.out.trans (fin_bad acc k hne (by omega) he)
          clear hr
          by_cases h92 : bt s k = 92
          · rw [if_pos h92] at hst
            rw [hst] at he HR2
            have HE := Lib.hid (fun w => rescape_at s k ((k : Int) + 1) rfl w hs hlt h92)
            rw [h92] at hix
            unfold rE at HE
            have HR3 := Lib.hid HR2
            generalize escL (dr s k) = P at *
            obtain ⟨P1, P2, P3⟩ := P
            simp only at *
            have he2 : ((P1 : Int) != 0) = true := by rw [bne_iff_ne]; omega
            clear hst hg hne hc hc2 h92 HR2 hbl
            go_wp2_with (go_at_call 37; refine (HE.out _).mono ?_; rintro e w3 ⟨rfl, hb3⟩)
            go_ret3
            exact ⟨by rw [HR3.out]; rfl, hb.trans (hb3.mono hsz)⟩
          · rw [if_neg h92] at hst
            have h922 : ((bt s k : Int) == 92) = false := by rw [beq_eq_false_iff_ne]; omega
            by_cases h32 : bt s k < 32
            · rw [if_pos h32] at hst
              rw [hst] at HR2
              have HR3 := Lib.hid HR2
              clear hst hg hne hc he HR2 h92
              generalize bt s k = c at *
              go_wp2_with fail
              go_ret3
              exact ⟨by rw [HR3.out]; rfl, hb⟩
            · rw [if_neg h32] at hst
              by_cases hw : wL (dr s k) = 0
              · rw [if_pos hw] at hst
                rw [hst] at HR2
                have HR3 := Lib.hid HR2
                have HW := Lib.hid (fun w => rwidth_in s k w hlt (by omega))
                rw [wS_dr, hw] at HW
                have h322 : 32 ≤ bt s k := by omega
                clear hst hg hne hc he HR2 h92 h32 hw
                generalize bt s k = c at *
                go_wp2_with (go_at_call 38; refine (HW.out _).mono ?_; rintro e w3 ⟨rfl, rfl⟩)
                go_ret3
                exact ⟨by rw [HR3.out]; rfl, hb⟩
              · rw [if_neg hw] at hst
                rw [hst] at he
                exact absurd rfl he
    · obtain rfl : k = s.size := by omega
      have hd := dr_nil s s.size (Nat.le_refl _)
      have HR2 := hr.out
      rw [hd, fin_short] at HR2
      have HR3 := Lib.hid HR2
      clear hr HR2 hd
      go_wp2_with fail
      go_ret3
      exact ⟨by rw [HR3.out]; rfl, hb⟩
theorem rqtake_any (s : ByteArray) (a : Int) (w : World) (hs : s.size ≤ 1000000) :
    Calls Tryd.prog 33 #[.string s, .int .i64 a] w fun e w' => e = .returned (rT (tQ s a)) ∧ Below w.heap.size w w' := by
  unfold tQ
  by_cases h : 0 ≤ a ∧ a < (s.size : Int) ∧ bt s a.toNat = 34
  · rw [if_pos h]
    obtain ⟨h0, h1, h2⟩ := h
    obtain ⟨i, rfl⟩ := Int.eq_ofNat_of_zero_le h0
    rw [Int.toNat_natCast] at h2 ⊢
    exact rtake_in s i w hs (by omega) h2
  · rw [if_neg h]
    obtain ⟨t, ht⟩ : ∃ t : Nat, min (max a 0) (s.size : Int) = (t : Int) := ⟨(min (max a 0) (s.size : Int)).toNat, by omega⟩
    rw [show (max (min a (s.size : Int)) 0).toNat = t by omega]
    unfold rT
    have h' : a < 0 ∨ (0 ≤ a ∧ (s.size : Int) ≤ a) ∨ ∃ i : Nat, a = (i : Int) ∧ i < s.size ∧ bt s i ≠ 34 := by
      rcases Int.lt_or_le a 0 with h0 | h0
      · exact .inl h0
      · rcases Int.lt_or_le a (s.size : Int) with h1 | h1
        · refine .inr (.inr ⟨a.toNat, by omega, by omega, fun h2 => h ⟨h0, h1, h2⟩⟩)
        · exact .inr (.inl ⟨h0, h1⟩)
    clear h
    rcases h' with h0 | ⟨h0, h1⟩ | ⟨i, rfl, hi, hne⟩
    · go_enter Tryd.func33, Tryd.ntmps33
      go_wp2_with fail
      go_ret3
      exact ⟨rfl, Below.refl _ _⟩
    · go_enter Tryd.func33, Tryd.ntmps33
      go_wp2_with fail
      go_ret3
      exact ⟨rfl, Below.refl _ _⟩
    · have hix := fun w => index_at s i (i : Int) rfl hi w
      have hn : ((bt s i : Int) != 34) = true := by rw [bne_iff_ne]; omega
      have ht2 : min (i : Int) (s.size : Int) = (t : Int) := by omega
      clear hne ht
      generalize bt s i = c at *
      go_enter Tryd.func33, Tryd.ntmps33
      go_wp2_with fail
      go_ret3
      exact ⟨rfl, Below.refl _ _⟩
end Go.Proofs.YtggahjhjapnfeaaDoor.Quo
