/- Contracts of Put and Take. Conditions: the two tables of unicode/utf8 are as its text lays them, strconv.ErrSyntax holds an error; as each theorem states. -/
import Derived.Test.YtggahjhjapnfeaaDoorQuoC
namespace Go.Proofs.YtggahjhjapnfeaaDoor.Quo
open Go.RowKit Go.Lib Go.Proofs.YtggahjhjapnfeaaDoor.Byt Go.Proofs.YtggahjhjapnfeaaDoor.Oct Go.Proofs.YtggahjhjapnfeaaDoor.Utf Go.Proofs.YtggahjhjapnfeaaDoor.Bld

/-- What Put hands back. -/
def rP (l : List UInt8) : Value := .tuple #[.string ⟨(pT l).toArray⟩, .int .i64 (pE l : Int)]

/-! ### Take -/
/-- A value so far, the place, and what the rest says: the whole's answer. -/
def fin (acc : List UInt8) (i : Nat) (r : Nat × Nat × List UInt8) : Nat × Nat × List UInt8 := (r.1, i + r.2.1, if r.1 = 0 then acc ++ r.2.2 else [])
theorem fin_short (acc : List UInt8) (i : Nat) : fin acc i (tkQ []) = (3, i, []) := rfl
theorem fin_close (acc : List UInt8) (i : Nat) {l : List UInt8} (h : (l.getD 0 0).toNat = 34) : fin acc i (tkQ l) = (0, i + 1, acc) := by
  rw [tkQ_close h]; unfold fin; simp
theorem fin_bad (acc : List UInt8) (i : Nat) {l : List UInt8} (hl : l ≠ []) (h : (l.getD 0 0).toNat ≠ 34) (h1 : (stp l).1 ≠ 0) : fin acc i (tkQ l) = ((stp l).1, i, []) := by
  rw [tkQ_bad hl h h1]; unfold fin; simp [h1]
theorem fin_step (acc : List UInt8) (i : Nat) {l : List UInt8} (hl : l ≠ []) (h : (l.getD 0 0).toNat ≠ 34) (h1 : (stp l).1 = 0) : fin acc i (tkQ l) = fin (acc ++ (stp l).2.2) (i + (stp l).2.1) (tkQ (l.drop (stp l).2.1)) := by
  rw [tkQ_step hl h h1]
  unfold fin
  refine Prod.ext rfl (Prod.ext (by simp only; omega) ?_)
  simp only
  split
  · rw [List.append_assoc]
  · rfl
/-- What Take hands back. -/
def tQ (s : ByteArray) (a : Int) : Nat × Nat × List UInt8 := if 0 ≤ a ∧ a < (s.size : Int) ∧ bt s a.toNat = 34 then fin [] (a.toNat + 1) (tkQ (dr s (a.toNat + 1))) else (4, (max (min a (s.size : Int)) 0).toNat, [])

set_option maxHeartbeats 1000000 in
theorem take_in (s : ByteArray) (i : Nat) (w : World) (hS : Syn w) (hT : Tabs w) (hs : s.size ≤ 1000000) (h : i < s.size) (hq : bt s i = 34) :
    Calls Tryd.prog 35 #[.string s, .int .i64 (i : Int)] w fun e w' => e = .returned (rT (fin [] (i + 1) (tkQ (dr s (i + 1))))) ∧ Below w.heap.size w w' := by
  have HS := Lib.hid hS
  have HT := Lib.hid hT
  have hix := fun w => index_at s i (i : Int) rfl h w
  rw [hq] at hix
  clear hS hT hq
  obtain ⟨R, hR⟩ : ∃ R, R = fin [] (i + 1) (tkQ (dr s (i + 1))) := ⟨_, rfl⟩
  rw [← hR]
  have HR := Lib.hid hR
  clear hR
  unfold rT
  have d0 : decide ((i : Int) < 0) = false := by simp
  have d1 : decide ((s.size : Int) ≤ (i : Int)) = false := by simp; omega
  have d2 : decide (s.size ≤ i) = false := by simp; omega
  go_enter Tryd.func35, Tryd.ntmps35
  go_wp2_with fail
  go_loopw [1] (fun x wr => ∃ (k : Nat) (acc : List UInt8), x = .int .i64 (k : Int) ∧ i + 1 ≤ k ∧ k ≤ s.size ∧ acc.length + (i + 1) ≤ k ∧ Holds wr w.heap.size w.heap.size acc ∧ Below w.heap.size w wr ∧ Hid (R = fin acc k (tkQ (dr s k))))
    (fun x _ => s.size - (RowKit.intOf x).toNat)
  case atStart => exact ⟨i + 1, [], by go_num, by omega, by omega, by simp, holds_new w _ (Nat.le_refl _), (Below.refl _ w).alloc (Nat.le_refl _) _, HR⟩
  case round =>
    obtain ⟨k, acc, rfl, hik, hk, hal, hh, hb, hr⟩ := hrel
    have hsz := hb.size
    clear hix
    by_cases hlt : k < s.size
    · have hix := fun w => index_at s k (k : Int) rfl hlt w
      have hg : ((dr s k).getD 0 0).toNat = bt s k := dr_get s k 0
      have hne := dr_ne s k hlt
      by_cases hc : bt s k = 34
      · have HR2 := Lib.hid (hr.out.trans (fin_close acc k (hg.trans hc)))
        rw [hc] at hix
        clear hr hg hne hc
        go_wp2_with (go_at_call 39; refine (string_any w.heap.size w.heap.size _ _ hh hsz).mono ?_; rintro e w4 ⟨rfl, hb4⟩)
        go_ret3
        exact ⟨by rw [HR2.out]; rfl, hb.trans hb4⟩
      · have HP := Lib.hid (piece_at s k wr (HS.out.next hb) (HT.out.next hb) hlt (by omega))
        have hc2 : ((bt s k : Int) == 34) = false := by rw [beq_eq_false_iff_ne]; omega
        by_cases he : (stp (dr s k)).1 = 0
        · have HR2 := hr.out.trans (fin_step acc k hne (by omega) he)
          obtain ⟨z1, z2, z3⟩ := stp_ok hne he
          rw [dr_len] at z2
          rw [dr_drop] at HR2
          unfold rT at HP
          rw [he] at HP
          generalize (stp (dr s k)).2.1 = n at *
          generalize (stp (dr s k)).2.2 = p at *
          have HR3 := Lib.hid HR2
          have hpz : (⟨p.toArray⟩ : ByteArray).size = p.length := by show p.toArray.size = _; simp
          have hpl : (⟨p.toArray⟩ : ByteArray).data.toList = p := by simp
          have HW := Lib.hid (fun w2 h hB => wstring w.heap.size w.heap.size acc ⟨p.toArray⟩ w2 h (by rw [hpz]; omega) hB)
          rw [hpl] at HW
          generalize (⟨p.toArray⟩ : ByteArray) = q at *
          clear hr hg hne hc HR2 hpz hpl he
          generalize bt s k = c at *
          go_wp2_with (first
            | (go_at_call 40; refine HP.out.mono ?_; rintro e w3 ⟨rfl, hb3⟩)
            | (go_at_call 41; refine (HW.out _ (hh.next hb3) (by have := hb3.size; omega)).mono ?_; rintro e w4 ⟨rfl, hh4, hb4, _⟩))
          go_roundw
          case rel => exact ⟨k + n, acc ++ p, by go_num, by omega, by omega, by simp; omega, hh4, (hb.trans (hb3.mono hsz)).trans hb4, HR3⟩
          case measure => simp [RowKit.intOf]; omega
        · have HR2 := Lib.hid (hr.out.trans (fin_bad acc k hne (by omega) he))
          unfold rT at HP
          have he2 : (((stp (dr s k)).1 : Int) == 0) = false := by rw [beq_eq_false_iff_ne]; omega
          clear hr hg hne hc
          generalize stp (dr s k) = P at *
          obtain ⟨P1, P2, P3⟩ := P
          simp only at *
          generalize bt s k = c at *
          go_wp2_with (go_at_call 40; refine HP.out.mono ?_; rintro e w3 ⟨rfl, hb3⟩)
          go_ret3
          exact ⟨by rw [HR2.out]; rfl, hb.trans (hb3.mono hsz)⟩
    · obtain rfl : k = s.size := by omega
      have hd := dr_nil s s.size (Nat.le_refl _)
      have HR2 := hr.out
      rw [hd, fin_short] at HR2
      have HR3 := Lib.hid HR2
      clear hr HR2 hd
      go_wp2_with fail
      go_ret3
      exact ⟨by rw [HR3.out]; rfl, hb⟩
theorem qtake_any (s : ByteArray) (a : Int) (w : World) (hS : Syn w) (hT : Tabs w) (hs : s.size ≤ 1000000) :
    Calls Tryd.prog 35 #[.string s, .int .i64 a] w fun e w' => e = .returned (rT (tQ s a)) ∧ Below w.heap.size w w' := by
  unfold tQ
  by_cases h : 0 ≤ a ∧ a < (s.size : Int) ∧ bt s a.toNat = 34
  · rw [if_pos h]
    obtain ⟨h0, h1, h2⟩ := h
    obtain ⟨i, rfl⟩ := Int.eq_ofNat_of_zero_le h0
    rw [Int.toNat_natCast] at h2 ⊢
    exact take_in s i w hS hT hs (by omega) h2
  · rw [if_neg h]
    obtain ⟨t, ht⟩ : ∃ t : Nat, max (min a (s.size : Int)) 0 = (t : Int) := ⟨(max (min a (s.size : Int)) 0).toNat, by omega⟩
    rw [ht, Int.toNat_natCast]
    unfold rT
    have h' : a < 0 ∨ (0 ≤ a ∧ (s.size : Int) ≤ a) ∨ ∃ i : Nat, a = (i : Int) ∧ i < s.size ∧ bt s i ≠ 34 := by
      rcases Int.lt_or_le a 0 with h0 | h0
      · exact .inl h0
      · rcases Int.lt_or_le a (s.size : Int) with h1 | h1
        · refine .inr (.inr ⟨a.toNat, by omega, by omega, fun h2 => h ⟨h0, h1, h2⟩⟩)
        · exact .inr (.inl ⟨h0, h1⟩)
    clear h
    rcases h' with h0 | ⟨h0, h1⟩ | ⟨i, rfl, hi, hne⟩
    · go_enter Tryd.func35, Tryd.ntmps35
      go_wp2_with fail
      go_ret3
      exact ⟨rfl, Below.refl _ _⟩
    · go_enter Tryd.func35, Tryd.ntmps35
      go_wp2_with fail
      go_ret3
      exact ⟨rfl, Below.refl _ _⟩
    · have hix := fun w => index_at s i (i : Int) rfl hi w
      have hn : ((bt s i : Int) != 34) = true := by rw [bne_iff_ne]; omega
      clear hne
      generalize bt s i = c at *
      go_enter Tryd.func35, Tryd.ntmps35
      go_wp2_with fail
      go_ret3
      exact ⟨rfl, Below.refl _ _⟩
end Go.Proofs.YtggahjhjapnfeaaDoor.Quo
