/- Contracts of Put and Take. Conditions: the two tables of unicode/utf8 are as its text lays them, strconv.ErrSyntax holds an error; as each theorem states. -/
import Derived.Test.YthnfbajdjkpbpaaDoorQuoC
namespace Go.Proofs.YthnfbajdjkpbpaaDoor.Quo
open Go.RowKit Go.Lib Go.Proofs.YthnfbajdjkpbpaaDoor.Byt Go.Proofs.YthnfbajdjkpbpaaDoor.Oct Go.Proofs.YthnfbajdjkpbpaaDoor.Utf Go.Proofs.YthnfbajdjkpbpaaDoor.Bld

/-- What Put hands back. -/
def rP (l : List UInt8) : Value := .tuple #[.string ⟨(pT l).toArray⟩, .int .i64 (pE l : Int)]

set_option maxHeartbeats 1000000 in
theorem qput_any (s : ByteArray) (w : World) (hT : Tabs w) (hs : s.size ≤ 1000000) :
    Calls Tryd.prog 8 #[.string s] w fun e w' => e = .returned (rP s.data.toList) ∧ Below w.heap.size w w' := by
  unfold rP
  have hlen : s.data.toList.length = s.size := by simp
  have HB := Lib.hid (bad_any s w hT (by omega))
  unfold pT pE
  clear hT
  cases hbd : badL s.data.toList with
  | some k =>
    rw [hbd] at HB
    have HB2 : Hid (Calls Tryd.prog 14 #[.string s] w fun e w' => e = .returned (.int .i64 (k : Int)) ∧ Below w.heap.size w w') := Lib.hid HB.out
    rw [if_neg (by simp), if_neg (by simp)]
    clear hbd HB
    go_enter Tryd.func8, Tryd.ntmps8
    go_wp2_with (go_at_call 14; refine HB2.out.mono ?_; rintro e w1 ⟨rfl, hb1⟩)
    go_ret2
    exact ⟨rfl, hb1⟩
  | none =>
    rw [hbd] at HB
    have HB2 : Hid (Calls Tryd.prog 14 #[.string s] w fun e w' => e = .returned (.int .i64 (-1)) ∧ Below w.heap.size w w') := Lib.hid HB.out
    rw [if_pos rfl, if_pos rfl]
    have HOK := Lib.hid hbd
    obtain ⟨Q, hQ⟩ : ∃ Q, Q = qL s.data.toList := ⟨_, rfl⟩
    have hql : Q.length ≤ 6 * s.size := by rw [hQ, ← hlen]; exact qL_len _
    unfold qQ
    rw [← hQ]
    have HQ := Lib.hid hQ
    clear hbd HB hQ hlen
    go_enter Tryd.func8, Tryd.ntmps8
    go_wp2_with (go_at_call 14; refine HB2.out.mono ?_; rintro e w1 ⟨rfl, hb1⟩)
    have hs1 := hb1.size
    refine (wbyte w.heap.size w1.heap.size [] 34 34 rfl _ (holds_new w1 _ hs1) (by decide) (by simp; omega)).mono ?_
    rintro e w2 ⟨rfl, hh2, hb2, _⟩
    have hb02 : Below w.heap.size w w2 := (hb1.alloc hs1 _).trans hb2
    clear hb2
    go_wp2_with fail
    go_loopw [6] (fun _ wr => ∃ (pos : Nat) (acc : List UInt8), Holds wr w.heap.size w1.heap.size (34 :: acc) ∧ wr.heap[w2.heap.size]? = some (Obj.stringIter s pos) ∧ Below w.heap.size w wr ∧ pos ≤ s.size ∧
        Hid (Q = acc ++ qL (s.data.toList.drop pos)) ∧ Hid (badL (s.data.toList.drop pos) = none))
      (fun _ wr => s.size - wr.iterPos w2.heap.size)
    case atStart =>
      refine ⟨0, [], hh2.next ((Below.refl _ w2).alloc (Nat.le_refl _) _), World.iter_heap w2 s 0, hb02.alloc hb02.size _, Nat.zero_le _, Lib.hid ?_, Lib.hid ?_⟩
      · rw [List.drop_zero]; exact HQ.out
      · rw [List.drop_zero]; exact HOK.out
    case round =>
      obtain ⟨pos, acc, hh, hit, hb, hpos, hacc, hok⟩ := hrel
      have hk2 := hb02.size
      by_cases hp : pos < s.size
      · obtain ⟨hw0, hok2⟩ := ok_step hok.out (drop_some s pos hp)
        have hd := decode_wn s pos hw0
        have hv : vN (nL (s.data.toList.drop pos)) := rnL_valid _ _ (by rw [rnL_step hw0]; exact List.mem_cons_self)
        have hR := nL_le (s.data.toList.drop pos)
        have hle := wS_le s pos hpos
        have hacc2 := hacc.out
        rw [qL_step hw0, List.drop_drop] at hacc2
        rw [List.drop_drop] at hok2
        have hnx := fun ty => Lib.run_next_any_at (P := Tryd.prog) wr w2.heap.size s pos ty hit hp
        rw [hd] at hnx
        simp only at hnx
        change Q = acc ++ (qR (nL (s.data.toList.drop pos)) ++ qL (s.data.toList.drop (pos + wS s pos))) at hacc2
        change badL (s.data.toList.drop (pos + wS s pos)) = none at hok2
        change 0 < wS s pos at hw0
        generalize nL (s.data.toList.drop pos) = R at *
        generalize wS s pos = K at *
        have hrl := qR_len R
        have hal : acc.length + (qR R).length ≤ Q.length := by rw [hacc2]; simp
        have HOK2 := Lib.hid hok2
        have HAC := Lib.hid hacc2
        have hit2 := Lib.iterAt_heap wr w2.heap.size s pos (pos + K) hit
        have hb3 := Lib.below_iterAt hb hk2 s (pos + K)
        have hh2b : Holds (wr.iterAt w2.heap.size s (pos + K)) w.heap.size w1.heap.size (34 :: acc) := hh.iterAt hit (pos + K)
        have hsz := hb3.size
        have hwr : IntKind.i32.wrap (R : Int) = (R : Int) := by rw [IntKind.wrap_i32]; omega
        have HR := Lib.hid (rune_writ w.heap.size w1.heap.size (34 :: acc) R hv _ hh2b (by simp; omega) hsz)
        clear hd hok hacc hok2 hacc2 hh hb hv
        go_wp2_with (go_at_call 19; refine HR.out.mono ?_; rintro e w3 ⟨rfl, hh3, hb4, hk3⟩)
        go_roundw
        case rel => exact ⟨pos + K, acc ++ qR R, by simpa using hh3, hk3 _ _ _ hit2, hb3.trans hb4, by omega, Lib.hid (by rw [HAC.out]; simp), HOK2⟩
        case measure => simp only [World.iterPos, hk3 _ _ _ hit2, hit] <;> omega
      · have hacc2 := hacc.out
        rw [drop_none s pos (by omega), qL_nil, List.append_nil] at hacc2
        have hnx := fun ty => Lib.run_next_end_at (P := Tryd.prog) wr w2.heap.size s pos ty hit hp
        subst hacc2
        have hsz := hb.size
        clear hacc hok
        go_wp2_with fail
        refine (wbyte w.heap.size w1.heap.size (34 :: Q) 34 34 rfl _ hh (by simp; omega) hsz).mono ?_
        rintro e w3 ⟨rfl, hh3, hb3, _⟩
        have hb13 := hb.trans hb3
        have hsz3 := hb13.size
        clear hb hb3
        go_wp2_with fail
        refine (string_any w.heap.size w1.heap.size _ _ hh3 hsz3).mono ?_
        rintro e w4 ⟨rfl, hb4⟩
        go_wp2_with fail
        go_ret2
        exact ⟨rfl, hb13.trans hb4⟩

/-! ### Take -/
/-- A value so far, the place, and what the rest says: the whole's answer. -/
def fin (acc : List UInt8) (i : Nat) (r : Nat × Nat × List UInt8) : Nat × Nat × List UInt8 := (r.1, i + r.2.1, if r.1 = 0 then acc ++ r.2.2 else [])
theorem fin_short (acc : List UInt8) (i : Nat) : fin acc i (tkQ []) = (3, i, []) := rfl
theorem fin_close (acc : List UInt8) (i : Nat) {l : List UInt8} (h : (l.getD 0 0).toNat = 34) : fin acc i (tkQ l) = (0, i + 1, acc) := by
  rw [tkQ_close h]; unfold fin; simp
theorem fin_bad (acc : List UInt8) (i : Nat) {l : List UInt8} (hl : l ≠ []) (h : (l.getD 0 0).toNat ≠ 34) (h1 : (stp l).1 ≠ 0) : fin acc i (tkQ l) = ((stp l).1, i, []) := by
  rw [tkQ_bad hl h h1]; unfold fin; simp [h1]
theorem fin_step (acc : List UInt8) (i : Nat) {l : List UInt8} (hl : l ≠ []) (h : (l.getD 0 0).toNat ≠ 34) (h1 : (stp l).1 = 0) : fin acc i (tkQ l) = fin (acc ++ (stp l).2.2) (i + (stp l).2.1) (tkQ (l.drop (stp l).2.1)) := by
  rw [tkQ_step hl h h1]
  unfold fin
  refine Prod.ext rfl (Prod.ext (by simp only; omega) ?_)
  simp only
  split
  · rw [List.append_assoc]
  · rfl
/-- What Take hands back. -/
def tQ (s : ByteArray) (a : Int) : Nat × Nat × List UInt8 := if 0 ≤ a ∧ a < (s.size : Int) ∧ bt s a.toNat = 34 then fin [] (a.toNat + 1) (tkQ (dr s (a.toNat + 1))) else (4, (max (min a (s.size : Int)) 0).toNat, [])

set_option maxHeartbeats 1000000 in
theorem take_in (s : ByteArray) (i : Nat) (w : World) (hS : Syn w) (hT : Tabs w) (hs : s.size ≤ 1000000) (h : i < s.size) (hq : bt s i = 34) :
    Calls Tryd.prog 10 #[.string s, .int .i64 (i : Int)] w fun e w' => e = .returned (rT (fin [] (i + 1) (tkQ (dr s (i + 1))))) ∧ Below w.heap.size w w' := by
  have HS := Lib.hid hS
  have HT := Lib.hid hT
  have hix := fun w => index_at s i (i : Int) rfl h w
  rw [hq] at hix
  clear hS hT hq
  obtain ⟨R, hR⟩ : ∃ R, R = fin [] (i + 1) (tkQ (dr s (i + 1))) := ⟨_, rfl⟩
  rw [← hR]
  have HR := Lib.hid hR
  clear hR
  unfold rT
  have d0 : decide ((i : Int) < 0) = false := by simp
  have d1 : decide ((s.size : Int) ≤ (i : Int)) = false := by simp; omega
  have d2 : decide (s.size ≤ i) = false := by simp; omega
  go_enter Tryd.func10, Tryd.ntmps10
  go_wp2_with fail
  go_loopw [1] (fun x wr => ∃ (k : Nat) (acc : List UInt8), x = .int .i64 (k : Int) ∧ i + 1 ≤ k ∧ k ≤ s.size ∧ acc.length + (i + 1) ≤ k ∧ Holds wr w.heap.size w.heap.size acc ∧ Below w.heap.size w wr ∧ Hid (R = fin acc k (tkQ (dr s k))))
    (fun x _ => s.size - (RowKit.intOf x).toNat)
  case atStart => exact ⟨i + 1, [], by go_num, by omega, by omega, by simp, holds_new w _ (Nat.le_refl _), (Below.refl _ w).alloc (Nat.le_refl _) _, HR⟩
  case round =>
    obtain ⟨k, acc, rfl, hik, hk, hal, hh, hb, hr⟩ := hrel
    have hsz := hb.size
    clear hix
    by_cases hlt : k < s.size
    · have hix := fun w => index_at s k (k : Int) rfl hlt w
      have hg : ((dr s k).getD 0 0).toNat = bt s k := dr_get s k 0
      have hne := dr_ne s k hlt
      by_cases hc : bt s k = 34
      · have HR2 := Lib.hid (hr.out.trans (fin_close acc k (hg.trans hc)))
        rw [hc] at hix
        clear hr hg hne hc
        go_wp2_with (go_at_call 20; refine (string_any w.heap.size w.heap.size _ _ hh hsz).mono ?_; rintro e w4 ⟨rfl, hb4⟩)
        go_ret3
        exact ⟨by rw [HR2.out]; rfl, hb.trans hb4⟩
      · have HP := Lib.hid (piece_at s k wr (HS.out.next hb) (HT.out.next hb) hlt (by omega))
        have hc2 : ((bt s k : Int) == 34) = false := by rw [beq_eq_false_iff_ne]; omega
        by_cases he : (stp (dr s k)).1 = 0
        · have HR2 := hr.out.trans (fin_step acc k hne (by omega) he)
          obtain ⟨z1, z2, z3⟩ := stp_ok hne he
          rw [dr_len] at z2
          rw [dr_drop] at HR2
          unfold rT at HP
          rw [he] at HP
          generalize (stp (dr s k)).2.1 = n at *
          generalize (stp (dr s k)).2.2 = p at *
          have HR3 := Lib.hid HR2
          have hpz : (⟨p.toArray⟩ : ByteArray).size = p.length := by show p.toArray.size = _; simp
          have hpl : (⟨p.toArray⟩ : ByteArray).data.toList = p := by simp
          have HW := Lib.hid (fun w2 h hB => wstring w.heap.size w.heap.size acc ⟨p.toArray⟩ w2 h (by rw [hpz]; omega) hB)
          rw [hpl] at HW
          generalize (⟨p.toArray⟩ : ByteArray) = q at *
          clear hr hg hne hc HR2 hpz hpl he
          generalize bt s k = c at *
          go_wp2_with (first
            | (go_at_call 24; refine HP.out.mono ?_; rintro e w3 ⟨rfl, hb3⟩)
            | (go_at_call 25; refine (HW.out _ (hh.next hb3) (by have := hb3.size; omega)).mono ?_; rintro e w4 ⟨rfl, hh4, hb4, _⟩))
          go_roundw
          case rel => exact ⟨k + n, acc ++ p, by go_num, by omega, by omega, by simp; omega, hh4, (hb.trans (hb3.mono hsz)).trans hb4, HR3⟩
          case measure => simp [RowKit.intOf]; omega
        · have HR2 := Lib.hid (hr.out.trans (fin_bad acc k hne (by omega) he))
          unfold rT at HP
          have he2 : (((stp (dr s k)).1 : Int) == 0) = false := by rw [beq_eq_false_iff_ne]; omega
          clear hr hg hne hc
          generalize stp (dr s k) = P at *
          obtain ⟨P1, P2, P3⟩ := P
          simp only at *
          generalize bt s k = c at *
          go_wp2_with (go_at_call 24; refine HP.out.mono ?_; rintro e w3 ⟨rfl, hb3⟩)
          go_ret3
          exact ⟨by rw [HR2.out]; rfl, hb.trans (hb3.mono hsz)⟩
    · obtain rfl : k = s.size := by omega
      have hd := dr_nil s s.size (Nat.le_refl _)
      have HR2 := hr.out
      rw [hd, fin_short] at HR2
      have HR3 := Lib.hid HR2
      clear hr HR2 hd
      go_wp2_with fail
      go_ret3
      exact ⟨by rw [HR3.out]; rfl, hb⟩
theorem qtake_any (s : ByteArray) (a : Int) (w : World) (hS : Syn w) (hT : Tabs w) (hs : s.size ≤ 1000000) :
    Calls Tryd.prog 10 #[.string s, .int .i64 a] w fun e w' => e = .returned (rT (tQ s a)) ∧ Below w.heap.size w w' := by
  unfold tQ
  by_cases h : 0 ≤ a ∧ a < (s.size : Int) ∧ bt s a.toNat = 34
  · rw [if_pos h]
    obtain ⟨h0, h1, h2⟩ := h
    obtain ⟨i, rfl⟩ := Int.eq_ofNat_of_zero_le h0
    rw [Int.toNat_natCast] at h2 ⊢
    exact take_in s i w hS hT hs (by omega) h2
  · rw [if_neg h]
    obtain ⟨t, ht⟩ : ∃ t : Nat, max (min a (s.size : Int)) 0 = (t : Int) := ⟨(max (min a (s.size : Int)) 0).toNat, by omega⟩
    rw [ht, Int.toNat_natCast]
    unfold rT
    have h' : a < 0 ∨ (0 ≤ a ∧ (s.size : Int) ≤ a) ∨ ∃ i : Nat, a = (i : Int) ∧ i < s.size ∧ bt s i ≠ 34 := by
      rcases Int.lt_or_le a 0 with h0 | h0
      · exact .inl h0
      · rcases Int.lt_or_le a (s.size : Int) with h1 | h1
        · refine .inr (.inr ⟨a.toNat, by omega, by omega, fun h2 => h ⟨h0, h1, h2⟩⟩)
        · exact .inr (.inl ⟨h0, h1⟩)
    clear h
    rcases h' with h0 | ⟨h0, h1⟩ | ⟨i, rfl, hi, hne⟩
    · go_enter Tryd.func10, Tryd.ntmps10
      go_wp2_with fail
      go_ret3
      exact ⟨rfl, Below.refl _ _⟩
    · go_enter Tryd.func10, Tryd.ntmps10
      go_wp2_with fail
      go_ret3
      exact ⟨rfl, Below.refl _ _⟩
    · have hix := fun w => index_at s i (i : Int) rfl hi w
      have hn : ((bt s i : Int) != 34) = true := by rw [bne_iff_ne]; omega
      clear hne
      generalize bt s i = c at *
      go_enter Tryd.func10, Tryd.ntmps10
      go_wp2_with fail
      go_ret3
      exact ⟨rfl, Below.refl _ _⟩
end Go.Proofs.YthnfbajdjkpbpaaDoor.Quo
