/- The four statements of quote as contracts over every input. Conditions: the two tables of unicode/utf8 are as its text lays them, strconv.ErrSyntax holds an error; as each theorem states. -/
import Derived.Test.YthnfbajdjkpbpaaDoorQuoG
namespace Go.Proofs.YthnfbajdjkpbpaaDoor.Quo
open Go.RowKit Go.Lib Go.Proofs.YthnfbajdjkpbpaaDoor.Byt Go.Proofs.YthnfbajdjkpbpaaDoor.Oct Go.Proofs.YthnfbajdjkpbpaaDoor.Utf

/-- What the listed variables give: the two tables, and an error in strconv.ErrSyntax. -/
structure Env (w : World) : Prop where
  tabs : Tabs w
  syn : Syn w
theorem Env.next {w w' : World} (h : Env w) (hb : Below w.heap.size w w') : Env w' := ⟨h.tabs.next hb, h.syn.next hb⟩

/-! ### the examples -/
theorem aw_put (w : World) (hE : Env w) : Calls Tryd.prog 8 #[.string ⟨#[97, 34, 10, 1]⟩] w fun e w' => e = .returned (.tuple #[.string ⟨#[34, 97, 92, 34, 92, 110, 92, 117, 48, 48, 48, 49, 34]⟩, .int .i64 0]) ∧ Below w.heap.size w w' := by
  have h := qput_any ⟨#[97, 34, 10, 1]⟩ w hE.tabs (by decide)
  have e : rP [97, 34, 10, 1] = .tuple #[.string ⟨#[34, 97, 92, 34, 92, 110, 92, 117, 48, 48, 48, 49, 34]⟩, .int .i64 0] := by
    unfold rP
    rw [show pT [97, 34, 10, 1] = [34, 97, 92, 34, 92, 110, 92, 117, 48, 48, 48, 49, 34] by decide +kernel, show pE [97, 34, 10, 1] = 0 by decide +kernel]
    rfl
  rw [show (⟨#[97, 34, 10, 1]⟩ : ByteArray).data.toList = [97, 34, 10, 1] from rfl, e] at h
  exact h
theorem aw_take1 (w : World) (hE : Env w) : Calls Tryd.prog 10 #[.string ⟨#[120, 34, 92, 117, 48, 48, 52, 49, 92, 117, 100, 56, 51, 100, 92, 117, 100, 101, 48, 48, 34]⟩, .int .i64 1] w fun e w' => e = .returned (.tuple #[.string ⟨#[65, 240, 159, 152, 128]⟩, .int .i64 21, .int .i64 0]) ∧ Below w.heap.size w w' := by
  have h := qtake_any ⟨#[120, 34, 92, 117, 48, 48, 52, 49, 92, 117, 100, 56, 51, 100, 92, 117, 100, 101, 48, 48, 34]⟩ 1 w hE.syn hE.tabs (by decide)
  rw [show tQ ⟨#[120, 34, 92, 117, 48, 48, 52, 49, 92, 117, 100, 56, 51, 100, 92, 117, 100, 101, 48, 48, 34]⟩ 1 = (0, 21, [65, 240, 159, 152, 128]) by decide +kernel] at h
  exact h
theorem aw_take2 (w : World) (hE : Env w) : Calls Tryd.prog 10 #[.string ⟨#[34, 92, 117, 100, 56, 51, 100, 34]⟩, .int .i64 0] w fun e w' => e = .returned (.tuple #[.string ⟨#[]⟩, .int .i64 1, .int .i64 8]) ∧ Below w.heap.size w w' := by
  have h := qtake_any ⟨#[34, 92, 117, 100, 56, 51, 100, 34]⟩ 0 w hE.syn hE.tabs (by decide)
  rw [show tQ ⟨#[34, 92, 117, 100, 56, 51, 100, 34]⟩ 0 = (8, 1, []) by decide +kernel] at h
  exact h
theorem aw_hex (w : World) (hE : Env w) : Calls Tryd.prog 12 #[.string ⟨#[48, 48, 102, 70]⟩, .int .i64 0] w fun e w' => e = .returned (.tuple #[.int .i64 255, .bool true]) ∧ Below w.heap.size w w' := by
  have h := hexes_any ⟨#[48, 48, 102, 70]⟩ 0 w hE.syn (by decide) (by decide) (by decide)
  rw [show hN ⟨#[48, 48, 102, 70]⟩ 0 = 255 by decide +kernel, show hB ⟨#[48, 48, 102, 70]⟩ 0 = true by decide +kernel] at h
  exact h
set_option maxHeartbeats 1000000 in
theorem awake_any (w : World) (hE : Env w) : Calls Tryd.prog 7 #[] w fun e w' => e = .returned (.bool true) ∧ Below w.heap.size w w' := by
  have HE := Lib.hid hE
  clear hE
  go_enter Tryd.func7, Tryd.ntmps7
  go_wp2_with fail
  refine (aw_put _ HE.out).mono ?_; rintro e w1 ⟨rfl, hb1⟩
  have HE1 := Lib.hid (HE.out.next hb1)
  go_wp2_with fail
  refine (aw_take1 _ HE1.out).mono ?_; rintro e w2 ⟨rfl, hb2⟩
  have HE2 := Lib.hid (HE1.out.next hb2)
  go_wp2_with fail
  refine (aw_take2 _ HE2.out).mono ?_; rintro e w3 ⟨rfl, hb3⟩
  have HE3 := Lib.hid (HE2.out.next hb3)
  go_wp2_with fail
  refine (aw_hex _ HE3.out).mono ?_; rintro e w4 ⟨rfl, hb4⟩
  go_wp2_with fail
  go_ret
  exact ⟨rfl, next (next (next hb1 hb2) hb3) hb4⟩

/-! ### QuoteSays -/
set_option maxRecDepth 100000 in
set_option maxHeartbeats 2000000 in
theorem says_walk (s t : ByteArray) (a : Int) (w : World) (hE : Env w) (hi : -9223372036854775808 ≤ a) (hi' : a ≤ 9223372036854775807) :
    Calls Tryd.prog 3 #[.string s, .string t, .int .i64 a] w fun e w' => e = .returned (.bool true) ∧ Below w.heap.size w w' := by
  have HE := Lib.hid hE
  clear hE
  by_cases hg : 300 < s.size ∨ 300 < t.size
  · have hg' : 300 < s.size ∨ (s.size ≤ 300 ∧ 300 < t.size) := by omega
    clear hg
    rcases hg' with h | ⟨h1, h⟩
    all_goals
      go_enter Tryd.func3, Tryd.ntmps3
      go_wp2_with fail
      refine (awake_any _ HE.out).mono ?_; rintro e w1 ⟨rfl, hb1⟩
      go_wp2_with fail
      go_ret
      exact ⟨rfl, hb1⟩
  · have hs : s.size ≤ 300 := by omega
    have ht : t.size ≤ 300 := by omega
    have H1 := Lib.hid (fun w hE => qput_any s w hE (by omega))
    have H2 := Lib.hid (fun w => rqput_any s w (by omega))
    have H3 := Lib.hid (fun w hS hT => qtake_any t a w hS hT (by omega))
    have H4 := Lib.hid (fun w => rqtake_any t a w (by omega))
    have H5 := Lib.hid (fun w hS => hexes_any t a w hS (by omega) hi hi')
    have H6 := Lib.hid (fun w => rhexes_any t a w (by omega) hi hi')
    unfold rP at H1 H2
    unfold rT at H3 H4
    generalize (⟨(pT s.data.toList).toArray⟩ : ByteArray) = A at *
    generalize pE s.data.toList = E at *
    generalize tQ t a = R at *
    obtain ⟨R1, R2, R3⟩ := R
    simp only at H3 H4
    generalize (⟨R3.toArray⟩ : ByteArray) = V at *
    generalize hN t a = n at *
    generalize hB t a = bb at *
    clear hg
    go_enter Tryd.func3, Tryd.ntmps3
    go_wp2_with fail
    refine (H1.out _ HE.out.tabs).mono ?_; rintro e w1 ⟨rfl, hb1⟩
    have HE1 := Lib.hid (HE.out.next hb1)
    go_wp2_with fail
    refine (H2.out _).mono ?_; rintro e w2 ⟨rfl, hb2⟩
    have HE2 := Lib.hid (HE1.out.next hb2)
    have hb12 := next hb1 hb2
    clear hb1 hb2
    go_wp2_with fail
    refine (H3.out _ HE2.out.syn HE2.out.tabs).mono ?_; rintro e w3 ⟨rfl, hb3⟩
    have HE3 := Lib.hid (HE2.out.next hb3)
    have hb13 := next hb12 hb3
    clear hb12 hb3
    go_wp2_with fail
    refine (H4.out _).mono ?_; rintro e w4 ⟨rfl, hb4⟩
    have HE4 := Lib.hid (HE3.out.next hb4)
    have hb14 := next hb13 hb4
    clear hb13 hb4
    go_wp2_with fail
    refine (H5.out _ HE4.out.syn).mono ?_; rintro e w5 ⟨rfl, hb5⟩
    have HE5 := Lib.hid (HE4.out.next hb5)
    have hb15 := next hb14 hb5
    clear hb14 hb5
    go_wp2_with fail
    refine (H6.out _).mono ?_; rintro e w6 ⟨rfl, rfl⟩
    go_wp2_with fail
    refine (awake_any _ HE5.out).mono ?_; rintro e w7 ⟨rfl, hb7⟩
    go_wp2_with fail
    go_ret
    exact ⟨rfl, next hb15 hb7⟩

/-! ### QuoteBack -/
theorem list_bytes (s : ByteArray) : (⟨s.data.toList.toArray⟩ : ByteArray) = s := by cases s; simp
theorem fact_back (a b : ByteArray) (l : List UInt8) (h : badL l = none) : tQ (a ++ ⟨(qQ l).toArray⟩ ++ b) (a.size : Int) = (0, a.size + (qQ l).length, l) := by
  have hl : (a ++ ⟨(qQ l).toArray⟩ ++ b).data.toList = a.data.toList ++ (qQ l ++ b.data.toList) := by
    rw [ByteArray.data_append, ByteArray.data_append, Array.toList_append, Array.toList_append, List.append_assoc]
  obtain ⟨k1, k2⟩ := tkQ_qQ b.data.toList l h
  have hq1 : 1 ≤ (qQ l).length := by unfold qQ; simp
  have hd : dr (a ++ ⟨(qQ l).toArray⟩ ++ b) a.size = 34 :: (qL l ++ 34 :: b.data.toList) := by
    unfold dr
    rw [hl, k1, Lib.size_eq a, List.drop_left]
  have hbt : bt (a ++ ⟨(qQ l).toArray⟩ ++ b) a.size = 34 := by
    rw [show a.size = a.size + 0 from rfl, ← dr_get, hd]; rfl
  have hsz : a.size < (a ++ ⟨(qQ l).toArray⟩ ++ b).size := by
    have : (⟨(qQ l).toArray⟩ : ByteArray).size = (qQ l).length := by show (List.toArray _).size = _; simp
    rw [ByteArray.size_append, ByteArray.size_append, this]; omega
  unfold tQ
  rw [Int.toNat_natCast, if_pos ⟨by omega, by omega, hbt⟩, ← dr_drop, hd]
  show fin [] (a.size + 1) (tkQ (qL l ++ 34 :: b.data.toList)) = _
  rw [k2]
  unfold fin
  simp only [List.nil_append, if_pos]
  exact Prod.ext rfl (Prod.ext (by simp only; omega) rfl)
theorem fact_back0 (l : List UInt8) (h : badL l = none) : tQ ⟨(qQ l).toArray⟩ 0 = (0, (qQ l).length, l) := by
  have := fact_back ⟨#[]⟩ ⟨#[]⟩ l h
  have e : (⟨#[]⟩ : ByteArray) ++ ⟨(qQ l).toArray⟩ ++ ⟨#[]⟩ = ⟨(qQ l).toArray⟩ := by
    apply ByteArray.ext
    rw [ByteArray.data_append, ByteArray.data_append]
    simp
  rw [e] at this
  rw [show ((⟨#[]⟩ : ByteArray).size : Int) = 0 from rfl, show (⟨#[]⟩ : ByteArray).size = 0 from rfl] at this
  rw [this, Nat.zero_add]
theorem two_box {W W' : World} {g : Nat} {a b : Value} (hb : Below W.heap.size W W') (hg : g < W.heap.size) (h0 : W.cell? ⟨g, 0, none⟩ = some a) (h1 : W.cell? ⟨g, 1, none⟩ = some b) :
    W'.cell? ⟨g, 0, none⟩ = some a ∧ W'.cell? ⟨g, 1, none⟩ = some b ∧ g < W'.heap.size :=
  ⟨(hb.cell (p := ⟨g, 0, none⟩) hg).trans h0, (hb.cell (p := ⟨g, 1, none⟩) hg).trans h1, by have := hb.size; omega⟩
theorem new_box (w : World) (a b : Value) (T : TypeId) : (w.alloc (.cells #[a, b] T)).cell? ⟨w.heap.size, 0, none⟩ = some a ∧ (w.alloc (.cells #[a, b] T)).cell? ⟨w.heap.size, 1, none⟩ = some b ∧ w.heap.size < (w.alloc (.cells #[a, b] T)).heap.size ∧ Below w.heap.size w (w.alloc (.cells #[a, b] T)) :=
  ⟨by rw [World.cell?_alloc_mark]; rfl, by rw [World.cell?_alloc_mark]; rfl, by simp, (Below.refl _ w).alloc (Nat.le_refl _) _⟩
theorem vis_at (l : List UInt8) (k : Nat) (h : k < (⟨(qQ l).toArray⟩ : ByteArray).size) : 32 ≤ bt ⟨(qQ l).toArray⟩ k := by
  have hl : (⟨(qQ l).toArray⟩ : ByteArray).data.toList = qQ l := by simp
  have hz : (⟨(qQ l).toArray⟩ : ByteArray).size = (qQ l).length := by show (List.toArray _).size = _; simp
  unfold bt
  rw [hl, List.getD_eq_getElem?_getD, List.getElem?_eq_getElem (by omega)]
  exact qQ_vis l _ (List.getElem_mem _)

set_option maxRecDepth 100000 in
set_option maxHeartbeats 2000000 in
theorem back_walk (s a b : ByteArray) (w : World) (hE : Env w) :
    Calls Tryd.prog 4 #[.string s, .agg #[.string a, .string b]] w fun e w' => e = .returned (.bool true) ∧ Below w.heap.size w w' := by
  obtain ⟨c0, d0, g0, l0⟩ := new_box w (.string a) (.string b) 31
  have HE := Lib.hid (hE.next l0)
  clear hE
  by_cases hg : 300 < s.size ∨ 100 < a.size ∨ 100 < b.size
  · have hg' : 300 < s.size ∨ (s.size ≤ 300 ∧ 100 < a.size) ∨ (s.size ≤ 300 ∧ a.size ≤ 100 ∧ 100 < b.size) := by omega
    clear hg
    rcases hg' with h | ⟨h1, h⟩ | ⟨h1, h2, h⟩
    all_goals
      go_enter Tryd.func4, Tryd.ntmps4
      go_wp2_with fail
      refine (awake_any _ HE.out).mono ?_; rintro e w1 ⟨rfl, hb1⟩
      go_wp2_with fail
      go_ret
      exact ⟨rfl, next2 l0 hb1⟩
  · have hs : s.size ≤ 300 := by omega
    have ha : a.size ≤ 100 := by omega
    have hb : b.size ≤ 100 := by omega
    clear hg
    have hlen : s.data.toList.length = s.size := by simp
    have H1 := Lib.hid (fun w hT => qput_any s w hT (by omega))
    have H2 := Lib.hid (fun w hT => bad_any s w hT (by omega))
    unfold rP pT pE at H1
    cases hbd : badL s.data.toList with
    | some k =>
      rw [hbd] at H2
      rw [hbd, if_neg (by simp), if_neg (by simp)] at H1
      have H2b : Hid (∀ w, Tabs w → Calls Tryd.prog 14 #[.string s] w fun e w' => e = .returned (.int .i64 (k : Int)) ∧ Below w.heap.size w w') := Lib.hid H2.out
      clear hbd H2 hlen
      go_enter Tryd.func4, Tryd.ntmps4
      go_wp2_with fail
      refine (H1.out _ HE.out.tabs).mono ?_; rintro e w1 ⟨rfl, hb1⟩
      have HE1 := Lib.hid (HE.out.next hb1)
      go_wp2_with fail
      refine (H2b.out _ HE1.out.tabs).mono ?_; rintro e w2 ⟨rfl, hb2⟩
      have HE2 := Lib.hid (HE1.out.next hb2)
      go_wp2_with fail
      refine (awake_any _ HE2.out).mono ?_; rintro e w3 ⟨rfl, hb3⟩
      go_wp2_with fail
      go_ret
      exact ⟨rfl, next2 l0 (next (next hb1 hb2) hb3)⟩
    | none =>
      rw [hbd] at H2
      rw [hbd, if_pos rfl, if_pos rfl] at H1
      have H2b : Hid (∀ w, Tabs w → Calls Tryd.prog 14 #[.string s] w fun e w' => e = .returned (.int .i64 (-1)) ∧ Below w.heap.size w w') := Lib.hid H2.out
      have hF := fact_back a b s.data.toList hbd
      have hql := qQ_len s.data.toList
      have hz : (⟨(qQ s.data.toList).toArray⟩ : ByteArray).size = (qQ s.data.toList).length := by show (List.toArray _).size = _; simp
      rw [← hz] at hF hql
      rw [hlen] at hql
      have HV := Lib.hid (vis_at s.data.toList)
      have H3 := Lib.hid (fun w hS hT => qtake_any (a ++ ⟨(qQ s.data.toList).toArray⟩ ++ b) (a.size : Int) w hS hT (by rw [ByteArray.size_append, ByteArray.size_append]; omega))
      rw [hF] at H3
      unfold rT at H3
      simp only at H3
      rw [list_bytes] at H3
      clear hz hbd H2 hF hlen
      generalize (⟨(qQ s.data.toList).toArray⟩ : ByteArray) = T at *
      have hsum : ((a.size + T.size : Nat) : Int) = (a.size : Int) + (T.size : Int) := by omega
      rw [hsum] at H3
      clear hsum
      go_enter Tryd.func4, Tryd.ntmps4
      go_wp2_with fail
      refine (H1.out _ HE.out.tabs).mono ?_; rintro e w1 ⟨rfl, hb1⟩
      have HE1 := Lib.hid (HE.out.next hb1)
      obtain ⟨c1, d1, g1⟩ := two_box hb1 g0 c0 d0
      have l1 := next2 l0 hb1
      clear hb1 c0 d0 g0 l0
      go_wp2_with fail
      refine (H2b.out _ HE1.out.tabs).mono ?_; rintro e w2 ⟨rfl, hb2⟩
      have HE2 := Lib.hid (HE1.out.next hb2)
      obtain ⟨c2, d2, g2⟩ := two_box hb2 g1 c1 d1
      have l2 := next2 l1 hb2
      clear hb2 c1 d1 g1 l1
      go_wp2_with fail
      with_reducible refine (H3.out _ HE2.out.syn HE2.out.tabs).mono ?_; rintro e w3 ⟨rfl, hb3⟩
      have HE3 := Lib.hid (HE2.out.next hb3)
      obtain ⟨c3, d3, g3⟩ := two_box hb3 g2 c2 d2
      have l3 := next2 l2 hb3
      clear hb3 c2 d2 g2 l2
      go_wp2_with fail
      go_loopw [61] (fun i wr => ∃ k : Nat, i = .int .i64 (k : Int) ∧ k ≤ T.size ∧ wr = w3) (fun i _ => T.size - (RowKit.intOf i).toNat)
      case atStart => exact ⟨0, rfl, Nat.zero_le _, rfl⟩
      case round =>
        obtain ⟨k, rfl, hk, rfl⟩ := hrel
        by_cases hlt : k < T.size
        · have hix := fun w => index_at T k (k : Int) rfl hlt w
          have hv := HV.out k hlt
          generalize bt T k = c at *
          go_wp2_with fail
          go_roundw
          case rel => exact ⟨k + 1, by go_num, by omega, trivial⟩
          case measure => simp [RowKit.intOf]; omega
        · go_wp2_with fail
          refine (awake_any _ HE3.out).mono ?_; rintro e w4 ⟨rfl, hb4⟩
          go_wp2_with fail
          go_ret
          exact ⟨rfl, next2 l3 hb4⟩

/-! ### QuoteTakes -/
theorem fact_err (t : ByteArray) (a : Int) (h : (tQ t a).1 ≠ 0) : (tQ t a).2.2 = [] ∧ (tQ t a).2.1 ≤ t.size := by
  unfold tQ at h ⊢
  by_cases hc : 0 ≤ a ∧ a < (t.size : Int) ∧ bt t a.toNat = 34
  · rw [if_pos hc] at h ⊢
    have hin := (tkQ_in (dr t (a.toNat + 1))).1
    rw [dr_len] at hin
    unfold fin at h ⊢
    simp only at h ⊢
    exact ⟨if_neg h, by omega⟩
  · rw [if_neg hc]
    exact ⟨rfl, by simp only; omega⟩
theorem fact_ok (t : ByteArray) (a : Int) (h : (tQ t a).1 = 0) : 0 ≤ a ∧ (tQ t a).2.1 ≤ t.size ∧ a + 2 ≤ ((tQ t a).2.1 : Int) ∧ bt t ((tQ t a).2.1 - 1) = 34 ∧ badL (tQ t a).2.2 = none ∧ (tQ t a).2.2.length ≤ t.size := by
  unfold tQ at h ⊢
  by_cases hc : 0 ≤ a ∧ a < (t.size : Int) ∧ bt t a.toNat = 34
  · rw [if_pos hc] at h ⊢
    have hin := tkQ_in (dr t (a.toNat + 1))
    have hen := tkQ_end (dr t (a.toNat + 1))
    have htx := tkQ_text (dr t (a.toNat + 1))
    rw [dr_len] at hin
    unfold fin at h ⊢
    simp only at h ⊢
    obtain ⟨e1, e2⟩ := hen h
    rw [dr_get] at e2
    rw [if_pos h, List.nil_append]
    exact ⟨hc.1, by omega, by omega, by rw [show a.toNat + 1 + (tkQ (dr t (a.toNat + 1))).2.1 - 1 = a.toNat + 1 + ((tkQ (dr t (a.toNat + 1))).2.1 - 1) by omega]; exact e2, htx, by omega⟩
  · rw [if_neg hc] at h; cases h

set_option maxRecDepth 100000 in
set_option maxHeartbeats 2000000 in
theorem takes_walk (t : ByteArray) (a : Int) (w : World) (hE : Env w) (hi : -9223372036854775808 ≤ a) (hi' : a ≤ 9223372036854775807) :
    Calls Tryd.prog 5 #[.string t, .int .i64 a] w fun e w' => e = .returned (.bool true) ∧ Below w.heap.size w w' := by
  have HE := Lib.hid hE
  clear hE
  by_cases hg : 300 < t.size
  · go_enter Tryd.func5, Tryd.ntmps5
    go_wp2_with fail
    refine (awake_any _ HE.out).mono ?_; rintro e w1 ⟨rfl, hb1⟩
    go_wp2_with fail
    go_ret
    exact ⟨rfl, hb1⟩
  · have ht : t.size ≤ 300 := by omega
    have H1 := Lib.hid (fun w hS hT => qtake_any t a w hS hT (by omega))
    unfold rT at H1
    by_cases he : (tQ t a).1 = 0
    · obtain ⟨f1, f2, f3, f4, f5, f6⟩ := fact_ok t a he
      have hz : (⟨(tQ t a).2.2.toArray⟩ : ByteArray).size = (tQ t a).2.2.length := by show (List.toArray _).size = _; simp
      have hd : (⟨(tQ t a).2.2.toArray⟩ : ByteArray).data.toList = (tQ t a).2.2 := by simp
      have H2 := Lib.hid (fun w hT => bad_any ⟨(tQ t a).2.2.toArray⟩ w hT (by omega))
      have H3 := Lib.hid (fun w hT => qput_any ⟨(tQ t a).2.2.toArray⟩ w hT (by omega))
      rw [hd, f5] at H2
      have H2b : Hid (∀ w, Tabs w → Calls Tryd.prog 14 #[.string ⟨(tQ t a).2.2.toArray⟩] w fun e w' => e = .returned (.int .i64 (-1)) ∧ Below w.heap.size w w') := Lib.hid H2.out
      unfold rP pT pE at H3
      rw [hd, f5, if_pos rfl, if_pos rfl] at H3
      have hF := fact_back0 (tQ t a).2.2 f5
      have hzq : (⟨(qQ (tQ t a).2.2).toArray⟩ : ByteArray).size = (qQ (tQ t a).2.2).length := by show (List.toArray _).size = _; simp
      have hql := qQ_len (tQ t a).2.2
      rw [← hzq] at hF hql
      have H4 := Lib.hid (fun w hS hT => qtake_any ⟨(qQ (tQ t a).2.2).toArray⟩ 0 w hS hT (by omega))
      rw [hF] at H4
      unfold rT at H4
      simp only at H4
      rw [he] at H1
      have hix := fun w => index_at t ((tQ t a).2.1 - 1) (((tQ t a).2.1 : Int) - 1) (by omega) (by omega) w
      rw [f4] at hix
      clear hz hd H2 hF hzq he f4 f5 hg
      generalize (⟨(qQ (tQ t a).2.2).toArray⟩ : ByteArray) = Q at *
      generalize (⟨(tQ t a).2.2.toArray⟩ : ByteArray) = V at *
      generalize (tQ t a).2.2 = L at *
      generalize (tQ t a).2.1 = O at *
      go_enter Tryd.func5, Tryd.ntmps5
      go_wp2_with fail
      refine (H1.out _ HE.out.syn HE.out.tabs).mono ?_; rintro e w1 ⟨rfl, hb1⟩
      have HE1 := Lib.hid (HE.out.next hb1)
      go_wp2_with fail
      refine (H2b.out _ HE1.out.tabs).mono ?_; rintro e w2 ⟨rfl, hb2⟩
      have HE2 := Lib.hid (HE1.out.next hb2)
      have hb12 := next hb1 hb2
      clear hb1 hb2
      go_wp2_with fail
      refine (H3.out _ HE2.out.tabs).mono ?_; rintro e w3 ⟨rfl, hb3⟩
      have HE3 := Lib.hid (HE2.out.next hb3)
      have hb13 := next hb12 hb3
      clear hb12 hb3
      go_wp2_with fail
      refine (H4.out _ HE3.out.syn HE3.out.tabs).mono ?_; rintro e w4 ⟨rfl, hb4⟩
      have HE4 := Lib.hid (HE3.out.next hb4)
      have hb14 := next hb13 hb4
      clear hb13 hb4
      go_wp2_with fail
      refine (awake_any _ HE4.out).mono ?_; rintro e w5 ⟨rfl, hb5⟩
      go_wp2_with fail
      go_ret
      exact ⟨rfl, next hb14 hb5⟩
    · obtain ⟨f1, f2⟩ := fact_err t a he
      rw [f1] at H1
      have he2 : (((tQ t a).1 : Int) != 0) = true := by rw [bne_iff_ne]; omega
      clear f1 he hg
      generalize (tQ t a).1 = E at *
      generalize (tQ t a).2.1 = O at *
      go_enter Tryd.func5, Tryd.ntmps5
      go_wp2_with fail
      refine (H1.out _ HE.out.syn HE.out.tabs).mono ?_; rintro e w1 ⟨rfl, hb1⟩
      have HE1 := Lib.hid (HE.out.next hb1)
      go_wp2_with fail
      refine (awake_any _ HE1.out).mono ?_; rintro e w2 ⟨rfl, hb2⟩
      go_wp2_with fail
      go_ret
      exact ⟨rfl, next hb1 hb2⟩

/-! ### QuoteDigits -/
theorem cat_two (a b : List UInt8) : (ByteArray.mk a.toArray) ++ (ByteArray.mk b.toArray) = ⟨(a ++ b).toArray⟩ := by
  apply ByteArray.ext
  rw [ByteArray.data_append]
  simp
/-- What is read of a text that begins with a quote. -/
theorem tQ_zero (l : List UInt8) : tQ ⟨(34 :: l).toArray⟩ 0 = fin [] 1 (tkQ l) := by
  have hz : (⟨(34 :: l).toArray⟩ : ByteArray).size = l.length + 1 := by show (List.toArray _).size = _; simp
  unfold tQ
  rw [if_pos ⟨by omega, by omega, by unfold bt; simp⟩]
  unfold dr
  simp
theorem fact_one (n : Nat) (h : n < 65536) (hv : vB n = true) : tQ (⟨[34, 92, 117].toArray⟩ ++ ⟨(hexL (putL n 2)).toArray⟩ ++ ⟨[34].toArray⟩) 0 = (0, 8, encodeRune (n : Int)) := by
  rw [cat_two, cat_two]
  have := tkQ_one n [] h hv
  rw [show [34, 92, 117] ++ hexL (putL n 2) ++ [34] = 34 :: ([92, 117] ++ hexL (putL n 2) ++ [34]) by simp, tQ_zero, this]
  rfl
theorem fact_two (n m r : Nat) (h1 : 55296 ≤ n ∧ n ≤ 56319) (h2 : 56320 ≤ m ∧ m ≤ 57343) (hr : r = 65536 + (n - 55296) * 1024 + (m - 56320)) :
    tQ (⟨[34, 92, 117].toArray⟩ ++ ⟨(hexL (putL n 2)).toArray⟩ ++ ⟨[92, 117].toArray⟩ ++ ⟨(hexL (putL m 2)).toArray⟩ ++ ⟨[34].toArray⟩) 0 = (0, 14, encodeRune (r : Int)) := by
  rw [cat_two, cat_two, cat_two, cat_two]
  have := tkQ_two n m r [] h1 h2 hr
  rw [show [34, 92, 117] ++ hexL (putL n 2) ++ [92, 117] ++ hexL (putL m 2) ++ [34] = 34 :: ([92, 117] ++ hexL (putL n 2) ++ ([92, 117] ++ hexL (putL m 2)) ++ [34]) by simp, tQ_zero, this]
  rfl
theorem put_two (n : Nat) (hn : n < 18446744073709551616) (w : World) : Calls Tryd.prog 17 #[.int .u64 (n : Int), .int .i64 2] w fun e w' => e = .returned (.string ⟨(putL n 2).toArray⟩) ∧ Below w.heap.size w w' := put_any n 2 2 w hn (by omega)
theorem hex_two (n : Nat) (w : World) : Calls Tryd.prog 16 #[.string ⟨(putL n 2).toArray⟩] w fun e w' => e = .returned (.string ⟨(hexL (putL n 2)).toArray⟩) ∧ Below w.heap.size w w' := by
  have h := hex_any ⟨(putL n 2).toArray⟩ w (by show (List.toArray _).size ≤ _; rw [List.size_toArray, putL_length]; omega)
  rwa [show (⟨(putL n 2).toArray⟩ : ByteArray).data.toList = putL n 2 by simp] at h
theorem hex_size (n : Nat) : (⟨(hexL (putL n 2)).toArray⟩ : ByteArray).size = 4 := by
  show (List.toArray _).size = _
  rw [List.size_toArray, hexL_length, putL_length]
theorem put_num (x : Int) (T : TypeId) (w : World) :
    Calls Tryd.prog 15 #[.slice (some ⟨w.heap.size, 0, none⟩) 1 1] (w.alloc (.cells #[.int .i64 x] T)) fun e w' =>
      e = .returned (if vI x = true then .tuple #[.string ⟨(encodeRune x).toArray⟩, .bool true] else .tuple #[.string ⟨#[]⟩, .bool false]) ∧ Below w.heap.size w w' := by
  refine (put_any _ [x] _ (row_one w x T) (by simp)).mono ?_
  rintro e w' ⟨rfl, hb⟩
  refine ⟨?_, ((Below.refl _ w).alloc (Nat.le_refl _) _).trans (hb.mono (by simp))⟩
  have e1 : pB [x] = vI x := by unfold pB; simp
  cases hv : vI x with
  | true =>
    rw [hv] at e1
    rw [if_pos rfl, e1, pS_yes e1]
    simp [encZ]
  | false =>
    rw [hv] at e1
    rw [if_neg (by simp), e1, pS_no e1]

set_option maxRecDepth 100000 in
set_option maxHeartbeats 2000000 in
theorem digits_walk (x : Int) (w : World) (hE : Env w) (hi : -9223372036854775808 ≤ x) (hi' : x ≤ 9223372036854775807) :
    Calls Tryd.prog 6 #[.int .i64 x] w fun e w' => e = .returned (.bool true) ∧ Below w.heap.size w w' := by
  have HE := Lib.hid hE
  clear hE
  have H1 := Lib.hid (fun T w => put_num x T w)
  cases hv : vI x with
  | false =>
    rw [hv, if_neg (by simp)] at H1
    clear hv
    go_enter Tryd.func6, Tryd.ntmps6
    go_wp2_with fail
    refine (H1.out _ _).mono ?_; rintro e w1 ⟨rfl, hb1⟩
    have HE1 := Lib.hid (HE.out.next hb1)
    go_wp2_with fail
    refine (awake_any _ HE1.out).mono ?_; rintro e w2 ⟨rfl, hb2⟩
    go_wp2_with fail
    go_ret
    exact ⟨rfl, next hb1 hb2⟩
  | true =>
    rw [hv, if_pos rfl] at H1
    obtain ⟨n, rfl, hn⟩ := vI_nat hv
    clear hv hi hi'
    have hn2 : n ≤ 1114111 := by unfold vN at hn; omega
    have hvb : vB n = true := by unfold vN at hn; unfold vB; simp only [decide_eq_true_eq]; omega
    have hw : IntKind.u64.wrap (n : Int) = (n : Int) := by rw [IntKind.wrap_u64]; omega
    have H2 := Lib.hid (fun w => put_two n (by omega) w)
    have H3 := Lib.hid (fun w => hex_two n w)
    have z3 := hex_size n
    by_cases hs : n < 65536
    · have hF := fact_one n hs hvb
      have hzT : ((⟨#[34, 92, 117]⟩ : ByteArray) ++ ⟨(hexL (putL n 2)).toArray⟩ ++ ⟨#[34]⟩).size = 8 := by rw [ByteArray.size_append, ByteArray.size_append, z3]; rfl
      have H4 : Hid (∀ w, Syn w → Tabs w → Calls Tryd.prog 10 #[.string ((⟨#[34, 92, 117]⟩ : ByteArray) ++ ⟨(hexL (putL n 2)).toArray⟩ ++ ⟨#[34]⟩), .int .i64 0] w fun e w' => e = .returned (.tuple #[.string ⟨(encodeRune (n : Int)).toArray⟩, .int .i64 8, .int .i64 0]) ∧ Below w.heap.size w w') := Lib.hid fun w hS hT => by
        have h := qtake_any ((⟨#[34, 92, 117]⟩ : ByteArray) ++ ⟨(hexL (putL n 2)).toArray⟩ ++ ⟨#[34]⟩) 0 w hS hT (by rw [hzT]; decide)
        rw [show (⟨#[34, 92, 117]⟩ : ByteArray) ++ ⟨(hexL (putL n 2)).toArray⟩ ++ ⟨#[34]⟩ = ⟨[34, 92, 117].toArray⟩ ++ ⟨(hexL (putL n 2)).toArray⟩ ++ ⟨[34].toArray⟩ from rfl] at h ⊢
        rw [hF] at h
        exact h
      have HZ := Lib.hid hzT
      clear hF hvb hn hzT
      generalize (⟨(encodeRune (n : Int)).toArray⟩ : ByteArray) = V at *
      generalize (⟨(hexL (putL n 2)).toArray⟩ : ByteArray) = X at *
      generalize (⟨(putL n 2).toArray⟩ : ByteArray) = P at *
      have hs2 : (n : Int) ≤ 65535 := by omega
      clear hs
      go_enter Tryd.func6, Tryd.ntmps6
      go_wp2_with fail
      refine (H1.out _ _).mono ?_; rintro e w1 ⟨rfl, hb1⟩
      have HE1 := Lib.hid (HE.out.next hb1)
      go_wp2_with fail
      refine (H2.out _).mono ?_; rintro e w2 ⟨rfl, hb2⟩
      have HE2 := Lib.hid (HE1.out.next hb2)
      have hb12 := next hb1 hb2
      clear hb1 hb2
      go_wp2_with fail
      refine (H3.out _).mono ?_; rintro e w3 ⟨rfl, hb3⟩
      have HE3 := Lib.hid (HE2.out.next hb3)
      have hb13 := next hb12 hb3
      clear hb12 hb3
      go_wp2_with fail
      refine (H4.out _ HE3.out.syn HE3.out.tabs).mono ?_; rintro e w4 ⟨rfl, hb4⟩
      have HE4 := Lib.hid (HE3.out.next hb4)
      have hb14 := next hb13 hb4
      clear hb13 hb4
      go_wp2_with fail
      refine (awake_any _ HE4.out).mono ?_; rintro e w5 ⟨rfl, hb5⟩
      go_wp2_with fail
      go_ret
      exact ⟨rfl, next hb14 hb5⟩
    · obtain ⟨p, hp⟩ : ∃ p, p = 55296 + (n - 65536) / 1024 := ⟨_, rfl⟩
      obtain ⟨q, hq⟩ : ∃ q, q = 56320 + n % 1024 := ⟨_, rfl⟩
      have hp2 : 55296 + ((n : Int) - 65536) / 1024 = (p : Int) := by omega
      have hq2 : 56320 + (n : Int) % 1024 = (q : Int) := by omega
      have hF := fact_two p q n (by omega) (by omega) (by omega)
      have HP : Hid (∀ w, Calls Tryd.prog 17 #[.int .u64 (55296 + ((n : Int) - 65536) / 1024), .int .i64 2] w fun e w' => e = .returned (.string ⟨(putL p 2).toArray⟩) ∧ Below w.heap.size w w') := Lib.hid fun w => by rw [hp2]; exact put_two p (by omega) w
      have HQ : Hid (∀ w, Calls Tryd.prog 17 #[.int .u64 (56320 + (n : Int) % 1024), .int .i64 2] w fun e w' => e = .returned (.string ⟨(putL q 2).toArray⟩) ∧ Below w.heap.size w w') := Lib.hid fun w => by rw [hq2]; exact put_two q (by omega) w
      have HXP := Lib.hid (fun w => hex_two p w)
      have HXQ := Lib.hid (fun w => hex_two q w)
      have zp := hex_size p
      have zq := hex_size q
      have hzT : ((⟨#[34, 92, 117]⟩ : ByteArray) ++ ⟨(hexL (putL p 2)).toArray⟩ ++ ⟨#[92, 117]⟩ ++ ⟨(hexL (putL q 2)).toArray⟩ ++ ⟨#[34]⟩).size = 14 := by
        rw [ByteArray.size_append, ByteArray.size_append, ByteArray.size_append, ByteArray.size_append, zp, zq]; rfl
      have H4 : Hid (∀ w, Syn w → Tabs w → Calls Tryd.prog 10 #[.string ((⟨#[34, 92, 117]⟩ : ByteArray) ++ ⟨(hexL (putL p 2)).toArray⟩ ++ ⟨#[92, 117]⟩ ++ ⟨(hexL (putL q 2)).toArray⟩ ++ ⟨#[34]⟩), .int .i64 0] w fun e w' => e = .returned (.tuple #[.string ⟨(encodeRune (n : Int)).toArray⟩, .int .i64 14, .int .i64 0]) ∧ Below w.heap.size w w') := Lib.hid fun w hS hT => by
        have h := qtake_any ((⟨#[34, 92, 117]⟩ : ByteArray) ++ ⟨(hexL (putL p 2)).toArray⟩ ++ ⟨#[92, 117]⟩ ++ ⟨(hexL (putL q 2)).toArray⟩ ++ ⟨#[34]⟩) 0 w hS hT (by rw [hzT]; decide)
        rw [show (⟨#[34, 92, 117]⟩ : ByteArray) ++ ⟨(hexL (putL p 2)).toArray⟩ ++ ⟨#[92, 117]⟩ ++ ⟨(hexL (putL q 2)).toArray⟩ ++ ⟨#[34]⟩ = ⟨[34, 92, 117].toArray⟩ ++ ⟨(hexL (putL p 2)).toArray⟩ ++ ⟨[92, 117].toArray⟩ ++ ⟨(hexL (putL q 2)).toArray⟩ ++ ⟨[34].toArray⟩ from rfl] at h ⊢
        rw [hF] at h
        exact h
      have hw1 : IntKind.u64.wrap (55296 + ((n : Int) - 65536) / 1024) = 55296 + ((n : Int) - 65536) / 1024 := by rw [IntKind.wrap_u64]; omega
      have hw2 : IntKind.u64.wrap (56320 + (n : Int) % 1024) = 56320 + (n : Int) % 1024 := by rw [IntKind.wrap_u64]; omega
      have hs2 : 65535 < (n : Int) := by omega
      clear hF hvb hn hzT hp hq hp2 hq2 hs
      generalize (⟨(encodeRune (n : Int)).toArray⟩ : ByteArray) = V at *
      generalize (⟨(hexL (putL p 2)).toArray⟩ : ByteArray) = XP at *
      generalize (⟨(hexL (putL q 2)).toArray⟩ : ByteArray) = XQ at *
      generalize (⟨(putL p 2).toArray⟩ : ByteArray) = PP at *
      generalize (⟨(putL q 2).toArray⟩ : ByteArray) = PQ at *
      generalize (⟨(hexL (putL n 2)).toArray⟩ : ByteArray) = X at *
      generalize (⟨(putL n 2).toArray⟩ : ByteArray) = P at *
      go_enter Tryd.func6, Tryd.ntmps6
      go_wp2_with fail
      refine (H1.out _ _).mono ?_; rintro e w1 ⟨rfl, hb1⟩
      have HE1 := Lib.hid (HE.out.next hb1)
      go_wp2_with fail
      refine (H2.out _).mono ?_; rintro e w2 ⟨rfl, hb2⟩
      have HE2 := Lib.hid (HE1.out.next hb2)
      have hb12 := next hb1 hb2
      clear hb1 hb2
      go_wp2_with fail
      refine (H3.out _).mono ?_; rintro e w3 ⟨rfl, hb3⟩
      have HE3 := Lib.hid (HE2.out.next hb3)
      have hb13 := next hb12 hb3
      clear hb12 hb3
      go_wp2_with fail
      with_reducible refine (HP.out _).mono ?_; rintro e w4 ⟨rfl, hb4⟩
      have HE4 := Lib.hid (HE3.out.next hb4)
      have hb14 := next hb13 hb4
      clear hb13 hb4
      go_wp2_with fail
      refine (HXP.out _).mono ?_; rintro e w5 ⟨rfl, hb5⟩
      have HE5 := Lib.hid (HE4.out.next hb5)
      have hb15 := next hb14 hb5
      clear hb14 hb5
      go_wp2_with fail
      with_reducible refine (HQ.out _).mono ?_; rintro e w6 ⟨rfl, hb6⟩
      have HE6 := Lib.hid (HE5.out.next hb6)
      have hb16 := next hb15 hb6
      clear hb15 hb6
      go_wp2_with fail
      refine (HXQ.out _).mono ?_; rintro e w7 ⟨rfl, hb7⟩
      have HE7 := Lib.hid (HE6.out.next hb7)
      have hb17 := next hb16 hb7
      clear hb16 hb7
      go_wp2_with fail
      refine (H4.out _ HE7.out.syn HE7.out.tabs).mono ?_; rintro e w8 ⟨rfl, hb8⟩
      have HE8 := Lib.hid (HE7.out.next hb8)
      have hb18 := next hb17 hb8
      clear hb17 hb8
      go_wp2_with fail
      refine (awake_any _ HE8.out).mono ?_; rintro e w9 ⟨rfl, hb9⟩
      go_wp2_with fail
      go_ret
      exact ⟨rfl, next hb18 hb9⟩
end Go.Proofs.YthnfbajdjkpbpaaDoor.Quo
