/- Contracts of the document's blanks, trimmed, name, whole, scalar. Conditions: as each theorem states. -/
import Derived.Test.YtggahjhjapnfeaaDoorGraR
import Derived.Test.YtggahjhjapnfeaaDoorLexA
import Derived.Test.YtggahjhjapnfeaaDoorQuoG
import Derived.Test.YtggahjhjapnfeaaDoorGraB
namespace Go.Proofs.YtggahjhjapnfeaaDoor.Gr
open Go.RowKit Go.Lib Go.Proofs.YtggahjhjapnfeaaDoor.Byt Go.Proofs.YtggahjhjapnfeaaDoor.Lx Go.Proofs.YtggahjhjapnfeaaDoor.Quo

/-- The piece of a string. -/
def ps (s : ByteArray) (i j : Nat) : List UInt8 := pc s.data.toList i j
theorem ps_size (s : ByteArray) : s.data.toList.length = s.size := by simp
theorem ps_cut (s : ByteArray) (i j : Nat) : (cutB s i (j - i)).data.toList = ps s i j := rfl
theorem ps_byte (s : ByteArray) (m : Nat) : (s.data.toList.getD m 0).toNat = by8 s m := rfl

/-! ### blanks -/
def blB (x : List UInt8) : Bool := x.all fun c => bl c.toNat
theorem blB_iff (x : List UInt8) : blB x = true ↔ Bl x := by unfold blB Bl; rw [List.all_eq_true]
theorem blB_step (s : ByteArray) (k j : Nat) (h : k < j) (hj : j ≤ s.size) : blB (ps s k j) = (bl (by8 s k) && blB (ps s (k + 1) j)) := by
  unfold ps blB
  rw [pc_cons h (by rw [ps_size]; exact hj), List.all_cons]
  rfl
theorem blB_end (s : ByteArray) (j : Nat) : blB (ps s j j) = true := by unfold ps; rw [pc_nil (Nat.le_refl _)]; rfl
theorem bl_split (c : Nat) : (bl c = true ∧ (c = 32 ∨ c = 9 ∨ c = 10 ∨ c = 13)) ∨ (bl c = false ∧ c ≠ 32 ∧ c ≠ 9 ∧ c ≠ 10 ∧ c ≠ 13) := by
  unfold bl
  by_cases h : c = 32 ∨ c = 9 ∨ c = 10 ∨ c = 13
  · exact .inl ⟨decide_eq_true h, h⟩
  · exact .inr ⟨decide_eq_false h, by omega⟩
set_option maxHeartbeats 1000000 in
set_option maxRecDepth 100000 in
theorem rblanks_any (s : ByteArray) (i j : Nat) (a b : Int) (ha : a = (i : Int)) (hb : b = (j : Int)) (hij : i ≤ j) (hj : j ≤ s.size) (hs : s.size ≤ 1000000) (w : World) :
    Calls Tryd.prog 18 #[.string s, .int .i64 a, .int .i64 b] w fun e w' => e = .returned (.bool (blB (ps s i j))) ∧ w = w' := by
  subst ha hb
  generalize hZ : blB (ps s i j) = Z
  have HZ := Lib.hid hZ
  clear hZ
  go_enter Tryd.func18, Tryd.ntmps18
  go_wp2_with fail
  go_loop [1] (fun x => ∃ k : Nat, x = .int .i64 (k : Int) ∧ i ≤ k ∧ k ≤ j ∧ Hid (blB (ps s k j) = Z)) (fun x => j - (RowKit.intOf x).toNat)
  case atStart => exact ⟨i, rfl, Nat.le_refl _, hij, HZ⟩
  case round =>
    obtain ⟨k, rfl, hik, hk, hh⟩ := hrel
    by_cases hkj : k < j
    · have hix := fun w => index_of s k (k : Int) rfl (by omega) w
      have st := blB_step s k j hkj hj
      rw [hh.out] at st
      generalize by8 s k = c at *
      rcases bl_split c with ⟨h1, h2⟩ | ⟨h1, h2⟩
      · rw [h1, Bool.true_and] at st
        have HS := Lib.hid st.symm
        clear st hh h1
        rcases h2 with rfl | rfl | rfl | rfl
        all_goals
          go_wp2_with fail
          go_round
          case rel => exact ⟨k + 1, by go_num, by omega, by omega, HS⟩
          case measure => simp [RowKit.intOf]; omega
      · rw [h1, Bool.false_and] at st
        have HS := Lib.hid st
        obtain ⟨g1, g2, g3, g4⟩ := h2
        have d1 : ((c : Int) != 32) = true := by rw [bne_iff_ne]; omega
        have d2 : ((c : Int) != 9) = true := by rw [bne_iff_ne]; omega
        have d3 : ((c : Int) != 10) = true := by rw [bne_iff_ne]; omega
        have d4 : ((c : Int) != 13) = true := by rw [bne_iff_ne]; omega
        clear st hh h1 g1 g2 g3 g4
        go_wp2_with fail
        first | go_ret | go_returns
        exact ⟨by rw [HS.out]; rfl, rfl⟩
    · obtain rfl : k = j := by omega
      have HS := Lib.hid (hh.out.symm.trans (blB_end s k))
      clear hh
      go_wp2_with fail
      first | go_ret | go_returns
      exact ⟨by rw [HS.out]; rfl, rfl⟩
theorem rblanks_one (s : ByteArray) (i : Nat) (a b : Int) (ha : a = (i : Int)) (hb : b = ((i + 1 : Nat) : Int)) (hj : i < s.size) (hs : s.size ≤ 1000000) (w : World) :
    Calls Tryd.prog 18 #[.string s, .int .i64 a, .int .i64 b] w fun e w' => e = .returned (.bool (bl (by8 s i))) ∧ w = w' := by
  have := rblanks_any s i (i + 1) a b ha hb (by omega) (by omega) hs w
  rw [blB_step s i (i + 1) (by omega) (by omega), blB_end, Bool.and_true] at this
  exact this

/-! ### trimmed -/
/-- Where the piece without blanks at both ends begins and ends. -/
def tI (s : ByteArray) (i j : Nat) : Nat := i + skp (ps s i j)
def tJ (s : ByteArray) (i j : Nat) : Nat := j - skp (ps s (tI s i j) j).reverse
theorem t_in (s : ByteArray) (i j : Nat) (hij : i ≤ j) (hj : j ≤ s.size) : i ≤ tI s i j ∧ tI s i j ≤ tJ s i j ∧ tJ s i j ≤ j := by
  have h1 := skp_le (ps s i j)
  have hl1 : (ps s i j).length = j - i := pc_len (by rw [ps_size]; exact hj)
  have hI : tI s i j ≤ j := by unfold tI; omega
  have h2 := skp_le (ps s (tI s i j) j).reverse
  have hl2 : (ps s (tI s i j) j).length = j - tI s i j := pc_len (by rw [ps_size]; exact hj)
  rw [List.length_reverse] at h2
  refine ⟨by unfold tI; omega, ?_, ?_⟩
  · unfold tJ; omega
  · unfold tJ; omega
theorem t_trm (s : ByteArray) (i j : Nat) (hij : i ≤ j) (hj : j ≤ s.size) : ps s (tI s i j) (tJ s i j) = trm (ps s i j) := by
  obtain ⟨h1, h2, h3⟩ := t_in s i j hij hj
  have e1 : lead (ps s i j) = ps s (tI s i j) j := by unfold lead ps tI; rw [pc_drop]; rfl
  unfold trm
  rw [e1]
  have hl2 : (ps s (tI s i j) j).length = j - tI s i j := pc_len (by rw [ps_size]; exact hj)
  have h4 := skp_le (ps s (tI s i j) j).reverse
  rw [List.length_reverse] at h4
  unfold lead
  rw [List.drop_reverse, List.reverse_reverse]
  unfold ps at *
  rw [pc_take _ (by omega)]
  unfold tJ
  congr 1
  unfold ps
  omega
theorem skp_ps (s : ByteArray) (k j : Nat) (h : k < j) (hj : j ≤ s.size) : skp (ps s k j) = if bl (by8 s k) = true then skp (ps s (k + 1) j) + 1 else 0 := by
  unfold ps
  rw [pc_cons h (by rw [ps_size]; exact hj), skp]
  rfl
theorem skp_rev (s : ByteArray) (k j : Nat) (h : k < j) (hj : j ≤ s.size) : skp (ps s k j).reverse = if bl (by8 s (j - 1)) = true then skp (ps s k (j - 1)).reverse + 1 else 0 := by
  unfold ps
  rw [pc_snoc h (by rw [ps_size]; exact hj), List.reverse_append, List.reverse_singleton, List.singleton_append, skp]
  rfl
theorem skp_psE (s : ByteArray) (j : Nat) : skp (ps s j j) = 0 := by unfold ps; rw [pc_nil (Nat.le_refl _)]; rfl
theorem skp_revE (s : ByteArray) (j : Nat) : skp (ps s j j).reverse = 0 := by unfold ps; rw [pc_nil (Nat.le_refl _)]; rfl
set_option maxHeartbeats 1000000 in
set_option maxRecDepth 100000 in
theorem rtrimmed_any (s : ByteArray) (i j : Nat) (a b : Int) (ha : a = (i : Int)) (hb : b = (j : Int)) (hij : i ≤ j) (hj : j ≤ s.size) (hs : s.size ≤ 1000000) (w : World) :
    Calls Tryd.prog 20 #[.string s, .int .i64 a, .int .i64 b] w fun e w' => e = .returned (.tuple #[.int .i64 (tI s i j : Int), .int .i64 (tJ s i j : Int)]) ∧ w = w' := by
  subst ha hb
  have HB := Lib.hid (fun k hk w => rblanks_one s k (k : Int) ((k : Int) + 1) rfl (by push_cast; rfl) hk hs w)
  have HB2 := Lib.hid (fun m (h : 0 < m) hk w => rblanks_one s (m - 1) ((m : Int) - 1) (m : Int) (by omega) (by omega) hk hs w)
  obtain ⟨h1, h2, h3⟩ := t_in s i j hij hj
  have hJ : tJ s i j = j - skp (ps s (tI s i j) j).reverse := rfl
  generalize tJ s i j = q at *
  have hI : tI s i j = i + skp (ps s i j) := rfl
  generalize tI s i j = p at *
  have HI := Lib.hid (show p = i + skp (ps s i j) ∧ i + skp (ps s i j) ≤ j by omega)
  have HJ := Lib.hid (show j - skp (ps s p j).reverse = q by omega)
  clear hI hJ
  go_enter Tryd.func20, Tryd.ntmps20
  go_wp2_with fail
  go_loop [1] (fun x => ∃ k : Nat, x = .int .i64 (k : Int) ∧ i ≤ k ∧ k ≤ j ∧ Hid (p = k + skp (ps s k j))) (fun x => j - (RowKit.intOf x).toNat)
  case atStart => exact ⟨i, rfl, Nat.le_refl _, hij, Lib.hid HI.out.1⟩
  case round =>
    clear HI
    obtain ⟨k, rfl, hik, hk, hh⟩ := hrel
    have tail : (k < j ∧ bl (by8 s k) = true) ∨ (k = p ∧ (k = j ∨ k < j ∧ bl (by8 s k) = false)) := by
      by_cases hkj : k < j
      · have st := skp_ps s k j hkj hj
        cases hbl : bl (by8 s k) with
        | true => exact .inl ⟨hkj, rfl⟩
        | false =>
          rw [hbl, if_neg (by simp)] at st
          have := hh.out
          exact .inr ⟨by omega, .inr ⟨hkj, rfl⟩⟩
      · obtain rfl : k = j := by omega
        have := hh.out
        rw [skp_psE] at this
        exact .inr ⟨by omega, .inl rfl⟩
    rcases tail with ⟨hkj, hbl⟩ | ⟨rfl, hkj | ⟨hkj, hbl⟩⟩
    · have HK := Lib.hid (HB.out k (by omega))
      rw [hbl] at HK
      have st := skp_ps s k j hkj hj
      rw [hbl, if_pos rfl] at st
      have HS := Lib.hid (show p = k + 1 + skp (ps s (k + 1) j) by have := hh.out; omega)
      have hkj2 : (k : Int) < (j : Int) := by omega
      clear st hh hbl
      go_wp2_with (go_at_call 18; (with_reducible refine (HK.out _).mono ?_); rintro e w1 ⟨rfl, rfl⟩)
      go_round
      case rel => exact ⟨k + 1, by go_num, by omega, by omega, HS⟩
      case measure => simp [RowKit.intOf]; omega
    · subst hkj
      clear hh
      go_wp2_with fail
      go_loop [2] (fun x => ∃ m : Nat, x = .int .i64 (m : Int) ∧ k ≤ m ∧ m ≤ k ∧ Hid (m - skp (ps s k m).reverse = q)) (fun x => (RowKit.intOf x).toNat)
      case atStart => exact ⟨k, rfl, hk, Nat.le_refl _, HJ⟩
      case round =>
        clear HJ
        obtain ⟨m, rfl, hkm, hmj, hh⟩ := hrel
        by_cases hlt : k < m
        · have st := skp_rev s k m hlt (by omega)
          have HM := Lib.hid (HB2.out m (by omega) (by omega))
          have hwm : IntKind.i64.wrap ((m : Int) - 1) = (m : Int) - 1 := by rw [IntKind.wrap_i64]; omega
          have hlt2 : (k : Int) < (m : Int) := by omega
          cases hbl : bl (by8 s (m - 1)) with
          | true =>
            rw [hbl, if_pos rfl] at st
            rw [hbl] at HM
            have HS := Lib.hid (show m - 1 - skp (ps s k (m - 1)).reverse = q by have := hh.out; omega)
            clear st hh hbl
            go_wp2_with (go_at_call 18; (with_reducible refine (HM.out _).mono ?_); rintro e w1 ⟨rfl, rfl⟩)
            go_round
            case rel => exact ⟨m - 1, by rw [show ((m - 1 : Nat) : Int) = (m : Int) - 1 by omega], by omega, by omega, HS⟩
            case measure => simp [RowKit.intOf]; omega
          | false =>
            rw [hbl, if_neg (by simp)] at st
            rw [hbl] at HM
            have hmq : m = q := by have := hh.out; omega
            have HS := Lib.hid hmq
            clear st hh hbl hmq
            go_wp2_with (go_at_call 18; (with_reducible refine (HM.out _).mono ?_); rintro e w1 ⟨rfl, rfl⟩)
            first | go_ret | go_returns
            exact ⟨by rw [HS.out]; rfl, rfl⟩
        · obtain rfl : m = k := by omega
          have hmq : m = q := by have := hh.out; rw [skp_revE] at this; omega
          have HS := Lib.hid hmq
          clear hh hmq
          go_wp2_with fail
          first | go_ret | go_returns
          exact ⟨by rw [HS.out]; rfl, rfl⟩
    · have HK := Lib.hid (HB.out k (by omega))
      rw [hbl] at HK
      have hkj2 : (k : Int) < (j : Int) := by omega
      clear hh hbl
      go_wp2_with (go_at_call 18; (with_reducible refine (HK.out _).mono ?_); rintro e w1 ⟨rfl, rfl⟩)
      go_loop [2] (fun x => ∃ m : Nat, x = .int .i64 (m : Int) ∧ k ≤ m ∧ m ≤ j ∧ Hid (m - skp (ps s k m).reverse = q)) (fun x => (RowKit.intOf x).toNat)
      case atStart => exact ⟨j, rfl, hk, Nat.le_refl _, HJ⟩
      case round =>
        clear HJ
        obtain ⟨m, rfl, hkm, hmj, hh⟩ := hrel
        by_cases hlt : k < m
        · have st := skp_rev s k m hlt (by omega)
          have HM := Lib.hid (HB2.out m (by omega) (by omega))
          have hwm : IntKind.i64.wrap ((m : Int) - 1) = (m : Int) - 1 := by rw [IntKind.wrap_i64]; omega
          have hlt2 : (k : Int) < (m : Int) := by omega
          cases hbl : bl (by8 s (m - 1)) with
          | true =>
            rw [hbl, if_pos rfl] at st
            rw [hbl] at HM
            have HS := Lib.hid (show m - 1 - skp (ps s k (m - 1)).reverse = q by have := hh.out; omega)
            clear st hh hbl
            go_wp2_with (go_at_call 18; (with_reducible refine (HM.out _).mono ?_); rintro e w1 ⟨rfl, rfl⟩)
            go_round
            case rel => exact ⟨m - 1, by rw [show ((m - 1 : Nat) : Int) = (m : Int) - 1 by omega], by omega, by omega, HS⟩
            case measure => simp [RowKit.intOf]; omega
          | false =>
            rw [hbl, if_neg (by simp)] at st
            rw [hbl] at HM
            have hmq : m = q := by have := hh.out; omega
            have HS := Lib.hid hmq
            clear st hh hbl hmq
            go_wp2_with (go_at_call 18; (with_reducible refine (HM.out _).mono ?_); rintro e w1 ⟨rfl, rfl⟩)
            first | go_ret | go_returns
            exact ⟨by rw [HS.out]; rfl, rfl⟩
        · obtain rfl : m = k := by omega
          have hmq : m = q := by have := hh.out; rw [skp_revE] at this; omega
          have HS := Lib.hid hmq
          clear hh hmq
          go_wp2_with fail
          first | go_ret | go_returns
          exact ⟨by rw [HS.out]; rfl, rfl⟩

/-! ### name -/
theorem sf_zero (s : ByteArray) : sf s 0 = s.data.toList := by unfold sf; rw [List.drop_zero]
set_option maxHeartbeats 1000000 in
set_option maxRecDepth 100000 in
theorem rname_any (t : ByteArray) (z : Bool) (hz : z = true ↔ Nm t.data.toList) (hs : t.size ≤ 1000000) (w : World) :
    Calls Tryd.prog 27 #[.string t] w fun e w' => e = .returned (.bool z) ∧ Below w.heap.size w w' := by
  have H := rqtake_any t 0 w hs
  have hq := tQ_qn t 0
  rw [sf_zero, show ((0 : Nat) : Int) = 0 from rfl] at hq
  have hl := ps_size t
  unfold rT at H
  generalize tQ t 0 = r at *
  obtain ⟨e0, n, v⟩ := r
  simp only at H hq
  have HT := Lib.hid H
  clear H
  generalize (⟨v.toArray⟩ : ByteArray) = V at *
  rcases hq with ⟨q0, q1⟩ | ⟨q0, rfl, rfl⟩
  · obtain rfl : z = false := by
      cases z with
      | false => rfl
      | true =>
        have h := hz.1 rfl
        have h1 := h.2
        have h2 := List.length_pos_iff.2 h.1
        omega
    have hne : ((e0 : Int) == 0) = false := by rw [beq_eq_false_iff_ne]; omega
    clear hz q0 q1
    go_enter Tryd.func27, Tryd.ntmps27
    go_wp2_with (go_at_call 33; (with_reducible refine HT.out.mono ?_); rintro e w1 ⟨rfl, hb⟩)
    go_ret
    exact ⟨rfl, hb⟩
  · rw [Nat.zero_add] at HT
    have hz2 : (((qn t.data.toList : Nat) : Int) == (t.size : Int)) = z := by
      rw [Bool.eq_iff_iff, hz, beq_iff_eq]
      constructor
      · intro h; exact ⟨fun e => by rw [e] at q0; exact q0 rfl, by omega⟩
      · intro h; have := h.2; omega
    generalize qn t.data.toList = n at *
    clear hz q0 hl
    go_enter Tryd.func27, Tryd.ntmps27
    go_wp2_with (go_at_call 33; (with_reducible refine HT.out.mono ?_); rintro e w1 ⟨rfl, hb⟩)
    go_ret
    exact ⟨rfl, hb⟩

/-! ### whole -/
/-- Behind the minus. -/
def Wr (r : List UInt8) : Prop := r ≠ [] ∧ ¬ (1 < r.length ∧ hd r = 48) ∧ dgs r = r.length
def adB (x : List UInt8) : Bool := x.all fun c => dg c.toNat
theorem adB_iff (x : List UInt8) : adB x = true ↔ dgs x = x.length := by
  induction x with
  | nil => exact ⟨fun _ => rfl, fun _ => rfl⟩
  | cons c x ih =>
    unfold adB at ih ⊢
    rw [List.all_cons, dgs, Bool.and_eq_true, ih]
    constructor
    · rintro ⟨h1, h2⟩; rw [if_pos h1, h2]; rfl
    · intro h
      by_cases h1 : dg c.toNat = true
      · rw [if_pos h1] at h; simp only [List.length_cons] at h; exact ⟨h1, by omega⟩
      · rw [if_neg h1] at h; simp at h
theorem adB_sf (s : ByteArray) (k : Nat) (h : k < s.size) : adB (sf s k) = (dg (by8 s k) && adB (sf s (k + 1))) := by
  obtain ⟨c, h1, h2⟩ := sf_cons s k h
  rw [h1]
  unfold adB
  rw [List.all_cons, h2]
theorem adB_end (s : ByteArray) : adB (sf s s.size) = true := by rw [sf_nil s s.size (Nat.le_refl _)]; rfl
theorem dg_split (c : Nat) : (dg c = true ∧ 48 ≤ c ∧ c ≤ 57) ∨ (dg c = false ∧ c < 48) ∨ (dg c = false ∧ 48 ≤ c ∧ 57 < c) := by
  unfold dg
  by_cases h : 48 ≤ c ∧ c ≤ 57
  · exact .inl ⟨decide_eq_true h, h⟩
  · by_cases h1 : c < 48
    · exact .inr (.inl ⟨decide_eq_false h, h1⟩)
    · exact .inr (.inr ⟨decide_eq_false h, by omega, by omega⟩)
/-- What is asked of the digits, in three ways. -/
theorem wr_ways (R : ByteArray) (z : Bool) (hz : z = true ↔ Wr R.data.toList) :
    (R = ⟨#[]⟩ ∧ z = false) ∨ (R.toList.isEmpty = false ∧ 1 < R.size ∧ by8 R 0 = 48 ∧ z = false) ∨
    (R.toList.isEmpty = false ∧ 0 < R.size ∧ (R.size ≤ 1 ∨ 1 < R.size ∧ by8 R 0 ≠ 48) ∧ adB (sf R 0) = z) := by
  have hl := ps_size R
  by_cases h0 : R.size = 0
  · left
    have e := str_none h0
    refine ⟨e, ?_⟩
    subst e
    cases z with
    | false => rfl
    | true => exact absurd rfl (hz.1 rfl).1
  · have hp : 0 < R.size := by omega
    have hh : hd R.data.toList = by8 R 0 := by rw [← sf_hd, sf_zero]
    by_cases h1 : 1 < R.size ∧ by8 R 0 = 48
    · right; left
      refine ⟨str_some hp, h1.1, h1.2, ?_⟩
      cases z with
      | false => rfl
      | true => exact absurd ⟨by omega, by rw [hh]; exact h1.2⟩ (hz.1 rfl).2.1
    · right; right
      refine ⟨str_some hp, hp, by omega, ?_⟩
      rw [Bool.eq_iff_iff, hz, adB_iff, sf_zero]
      constructor
      · intro h; exact ⟨fun e => by rw [e] at hl; simp at hl; omega, fun h2 => h1 ⟨by omega, by rw [← hh]; exact h2.2⟩, h⟩
      · intro h; exact h.2.2
set_option maxHeartbeats 1000000 in
set_option maxRecDepth 100000 in
theorem rwhole_minus (T R : ByteArray) (z : Bool) (hz : z = true ↔ Wr R.data.toList) (hs : R.size ≤ 1000000) (h0 : 0 < T.size) (h1 : by8 T 0 = 45) (hsl : ∀ w, (Instr.slice 9 (.string T) (some (.int .i64 1)) none none).run Tryd.prog w = .ok (.string R) w) (w : World) :
    Calls Tryd.prog 26 #[.string T] w fun e w' => e = .returned (.bool z) ∧ w = w' := by
  have HZ := Lib.hid hz
  have HRZ := Lib.hid hs
  have hiT := fun w => index_of T 0 0 rfl h0 w
  rw [h1] at hiT
  clear h1
  rcases wr_ways R z hz with ⟨rfl, rfl⟩ | ⟨e1, e2, e3, rfl⟩ | ⟨e1, e2, e3, e4⟩
  · clear hz HZ
    go_enter Tryd.func26, Tryd.ntmps26
    go_wp2_with fail
    first | go_ret | go_returns
    exact ⟨rfl, rfl⟩
  · have hi0 := fun w => index_of R 0 0 rfl (by omega) w
    rw [e3] at hi0
    have d1 : decide ((1 : Int) < (R.size : Int)) = true := decide_eq_true (by omega)
    clear hz HZ e3
    go_enter Tryd.func26, Tryd.ntmps26
    go_wp2_with fail
    first | go_ret | go_returns
    exact ⟨rfl, rfl⟩
  · have HE := Lib.hid e4
    have hrz := HRZ.out
    clear hz e4
    have ways : (decide ((1 : Int) < (R.size : Int)) = false) ∨ (decide ((1 : Int) < (R.size : Int)) = true ∧ ((by8 R 0 : Int) == 48) = false) := by
      rcases e3 with h | ⟨h, h2⟩
      · exact .inl (decide_eq_false (by omega))
      · exact .inr ⟨decide_eq_true (by omega), by rw [beq_eq_false_iff_ne]; omega⟩
    have hi0 := fun w => index_of R 0 0 rfl e2 w
    have HR2 : Hid (R.size = R.size) := Lib.hid rfl
    clear e3
    generalize by8 R 0 = c0 at *
    rcases ways with d1 | ⟨d1, d2⟩
    all_goals
      go_enter Tryd.func26, Tryd.ntmps26
      go_wp2_with fail
      go_loop [28, 3] (fun x _ => ∃ k : Nat, x = .int .i64 (k : Int) ∧ k ≤ R.size ∧ Hid (adB (sf R k) = z)) (fun x _ => R.size - (RowKit.intOf x).toNat)
      case atStart => exact ⟨0, rfl, Nat.zero_le _, HE⟩
      case round =>
        obtain ⟨k, rfl, hk, hh⟩ := hrel
        by_cases hkj : k < R.size
        · have hix := fun w => index_of R k (k : Int) rfl hkj w
          have st := adB_sf R k hkj
          rw [hh.out] at st
          generalize by8 R k = c at *
          rcases dg_split c with ⟨h1, h2, h3⟩ | ⟨h1, h2⟩ | ⟨h1, h2, h3⟩
          · rw [h1, Bool.true_and] at st
            have HS := Lib.hid st.symm
            have g1 : decide ((c : Int) < 48) = false := decide_eq_false (by omega)
            have g2 : decide ((57 : Int) < (c : Int)) = false := decide_eq_false (by omega)
            clear st hh h1
            go_wp2_with fail
            go_round
            case rel => exact ⟨k + 1, by go_num, by omega, HS⟩
            case measure => simp [RowKit.intOf]; omega
          · rw [h1, Bool.false_and] at st
            have HS := Lib.hid st
            have g1 : decide ((c : Int) < 48) = true := decide_eq_true (by omega)
            clear st hh h1
            go_wp2_with fail
            first | go_ret | go_returns
            exact ⟨by rw [HS.out]; rfl, rfl⟩
          · rw [h1, Bool.false_and] at st
            have HS := Lib.hid st
            have g1 : decide ((c : Int) < 48) = false := decide_eq_false (by omega)
            have g2 : decide ((57 : Int) < (c : Int)) = true := decide_eq_true (by omega)
            clear st hh h1
            go_wp2_with fail
            first | go_ret | go_returns
            exact ⟨by rw [HS.out]; rfl, rfl⟩
        · obtain rfl : k = R.size := by omega
          have HS := Lib.hid (hh.out.symm.trans (adB_end R))
          clear hh
          go_wp2_with fail
          first | go_ret | go_returns
          exact ⟨by rw [HS.out]; rfl, rfl⟩
set_option maxHeartbeats 1000000 in
set_option maxRecDepth 100000 in
theorem rwhole_plain (R : ByteArray) (z : Bool) (hz : z = true ↔ Wr R.data.toList) (hs : R.size ≤ 1000000) (h1 : by8 R 0 ≠ 45) (w : World) :
    Calls Tryd.prog 26 #[.string R] w fun e w' => e = .returned (.bool z) ∧ w = w' := by
  have HZ := Lib.hid hz
  have HRZ := Lib.hid hs
  have hm : ((by8 R 0 : Int) == 45) = false := by rw [beq_eq_false_iff_ne]; omega
  clear h1
  rcases wr_ways R z hz with ⟨rfl, rfl⟩ | ⟨e1, e2, e3, rfl⟩ | ⟨e1, e2, e3, e4⟩
  · clear hz HZ
    go_enter Tryd.func26, Tryd.ntmps26
    go_wp2_with fail
    first | go_ret | go_returns
    exact ⟨rfl, rfl⟩
  · have hi0 := fun w => index_of R 0 0 rfl (by omega) w
    rw [e3] at hi0
    have d1 : decide ((1 : Int) < (R.size : Int)) = true := decide_eq_true (by omega)
    clear hz HZ e3
    go_enter Tryd.func26, Tryd.ntmps26
    go_wp2_with fail
    first | go_ret | go_returns
    exact ⟨rfl, rfl⟩
  · have HE := Lib.hid e4
    have hrz := HRZ.out
    clear hz e4
    have ways : (decide ((1 : Int) < (R.size : Int)) = false) ∨ (decide ((1 : Int) < (R.size : Int)) = true ∧ ((by8 R 0 : Int) == 48) = false) := by
      rcases e3 with h | ⟨h, h2⟩
      · exact .inl (decide_eq_false (by omega))
      · exact .inr ⟨decide_eq_true (by omega), by rw [beq_eq_false_iff_ne]; omega⟩
    have hi0 := fun w => index_of R 0 0 rfl e2 w
    have HR2 : Hid (R.size = R.size) := Lib.hid rfl
    clear e3
    generalize by8 R 0 = c0 at *
    rcases ways with d1 | ⟨d1, d2⟩
    all_goals
      go_enter Tryd.func26, Tryd.ntmps26
      go_wp2_with fail
      go_loop [28, 3] (fun x _ => ∃ k : Nat, x = .int .i64 (k : Int) ∧ k ≤ R.size ∧ Hid (adB (sf R k) = z)) (fun x _ => R.size - (RowKit.intOf x).toNat)
      case atStart => exact ⟨0, rfl, Nat.zero_le _, HE⟩
      case round =>
        obtain ⟨k, rfl, hk, hh⟩ := hrel
        by_cases hkj : k < R.size
        · have hix := fun w => index_of R k (k : Int) rfl hkj w
          have st := adB_sf R k hkj
          rw [hh.out] at st
          generalize by8 R k = c at *
          rcases dg_split c with ⟨h1, h2, h3⟩ | ⟨h1, h2⟩ | ⟨h1, h2, h3⟩
          · rw [h1, Bool.true_and] at st
            have HS := Lib.hid st.symm
            have g1 : decide ((c : Int) < 48) = false := decide_eq_false (by omega)
            have g2 : decide ((57 : Int) < (c : Int)) = false := decide_eq_false (by omega)
            clear st hh h1
            go_wp2_with fail
            go_round
            case rel => exact ⟨k + 1, by go_num, by omega, HS⟩
            case measure => simp [RowKit.intOf]; omega
          · rw [h1, Bool.false_and] at st
            have HS := Lib.hid st
            have g1 : decide ((c : Int) < 48) = true := decide_eq_true (by omega)
            clear st hh h1
            go_wp2_with fail
            first | go_ret | go_returns
            exact ⟨by rw [HS.out]; rfl, rfl⟩
          · rw [h1, Bool.false_and] at st
            have HS := Lib.hid st
            have g1 : decide ((c : Int) < 48) = false := decide_eq_false (by omega)
            have g2 : decide ((57 : Int) < (c : Int)) = true := decide_eq_true (by omega)
            clear st hh h1
            go_wp2_with fail
            first | go_ret | go_returns
            exact ⟨by rw [HS.out]; rfl, rfl⟩
        · obtain rfl : k = R.size := by omega
          have HS := Lib.hid (hh.out.symm.trans (adB_end R))
          clear hh
          go_wp2_with fail
          first | go_ret | go_returns
          exact ⟨by rw [HS.out]; rfl, rfl⟩
theorem rwhole_any (t : ByteArray) (z : Bool) (hz : z = true ↔ Wh t.data.toList) (hs : t.size ≤ 1000000) (w : World) :
    Calls Tryd.prog 26 #[.string t] w fun e w' => e = .returned (.bool z) ∧ w = w' := by
  have hh : hd t.data.toList = by8 t 0 := by rw [← sf_hd, sf_zero]
  have hw : Wh t.data.toList ↔ Wr (t.data.toList.drop (sgn t.data.toList)) := Iff.rfl
  rw [hw] at hz
  by_cases h : by8 t 0 = 45
  · have hp : 0 < t.size := ltsize (by omega)
    have h1 : sgn t.data.toList = 1 := if_pos (by rw [hh]; exact h)
    have e : (cutB t 1 (t.size - 1)).data.toList = t.data.toList.drop 1 := by rw [cut_sf]; rfl
    have hsz : (cutB t 1 (t.size - 1)).size ≤ 1000000 := by rw [cutB_size t 1 (t.size - 1) (by omega)]; omega
    rw [h1, ← e] at hz
    exact rwhole_minus t (cutB t 1 (t.size - 1)) z hz hsz hp h (fun w => sl_from t 1 (t.size - 1) (by omega) w) w
  · have h1 : sgn t.data.toList = 0 := if_neg (by rw [hh]; exact h)
    rw [h1, List.drop_zero] at hz
    exact rwhole_plain t z hz hs h w

/-! ### scalar -/
set_option maxHeartbeats 1000000 in
set_option maxRecDepth 100000 in
theorem rscalar_any (t : ByteArray) (z : Bool) (hz : z = true ↔ Sc t.data.toList) (hs : t.size ≤ 1000000) (w : World) :
    Calls Tryd.prog 17 #[.string t] w fun e w' => e = .returned (.bool z) ∧ Below w.heap.size w w' := by
  rw [sc_iff] at hz
  have hnot : ∀ u : ByteArray, t ≠ u → t.data.toList ≠ u.data.toList := fun u h e => h (ByteArray.ext (Array.toList_inj.1 e))
  by_cases h1 : t = ⟨#[110, 117, 108, 108]⟩
  · subst h1
    obtain rfl : z = true := hz.2 (.inl rfl)
    clear hz
    go_enter Tryd.func17, Tryd.ntmps17
    go_wp2_with fail
    go_ret
    exact ⟨rfl, Below.refl _ _⟩
  · by_cases h2 : t = ⟨#[116, 114, 117, 101]⟩
    · subst h2
      obtain rfl : z = true := hz.2 (.inr (.inl rfl))
      clear hz
      go_enter Tryd.func17, Tryd.ntmps17
      go_wp2_with fail
      go_ret
      exact ⟨rfl, Below.refl _ _⟩
    · by_cases h3 : t = ⟨#[102, 97, 108, 115, 101]⟩
      · subst h3
        obtain rfl : z = true := hz.2 (.inr (.inr (.inl rfl)))
        clear hz
        go_enter Tryd.func17, Tryd.ntmps17
        go_wp2_with fail
        go_ret
        exact ⟨rfl, Below.refl _ _⟩
      · have g1 := str_neq h1
        have g2 := str_neq h2
        have g3 := str_neq h3
        have n1 : t.data.toList ≠ [110, 117, 108, 108] := hnot ⟨#[110, 117, 108, 108]⟩ h1
        have n2 : t.data.toList ≠ [116, 114, 117, 101] := hnot ⟨#[116, 114, 117, 101]⟩ h2
        have n3 : t.data.toList ≠ [102, 97, 108, 115, 101] := hnot ⟨#[102, 97, 108, 115, 101]⟩ h3
        have g1 : (t.toList == [110, 117, 108, 108]) = false := by rw [beq_eq_false_iff_ne, Byt.toList_data]; exact n1
        have g2 : (t.toList == [116, 114, 117, 101]) = false := by rw [beq_eq_false_iff_ne, Byt.toList_data]; exact n2
        have g3 : (t.toList == [102, 97, 108, 115, 101]) = false := by rw [beq_eq_false_iff_ne, Byt.toList_data]; exact n3
        have hz2 : z = true ↔ Wh t.data.toList ∨ Nm t.data.toList := by
          rw [hz]
          constructor
          · rintro (h | h | h | h)
            · exact absurd h n1
            · exact absurd h n2
            · exact absurd h n3
            · exact h
          · intro h; exact .inr (.inr (.inr h))
        by_cases h4 : Wh t.data.toList
        · obtain rfl : z = true := hz2.2 (.inl h4)
          have HW := Lib.hid (rwhole_any t true (by simp [h4]) hs)
          clear hz hz2 n1 n2 n3 h1 h2 h3 h4 hnot
          go_enter Tryd.func17, Tryd.ntmps17
          go_wp2_with (go_at_call 26; (with_reducible refine (HW.out _).mono ?_); rintro e w1 ⟨rfl, rfl⟩)
          go_ret
          exact ⟨rfl, Below.refl _ _⟩
        · have HW := Lib.hid (rwhole_any t false (by simp [h4]) hs)
          have HN := Lib.hid (rname_any t z (by rw [hz2]; simp [h4]) hs)
          clear hz hz2 n1 n2 n3 h1 h2 h3 h4 hnot
          go_enter Tryd.func17, Tryd.ntmps17
          go_wp2_with (first
            | (go_at_call 26; (with_reducible refine (HW.out _).mono ?_); rintro e w1 ⟨rfl, rfl⟩)
            | (go_at_call 27; (with_reducible refine (HN.out _).mono ?_); rintro e w1 ⟨rfl, hb⟩))
          go_ret
          exact ⟨rfl, hb⟩
end Go.Proofs.YtggahjhjapnfeaaDoor.Gr
