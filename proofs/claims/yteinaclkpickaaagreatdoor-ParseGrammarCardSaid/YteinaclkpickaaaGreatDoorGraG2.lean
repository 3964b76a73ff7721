/- Contracts of the document's blanks, trimmed, name, whole, scalar. Conditions: as each theorem states. · The document's tables in memory; the contract of value. Conditions: as each theorem states. · Contracts of the document's member, items, members. Conditions: as each theorem states. · Rows of rows as the document makes them; the contract of none. Conditions: as each theorem states. -/
import Derived.Test.YteinaclkpickaaaGreatDoorGraG0
import Derived.Test.YteinaclkpickaaaGreatDoorLexG1
import Derived.Test.YteinaclkpickaaaGreatDoorQuoG2
import Derived.Test.YteinaclkpickaaaGreatDoorGraG1
import Derived.Deep.MidRow
import Derived.Deep.RegionHeld3
import Derived.Laws.MakeOwn
namespace Go.Proofs.YteinaclkpickaaaGreatDoor.Gr
open Go.RowKit Go.Lib Go.Proofs.YteinaclkpickaaaGreatDoor.Byt Go.Proofs.YteinaclkpickaaaGreatDoor.Lx Go.Proofs.YteinaclkpickaaaGreatDoor.Quo

/-- The piece of a string. -/
def ps (s : ByteArray) (i j : Nat) : List UInt8 := pc s.data.toList i j
theorem ps_size (s : ByteArray) : s.data.toList.length = s.size := by simp
theorem ps_cut (s : ByteArray) (i j : Nat) : (cutB s i (j - i)).data.toList = ps s i j := rfl
theorem ps_byte (s : ByteArray) (m : Nat) : (s.data.toList.getD m 0).toNat = by8 s m := rfl

/-! ### blanks -/
def blB (x : List UInt8) : Bool := x.all fun c => bl c.toNat
theorem blB_iff (x : List UInt8) : blB x = true ↔ Bl x := by unfold blB Bl; rw [List.all_eq_true]
theorem blB_step (s : ByteArray) (k j : Nat) (h : k < j) (hj : j ≤ s.size) : blB (ps s k j) = (bl (by8 s k) && blB (ps s (k + 1) j)) := by
  unfold ps blB
  rw [pc_cons h (by rw [ps_size]; exact hj), List.all_cons]
  rfl
theorem blB_end (s : ByteArray) (j : Nat) : blB (ps s j j) = true := by unfold ps; rw [pc_nil (Nat.le_refl _)]; rfl
theorem bl_split (c : Nat) : (bl c = true ∧ (c = 32 ∨ c = 9 ∨ c = 10 ∨ c = 13)) ∨ (bl c = false ∧ c ≠ 32 ∧ c ≠ 9 ∧ c ≠ 10 ∧ c ≠ 13) := by
  unfold bl
  by_cases h : c = 32 ∨ c = 9 ∨ c = 10 ∨ c = 13
  · exact .inl ⟨decide_eq_true h, h⟩
  · exact .inr ⟨decide_eq_false h, by omega⟩
set_option maxHeartbeats 1000000 in
set_option maxRecDepth 100000 in
theorem rblanks_any (s : ByteArray) (i j : Nat) (a b : Int) (ha : a = (i : Int)) (hb : b = (j : Int)) (hij : i ≤ j) (hj : j ≤ s.size) (hs : s.size ≤ 1000000) (w : World) :
    Calls Tryz.prog 35 #[.string s, .int .i64 a, .int .i64 b] w fun e w' => e = .returned (.bool (blB (ps s i j))) ∧ w = w' := by
  subst ha hb
  generalize hZ : blB (ps s i j) = Z
  have HZ := Lib.hid hZ
  clear hZ
  go_enter Tryz.func35, Tryz.ntmps35
  go_wp2_with fail
  go_loop [1] (fun x => ∃ k : Nat, x = .int .i64 (k : Int) ∧ i ≤ k ∧ k ≤ j ∧ Hid (blB (ps s k j) = Z)) (fun x => j - (RowKit.intOf x).toNat)
  case atStart => exact ⟨i, rfl, Nat.le_refl _, hij, HZ⟩
  case round =>
    obtain ⟨k, rfl, hik, hk, hh⟩ := hrel
    by_cases hkj : k < j
    · have hix := fun w => index_of s k (k : Int) rfl (by omega) w
      have st := blB_step s k j hkj hj
      rw [hh.out] at st
      generalize by8 s k = c at *
      rcases bl_split c with ⟨h1, h2⟩ | ⟨h1, h2⟩
      · rw [h1, Bool.true_and] at st
        have HS := Lib.hid st.symm
        clear st hh h1
        rcases h2 with rfl | rfl | rfl | rfl
        all_goals
          go_wp2_with fail
          go_round
          case rel => exact ⟨k + 1, by go_num, by omega, by omega, HS⟩
          case measure => simp [RowKit.intOf]; omega
      · rw [h1, Bool.false_and] at st
        have HS := Lib.hid st
        obtain ⟨g1, g2, g3, g4⟩ := h2
        have d1 : ((c : Int) != 32) = true := by rw [bne_iff_ne]; omega
        have d2 : ((c : Int) != 9) = true := by rw [bne_iff_ne]; omega
        have d3 : ((c : Int) != 10) = true := by rw [bne_iff_ne]; omega
        have d4 : ((c : Int) != 13) = true := by rw [bne_iff_ne]; omega
        clear st hh h1 g1 g2 g3 g4
        go_wp2_with fail
        first | go_ret | go_returns
        exact ⟨by rw [HS.out]; rfl, rfl⟩
    · obtain rfl : k = j := by omega
      have HS := Lib.hid (hh.out.symm.trans (blB_end s k))
      clear hh
      go_wp2_with fail
      first | go_ret | go_returns
      exact ⟨by rw [HS.out]; rfl, rfl⟩
theorem rblanks_one (s : ByteArray) (i : Nat) (a b : Int) (ha : a = (i : Int)) (hb : b = ((i + 1 : Nat) : Int)) (hj : i < s.size) (hs : s.size ≤ 1000000) (w : World) :
    Calls Tryz.prog 35 #[.string s, .int .i64 a, .int .i64 b] w fun e w' => e = .returned (.bool (bl (by8 s i))) ∧ w = w' := by
  have := rblanks_any s i (i + 1) a b ha hb (by omega) (by omega) hs w
  rw [blB_step s i (i + 1) (by omega) (by omega), blB_end, Bool.and_true] at this
  exact this

/-! ### trimmed -/
/-- Where the piece without blanks at both ends begins and ends. -/
def tI (s : ByteArray) (i j : Nat) : Nat := i + skp (ps s i j)
def tJ (s : ByteArray) (i j : Nat) : Nat := j - skp (ps s (tI s i j) j).reverse
theorem t_in (s : ByteArray) (i j : Nat) (hij : i ≤ j) (hj : j ≤ s.size) : i ≤ tI s i j ∧ tI s i j ≤ tJ s i j ∧ tJ s i j ≤ j := by
  have h1 := skp_le (ps s i j)
  have hl1 : (ps s i j).length = j - i := pc_len (by rw [ps_size]; exact hj)
  have hI : tI s i j ≤ j := by unfold tI; omega
  have h2 := skp_le (ps s (tI s i j) j).reverse
  have hl2 : (ps s (tI s i j) j).length = j - tI s i j := pc_len (by rw [ps_size]; exact hj)
  rw [List.length_reverse] at h2
  refine ⟨by unfold tI; omega, ?_, ?_⟩
  · unfold tJ; omega
  · unfold tJ; omega
theorem t_trm (s : ByteArray) (i j : Nat) (hij : i ≤ j) (hj : j ≤ s.size) : ps s (tI s i j) (tJ s i j) = trm (ps s i j) := by
  obtain ⟨h1, h2, h3⟩ := t_in s i j hij hj
  have e1 : lead (ps s i j) = ps s (tI s i j) j := by unfold lead ps tI; rw [pc_drop]; rfl
  unfold trm
  rw [e1]
  have hl2 : (ps s (tI s i j) j).length = j - tI s i j := pc_len (by rw [ps_size]; exact hj)
  have h4 := skp_le (ps s (tI s i j) j).reverse
  rw [List.length_reverse] at h4
  unfold lead
  rw [List.drop_reverse, List.reverse_reverse]
  unfold ps at *
  rw [pc_take _ (by omega)]
  unfold tJ
  congr 1
  unfold ps
  omega
theorem skp_ps (s : ByteArray) (k j : Nat) (h : k < j) (hj : j ≤ s.size) : skp (ps s k j) = if bl (by8 s k) = true then skp (ps s (k + 1) j) + 1 else 0 := by
  unfold ps
  rw [pc_cons h (by rw [ps_size]; exact hj), skp]
  rfl
theorem skp_rev (s : ByteArray) (k j : Nat) (h : k < j) (hj : j ≤ s.size) : skp (ps s k j).reverse = if bl (by8 s (j - 1)) = true then skp (ps s k (j - 1)).reverse + 1 else 0 := by
  unfold ps
  rw [pc_snoc h (by rw [ps_size]; exact hj), List.reverse_append, List.reverse_singleton, List.singleton_append, skp]
  rfl
theorem skp_psE (s : ByteArray) (j : Nat) : skp (ps s j j) = 0 := by unfold ps; rw [pc_nil (Nat.le_refl _)]; rfl
theorem skp_revE (s : ByteArray) (j : Nat) : skp (ps s j j).reverse = 0 := by unfold ps; rw [pc_nil (Nat.le_refl _)]; rfl
set_option maxHeartbeats 1000000 in
set_option maxRecDepth 100000 in
theorem rtrimmed_any (s : ByteArray) (i j : Nat) (a b : Int) (ha : a = (i : Int)) (hb : b = (j : Int)) (hij : i ≤ j) (hj : j ≤ s.size) (hs : s.size ≤ 1000000) (w : World) :
    Calls Tryz.prog 37 #[.string s, .int .i64 a, .int .i64 b] w fun e w' => e = .returned (.tuple #[.int .i64 (tI s i j : Int), .int .i64 (tJ s i j : Int)]) ∧ w = w' := by
  subst ha hb
  have HB := Lib.hid (fun k hk w => rblanks_one s k (k : Int) ((k : Int) + 1) rfl (by push_cast; rfl) hk hs w)
  have HB2 := Lib.hid (fun m (h : 0 < m) hk w => rblanks_one s (m - 1) ((m : Int) - 1) (m : Int) (by omega) (by omega) hk hs w)
  obtain ⟨h1, h2, h3⟩ := t_in s i j hij hj
  have hJ : tJ s i j = j - skp (ps s (tI s i j) j).reverse := rfl
  generalize tJ s i j = q at *
  have hI : tI s i j = i + skp (ps s i j) := rfl
  generalize tI s i j = p at *
  have HI := Lib.hid (show p = i + skp (ps s i j) ∧ i + skp (ps s i j) ≤ j by omega)
  have HJ := Lib.hid (show j - skp (ps s p j).reverse = q by omega)
  clear hI hJ
  go_enter Tryz.func37, Tryz.ntmps37
  go_wp2_with fail
  go_loop [1] (fun x => ∃ k : Nat, x = .int .i64 (k : Int) ∧ i ≤ k ∧ k ≤ j ∧ Hid (p = k + skp (ps s k j))) (fun x => j - (RowKit.intOf x).toNat)
  case atStart => exact ⟨i, rfl, Nat.le_refl _, hij, Lib.hid HI.out.1⟩
  case round =>
    clear HI
    obtain ⟨k, rfl, hik, hk, hh⟩ := hrel
    have tail : (k < j ∧ bl (by8 s k) = true) ∨ (k = p ∧ (k = j ∨ k < j ∧ bl (by8 s k) = false)) := by
      by_cases hkj : k < j
      · have st := skp_ps s k j hkj hj
        cases hbl : bl (by8 s k) with
        | true => exact .inl ⟨hkj, rfl⟩
        | false =>
          rw [hbl, if_neg (by simp)] at st
          have := hh.out
          exact .inr ⟨by omega, .inr ⟨hkj, rfl⟩⟩
      · obtain rfl : k = j := by omega
        have := hh.out
        rw [skp_psE] at this
        exact .inr ⟨by omega, .inl rfl⟩
    rcases tail with ⟨hkj, hbl⟩ | ⟨rfl, hkj | ⟨hkj, hbl⟩⟩
    · have HK := Lib.hid (HB.out k (by omega))
      rw [hbl] at HK
      have st := skp_ps s k j hkj hj
      rw [hbl, if_pos rfl] at st
      have HS := Lib.hid (show p = k + 1 + skp (ps s (k + 1) j) by have := hh.out; omega)
      have hkj2 : (k : Int) < (j : Int) := by omega
      clear st hh hbl
      go_wp2_with (go_at_call 35; (with_reducible refine (HK.out _).mono ?_); rintro e w1 ⟨rfl, rfl⟩)
      go_round
      case rel => exact ⟨k + 1, by go_num, by omega, by omega, HS⟩
      case measure => simp [RowKit.intOf]; omega
    · subst hkj
      clear hh
      go_wp2_with fail
      go_loop [2] (fun x => ∃ m : Nat, x = .int .i64 (m : Int) ∧ k ≤ m ∧ m ≤ k ∧ Hid (m - skp (ps s k m).reverse = q)) (fun x => (RowKit.intOf x).toNat)
      case atStart => exact ⟨k, rfl, hk, Nat.le_refl _, HJ⟩
      case round =>
        clear HJ
        obtain ⟨m, rfl, hkm, hmj, hh⟩ := hrel
        by_cases hlt : k < m
        · have st := skp_rev s k m hlt (by omega)
          have HM := Lib.hid (HB2.out m (by omega) (by omega))
          have hwm : IntKind.i64.wrap ((m : Int) - 1) = (m : Int) - 1 := by rw [IntKind.wrap_i64]; omega
          have hlt2 : (k : Int) < (m : Int) := by omega
          cases hbl : bl (by8 s (m - 1)) with
          | true =>
            rw [hbl, if_pos rfl] at st
            rw [hbl] at HM
            have HS := Lib.hid (show m - 1 - skp (ps s k (m - 1)).reverse = q by have := hh.out; omega)
            clear st hh hbl
            go_wp2_with (go_at_call 35; (with_reducible refine (HM.out _).mono ?_); rintro e w1 ⟨rfl, rfl⟩)
            go_round
            case rel => exact ⟨m - 1, by rw [show ((m - 1 : Nat) : Int) = (m : Int) - 1 by omega], by omega, by omega, HS⟩
            case measure => simp [RowKit.intOf]; omega
          | false =>
            rw [hbl, if_neg (by simp)] at st
            rw [hbl] at HM
            have hmq : m = q := by have := hh.out; omega
            have HS := Lib.hid hmq
            clear st hh hbl hmq
            go_wp2_with (go_at_call 35; (with_reducible refine (HM.out _).mono ?_); rintro e w1 ⟨rfl, rfl⟩)
            first | go_ret | go_returns
            exact ⟨by rw [HS.out]; rfl, rfl⟩
        · obtain rfl : m = k := by omega
          have hmq : m = q := by have := hh.out; rw [skp_revE] at this; omega
          have HS := Lib.hid hmq
          clear hh hmq
          go_wp2_with fail
          first | go_ret | go_returns
          exact ⟨by rw [HS.out]; rfl, rfl⟩
    · have HK := Lib.hid (HB.out k (by omega))
      rw [hbl] at HK
      have hkj2 : (k : Int) < (j : Int) := by omega
      clear hh hbl
      go_wp2_with (go_at_call 35; (with_reducible refine (HK.out _).mono ?_); rintro e w1 ⟨rfl, rfl⟩)
      go_loop [2] (fun x => ∃ m : Nat, x = .int .i64 (m : Int) ∧ k ≤ m ∧ m ≤ j ∧ Hid (m - skp (ps s k m).reverse = q)) (fun x => (RowKit.intOf x).toNat)
      case atStart => exact ⟨j, rfl, hk, Nat.le_refl _, HJ⟩
      case round =>
        clear HJ
        obtain ⟨m, rfl, hkm, hmj, hh⟩ := hrel
        by_cases hlt : k < m
        · have st := skp_rev s k m hlt (by omega)
          have HM := Lib.hid (HB2.out m (by omega) (by omega))
          have hwm : IntKind.i64.wrap ((m : Int) - 1) = (m : Int) - 1 := by rw [IntKind.wrap_i64]; omega
          have hlt2 : (k : Int) < (m : Int) := by omega
          cases hbl : bl (by8 s (m - 1)) with
          | true =>
            rw [hbl, if_pos rfl] at st
            rw [hbl] at HM
            have HS := Lib.hid (show m - 1 - skp (ps s k (m - 1)).reverse = q by have := hh.out; omega)
            clear st hh hbl
            go_wp2_with (go_at_call 35; (with_reducible refine (HM.out _).mono ?_); rintro e w1 ⟨rfl, rfl⟩)
            go_round
            case rel => exact ⟨m - 1, by rw [show ((m - 1 : Nat) : Int) = (m : Int) - 1 by omega], by omega, by omega, HS⟩
            case measure => simp [RowKit.intOf]; omega
          | false =>
            rw [hbl, if_neg (by simp)] at st
            rw [hbl] at HM
            have hmq : m = q := by have := hh.out; omega
            have HS := Lib.hid hmq
            clear st hh hbl hmq
            go_wp2_with (go_at_call 35; (with_reducible refine (HM.out _).mono ?_); rintro e w1 ⟨rfl, rfl⟩)
            first | go_ret | go_returns
            exact ⟨by rw [HS.out]; rfl, rfl⟩
        · obtain rfl : m = k := by omega
          have hmq : m = q := by have := hh.out; rw [skp_revE] at this; omega
          have HS := Lib.hid hmq
          clear hh hmq
          go_wp2_with fail
          first | go_ret | go_returns
          exact ⟨by rw [HS.out]; rfl, rfl⟩

/-! ### name -/
theorem sf_zero (s : ByteArray) : sf s 0 = s.data.toList := by unfold sf; rw [List.drop_zero]
set_option maxHeartbeats 1000000 in
set_option maxRecDepth 100000 in
theorem rname_any (t : ByteArray) (z : Bool) (hz : z = true ↔ Nm t.data.toList) (hs : t.size ≤ 1000000) (w : World) :
    Calls Tryz.prog 58 #[.string t] w fun e w' => e = .returned (.bool z) ∧ Below w.heap.size w w' := by
  have H := rqtake_any t 0 w hs
  have hq := tQ_qn t 0
  rw [sf_zero, show ((0 : Nat) : Int) = 0 from rfl] at hq
  have hl := ps_size t
  unfold rT at H
  generalize tQ t 0 = r at *
  obtain ⟨e0, n, v⟩ := r
  simp only at H hq
  have HT := Lib.hid H
  clear H
  generalize (⟨v.toArray⟩ : ByteArray) = V at *
  rcases hq with ⟨q0, q1⟩ | ⟨q0, rfl, rfl⟩
  · obtain rfl : z = false := by
      cases z with
      | false => rfl
      | true =>
        have h := hz.1 rfl
        have h1 := h.2
        have h2 := List.length_pos_iff.2 h.1
        omega
    have hne : ((e0 : Int) == 0) = false := by rw [beq_eq_false_iff_ne]; omega
    clear hz q0 q1
    go_enter Tryz.func58, Tryz.ntmps58
    go_wp2_with (go_at_call 52; (with_reducible refine HT.out.mono ?_); rintro e w1 ⟨rfl, hb⟩)
    go_ret
    exact ⟨rfl, hb⟩
  · rw [Nat.zero_add] at HT
    have hz2 : (((qn t.data.toList : Nat) : Int) == (t.size : Int)) = z := by
      rw [Bool.eq_iff_iff, hz, beq_iff_eq]
      constructor
      · intro h; exact ⟨fun e => by rw [e] at q0; exact q0 rfl, by omega⟩
      · intro h; have := h.2; omega
    generalize qn t.data.toList = n at *
    clear hz q0 hl
    go_enter Tryz.func58, Tryz.ntmps58
    go_wp2_with (go_at_call 52; (with_reducible refine HT.out.mono ?_); rintro e w1 ⟨rfl, hb⟩)
    go_ret
    exact ⟨rfl, hb⟩

/-! ### whole -/
/-- Behind the minus. -/
def Wr (r : List UInt8) : Prop := r ≠ [] ∧ ¬ (1 < r.length ∧ hd r = 48) ∧ dgs r = r.length
def adB (x : List UInt8) : Bool := x.all fun c => Lx.dg c.toNat
theorem adB_iff (x : List UInt8) : adB x = true ↔ dgs x = x.length := by
  induction x with
  | nil => exact ⟨fun _ => rfl, fun _ => rfl⟩
  | cons c x ih =>
    unfold adB at ih ⊢
    rw [List.all_cons, dgs, Bool.and_eq_true, ih]
    constructor
    · rintro ⟨h1, h2⟩; rw [if_pos h1, h2]; rfl
    · intro h
      by_cases h1 : Lx.dg c.toNat = true
      · rw [if_pos h1] at h; simp only [List.length_cons] at h; exact ⟨h1, by omega⟩
      · rw [if_neg h1] at h; simp at h
theorem adB_sf (s : ByteArray) (k : Nat) (h : k < s.size) : adB (sf s k) = (Lx.dg (by8 s k) && adB (sf s (k + 1))) := by
  obtain ⟨c, h1, h2⟩ := sf_cons s k h
  rw [h1]
  unfold adB
  rw [List.all_cons, h2]
theorem adB_end (s : ByteArray) : adB (sf s s.size) = true := by rw [sf_nil s s.size (Nat.le_refl _)]; rfl
theorem dg_split (c : Nat) : (Lx.dg c = true ∧ 48 ≤ c ∧ c ≤ 57) ∨ (Lx.dg c = false ∧ c < 48) ∨ (Lx.dg c = false ∧ 48 ≤ c ∧ 57 < c) := by
  unfold Lx.dg
  by_cases h : 48 ≤ c ∧ c ≤ 57
  · exact .inl ⟨decide_eq_true h, h⟩
  · by_cases h1 : c < 48
    · exact .inr (.inl ⟨decide_eq_false h, h1⟩)
    · exact .inr (.inr ⟨decide_eq_false h, by omega, by omega⟩)
/-- What is asked of the digits, in three ways. -/
theorem wr_ways (R : ByteArray) (z : Bool) (hz : z = true ↔ Wr R.data.toList) :
    (R = ⟨#[]⟩ ∧ z = false) ∨ (R.toList.isEmpty = false ∧ 1 < R.size ∧ by8 R 0 = 48 ∧ z = false) ∨
    (R.toList.isEmpty = false ∧ 0 < R.size ∧ (R.size ≤ 1 ∨ 1 < R.size ∧ by8 R 0 ≠ 48) ∧ adB (sf R 0) = z) := by
  have hl := ps_size R
  by_cases h0 : R.size = 0
  · left
    have e := str_none h0
    refine ⟨e, ?_⟩
    subst e
    cases z with
    | false => rfl
    | true => exact absurd rfl (hz.1 rfl).1
  · have hp : 0 < R.size := by omega
    have hh : hd R.data.toList = by8 R 0 := by rw [← sf_hd, sf_zero]
    by_cases h1 : 1 < R.size ∧ by8 R 0 = 48
    · right; left
      refine ⟨str_some hp, h1.1, h1.2, ?_⟩
      cases z with
      | false => rfl
      | true => exact absurd ⟨by omega, by rw [hh]; exact h1.2⟩ (hz.1 rfl).2.1
    · right; right
      refine ⟨str_some hp, hp, by omega, ?_⟩
      rw [Bool.eq_iff_iff, hz, adB_iff, sf_zero]
      constructor
      · intro h; exact ⟨fun e => by rw [e] at hl; simp at hl; omega, fun h2 => h1 ⟨by omega, by rw [← hh]; exact h2.2⟩, h⟩
      · intro h; exact h.2.2
set_option maxHeartbeats 1000000 in
set_option maxRecDepth 100000 in
theorem rwhole_minus (T R : ByteArray) (z : Bool) (hz : z = true ↔ Wr R.data.toList) (hs : R.size ≤ 1000000) (h0 : 0 < T.size) (h1 : by8 T 0 = 45) (hsl : ∀ w, (Instr.slice 9 (.string T) (some (.int .i64 1)) none none).run Tryz.prog w = .ok (.string R) w) (w : World) :
    Calls Tryz.prog 57 #[.string T] w fun e w' => e = .returned (.bool z) ∧ w = w' := by
  have HZ := Lib.hid hz
  have HRZ := Lib.hid hs
  have hiT := fun w => index_of T 0 0 rfl h0 w
  rw [h1] at hiT
  clear h1
  rcases wr_ways R z hz with ⟨rfl, rfl⟩ | ⟨e1, e2, e3, rfl⟩ | ⟨e1, e2, e3, e4⟩
  · clear hz HZ
    go_enter Tryz.func57, Tryz.ntmps57
    go_wp2_with fail
    first | go_ret | go_returns
    exact ⟨rfl, rfl⟩
  · have hi0 := fun w => index_of R 0 0 rfl (by omega) w
    rw [e3] at hi0
    have d1 : decide ((1 : Int) < (R.size : Int)) = true := decide_eq_true (by omega)
    clear hz HZ e3
    go_enter Tryz.func57, Tryz.ntmps57
    go_wp2_with fail
    first | go_ret | go_returns
    exact ⟨rfl, rfl⟩
  · have HE := Lib.hid e4
    have hrz := HRZ.out
    clear hz e4
    have ways : (decide ((1 : Int) < (R.size : Int)) = false) ∨ (decide ((1 : Int) < (R.size : Int)) = true ∧ ((by8 R 0 : Int) == 48) = false) := by
      rcases e3 with h | ⟨h, h2⟩
      · exact .inl (decide_eq_false (by omega))
      · exact .inr ⟨decide_eq_true (by omega), by rw [beq_eq_false_iff_ne]; omega⟩
    have hi0 := fun w => index_of R 0 0 rfl e2 w
    have HR2 : Hid (R.size = R.size) := Lib.hid rfl
    clear e3
    generalize by8 R 0 = c0 at *
    rcases ways with d1 | ⟨d1, d2⟩
    all_goals
      go_enter Tryz.func57, Tryz.ntmps57
      go_wp2_with fail
      go_loop [28, 3] (fun x _ => ∃ k : Nat, x = .int .i64 (k : Int) ∧ k ≤ R.size ∧ Hid (adB (sf R k) = z)) (fun x _ => R.size - (RowKit.intOf x).toNat)
      case atStart => exact ⟨0, rfl, Nat.zero_le _, HE⟩
      case round =>
        obtain ⟨k, rfl, hk, hh⟩ := hrel
        by_cases hkj : k < R.size
        · have hix := fun w => index_of R k (k : Int) rfl hkj w
          have st := adB_sf R k hkj
          rw [hh.out] at st
          generalize by8 R k = c at *
          rcases dg_split c with ⟨h1, h2, h3⟩ | ⟨h1, h2⟩ | ⟨h1, h2, h3⟩
          · rw [h1, Bool.true_and] at st
            have HS := Lib.hid st.symm
            have g1 : decide ((c : Int) < 48) = false := decide_eq_false (by omega)
            have g2 : decide ((57 : Int) < (c : Int)) = false := decide_eq_false (by omega)
            clear st hh h1
            go_wp2_with fail
            go_round
            case rel => exact ⟨k + 1, by go_num, by omega, HS⟩
            case measure => simp [RowKit.intOf]; omega
          · rw [h1, Bool.false_and] at st
            have HS := Lib.hid st
            have g1 : decide ((c : Int) < 48) = true := decide_eq_true (by omega)
            clear st hh h1
            go_wp2_with fail
            first | go_ret | go_returns
            exact ⟨by rw [HS.out]; rfl, rfl⟩
          · rw [h1, Bool.false_and] at st
            have HS := Lib.hid st
            have g1 : decide ((c : Int) < 48) = false := decide_eq_false (by omega)
            have g2 : decide ((57 : Int) < (c : Int)) = true := decide_eq_true (by omega)
            clear st hh h1
            go_wp2_with fail
            first | go_ret | go_returns
            exact ⟨by rw [HS.out]; rfl, rfl⟩
        · obtain rfl : k = R.size := by omega
          have HS := Lib.hid (hh.out.symm.trans (adB_end R))
          clear hh
          go_wp2_with fail
          first | go_ret | go_returns
          exact ⟨by rw [HS.out]; rfl, rfl⟩
set_option maxHeartbeats 1000000 in
set_option maxRecDepth 100000 in
theorem rwhole_plain (R : ByteArray) (z : Bool) (hz : z = true ↔ Wr R.data.toList) (hs : R.size ≤ 1000000) (h1 : by8 R 0 ≠ 45) (w : World) :
    Calls Tryz.prog 57 #[.string R] w fun e w' => e = .returned (.bool z) ∧ w = w' := by
  have HZ := Lib.hid hz
  have HRZ := Lib.hid hs
  have hm : ((by8 R 0 : Int) == 45) = false := by rw [beq_eq_false_iff_ne]; omega
  clear h1
  rcases wr_ways R z hz with ⟨rfl, rfl⟩ | ⟨e1, e2, e3, rfl⟩ | ⟨e1, e2, e3, e4⟩
  · clear hz HZ
    go_enter Tryz.func57, Tryz.ntmps57
    go_wp2_with fail
    first | go_ret | go_returns
    exact ⟨rfl, rfl⟩
  · have hi0 := fun w => index_of R 0 0 rfl (by omega) w
    rw [e3] at hi0
    have d1 : decide ((1 : Int) < (R.size : Int)) = true := decide_eq_true (by omega)
    clear hz HZ e3
    go_enter Tryz.func57, Tryz.ntmps57
    go_wp2_with fail
    first | go_ret | go_returns
    exact ⟨rfl, rfl⟩
  · have HE := Lib.hid e4
    have hrz := HRZ.out
    clear hz e4
    have ways : (decide ((1 : Int) < (R.size : Int)) = false) ∨ (decide ((1 : Int) < (R.size : Int)) = true ∧ ((by8 R 0 : Int) == 48) = false) := by
      rcases e3 with h | ⟨h, h2⟩
      · exact .inl (decide_eq_false (by omega))
      · exact .inr ⟨decide_eq_true (by omega), by rw [beq_eq_false_iff_ne]; omega⟩
    have hi0 := fun w => index_of R 0 0 rfl e2 w
    have HR2 : Hid (R.size = R.size) := Lib.hid rfl
    clear e3
    generalize by8 R 0 = c0 at *
    rcases ways with d1 | ⟨d1, d2⟩
    all_goals
      go_enter Tryz.func57, Tryz.ntmps57
      go_wp2_with fail
      go_loop [28, 3] (fun x _ => ∃ k : Nat, x = .int .i64 (k : Int) ∧ k ≤ R.size ∧ Hid (adB (sf R k) = z)) (fun x _ => R.size - (RowKit.intOf x).toNat)
      case atStart => exact ⟨0, rfl, Nat.zero_le _, HE⟩
      case round =>
        obtain ⟨k, rfl, hk, hh⟩ := hrel
        by_cases hkj : k < R.size
        · have hix := fun w => index_of R k (k : Int) rfl hkj w
          have st := adB_sf R k hkj
          rw [hh.out] at st
          generalize by8 R k = c at *
          rcases dg_split c with ⟨h1, h2, h3⟩ | ⟨h1, h2⟩ | ⟨h1, h2, h3⟩
          · rw [h1, Bool.true_and] at st
            have HS := Lib.hid st.symm
            have g1 : decide ((c : Int) < 48) = false := decide_eq_false (by omega)
            have g2 : decide ((57 : Int) < (c : Int)) = false := decide_eq_false (by omega)
            clear st hh h1
            go_wp2_with fail
            go_round
            case rel => exact ⟨k + 1, by go_num, by omega, HS⟩
            case measure => simp [RowKit.intOf]; omega
          · rw [h1, Bool.false_and] at st
            have HS := Lib.hid st
            have g1 : decide ((c : Int) < 48) = true := decide_eq_true (by omega)
            clear st hh h1
            go_wp2_with fail
            first | go_ret | go_returns
            exact ⟨by rw [HS.out]; rfl, rfl⟩
          · rw [h1, Bool.false_and] at st
            have HS := Lib.hid st
            have g1 : decide ((c : Int) < 48) = false := decide_eq_false (by omega)
            have g2 : decide ((57 : Int) < (c : Int)) = true := decide_eq_true (by omega)
            clear st hh h1
            go_wp2_with fail
            first | go_ret | go_returns
            exact ⟨by rw [HS.out]; rfl, rfl⟩
        · obtain rfl : k = R.size := by omega
          have HS := Lib.hid (hh.out.symm.trans (adB_end R))
          clear hh
          go_wp2_with fail
          first | go_ret | go_returns
          exact ⟨by rw [HS.out]; rfl, rfl⟩
theorem rwhole_any (t : ByteArray) (z : Bool) (hz : z = true ↔ Wh t.data.toList) (hs : t.size ≤ 1000000) (w : World) :
    Calls Tryz.prog 57 #[.string t] w fun e w' => e = .returned (.bool z) ∧ w = w' := by
  have hh : hd t.data.toList = by8 t 0 := by rw [← sf_hd, sf_zero]
  have hw : Wh t.data.toList ↔ Wr (t.data.toList.drop (sgn t.data.toList)) := Iff.rfl
  rw [hw] at hz
  by_cases h : by8 t 0 = 45
  · have hp : 0 < t.size := ltsize (by omega)
    have h1 : sgn t.data.toList = 1 := if_pos (by rw [hh]; exact h)
    have e : (cutB t 1 (t.size - 1)).data.toList = t.data.toList.drop 1 := by rw [cut_sf]; rfl
    have hsz : (cutB t 1 (t.size - 1)).size ≤ 1000000 := by rw [cutB_size t 1 (t.size - 1) (by omega)]; omega
    rw [h1, ← e] at hz
    exact rwhole_minus t (cutB t 1 (t.size - 1)) z hz hsz hp h (fun w => sl_from t 1 (t.size - 1) (by omega) w) w
  · have h1 : sgn t.data.toList = 0 := if_neg (by rw [hh]; exact h)
    rw [h1, List.drop_zero] at hz
    exact rwhole_plain t z hz hs h w

/-! ### scalar -/
set_option maxHeartbeats 1000000 in
set_option maxRecDepth 100000 in
theorem rscalar_any (t : ByteArray) (z : Bool) (hz : z = true ↔ Sc t.data.toList) (hs : t.size ≤ 1000000) (w : World) :
    Calls Tryz.prog 34 #[.string t] w fun e w' => e = .returned (.bool z) ∧ Below w.heap.size w w' := by
  rw [sc_iff] at hz
  have hnot : ∀ u : ByteArray, t ≠ u → t.data.toList ≠ u.data.toList := fun u h e => h (ByteArray.ext (Array.toList_inj.1 e))
  by_cases h1 : t = ⟨#[110, 117, 108, 108]⟩
  · subst h1
    obtain rfl : z = true := hz.2 (.inl rfl)
    clear hz
    go_enter Tryz.func34, Tryz.ntmps34
    go_wp2_with fail
    go_ret
    exact ⟨rfl, Below.refl _ _⟩
  · by_cases h2 : t = ⟨#[116, 114, 117, 101]⟩
    · subst h2
      obtain rfl : z = true := hz.2 (.inr (.inl rfl))
      clear hz
      go_enter Tryz.func34, Tryz.ntmps34
      go_wp2_with fail
      go_ret
      exact ⟨rfl, Below.refl _ _⟩
    · by_cases h3 : t = ⟨#[102, 97, 108, 115, 101]⟩
      · subst h3
        obtain rfl : z = true := hz.2 (.inr (.inr (.inl rfl)))
        clear hz
        go_enter Tryz.func34, Tryz.ntmps34
        go_wp2_with fail
        go_ret
        exact ⟨rfl, Below.refl _ _⟩
      · have g1 := str_neq h1
        have g2 := str_neq h2
        have g3 := str_neq h3
        have n1 : t.data.toList ≠ [110, 117, 108, 108] := hnot ⟨#[110, 117, 108, 108]⟩ h1
        have n2 : t.data.toList ≠ [116, 114, 117, 101] := hnot ⟨#[116, 114, 117, 101]⟩ h2
        have n3 : t.data.toList ≠ [102, 97, 108, 115, 101] := hnot ⟨#[102, 97, 108, 115, 101]⟩ h3
        have g1 : (t.toList == [110, 117, 108, 108]) = false := by rw [beq_eq_false_iff_ne, Byt.toList_data]; exact n1
        have g2 : (t.toList == [116, 114, 117, 101]) = false := by rw [beq_eq_false_iff_ne, Byt.toList_data]; exact n2
        have g3 : (t.toList == [102, 97, 108, 115, 101]) = false := by rw [beq_eq_false_iff_ne, Byt.toList_data]; exact n3
        have hz2 : z = true ↔ Wh t.data.toList ∨ Nm t.data.toList := by
          rw [hz]
          constructor
          · rintro (h | h | h | h)
            · exact absurd h n1
            · exact absurd h n2
            · exact absurd h n3
            · exact h
          · intro h; exact .inr (.inr (.inr h))
        by_cases h4 : Wh t.data.toList
        · obtain rfl : z = true := hz2.2 (.inl h4)
          have HW := Lib.hid (rwhole_any t true (by simp [h4]) hs)
          clear hz hz2 n1 n2 n3 h1 h2 h3 h4 hnot
          go_enter Tryz.func34, Tryz.ntmps34
          go_wp2_with (go_at_call 57; (with_reducible refine (HW.out _).mono ?_); rintro e w1 ⟨rfl, rfl⟩)
          go_ret
          exact ⟨rfl, Below.refl _ _⟩
        · have HW := Lib.hid (rwhole_any t false (by simp [h4]) hs)
          have HN := Lib.hid (rname_any t z (by rw [hz2]; simp [h4]) hs)
          clear hz hz2 n1 n2 n3 h1 h2 h3 h4 hnot
          go_enter Tryz.func34, Tryz.ntmps34
          go_wp2_with (first
            | (go_at_call 57; (with_reducible refine (HW.out _).mono ?_); rintro e w1 ⟨rfl, rfl⟩)
            | (go_at_call 58; (with_reducible refine (HN.out _).mono ?_); rintro e w1 ⟨rfl, hb⟩))
          go_ret
          exact ⟨rfl, hb⟩
end Go.Proofs.YteinaclkpickaaaGreatDoor.Gr

namespace Go.Proofs.YteinaclkpickaaaGreatDoor.Gr
open Go.RowKit Go.Lib Go.Proofs.YteinaclkpickaaaGreatDoor.Byt Go.Proofs.YteinaclkpickaaaGreatDoor.Lx

/-- A row of rows, right where D says so. -/
structure Gd (W : World) (n g : Nat) (r : Nat → Nat) (k : Kd) (l : List UInt8) (D : Nat → Nat → Prop) : Prop where
  row : ∀ p, p ≤ n → W.cell? ⟨g, p, none⟩ = some (.slice (some ⟨r p, 0, none⟩) (n + 1) (n + 1))
  int : ∀ p q, p ≤ n → q ≤ n → ∃ z : Int, W.cell? ⟨r p, q, none⟩ = some (.int .i64 z) ∧ (D p q → z = gd k (pc l p q))
theorem Gd.next {W W' : World} {n g : Nat} {r : Nat → Nat} {k : Kd} {l : List UInt8} {D : Nat → Nat → Prop} (h : Gd W n g r k l D) (hb : Below W.heap.size W W') : Gd W' n g r k l D := by
  refine ⟨fun p hp => ?_, fun p q hp hq => ?_⟩
  · have := h.row p hp
    exact (hb.cell (Lib.lt_of_cell this)).trans this
  · obtain ⟨z, h1, h2⟩ := h.int p q hp hq
    exact ⟨z, (hb.cell (Lib.lt_of_cell h1)).trans h1, h2⟩
theorem Gd.at_ {W : World} {n g : Nat} {r : Nat → Nat} {k : Kd} {l : List UInt8} {D : Nat → Nat → Prop} (h : Gd W n g r k l D) {p q : Nat} (hp : p ≤ n) (hq : q ≤ n) (hd : D p q) : W.cell? ⟨r p, q, none⟩ = some (.int .i64 (gd k (pc l p q))) := by
  obtain ⟨z, h1, h2⟩ := h.int p q hp hq
  rw [h1, h2 hd]
/-- Where the tables lie. -/
structure Pl where
  n : Nat
  gv : Nat
  gi : Nat
  gm : Nat
  rv : Nat → Nat
  ri : Nat → Nat
  rm : Nat → Nat
def sl (g n : Nat) : Value := .slice (some ⟨g, 0, none⟩) (n + 1) (n + 1)
/-- The document's struct. -/
def tC (s : ByteArray) (P : Pl) : Array Value := #[.string s, .slice (some ⟨P.gv, 0, none⟩) (P.n + 1) (P.n + 1), .slice (some ⟨P.gi, 0, none⟩) (P.n + 1) (P.n + 1), .slice (some ⟨P.gm, 0, none⟩) (P.n + 1) (P.n + 1)]
structure Tb (W : World) (s : ByteArray) (P : Pl) (Dv Di Dm : Nat → Nat → Prop) : Prop where
  v : Gd W P.n P.gv P.rv .val s.data.toList Dv
  i : Gd W P.n P.gi P.ri (.elms false) s.data.toList Di
  m : Gd W P.n P.gm P.rm (.elms true) s.data.toList Dm
  z : s.size = P.n
  z2 : P.n ≤ 1000
theorem Tb.next {W W' : World} {s : ByteArray} {P : Pl} {Dv Di Dm : Nat → Nat → Prop} (h : Tb W s P Dv Di Dm) (hb : Below W.heap.size W W') : Tb W' s P Dv Di Dm := ⟨h.v.next hb, h.i.next hb, h.m.next hb, h.z, h.z2⟩
/-- The struct in a block. -/
def Bx (W : World) (b : Nat) (s : ByteArray) (P : Pl) : Prop := W.heap[b]? = some (.cells (tC s P) 50 (0, 0))
theorem Bx.lt {W : World} {b : Nat} {s : ByteArray} {P : Pl} (h : Bx W b s P) : b < W.heap.size := by
  rcases Nat.lt_or_ge b W.heap.size with h' | h'
  · exact h'
  · unfold Bx at h; simp [Array.getElem?_eq_none h'] at h
theorem Bx.next {W W' : World} {b : Nat} {s : ByteArray} {P : Pl} (h : Bx W b s P) (hb : Below W.heap.size W W') : Bx W' b s P := (hb.block b h.lt).trans h
/-- The tables, the struct in block b, all that was there in w0 as it was. -/
structure Tx (w0 : World) (b : Nat) (s : ByteArray) (P : Pl) (Dv Di Dm : Nat → Nat → Prop) (W : World) : Prop where
  tb : Tb W s P Dv Di Dm
  bx : Bx W b s P
  bel : Below w0.heap.size w0 W
section
variable {w0 W W' : World} {b : Nat} {s : ByteArray} {P : Pl} {Dv Di Dm : Nat → Nat → Prop}
theorem Tx.next (h : Tx w0 b s P Dv Di Dm W) (hb : Below W.heap.size W W') : Tx w0 b s P Dv Di Dm W' := ⟨h.tb.next hb, h.bx.next hb, h.bel.trans (hb.mono h.bel.size)⟩
theorem Tx.drew (h : Tx w0 b s P Dv Di Dm W) : Tx w0 b s P Dv Di Dm W.drew := h.next ((Below.refl _ _).drew)
theorem Tx.boxed (h : Tb w0 s P Dv Di Dm) : Tx w0 w0.heap.size s P Dv Di Dm (w0.alloc (.cells (tC s P) 50)) :=
  ⟨h.next ((Below.refl _ _).alloc (Nat.le_refl _) _), heap_alloc_new _ _, (Below.refl _ _).alloc (Nat.le_refl _) _⟩
theorem Tx.f0 (h : Tx w0 b s P Dv Di Dm W) : W.cell? ⟨b, 0, none⟩ = some (.string s) := by rw [Lib.cell_of_heap h.bx]; rfl
theorem Tx.f1 (h : Tx w0 b s P Dv Di Dm W) : W.cell? ⟨b, 1, none⟩ = some (.slice (some ⟨P.gv, 0, none⟩) (P.n + 1) (P.n + 1)) := by rw [Lib.cell_of_heap h.bx]; rfl
theorem Tx.f2 (h : Tx w0 b s P Dv Di Dm W) : W.cell? ⟨b, 2, none⟩ = some (.slice (some ⟨P.gi, 0, none⟩) (P.n + 1) (P.n + 1)) := by rw [Lib.cell_of_heap h.bx]; rfl
theorem Tx.f3 (h : Tx w0 b s P Dv Di Dm W) : W.cell? ⟨b, 3, none⟩ = some (.slice (some ⟨P.gm, 0, none⟩) (P.n + 1) (P.n + 1)) := by rw [Lib.cell_of_heap h.bx]; rfl
end
theorem infoT : (Tryz.prog.info? 50).map (·.size) = some 4 := by kernel_rfl
section
variable {ops : Array Oper} {rest : List Oper} {o : Oper} {a : Act} {Q : Exit → Act → World → Prop}
/-- 't' of a variable that holds the struct. -/
theorem wpList_fetchT (W : World) (hgd : o.guard = none) (x : Operand) (ho : o.op = .load 50 x) (g : Nat) (s : ByteArray) (P : Pl)
    (hx : a.eval x = .pointer (some ⟨g, 0, none⟩)) (hk : Bx W g s P)
    (h : wpList Tryz.prog ops Q rest (a.put o.dst (.agg (tC s P))) W) : wpList Tryz.prog ops Q (o :: rest) a W :=
  wpList_load_row hgd _ x ho g hx _ (tC s P) _ _ hk Tryz.underlying50 rfl (by rw [infoT]; rfl) h
end

/-! ### item -/
set_option maxHeartbeats 1000000 in
set_option maxRecDepth 100000 in
theorem ritem_any (s : ByteArray) (P : Pl) (Dv Di Dm : Nat → Nat → Prop) (i j : Nat) (a c : Int) (ha : a = (i : Int)) (hc : c = (j : Int)) (w : World) (h : Tb w s P Dv Di Dm) (hij : i ≤ j) (hj : j ≤ P.n) (hD : ∀ p q, i ≤ p → p ≤ q → q ≤ j → Dv p q) :
    Calls Tryz.prog 22 #[.agg (tC s P), .int .i64 a, .int .i64 c] w fun e w' => e = .returned (.int .i64 (gd (.elm false) (ps s i j))) ∧ Below w.heap.size w w' := by
  subst ha hc
  have hz := h.z
  have hz2 := h.z2
  have HT := Lib.hid (fun w => rtrimmed_any s i j (i : Int) (j : Int) rfl rfl hij (by omega) (by omega) w)
  obtain ⟨h1, h2, h3⟩ := t_in s i j hij (by omega)
  have hx := Tx.boxed h
  have hg : gd (.elm false) (ps s i j) = gd .val (ps s (tI s i j) (tJ s i j)) := by rw [t_trm s i j hij (by omega), gd_item]
  have r1 := hx.tb.v.row (tI s i j) (by omega)
  have r2 := hx.tb.v.at_ (p := tI s i j) (q := tJ s i j) (by omega) (by omega) (hD _ _ h1 h2 h3)
  rw [hg]
  unfold ps
  generalize gd .val _ = Z at *
  generalize tI s i j = p at *
  generalize tJ s i j = q at *
  have f0 := hx.f0
  have f1 := hx.f1
  have hbel := hx.bel
  unfold tC at *
  clear hx h hg hD
  go_enter Tryz.func22, Tryz.ntmps22
  go_wp2_with (go_at_call 37; (with_reducible refine (HT.out _).mono ?_); rintro e w1 ⟨rfl, rfl⟩)
  go_ret
  exact ⟨rfl, hbel⟩

/-! ### value -/
set_option maxHeartbeats 1000000 in
set_option maxRecDepth 100000 in
theorem rvalue_sc (s : ByteArray) (P : Pl) (Dv Di Dm : Nat → Nat → Prop) (i j : Nat) (w : World) (h : Tb w s P Dv Di Dm) (hij : i < j) (hj : j ≤ P.n) (hs : Sc (ps s i j)) :
    Calls Tryz.prog 19 #[.agg (tC s P), .int .i64 (i : Int), .int .i64 (j : Int)] w fun e w' => e = .returned (.int .i64 0) ∧ Below w.heap.size w w' := by
  have hz := h.z
  have hz2 := h.z2
  have hcut := fun w => run_cut s (i : Int) (j : Int) i (j - i) rfl (by omega) (by omega) w
  have hcs : (cutB s i (j - i)).size ≤ 1000000 := by rw [cutB_size s i (j - i) (by omega)]; omega
  have HS := Lib.hid (fun w => rscalar_any (cutB s i (j - i)) true (by rw [ps_cut]; simpa using hs) hcs w)
  have hbx := Tx.boxed h
  have f0 := hbx.f0
  generalize cutB s i (j - i) = x at *
  have H := Lib.hid h
  have hwji : IntKind.i64.wrap ((j : Int) - (i : Int)) = (j : Int) - (i : Int) := by rw [IntKind.wrap_i64]; omega
  clear h hs hcs hbx
  unfold tC at *
  go_enter Tryz.func19, Tryz.ntmps19
  go_wp2_with (go_at_call 34; (with_reducible refine (HS.out _).mono ?_); rintro e w1 ⟨rfl, hb1⟩; have hx := Tx.next (Tx.boxed H.out) hb1)
  go_ret
  exact ⟨rfl, hx.bel⟩
set_option maxHeartbeats 1000000 in
set_option maxRecDepth 100000 in
theorem rvalue_short (s : ByteArray) (P : Pl) (Dv Di Dm : Nat → Nat → Prop) (i j : Nat) (w : World) (h : Tb w s P Dv Di Dm) (hij : i < j) (hj : j ≤ P.n) (hs : ¬ Sc (ps s i j)) (h2 : j < i + 2) :
    Calls Tryz.prog 19 #[.agg (tC s P), .int .i64 (i : Int), .int .i64 (j : Int)] w fun e w' => e = .returned (.int .i64 (-1)) ∧ Below w.heap.size w w' := by
  have hz := h.z
  have hz2 := h.z2
  have hcut := fun w => run_cut s (i : Int) (j : Int) i (j - i) rfl (by omega) (by omega) w
  have hcs : (cutB s i (j - i)).size ≤ 1000000 := by rw [cutB_size s i (j - i) (by omega)]; omega
  have HS := Lib.hid (fun w => rscalar_any (cutB s i (j - i)) false (by rw [ps_cut]; simpa using hs) hcs w)
  have hbx := Tx.boxed h
  have f0 := hbx.f0
  generalize cutB s i (j - i) = x at *
  have H := Lib.hid h
  have hwji : IntKind.i64.wrap ((j : Int) - (i : Int)) = (j : Int) - (i : Int) := by rw [IntKind.wrap_i64]; omega
  have d1 : decide ((j : Int) - (i : Int) < 2) = true := decide_eq_true (by omega)
  clear h hs hcs hbx
  unfold tC at *
  go_enter Tryz.func19, Tryz.ntmps19
  go_wp2_with (go_at_call 34; (with_reducible refine (HS.out _).mono ?_); rintro e w1 ⟨rfl, hb1⟩; have hx := Tx.next (Tx.boxed H.out) hb1)
  go_ret
  exact ⟨rfl, hx.bel⟩
set_option maxHeartbeats 1000000 in
set_option maxRecDepth 100000 in
theorem rvalue_list_blank (s : ByteArray) (P : Pl) (Dv Di Dm : Nat → Nat → Prop) (i j : Nat) (w : World) (h : Tb w s P Dv Di Dm) (_hij : i < j) (hj : j ≤ P.n) (hs : ¬ Sc (ps s i j)) (h2 : i + 2 ≤ j) (ho : by8 s i = 91) (hc : by8 s (j - 1) = 93) (hD : Di (i + 1) (j - 1)) (hbl : blB (ps s (i + 1) (j - 1)) = true) :
    Calls Tryz.prog 19 #[.agg (tC s P), .int .i64 (i : Int), .int .i64 (j : Int)] w fun e w' => e = .returned (.int .i64 1) ∧ Below w.heap.size w w' := by
  have hz := h.z
  have hz2 := h.z2
  have hcut := fun w => run_cut s (i : Int) (j : Int) i (j - i) rfl (by omega) (by omega) w
  have hcs : (cutB s i (j - i)).size ≤ 1000000 := by rw [cutB_size s i (j - i) (by omega)]; omega
  have HS := Lib.hid (fun w => rscalar_any (cutB s i (j - i)) false (by rw [ps_cut]; simpa using hs) hcs w)
  have hbx := Tx.boxed h
  have f0 := hbx.f0
  generalize cutB s i (j - i) = x at *
  have H := Lib.hid h
  have hwji : IntKind.i64.wrap ((j : Int) - (i : Int)) = (j : Int) - (i : Int) := by rw [IntKind.wrap_i64]; omega
  have d1 : decide ((j : Int) - (i : Int) < 2) = false := decide_eq_false (by omega)
  have hixi := fun w => index_of s i (i : Int) rfl (by omega) w
  have hwj1 : IntKind.i64.wrap ((j : Int) - 1) = ((j - 1 : Nat) : Int) := by rw [IntKind.wrap_i64]; omega
  have hixj := fun w => index_of s (j - 1) ((j - 1 : Nat) : Int) rfl (by omega) w
  rw [ho] at hixi
  rw [hc] at hixj
  have hwi1 : IntKind.i64.wrap ((i : Int) + 1) = ((i + 1 : Nat) : Int) := by rw [IntKind.wrap_i64]; omega
  have hij1 : i + 1 ≤ j - 1 := by omega
  have hjn : j - 1 ≤ P.n := by omega
  have HB := Lib.hid (fun w => rblanks_any s (i + 1) (j - 1) ((i + 1 : Nat) : Int) ((j - 1 : Nat) : Int) rfl rfl hij1 (by omega) (by omega) w)
  rw [hbl] at HB
  have hgl := gd_len (.elms false) (ps s (i + 1) (j - 1))
  have hgl2 := gd_low (.elms false) (ps s (i + 1) (j - 1))
  have hln : (ps s (i + 1) (j - 1)).length = j - 1 - (i + 1) := pc_len (by rw [ps_size]; omega)
  have HX := Lib.hid (fun W (hx : Tx w w.heap.size s P Dv Di Dm W) => (⟨hx.f0, hx.f2, hx.tb.i.row (i + 1) (by omega), hx.tb.i.at_ (p := i + 1) (q := j - 1) (by omega) hjn hD⟩ : W.cell? ⟨w.heap.size, 0, none⟩ = some (.string s) ∧ W.cell? ⟨w.heap.size, 2, none⟩ = some (.slice (some ⟨P.gi, 0, none⟩) (P.n + 1) (P.n + 1)) ∧ W.cell? ⟨P.gi, i + 1, none⟩ = some (.slice (some ⟨P.ri (i + 1), 0, none⟩) (P.n + 1) (P.n + 1)) ∧ W.cell? ⟨P.ri (i + 1), j - 1, none⟩ = some (.int .i64 (gd (.elms false) (ps s (i + 1) (j - 1))))))
  generalize gd (.elms false) (ps s (i + 1) (j - 1)) = Z at *
  have HZ := Lib.hid (show -1 ≤ Z ∧ Z ≤ 1000 by omega)
  have hi1 : i + 1 < P.n + 1 := by omega
  generalize i + 1 = i1 at *
  generalize j - 1 = j1 at *
  have hj1 : j1 < P.n + 1 := by omega
  clear h hs hcs hbx ho hc hbl hD hgl hgl2 hln
  unfold tC at *
  go_enter Tryz.func19, Tryz.ntmps19
  go_wp2_with (first
    | (go_at_call 34; (with_reducible refine (HS.out _).mono ?_); rintro e w1 ⟨rfl, hb1⟩; have hx := Tx.next (Tx.boxed H.out) hb1; obtain ⟨x0, x1, x2, x3⟩ := HX.out _ hx)
    | (go_at_call 35; (with_reducible refine (HB.out _).mono ?_); rintro e w2 ⟨rfl, rfl⟩))
  go_ret
  exact ⟨rfl, hx.bel⟩
set_option maxHeartbeats 1000000 in
set_option maxRecDepth 100000 in
theorem rvalue_list_bad (s : ByteArray) (P : Pl) (Dv Di Dm : Nat → Nat → Prop) (i j : Nat) (w : World) (h : Tb w s P Dv Di Dm) (_hij : i < j) (hj : j ≤ P.n) (hs : ¬ Sc (ps s i j)) (h2 : i + 2 ≤ j) (ho : by8 s i = 91) (hc : by8 s (j - 1) = 93) (hD : Di (i + 1) (j - 1)) (hbl : blB (ps s (i + 1) (j - 1)) = false) :
    Calls Tryz.prog 19 #[.agg (tC s P), .int .i64 (i : Int), .int .i64 (j : Int)] w fun e w' => e = .returned (.int .i64 (if gd (.elms false) (ps s (i + 1) (j - 1)) < 0 then -1 else 1 + gd (.elms false) (ps s (i + 1) (j - 1)))) ∧ Below w.heap.size w w' := by
  have hz := h.z
  have hz2 := h.z2
  have hcut := fun w => run_cut s (i : Int) (j : Int) i (j - i) rfl (by omega) (by omega) w
  have hcs : (cutB s i (j - i)).size ≤ 1000000 := by rw [cutB_size s i (j - i) (by omega)]; omega
  have HS := Lib.hid (fun w => rscalar_any (cutB s i (j - i)) false (by rw [ps_cut]; simpa using hs) hcs w)
  have hbx := Tx.boxed h
  have f0 := hbx.f0
  generalize cutB s i (j - i) = x at *
  have H := Lib.hid h
  have hwji : IntKind.i64.wrap ((j : Int) - (i : Int)) = (j : Int) - (i : Int) := by rw [IntKind.wrap_i64]; omega
  have d1 : decide ((j : Int) - (i : Int) < 2) = false := decide_eq_false (by omega)
  have hixi := fun w => index_of s i (i : Int) rfl (by omega) w
  have hwj1 : IntKind.i64.wrap ((j : Int) - 1) = ((j - 1 : Nat) : Int) := by rw [IntKind.wrap_i64]; omega
  have hixj := fun w => index_of s (j - 1) ((j - 1 : Nat) : Int) rfl (by omega) w
  rw [ho] at hixi
  rw [hc] at hixj
  have hwi1 : IntKind.i64.wrap ((i : Int) + 1) = ((i + 1 : Nat) : Int) := by rw [IntKind.wrap_i64]; omega
  have hij1 : i + 1 ≤ j - 1 := by omega
  have hjn : j - 1 ≤ P.n := by omega
  have HB := Lib.hid (fun w => rblanks_any s (i + 1) (j - 1) ((i + 1 : Nat) : Int) ((j - 1 : Nat) : Int) rfl rfl hij1 (by omega) (by omega) w)
  rw [hbl] at HB
  have hgl := gd_len (.elms false) (ps s (i + 1) (j - 1))
  have hgl2 := gd_low (.elms false) (ps s (i + 1) (j - 1))
  have hln : (ps s (i + 1) (j - 1)).length = j - 1 - (i + 1) := pc_len (by rw [ps_size]; omega)
  have HX := Lib.hid (fun W (hx : Tx w w.heap.size s P Dv Di Dm W) => (⟨hx.f0, hx.f2, hx.tb.i.row (i + 1) (by omega), hx.tb.i.at_ (p := i + 1) (q := j - 1) (by omega) hjn hD⟩ : W.cell? ⟨w.heap.size, 0, none⟩ = some (.string s) ∧ W.cell? ⟨w.heap.size, 2, none⟩ = some (.slice (some ⟨P.gi, 0, none⟩) (P.n + 1) (P.n + 1)) ∧ W.cell? ⟨P.gi, i + 1, none⟩ = some (.slice (some ⟨P.ri (i + 1), 0, none⟩) (P.n + 1) (P.n + 1)) ∧ W.cell? ⟨P.ri (i + 1), j - 1, none⟩ = some (.int .i64 (gd (.elms false) (ps s (i + 1) (j - 1))))))
  generalize gd (.elms false) (ps s (i + 1) (j - 1)) = Z at *
  have HZ := Lib.hid (show -1 ≤ Z ∧ Z ≤ 1000 by omega)
  have hi1 : i + 1 < P.n + 1 := by omega
  generalize i + 1 = i1 at *
  generalize j - 1 = j1 at *
  have hj1 : j1 < P.n + 1 := by omega
  clear h hs hcs hbx ho hc hbl hD hgl hgl2 hln
  obtain ⟨g1, g2⟩ := HZ.out
  clear HZ
  by_cases hneg : Z < 0
  · rw [if_pos hneg]
    have d5 : decide (Z < 0) = true := decide_eq_true hneg
    clear hneg
    unfold tC at *
    go_enter Tryz.func19, Tryz.ntmps19
    go_wp2_with (first
      | (go_at_call 34; (with_reducible refine (HS.out _).mono ?_); rintro e w1 ⟨rfl, hb1⟩; have hx := Tx.next (Tx.boxed H.out) hb1; obtain ⟨x0, x1, x2, x3⟩ := HX.out _ hx)
      | (go_at_call 35; (with_reducible refine (HB.out _).mono ?_); rintro e w2 ⟨rfl, rfl⟩))
    go_ret
    exact ⟨rfl, hx.bel⟩
  · rw [if_neg hneg]
    have d5 : decide (Z < 0) = false := decide_eq_false hneg
    have hwz : IntKind.i64.wrap (1 + Z) = 1 + Z := by rw [IntKind.wrap_i64]; omega
    clear hneg
    unfold tC at *
    go_enter Tryz.func19, Tryz.ntmps19
    go_wp2_with (first
      | (go_at_call 34; (with_reducible refine (HS.out _).mono ?_); rintro e w1 ⟨rfl, hb1⟩; have hx := Tx.next (Tx.boxed H.out) hb1; obtain ⟨x0, x1, x2, x3⟩ := HX.out _ hx)
      | (go_at_call 35; (with_reducible refine (HB.out _).mono ?_); rintro e w2 ⟨rfl, rfl⟩))
    go_ret
    exact ⟨rfl, hx.bel⟩
set_option maxHeartbeats 1000000 in
set_option maxRecDepth 100000 in
theorem rvalue_object_blank (s : ByteArray) (P : Pl) (Dv Di Dm : Nat → Nat → Prop) (i j : Nat) (w : World) (h : Tb w s P Dv Di Dm) (_hij : i < j) (hj : j ≤ P.n) (hs : ¬ Sc (ps s i j)) (h2 : i + 2 ≤ j) (ho : by8 s i = 123) (hc : by8 s (j - 1) = 125) (hD : Dm (i + 1) (j - 1)) (hbl : blB (ps s (i + 1) (j - 1)) = true) :
    Calls Tryz.prog 19 #[.agg (tC s P), .int .i64 (i : Int), .int .i64 (j : Int)] w fun e w' => e = .returned (.int .i64 1) ∧ Below w.heap.size w w' := by
  have hz := h.z
  have hz2 := h.z2
  have hcut := fun w => run_cut s (i : Int) (j : Int) i (j - i) rfl (by omega) (by omega) w
  have hcs : (cutB s i (j - i)).size ≤ 1000000 := by rw [cutB_size s i (j - i) (by omega)]; omega
  have HS := Lib.hid (fun w => rscalar_any (cutB s i (j - i)) false (by rw [ps_cut]; simpa using hs) hcs w)
  have hbx := Tx.boxed h
  have f0 := hbx.f0
  generalize cutB s i (j - i) = x at *
  have H := Lib.hid h
  have hwji : IntKind.i64.wrap ((j : Int) - (i : Int)) = (j : Int) - (i : Int) := by rw [IntKind.wrap_i64]; omega
  have d1 : decide ((j : Int) - (i : Int) < 2) = false := decide_eq_false (by omega)
  have hixi := fun w => index_of s i (i : Int) rfl (by omega) w
  have hwj1 : IntKind.i64.wrap ((j : Int) - 1) = ((j - 1 : Nat) : Int) := by rw [IntKind.wrap_i64]; omega
  have hixj := fun w => index_of s (j - 1) ((j - 1 : Nat) : Int) rfl (by omega) w
  rw [ho] at hixi
  rw [hc] at hixj
  have hwi1 : IntKind.i64.wrap ((i : Int) + 1) = ((i + 1 : Nat) : Int) := by rw [IntKind.wrap_i64]; omega
  have hij1 : i + 1 ≤ j - 1 := by omega
  have hjn : j - 1 ≤ P.n := by omega
  have HB := Lib.hid (fun w => rblanks_any s (i + 1) (j - 1) ((i + 1 : Nat) : Int) ((j - 1 : Nat) : Int) rfl rfl hij1 (by omega) (by omega) w)
  rw [hbl] at HB
  have hgl := gd_len (.elms true) (ps s (i + 1) (j - 1))
  have hgl2 := gd_low (.elms true) (ps s (i + 1) (j - 1))
  have hln : (ps s (i + 1) (j - 1)).length = j - 1 - (i + 1) := pc_len (by rw [ps_size]; omega)
  have HX := Lib.hid (fun W (hx : Tx w w.heap.size s P Dv Di Dm W) => (⟨hx.f0, hx.f3, hx.tb.m.row (i + 1) (by omega), hx.tb.m.at_ (p := i + 1) (q := j - 1) (by omega) hjn hD⟩ : W.cell? ⟨w.heap.size, 0, none⟩ = some (.string s) ∧ W.cell? ⟨w.heap.size, 3, none⟩ = some (.slice (some ⟨P.gm, 0, none⟩) (P.n + 1) (P.n + 1)) ∧ W.cell? ⟨P.gm, i + 1, none⟩ = some (.slice (some ⟨P.rm (i + 1), 0, none⟩) (P.n + 1) (P.n + 1)) ∧ W.cell? ⟨P.rm (i + 1), j - 1, none⟩ = some (.int .i64 (gd (.elms true) (ps s (i + 1) (j - 1))))))
  generalize gd (.elms true) (ps s (i + 1) (j - 1)) = Z at *
  have HZ := Lib.hid (show -1 ≤ Z ∧ Z ≤ 1000 by omega)
  have hi1 : i + 1 < P.n + 1 := by omega
  generalize i + 1 = i1 at *
  generalize j - 1 = j1 at *
  have hj1 : j1 < P.n + 1 := by omega
  clear h hs hcs hbx ho hc hbl hD hgl hgl2 hln
  unfold tC at *
  go_enter Tryz.func19, Tryz.ntmps19
  go_wp2_with (first
    | (go_at_call 34; (with_reducible refine (HS.out _).mono ?_); rintro e w1 ⟨rfl, hb1⟩; have hx := Tx.next (Tx.boxed H.out) hb1; obtain ⟨x0, x1, x2, x3⟩ := HX.out _ hx)
    | (go_at_call 35; (with_reducible refine (HB.out _).mono ?_); rintro e w2 ⟨rfl, rfl⟩))
  go_ret
  exact ⟨rfl, hx.bel⟩
set_option maxHeartbeats 1000000 in
set_option maxRecDepth 100000 in
theorem rvalue_object_bad (s : ByteArray) (P : Pl) (Dv Di Dm : Nat → Nat → Prop) (i j : Nat) (w : World) (h : Tb w s P Dv Di Dm) (_hij : i < j) (hj : j ≤ P.n) (hs : ¬ Sc (ps s i j)) (h2 : i + 2 ≤ j) (ho : by8 s i = 123) (hc : by8 s (j - 1) = 125) (hD : Dm (i + 1) (j - 1)) (hbl : blB (ps s (i + 1) (j - 1)) = false) :
    Calls Tryz.prog 19 #[.agg (tC s P), .int .i64 (i : Int), .int .i64 (j : Int)] w fun e w' => e = .returned (.int .i64 (if gd (.elms true) (ps s (i + 1) (j - 1)) < 0 then -1 else 1 + gd (.elms true) (ps s (i + 1) (j - 1)))) ∧ Below w.heap.size w w' := by
  have hz := h.z
  have hz2 := h.z2
  have hcut := fun w => run_cut s (i : Int) (j : Int) i (j - i) rfl (by omega) (by omega) w
  have hcs : (cutB s i (j - i)).size ≤ 1000000 := by rw [cutB_size s i (j - i) (by omega)]; omega
  have HS := Lib.hid (fun w => rscalar_any (cutB s i (j - i)) false (by rw [ps_cut]; simpa using hs) hcs w)
  have hbx := Tx.boxed h
  have f0 := hbx.f0
  generalize cutB s i (j - i) = x at *
  have H := Lib.hid h
  have hwji : IntKind.i64.wrap ((j : Int) - (i : Int)) = (j : Int) - (i : Int) := by rw [IntKind.wrap_i64]; omega
  have d1 : decide ((j : Int) - (i : Int) < 2) = false := decide_eq_false (by omega)
  have hixi := fun w => index_of s i (i : Int) rfl (by omega) w
  have hwj1 : IntKind.i64.wrap ((j : Int) - 1) = ((j - 1 : Nat) : Int) := by rw [IntKind.wrap_i64]; omega
  have hixj := fun w => index_of s (j - 1) ((j - 1 : Nat) : Int) rfl (by omega) w
  rw [ho] at hixi
  rw [hc] at hixj
  have hwi1 : IntKind.i64.wrap ((i : Int) + 1) = ((i + 1 : Nat) : Int) := by rw [IntKind.wrap_i64]; omega
  have hij1 : i + 1 ≤ j - 1 := by omega
  have hjn : j - 1 ≤ P.n := by omega
  have HB := Lib.hid (fun w => rblanks_any s (i + 1) (j - 1) ((i + 1 : Nat) : Int) ((j - 1 : Nat) : Int) rfl rfl hij1 (by omega) (by omega) w)
  rw [hbl] at HB
  have hgl := gd_len (.elms true) (ps s (i + 1) (j - 1))
  have hgl2 := gd_low (.elms true) (ps s (i + 1) (j - 1))
  have hln : (ps s (i + 1) (j - 1)).length = j - 1 - (i + 1) := pc_len (by rw [ps_size]; omega)
  have HX := Lib.hid (fun W (hx : Tx w w.heap.size s P Dv Di Dm W) => (⟨hx.f0, hx.f3, hx.tb.m.row (i + 1) (by omega), hx.tb.m.at_ (p := i + 1) (q := j - 1) (by omega) hjn hD⟩ : W.cell? ⟨w.heap.size, 0, none⟩ = some (.string s) ∧ W.cell? ⟨w.heap.size, 3, none⟩ = some (.slice (some ⟨P.gm, 0, none⟩) (P.n + 1) (P.n + 1)) ∧ W.cell? ⟨P.gm, i + 1, none⟩ = some (.slice (some ⟨P.rm (i + 1), 0, none⟩) (P.n + 1) (P.n + 1)) ∧ W.cell? ⟨P.rm (i + 1), j - 1, none⟩ = some (.int .i64 (gd (.elms true) (ps s (i + 1) (j - 1))))))
  generalize gd (.elms true) (ps s (i + 1) (j - 1)) = Z at *
  have HZ := Lib.hid (show -1 ≤ Z ∧ Z ≤ 1000 by omega)
  have hi1 : i + 1 < P.n + 1 := by omega
  generalize i + 1 = i1 at *
  generalize j - 1 = j1 at *
  have hj1 : j1 < P.n + 1 := by omega
  clear h hs hcs hbx ho hc hbl hD hgl hgl2 hln
  obtain ⟨g1, g2⟩ := HZ.out
  clear HZ
  by_cases hneg : Z < 0
  · rw [if_pos hneg]
    have d5 : decide (Z < 0) = true := decide_eq_true hneg
    clear hneg
    unfold tC at *
    go_enter Tryz.func19, Tryz.ntmps19
    go_wp2_with (first
      | (go_at_call 34; (with_reducible refine (HS.out _).mono ?_); rintro e w1 ⟨rfl, hb1⟩; have hx := Tx.next (Tx.boxed H.out) hb1; obtain ⟨x0, x1, x2, x3⟩ := HX.out _ hx)
      | (go_at_call 35; (with_reducible refine (HB.out _).mono ?_); rintro e w2 ⟨rfl, rfl⟩))
    go_ret
    exact ⟨rfl, hx.bel⟩
  · rw [if_neg hneg]
    have d5 : decide (Z < 0) = false := decide_eq_false hneg
    have hwz : IntKind.i64.wrap (1 + Z) = 1 + Z := by rw [IntKind.wrap_i64]; omega
    clear hneg
    unfold tC at *
    go_enter Tryz.func19, Tryz.ntmps19
    go_wp2_with (first
      | (go_at_call 34; (with_reducible refine (HS.out _).mono ?_); rintro e w1 ⟨rfl, hb1⟩; have hx := Tx.next (Tx.boxed H.out) hb1; obtain ⟨x0, x1, x2, x3⟩ := HX.out _ hx)
      | (go_at_call 35; (with_reducible refine (HB.out _).mono ?_); rintro e w2 ⟨rfl, rfl⟩))
    go_ret
    exact ⟨rfl, hx.bel⟩
set_option maxHeartbeats 1000000 in
set_option maxRecDepth 100000 in
theorem rvalue_no1 (s : ByteArray) (P : Pl) (Dv Di Dm : Nat → Nat → Prop) (i j : Nat) (w : World) (h : Tb w s P Dv Di Dm) (_hij : i < j) (hj : j ≤ P.n) (hs : ¬ Sc (ps s i j)) (h2 : i + 2 ≤ j) (ho : by8 s i = 91) (hc : by8 s (j - 1) ≠ 93) :
    Calls Tryz.prog 19 #[.agg (tC s P), .int .i64 (i : Int), .int .i64 (j : Int)] w fun e w' => e = .returned (.int .i64 (-1)) ∧ Below w.heap.size w w' := by
  have hz := h.z
  have hz2 := h.z2
  have hcut := fun w => run_cut s (i : Int) (j : Int) i (j - i) rfl (by omega) (by omega) w
  have hcs : (cutB s i (j - i)).size ≤ 1000000 := by rw [cutB_size s i (j - i) (by omega)]; omega
  have HS := Lib.hid (fun w => rscalar_any (cutB s i (j - i)) false (by rw [ps_cut]; simpa using hs) hcs w)
  have hbx := Tx.boxed h
  have f0 := hbx.f0
  generalize cutB s i (j - i) = x at *
  have H := Lib.hid h
  have hwji : IntKind.i64.wrap ((j : Int) - (i : Int)) = (j : Int) - (i : Int) := by rw [IntKind.wrap_i64]; omega
  have d1 : decide ((j : Int) - (i : Int) < 2) = false := decide_eq_false (by omega)
  have hixi := fun w => index_of s i (i : Int) rfl (by omega) w
  have hwj1 : IntKind.i64.wrap ((j : Int) - 1) = ((j - 1 : Nat) : Int) := by rw [IntKind.wrap_i64]; omega
  have hixj := fun w => index_of s (j - 1) ((j - 1 : Nat) : Int) rfl (by omega) w
  rw [ho] at hixi
  have n1 : ((by8 s (j - 1) : Int) == 93) = false := by rw [beq_eq_false_iff_ne]; omega
  generalize by8 s (j - 1) = c at *
  clear ho hc
  clear h hs hcs hbx
  unfold tC at *
  go_enter Tryz.func19, Tryz.ntmps19
  go_wp2_with (go_at_call 34; (with_reducible refine (HS.out _).mono ?_); rintro e w1 ⟨rfl, hb1⟩; have hx := Tx.next (Tx.boxed H.out) hb1; have x0 := hx.f0)
  go_ret
  exact ⟨rfl, hx.bel⟩
set_option maxHeartbeats 1000000 in
set_option maxRecDepth 100000 in
theorem rvalue_no2 (s : ByteArray) (P : Pl) (Dv Di Dm : Nat → Nat → Prop) (i j : Nat) (w : World) (h : Tb w s P Dv Di Dm) (_hij : i < j) (hj : j ≤ P.n) (hs : ¬ Sc (ps s i j)) (h2 : i + 2 ≤ j) (ho : by8 s i = 123) (hc : by8 s (j - 1) ≠ 125) :
    Calls Tryz.prog 19 #[.agg (tC s P), .int .i64 (i : Int), .int .i64 (j : Int)] w fun e w' => e = .returned (.int .i64 (-1)) ∧ Below w.heap.size w w' := by
  have hz := h.z
  have hz2 := h.z2
  have hcut := fun w => run_cut s (i : Int) (j : Int) i (j - i) rfl (by omega) (by omega) w
  have hcs : (cutB s i (j - i)).size ≤ 1000000 := by rw [cutB_size s i (j - i) (by omega)]; omega
  have HS := Lib.hid (fun w => rscalar_any (cutB s i (j - i)) false (by rw [ps_cut]; simpa using hs) hcs w)
  have hbx := Tx.boxed h
  have f0 := hbx.f0
  generalize cutB s i (j - i) = x at *
  have H := Lib.hid h
  have hwji : IntKind.i64.wrap ((j : Int) - (i : Int)) = (j : Int) - (i : Int) := by rw [IntKind.wrap_i64]; omega
  have d1 : decide ((j : Int) - (i : Int) < 2) = false := decide_eq_false (by omega)
  have hixi := fun w => index_of s i (i : Int) rfl (by omega) w
  have hwj1 : IntKind.i64.wrap ((j : Int) - 1) = ((j - 1 : Nat) : Int) := by rw [IntKind.wrap_i64]; omega
  have hixj := fun w => index_of s (j - 1) ((j - 1 : Nat) : Int) rfl (by omega) w
  rw [ho] at hixi
  have n1 : ((by8 s (j - 1) : Int) == 125) = false := by rw [beq_eq_false_iff_ne]; omega
  generalize by8 s (j - 1) = c at *
  clear ho hc
  clear h hs hcs hbx
  unfold tC at *
  go_enter Tryz.func19, Tryz.ntmps19
  go_wp2_with (go_at_call 34; (with_reducible refine (HS.out _).mono ?_); rintro e w1 ⟨rfl, hb1⟩; have hx := Tx.next (Tx.boxed H.out) hb1; have x0 := hx.f0)
  go_ret
  exact ⟨rfl, hx.bel⟩
set_option maxHeartbeats 1000000 in
set_option maxRecDepth 100000 in
theorem rvalue_no3 (s : ByteArray) (P : Pl) (Dv Di Dm : Nat → Nat → Prop) (i j : Nat) (w : World) (h : Tb w s P Dv Di Dm) (_hij : i < j) (hj : j ≤ P.n) (hs : ¬ Sc (ps s i j)) (h2 : i + 2 ≤ j) (ho : by8 s i ≠ 91) (ho2 : by8 s i ≠ 123) :
    Calls Tryz.prog 19 #[.agg (tC s P), .int .i64 (i : Int), .int .i64 (j : Int)] w fun e w' => e = .returned (.int .i64 (-1)) ∧ Below w.heap.size w w' := by
  have hz := h.z
  have hz2 := h.z2
  have hcut := fun w => run_cut s (i : Int) (j : Int) i (j - i) rfl (by omega) (by omega) w
  have hcs : (cutB s i (j - i)).size ≤ 1000000 := by rw [cutB_size s i (j - i) (by omega)]; omega
  have HS := Lib.hid (fun w => rscalar_any (cutB s i (j - i)) false (by rw [ps_cut]; simpa using hs) hcs w)
  have hbx := Tx.boxed h
  have f0 := hbx.f0
  generalize cutB s i (j - i) = x at *
  have H := Lib.hid h
  have hwji : IntKind.i64.wrap ((j : Int) - (i : Int)) = (j : Int) - (i : Int) := by rw [IntKind.wrap_i64]; omega
  have d1 : decide ((j : Int) - (i : Int) < 2) = false := decide_eq_false (by omega)
  have hixi := fun w => index_of s i (i : Int) rfl (by omega) w
  have hwj1 : IntKind.i64.wrap ((j : Int) - 1) = ((j - 1 : Nat) : Int) := by rw [IntKind.wrap_i64]; omega
  have hixj := fun w => index_of s (j - 1) ((j - 1 : Nat) : Int) rfl (by omega) w
  have n1 : ((by8 s i : Int) == 91) = false := by rw [beq_eq_false_iff_ne]; omega
  have n2 : ((by8 s i : Int) == 123) = false := by rw [beq_eq_false_iff_ne]; omega
  generalize by8 s i = c at *
  clear ho ho2 hixj
  clear h hs hcs hbx
  unfold tC at *
  go_enter Tryz.func19, Tryz.ntmps19
  go_wp2_with (go_at_call 34; (with_reducible refine (HS.out _).mono ?_); rintro e w1 ⟨rfl, hb1⟩; have hx := Tx.next (Tx.boxed H.out) hb1; have x0 := hx.f0)
  go_ret
  exact ⟨rfl, hx.bel⟩
theorem rvalue_any (s : ByteArray) (P : Pl) (Dv Di Dm : Nat → Nat → Prop) (i j : Nat) (a c : Int) (ha : a = (i : Int)) (hc : c = (j : Int)) (w : World) (h : Tb w s P Dv Di Dm) (hij : i < j) (hj : j ≤ P.n) (hDi : i + 2 ≤ j → Di (i + 1) (j - 1)) (hDm : i + 2 ≤ j → Dm (i + 1) (j - 1)) :
    Calls Tryz.prog 19 #[.agg (tC s P), .int .i64 a, .int .i64 c] w fun e w' => e = .returned (.int .i64 (gd .val (ps s i j))) ∧ Below w.heap.size w w' := by
  subst ha hc
  have hl := ps_size s
  have hz := h.z
  have hjl : j ≤ s.data.toList.length := by omega
  by_cases hs : Sc (ps s i j)
  · rw [val_sc hs]; exact rvalue_sc s P Dv Di Dm i j w h hij hj hs
  · by_cases h2 : j < i + 2
    · have := val_short h2 hjl hs
      rw [show gd .val (ps s i j) = -1 from this]
      exact rvalue_short s P Dv Di Dm i j w h hij hj hs h2
    · have h2 : i + 2 ≤ j := by omega
      have b1 : (s.data.toList.getD i 0).toNat = by8 s i := rfl
      have b2 : (s.data.toList.getD (j - 1) 0).toNat = by8 s (j - 1) := rfl
      by_cases o1 : by8 s i = 91
      · by_cases c1 : by8 s (j - 1) = 93
        · cases hbl : blB (ps s (i + 1) (j - 1)) with
          | true =>
            rw [show gd .val (ps s i j) = 1 from val_blank false h2 hjl (b1.trans o1) (b2.trans c1) ((blB_iff _).1 hbl)]
            exact rvalue_list_blank s P Dv Di Dm i j w h hij hj hs h2 o1 c1 (hDi h2) hbl
          | false =>
            rw [show gd .val (ps s i j) = _ from val_inside false h2 hjl (b1.trans o1) (b2.trans c1) hs (fun hb => by rw [show blB (ps s (i + 1) (j - 1)) = true from (blB_iff _).2 hb] at hbl; cases hbl)]
            exact rvalue_list_bad s P Dv Di Dm i j w h hij hj hs h2 o1 c1 (hDi h2) hbl
        · rw [show gd .val (ps s i j) = -1 from val_other h2 hjl hs fun t ⟨k1, k2⟩ => by
            rw [b1, o1] at k1; rw [b2] at k2
            cases t with
            | false => exact c1 k2
            | true => exact absurd k1 (by decide)]
          exact rvalue_no1 s P Dv Di Dm i j w h hij hj hs h2 o1 c1
      · by_cases o2 : by8 s i = 123
        · by_cases c1 : by8 s (j - 1) = 125
          · cases hbl : blB (ps s (i + 1) (j - 1)) with
            | true =>
              rw [show gd .val (ps s i j) = 1 from val_blank true h2 hjl (b1.trans o2) (b2.trans c1) ((blB_iff _).1 hbl)]
              exact rvalue_object_blank s P Dv Di Dm i j w h hij hj hs h2 o2 c1 (hDm h2) hbl
            | false =>
              rw [show gd .val (ps s i j) = _ from val_inside true h2 hjl (b1.trans o2) (b2.trans c1) hs (fun hb => by rw [show blB (ps s (i + 1) (j - 1)) = true from (blB_iff _).2 hb] at hbl; cases hbl)]
              exact rvalue_object_bad s P Dv Di Dm i j w h hij hj hs h2 o2 c1 (hDm h2) hbl
          · rw [show gd .val (ps s i j) = -1 from val_other h2 hjl hs fun t ⟨k1, k2⟩ => by
              rw [b1, o2] at k1; rw [b2] at k2
              cases t with
              | false => exact absurd k1 (by decide)
              | true => exact c1 k2]
            exact rvalue_no2 s P Dv Di Dm i j w h hij hj hs h2 o2 c1
        · rw [show gd .val (ps s i j) = -1 from val_other h2 hjl hs fun t ⟨k1, _⟩ => by
            rw [b1] at k1
            cases t with
            | false => exact o1 k1
            | true => exact o2 k1]
          exact rvalue_no3 s P Dv Di Dm i j w h hij hj hs h2 o1 o2
end Go.Proofs.YteinaclkpickaaaGreatDoor.Gr

namespace Go.Proofs.YteinaclkpickaaaGreatDoor.Gr
open Go.RowKit Go.Lib Go.Proofs.YteinaclkpickaaaGreatDoor.Byt Go.Proofs.YteinaclkpickaaaGreatDoor.Lx

/-- 't' of a variable that holds the struct, under a guard that lets it by. -/
theorem wpList_fetchG {ops : Array Oper} {rest : List Oper} {o : Oper} {a : Act} {Q : Exit → Act → World → Prop} (W : World) (hw : Region.wanted o (yielded ops a.tmps) = true) (x : Operand) (ho : o.op = .load 50 x) (g : Nat) (s : ByteArray) (P : Pl)
    (hx : a.eval x = .pointer (some ⟨g, 0, none⟩)) (hk : Bx W g s P)
    (h : wpList Tryz.prog ops Q rest (a.put o.dst (.agg (tC s P))) W) : wpList Tryz.prog ops Q (o :: rest) a W :=
  wpList_step fun _ hK => by
    rw [if_pos hw]
    exact wp_load_row _ x ho g hx _ (tC s P) _ _ hk Tryz.underlying50 rfl (by rw [infoT]; rfl) (hK _ _ h)
/-- A member ends its name at k. -/
def gdM (s : ByteArray) (i j k : Nat) : Prop := by8 s k = 58 ∧ Nm (trm (ps s i k)) ∧ 0 ≤ gd (.elm false) (ps s (k + 1) j)
set_option maxHeartbeats 1000000 in
set_option maxRecDepth 100000 in
theorem rmember_any (s : ByteArray) (P : Pl) (Dv Di Dm : Nat → Nat → Prop) (i j : Nat) (a c : Int) (ha : a = (i : Int)) (hc : c = (j : Int)) (w : World) (h : Tb w s P Dv Di Dm) (hij : i ≤ j) (hj : j ≤ P.n) (hD : ∀ p q, i ≤ p → p ≤ q → q ≤ j → Dv p q) :
    Calls Tryz.prog 36 #[.agg (tC s P), .int .i64 a, .int .i64 c] w fun e w' => e = .returned (.int .i64 (gd (.elm true) (ps s i j))) ∧ Below w.heap.size w w' := by
  subst ha hc
  have hz := h.z
  have hz2 := h.z2
  have hl := ps_size s
  have HE := Lib.hid (fun (hno : ∀ k, i ≤ k → k < j → ¬ gdM s i j k) => (show gd (.elm true) (ps s i j) = -1 from member_none (l := s.data.toList) hij (by omega) hno))
  have HY := Lib.hid (fun k (h1 : i ≤ k) (h2 : k < j) (hg : gdM s i j k) => (show gd (.elm true) (ps s i j) = gd (.elm false) (ps s (k + 1) j) from member_yes (l := s.data.toList) h1 h2 (by omega) hg.1 hg.2.1 hg.2.2))
  have HT := Lib.hid (fun k (h1 : i ≤ k) (h2 : k < j) w => rtrimmed_any s i k (i : Int) (k : Int) rfl rfl h1 (by omega) (by omega) w)
  have HI := Lib.hid (fun k (h1 : i ≤ k) (h2 : k < j) W (hx : Tx w w.heap.size s P Dv Di Dm W) => ritem_any s P Dv Di Dm (k + 1) j ((k + 1 : Nat) : Int) (j : Int) rfl rfl W hx.tb (by omega) hj (fun p q hp hpq hq => hD p q (by omega) hpq hq))
  have hx0 := Tx.boxed h
  generalize hZ : gd (.elm true) (ps s i j) = Z at *
  clear hZ hD
  unfold tC at hx0 ⊢
  go_enter Tryz.func36, Tryz.ntmps36
  go_wp2_with fail
  go_loopw [7, 8, 9] (fun x _ _ wr => ∃ k : Nat, x = .int .i64 (k : Int) ∧ i ≤ k ∧ k ≤ j ∧ Tx w w.heap.size s P Dv Di Dm wr ∧ Hid (∀ k', i ≤ k' → k' < k → ¬ gdM s i j k')) (fun x _ _ _ => j - (RowKit.intOf x).toNat)
  case atStart => exact ⟨i, rfl, Nat.le_refl _, hij, hx0, Lib.hid fun k' h1 h2 => by omega⟩
  case round =>
    clear hx0
    obtain ⟨k, rfl, hik, hk, hR, hno⟩ := hrel
    by_cases hkj : k < j
    · have hix := fun w => index_of s k (k : Int) rfl (by omega) w
      have f0 := hR.f0
      have HTK := Lib.hid (HT.out k hik hkj)
      have HIK := Lib.hid (HI.out k hik hkj)
      have hwk : IntKind.i64.wrap ((k : Int) + 1) = ((k + 1 : Nat) : Int) := by rw [IntKind.wrap_i64]; omega
      have hnext : ¬ gdM s i j k → Hid (∀ k', i ≤ k' → k' < k + 1 → ¬ gdM s i j k') := fun hg => Lib.hid fun k' h1 h2 => by
        by_cases e : k' = k
        · subst e; exact hg
        · exact hno.out k' h1 (by omega)
      by_cases h58 : by8 s k = 58
      · obtain ⟨t1, t2, t3⟩ := t_in s i k hik (by omega)
        have hcut := fun w => run_cut s (tI s i k : Int) (tJ s i k : Int) (tI s i k) (tJ s i k - tI s i k) rfl (by omega) (by omega) w
        have hcs : (cutB s (tI s i k) (tJ s i k - tI s i k)).size ≤ 1000000 := by rw [cutB_size s _ _ (by omega)]; omega
        have hnm : (cutB s (tI s i k) (tJ s i k - tI s i k)).data.toList = trm (ps s i k) := by rw [ps_cut, t_trm s i k hik (by omega)]
        have h1 : (tI s i k : Int) ≤ (tJ s i k : Int) := by omega
        have h2 : tJ s i k ≤ s.size := by omega
        by_cases hn : Nm (trm (ps s i k))
        · have HN := Lib.hid (fun w => rname_any (cutB s (tI s i k) (tJ s i k - tI s i k)) true (by rw [hnm]; simpa using hn) hcs w)
          by_cases hi : 0 ≤ gd (.elm false) (ps s (k + 1) j)
          · have HZ := Lib.hid (HY.out k hik hkj ⟨h58, hn, hi⟩)
            have d1 : decide (0 ≤ gd (.elm false) (ps s (k + 1) j)) = true := decide_eq_true hi
            rw [h58] at hix
            generalize gd (.elm false) (ps s (k + 1) j) = G1 at *
            generalize cutB s (tI s i k) (tJ s i k - tI s i k) = X at *
            generalize tI s i k = p at *
            generalize tJ s i k = q at *
            generalize k + 1 = k1 at *
            clear h58 hnext hi hcs hnm hn t1 t2 t3
            go_wp2_with (first
              | (go_at_call 37; (with_reducible refine (HTK.out _).mono ?_); rintro e w1 ⟨rfl, rfl⟩)
              | (go_at_call 58; (with_reducible refine (HN.out _).mono ?_); rintro e w1 ⟨rfl, hb1⟩; have hx1 := Tx.next hR hb1)
              | (refine wpList_fetchT _ rfl _ rfl w.heap.size s P rfl hx2.bx ?_) | (refine wpList_fetchG _ (by rfl) _ rfl w.heap.size s P rfl hx1.bx ?_)
              | (go_at_call 22; (with_reducible refine (HIK.out _ hx2).mono ?_); rintro e w3 ⟨rfl, hb3⟩; have hx3 := Tx.next hx2 hb3)
              | (go_at_call 22; (with_reducible refine (HIK.out _ hx1).mono ?_); rintro e w2 ⟨rfl, hb2⟩; have hx2 := Tx.next hx1 hb2))
            first | go_ret | go_returns
            exact ⟨by rw [HZ.out]; rfl, hx3.bel⟩
          · have hnx := hnext fun hg => hi hg.2.2
            have d1 : decide (0 ≤ gd (.elm false) (ps s (k + 1) j)) = false := decide_eq_false hi
            rw [h58] at hix
            generalize gd (.elm false) (ps s (k + 1) j) = G1 at *
            generalize cutB s (tI s i k) (tJ s i k - tI s i k) = X at *
            generalize tI s i k = p at *
            generalize tJ s i k = q at *
            generalize hk1 : k + 1 = k1 at *
            have HK1 := Lib.hid hk1
            clear h58 hnext hi hcs hnm hn t1 t2 t3 hk1
            go_wp2_with (first
              | (go_at_call 37; (with_reducible refine (HTK.out _).mono ?_); rintro e w1 ⟨rfl, rfl⟩)
              | (go_at_call 58; (with_reducible refine (HN.out _).mono ?_); rintro e w1 ⟨rfl, hb1⟩; have hx1 := Tx.next hR hb1)
              | (refine wpList_fetchT _ rfl _ rfl w.heap.size s P rfl hx2.bx ?_) | (refine wpList_fetchG _ (by rfl) _ rfl w.heap.size s P rfl hx1.bx ?_)
              | (go_at_call 22; (with_reducible refine (HIK.out _ hx2).mono ?_); rintro e w3 ⟨rfl, hb3⟩; have hx3 := Tx.next hx2 hb3)
              | (go_at_call 22; (with_reducible refine (HIK.out _ hx1).mono ?_); rintro e w2 ⟨rfl, hb2⟩; have hx2 := Tx.next hx1 hb2))
            go_roundw
            case rel => exact ⟨k1, rfl, by have := HK1.out; omega, by have := HK1.out; omega, hx2, hnx⟩
            case measure => have := HK1.out; simp [RowKit.intOf]; omega
        · have hnx := hnext fun hg => hn hg.2.1
          have HN := Lib.hid (fun w => rname_any (cutB s (tI s i k) (tJ s i k - tI s i k)) false (by rw [hnm]; simpa using hn) hcs w)
          rw [h58] at hix
          generalize cutB s (tI s i k) (tJ s i k - tI s i k) = X at *
          generalize tI s i k = p at *
          generalize tJ s i k = q at *
          clear h58 hnext hcs hnm hn t1 t2 t3
          go_wp2_with (first
            | (go_at_call 37; (with_reducible refine (HTK.out _).mono ?_); rintro e w1 ⟨rfl, rfl⟩)
            | (go_at_call 58; (with_reducible refine (HN.out _).mono ?_); rintro e w1 ⟨rfl, hb1⟩; have hx1 := Tx.next hR hb1))
          go_roundw
          case rel => exact ⟨k + 1, rfl, by omega, by omega, hx1, hnx⟩
          case measure => simp [RowKit.intOf]; omega
      · have hnx := hnext fun hg => h58 hg.1
        have n1 : ((by8 s k : Int) == 58) = false := by rw [beq_eq_false_iff_ne]; omega
        generalize by8 s k = c at *
        generalize tI s i k = p at *
        generalize tJ s i k = q at *
        clear h58 hnext
        go_wp2_with (go_at_call 37; (with_reducible refine (HTK.out _).mono ?_); rintro e w1 ⟨rfl, rfl⟩)
        go_roundw
        case rel => exact ⟨k + 1, rfl, by omega, by omega, hR, hnx⟩
        case measure => simp [RowKit.intOf]; omega
    · obtain rfl : k = j := by omega
      have HZ := Lib.hid (HE.out hno.out)
      clear hno
      go_wp2_with fail
      first | go_ret | go_returns
      exact ⟨by rw [HZ.out]; rfl, hR.bel⟩

/-! ### items, members -/
theorem max_runI (x y : Int) (w : World) : (Builtin.max_ #[3, 3] 3 #[.int .i64 x, .int .i64 y]).run Tryz.prog w = .ok (.int .i64 (max x y)) w := by
  rw [run_max_int2]
  congr 2
  split <;> omega
/-- A comma at k parts the piece. -/
def gdC_items (s : ByteArray) (i j k : Nat) : Prop := by8 s k = 44 ∧ 0 ≤ gd (.elm false) (ps s i k) ∧ 0 ≤ gd (.elms false) (ps s (k + 1) j)
set_option maxHeartbeats 2000000 in
set_option maxRecDepth 100000 in
theorem ritems_any (s : ByteArray) (P : Pl) (Dv Di Dm : Nat → Nat → Prop) (i j : Nat) (a c : Int) (ha : a = (i : Int)) (hc : c = (j : Int)) (w : World) (h : Tb w s P Dv Di Dm) (hij : i ≤ j) (hj : j ≤ P.n) (hD : ∀ p q, i ≤ p → p ≤ q → q ≤ j → Dv p q) (hD2 : ∀ k, i ≤ k → k < j → Di (k + 1) j) :
    Calls Tryz.prog 20 #[.agg (tC s P), .int .i64 a, .int .i64 c] w fun e w' => e = .returned (.int .i64 (gd (.elms false) (ps s i j))) ∧ Below w.heap.size w w' := by
  subst ha hc
  have hz := h.z
  have hz2 := h.z2
  have hl := ps_size s
  have HE := Lib.hid (fun (h0 : ¬ 0 ≤ gd (.elm false) (ps s i j)) (hno : ∀ k, i ≤ k → k < j → ¬ gdC_items s i j k) => (show gd (.elms false) (ps s i j) = -1 from elms_none (l := s.data.toList) hij (by omega) h0 hno))
  have HY := Lib.hid (fun k (h1 : i ≤ k) (h2 : k < j) (hg : gdC_items s i j k) => (show gd (.elms false) (ps s i j) = max (gd (.elm false) (ps s i k)) (gd (.elms false) (ps s (k + 1) j)) from elms_more (l := s.data.toList) h1 h2 (by omega) hg.1 hg.2.1 hg.2.2))
  have H1 := Lib.hid (fun (h0 : 0 ≤ gd (.elm false) (ps s i j)) => (show gd (.elms false) (ps s i j) = gd (.elm false) (ps s i j) from elms_one (l := s.data.toList) h0))
  have HI : Hid (∀ k : Nat, i ≤ k → k ≤ j → ∀ W, Tx w w.heap.size s P Dv Di Dm W → Calls Tryz.prog 22 #[(.agg #[.string s, .slice (some ⟨P.gv, 0, none⟩) (P.n + 1) (P.n + 1), .slice (some ⟨P.gi, 0, none⟩) (P.n + 1) (P.n + 1), .slice (some ⟨P.gm, 0, none⟩) (P.n + 1) (P.n + 1)]), .int .i64 (i : Int), .int .i64 (k : Int)] W fun e w' => e = .returned (.int .i64 (gd (.elm false) (ps s i k))) ∧ Tx w w.heap.size s P Dv Di Dm w') :=
    Lib.hid fun k h1 h2 W hx => (ritem_any s P Dv Di Dm i k (i : Int) (k : Int) rfl rfl W hx.tb h1 (by omega) (fun p q hp hpq hq => hD p q hp hpq (by omega))).mono fun _ _ h => ⟨h.1, hx.next h.2⟩
  have hx0 := Tx.boxed h
  have HX := Lib.hid (fun k (h1 : i ≤ k) (h2 : k < j) W (hx : Tx w w.heap.size s P Dv Di Dm W) => (⟨hx.f2, hx.tb.i.row (k + 1) (by omega), hx.tb.i.at_ (p := k + 1) (q := j) (by omega) hj (hD2 k h1 h2)⟩ : W.cell? ⟨w.heap.size, 2, none⟩ = some (.slice (some ⟨P.gi, 0, none⟩) (P.n + 1) (P.n + 1)) ∧ W.cell? ⟨P.gi, k + 1, none⟩ = some (.slice (some ⟨P.ri (k + 1), 0, none⟩) (P.n + 1) (P.n + 1)) ∧ W.cell? ⟨P.ri (k + 1), j, none⟩ = some (.int .i64 (gd (.elms false) (ps s (k + 1) j)))))
  generalize hZ : gd (.elms false) (ps s i j) = Z at *
  clear hZ hD hD2
  have HJ := Lib.hid (HI.out j hij (Nat.le_refl _))
  unfold tC at hx0 ⊢
  have g0 := hx0.f0
  have g1 := hx0.f1
  have g2 := hx0.f2
  have g3 := hx0.f3
  by_cases h0 : 0 ≤ gd (.elm false) (ps s i j)
  · have HZ := Lib.hid (H1.out h0)
    have d0 : decide (0 ≤ gd (.elm false) (ps s i j)) = true := decide_eq_true h0
    generalize gd (.elm false) (ps s i j) = G0 at *
    clear h0
    go_enter Tryz.func20, Tryz.ntmps20
    go_wp2_with (first
      | (go_at_call 22; (with_reducible refine (HJ.out _ hx0).mono ?_); rintro e w1 ⟨rfl, hx1⟩))
    first | go_ret | go_returns
    exact ⟨by rw [HZ.out]; rfl, hx1.bel⟩
  · have HN := Lib.hid (HE.out h0)
    have d0 : decide (0 ≤ gd (.elm false) (ps s i j)) = false := decide_eq_false h0
    generalize gd (.elm false) (ps s i j) = G0 at *
    clear h0
    go_enter Tryz.func20, Tryz.ntmps20
    go_wp2_with (first
      | (go_at_call 22; (with_reducible refine (HJ.out _ hx0).mono ?_); rintro e w1 ⟨rfl, hx1⟩))
    go_loopw [8] (fun x wr => ∃ k : Nat, x = .int .i64 (k : Int) ∧ i ≤ k ∧ k ≤ j ∧ Tx w w.heap.size s P Dv Di Dm wr ∧ Hid (∀ k', i ≤ k' → k' < k → ¬ gdC_items s i j k')) (fun x _ => j - (RowKit.intOf x).toNat)
    case atStart => exact ⟨i, rfl, Nat.le_refl _, hij, hx1, Lib.hid fun k' h1 h2 => by omega⟩
    case round =>
      clear hx0 hx1 d0 g0 g1 g2 g3
      obtain ⟨k, rfl, hik, hk, hR, hno⟩ := hrel
      by_cases hkj : k < j
      · have hix := fun w => index_of s k (k : Int) rfl (by omega) w
        have f0 := hR.f0
        have f1 := hR.f1
        have f2 := hR.f2
        have f3 := hR.f3
        have HIK := Lib.hid (HI.out k hik hk)
        have HXK := Lib.hid (HX.out k hik hkj)
        have hwk : IntKind.i64.wrap ((k : Int) + 1) = ((k + 1 : Nat) : Int) := by rw [IntKind.wrap_i64]; omega
        have hnext : ¬ gdC_items s i j k → Hid (∀ k', i ≤ k' → k' < k + 1 → ¬ gdC_items s i j k') := fun hg => Lib.hid fun k' h1 h2 => by
          by_cases e : k' = k
          · subst e; exact hg
          · exact hno.out k' h1 (by omega)
        have hb1 : k + 1 < P.n + 1 := by omega
        have hb2 : j < P.n + 1 := by omega
        by_cases h44 : by8 s k = 44
        · rw [h44] at hix
          by_cases ha : 0 ≤ gd (.elm false) (ps s i k)
          · have d1 : decide (0 ≤ gd (.elm false) (ps s i k)) = true := decide_eq_true ha
            by_cases hb : 0 ≤ gd (.elms false) (ps s (k + 1) j)
            · have d2 : decide (0 ≤ gd (.elms false) (ps s (k + 1) j)) = true := decide_eq_true hb
              have HZ := Lib.hid (HY.out k hik hkj ⟨h44, ha, hb⟩)
              have hmx := fun w => max_runI (gd (.elm false) (ps s i k)) (gd (.elms false) (ps s (k + 1) j)) w
              generalize gd (.elm false) (ps s i k) = G1 at *
              generalize gd (.elms false) (ps s (k + 1) j) = G2 at *
              generalize k + 1 = k1 at *
              clear h44 hnext ha hb
              go_wp2_with (first
                | (go_at_call 22; (with_reducible refine (HIK.out _ hR).mono ?_); rintro e w2 ⟨rfl, hx2⟩; obtain ⟨y1, y2, y3⟩ := HXK.out _ hx2))
              have hd2 := hx2.drew
              have z0 : ∀ W, Tx w w.heap.size s P Dv Di Dm W → W.cell? ⟨w.heap.size, 0, none⟩ = some (.string s) := fun W h => h.f0
              have z1 : ∀ W, Tx w w.heap.size s P Dv Di Dm W → W.cell? ⟨w.heap.size, 1, none⟩ = some (.slice (some ⟨P.gv, 0, none⟩) (P.n + 1) (P.n + 1)) := fun W h => h.f1
              have z2 : ∀ W, Tx w w.heap.size s P Dv Di Dm W → W.cell? ⟨w.heap.size, 2, none⟩ = some (.slice (some ⟨P.gi, 0, none⟩) (P.n + 1) (P.n + 1)) := fun W h => h.f2
              have z3 : ∀ W, Tx w w.heap.size s P Dv Di Dm W → W.cell? ⟨w.heap.size, 3, none⟩ = some (.slice (some ⟨P.gm, 0, none⟩) (P.n + 1) (P.n + 1)) := fun W h => h.f3
              have z4 : ∀ W, Tx w w.heap.size s P Dv Di Dm W → W.cell? ⟨P.gi, k1, none⟩ = some (.slice (some ⟨P.ri k1, 0, none⟩) (P.n + 1) (P.n + 1)) := fun W h => (HXK.out W h).2.1
              have z5 : ∀ W, Tx w w.heap.size s P Dv Di Dm W → W.cell? ⟨P.ri k1, j, none⟩ = some (.int .i64 G2) := fun W h => (HXK.out W h).2.2
              have b1 : (0 : Int) ≤ (k1 : Int) := by omega
              have b2 : (k1 : Int) < (P.n : Int) + 1 := by omega
              have b3 : (0 : Int) ≤ (j : Int) := by omega
              have b4 : (j : Int) < (P.n : Int) + 1 := by omega
              clear y1 y2 y3 hR f0 f1 f2 f3
              go_region_held3 (Tx w w.heap.size s P Dv Di Dm) (first | exact hd2 | assumption)
                ((go_at_call 22; (with_reducible refine (HIK.out _ (by assumption)).mono ?_); rintro e wx ⟨rfl, hx3⟩))
              all_goals
                go_wp2_with fail
                first | go_ret | go_returns
                exact ⟨by rw [HZ.out]; rfl, hx3.bel⟩
            · have hnx := hnext fun hg => hb hg.2.2
              have d2 : decide (0 ≤ gd (.elms false) (ps s (k + 1) j)) = false := decide_eq_false hb
              generalize gd (.elm false) (ps s i k) = G1 at *
              generalize gd (.elms false) (ps s (k + 1) j) = G2 at *
              generalize hk1 : k + 1 = k1 at *
              have HK1 := Lib.hid hk1
              clear h44 hnext ha hb hk1
              go_wp2_with (first
                | (go_at_call 22; (with_reducible refine (HIK.out _ hR).mono ?_); rintro e w2 ⟨rfl, hx2⟩; obtain ⟨y1, y2, y3⟩ := HXK.out _ hx2))
              go_roundw
              case rel => exact ⟨k1, rfl, by have := HK1.out; omega, by have := HK1.out; omega, hx2, hnx⟩
              case measure => have := HK1.out; simp [RowKit.intOf]; omega
          · have hnx := hnext fun hg => ha hg.2.1
            have d1 : decide (0 ≤ gd (.elm false) (ps s i k)) = false := decide_eq_false ha
            generalize gd (.elm false) (ps s i k) = G1 at *
            generalize hk1 : k + 1 = k1 at *
            have HK1 := Lib.hid hk1
            clear h44 hnext ha hk1 HXK
            go_wp2_with (first
              | (go_at_call 22; (with_reducible refine (HIK.out _ hR).mono ?_); rintro e w2 ⟨rfl, hx2⟩))
            go_roundw
            case rel => exact ⟨k1, rfl, by have := HK1.out; omega, by have := HK1.out; omega, hx2, hnx⟩
            case measure => have := HK1.out; simp [RowKit.intOf]; omega
        · have hnx := hnext fun hg => h44 hg.1
          have n1 : ((by8 s k : Int) == 44) = false := by rw [beq_eq_false_iff_ne]; omega
          generalize by8 s k = c at *
          clear h44 hnext
          go_wp2_with fail
          go_roundw
          case rel => exact ⟨k + 1, rfl, by omega, by omega, hR, hnx⟩
          case measure => simp [RowKit.intOf]; omega
      · obtain rfl : k = j := by omega
        have HZ := Lib.hid (HN.out hno.out)
        clear hno
        go_wp2_with fail
        first | go_ret | go_returns
        exact ⟨by rw [HZ.out]; rfl, hR.bel⟩
/-- A comma at k parts the piece. -/
def gdC_members (s : ByteArray) (i j k : Nat) : Prop := by8 s k = 44 ∧ 0 ≤ gd (.elm true) (ps s i k) ∧ 0 ≤ gd (.elms true) (ps s (k + 1) j)
set_option maxHeartbeats 2000000 in
set_option maxRecDepth 100000 in
theorem rmembers_any (s : ByteArray) (P : Pl) (Dv Di Dm : Nat → Nat → Prop) (i j : Nat) (a c : Int) (ha : a = (i : Int)) (hc : c = (j : Int)) (w : World) (h : Tb w s P Dv Di Dm) (hij : i ≤ j) (hj : j ≤ P.n) (hD : ∀ p q, i ≤ p → p ≤ q → q ≤ j → Dv p q) (hD2 : ∀ k, i ≤ k → k < j → Dm (k + 1) j) :
    Calls Tryz.prog 21 #[.agg (tC s P), .int .i64 a, .int .i64 c] w fun e w' => e = .returned (.int .i64 (gd (.elms true) (ps s i j))) ∧ Below w.heap.size w w' := by
  subst ha hc
  have hz := h.z
  have hz2 := h.z2
  have hl := ps_size s
  have HE := Lib.hid (fun (h0 : ¬ 0 ≤ gd (.elm true) (ps s i j)) (hno : ∀ k, i ≤ k → k < j → ¬ gdC_members s i j k) => (show gd (.elms true) (ps s i j) = -1 from elms_none (l := s.data.toList) hij (by omega) h0 hno))
  have HY := Lib.hid (fun k (h1 : i ≤ k) (h2 : k < j) (hg : gdC_members s i j k) => (show gd (.elms true) (ps s i j) = max (gd (.elm true) (ps s i k)) (gd (.elms true) (ps s (k + 1) j)) from elms_more (l := s.data.toList) h1 h2 (by omega) hg.1 hg.2.1 hg.2.2))
  have H1 := Lib.hid (fun (h0 : 0 ≤ gd (.elm true) (ps s i j)) => (show gd (.elms true) (ps s i j) = gd (.elm true) (ps s i j) from elms_one (l := s.data.toList) h0))
  have HI : Hid (∀ k : Nat, i ≤ k → k ≤ j → ∀ W, Tx w w.heap.size s P Dv Di Dm W → Calls Tryz.prog 36 #[(.agg #[.string s, .slice (some ⟨P.gv, 0, none⟩) (P.n + 1) (P.n + 1), .slice (some ⟨P.gi, 0, none⟩) (P.n + 1) (P.n + 1), .slice (some ⟨P.gm, 0, none⟩) (P.n + 1) (P.n + 1)]), .int .i64 (i : Int), .int .i64 (k : Int)] W fun e w' => e = .returned (.int .i64 (gd (.elm true) (ps s i k))) ∧ Tx w w.heap.size s P Dv Di Dm w') :=
    Lib.hid fun k h1 h2 W hx => (rmember_any s P Dv Di Dm i k (i : Int) (k : Int) rfl rfl W hx.tb h1 (by omega) (fun p q hp hpq hq => hD p q hp hpq (by omega))).mono fun _ _ h => ⟨h.1, hx.next h.2⟩
  have hx0 := Tx.boxed h
  have HX := Lib.hid (fun k (h1 : i ≤ k) (h2 : k < j) W (hx : Tx w w.heap.size s P Dv Di Dm W) => (⟨hx.f3, hx.tb.m.row (k + 1) (by omega), hx.tb.m.at_ (p := k + 1) (q := j) (by omega) hj (hD2 k h1 h2)⟩ : W.cell? ⟨w.heap.size, 3, none⟩ = some (.slice (some ⟨P.gm, 0, none⟩) (P.n + 1) (P.n + 1)) ∧ W.cell? ⟨P.gm, k + 1, none⟩ = some (.slice (some ⟨P.rm (k + 1), 0, none⟩) (P.n + 1) (P.n + 1)) ∧ W.cell? ⟨P.rm (k + 1), j, none⟩ = some (.int .i64 (gd (.elms true) (ps s (k + 1) j)))))
  generalize hZ : gd (.elms true) (ps s i j) = Z at *
  clear hZ hD hD2
  have HJ := Lib.hid (HI.out j hij (Nat.le_refl _))
  unfold tC at hx0 ⊢
  have g0 := hx0.f0
  have g1 := hx0.f1
  have g2 := hx0.f2
  have g3 := hx0.f3
  by_cases h0 : 0 ≤ gd (.elm true) (ps s i j)
  · have HZ := Lib.hid (H1.out h0)
    have d0 : decide (0 ≤ gd (.elm true) (ps s i j)) = true := decide_eq_true h0
    generalize gd (.elm true) (ps s i j) = G0 at *
    clear h0
    go_enter Tryz.func21, Tryz.ntmps21
    go_wp2_with (first
      | (go_at_call 36; (with_reducible refine (HJ.out _ hx0).mono ?_); rintro e w1 ⟨rfl, hx1⟩))
    first | go_ret | go_returns
    exact ⟨by rw [HZ.out]; rfl, hx1.bel⟩
  · have HN := Lib.hid (HE.out h0)
    have d0 : decide (0 ≤ gd (.elm true) (ps s i j)) = false := decide_eq_false h0
    generalize gd (.elm true) (ps s i j) = G0 at *
    clear h0
    go_enter Tryz.func21, Tryz.ntmps21
    go_wp2_with (first
      | (go_at_call 36; (with_reducible refine (HJ.out _ hx0).mono ?_); rintro e w1 ⟨rfl, hx1⟩))
    go_loopw [8] (fun x wr => ∃ k : Nat, x = .int .i64 (k : Int) ∧ i ≤ k ∧ k ≤ j ∧ Tx w w.heap.size s P Dv Di Dm wr ∧ Hid (∀ k', i ≤ k' → k' < k → ¬ gdC_members s i j k')) (fun x _ => j - (RowKit.intOf x).toNat)
    case atStart => exact ⟨i, rfl, Nat.le_refl _, hij, hx1, Lib.hid fun k' h1 h2 => by omega⟩
    case round =>
      clear hx0 hx1 d0 g0 g1 g2 g3
      obtain ⟨k, rfl, hik, hk, hR, hno⟩ := hrel
      by_cases hkj : k < j
      · have hix := fun w => index_of s k (k : Int) rfl (by omega) w
        have f0 := hR.f0
        have f1 := hR.f1
        have f2 := hR.f2
        have f3 := hR.f3
        have HIK := Lib.hid (HI.out k hik hk)
        have HXK := Lib.hid (HX.out k hik hkj)
        have hwk : IntKind.i64.wrap ((k : Int) + 1) = ((k + 1 : Nat) : Int) := by rw [IntKind.wrap_i64]; omega
        have hnext : ¬ gdC_members s i j k → Hid (∀ k', i ≤ k' → k' < k + 1 → ¬ gdC_members s i j k') := fun hg => Lib.hid fun k' h1 h2 => by
          by_cases e : k' = k
          · subst e; exact hg
          · exact hno.out k' h1 (by omega)
        have hb1 : k + 1 < P.n + 1 := by omega
        have hb2 : j < P.n + 1 := by omega
        by_cases h44 : by8 s k = 44
        · rw [h44] at hix
          by_cases ha : 0 ≤ gd (.elm true) (ps s i k)
          · have d1 : decide (0 ≤ gd (.elm true) (ps s i k)) = true := decide_eq_true ha
            by_cases hb : 0 ≤ gd (.elms true) (ps s (k + 1) j)
            · have d2 : decide (0 ≤ gd (.elms true) (ps s (k + 1) j)) = true := decide_eq_true hb
              have HZ := Lib.hid (HY.out k hik hkj ⟨h44, ha, hb⟩)
              have hmx := fun w => max_runI (gd (.elm true) (ps s i k)) (gd (.elms true) (ps s (k + 1) j)) w
              generalize gd (.elm true) (ps s i k) = G1 at *
              generalize gd (.elms true) (ps s (k + 1) j) = G2 at *
              generalize k + 1 = k1 at *
              clear h44 hnext ha hb
              go_wp2_with (first
                | (go_at_call 36; (with_reducible refine (HIK.out _ hR).mono ?_); rintro e w2 ⟨rfl, hx2⟩; obtain ⟨y1, y2, y3⟩ := HXK.out _ hx2))
              have hd2 := hx2.drew
              have z0 : ∀ W, Tx w w.heap.size s P Dv Di Dm W → W.cell? ⟨w.heap.size, 0, none⟩ = some (.string s) := fun W h => h.f0
              have z1 : ∀ W, Tx w w.heap.size s P Dv Di Dm W → W.cell? ⟨w.heap.size, 1, none⟩ = some (.slice (some ⟨P.gv, 0, none⟩) (P.n + 1) (P.n + 1)) := fun W h => h.f1
              have z2 : ∀ W, Tx w w.heap.size s P Dv Di Dm W → W.cell? ⟨w.heap.size, 2, none⟩ = some (.slice (some ⟨P.gi, 0, none⟩) (P.n + 1) (P.n + 1)) := fun W h => h.f2
              have z3 : ∀ W, Tx w w.heap.size s P Dv Di Dm W → W.cell? ⟨w.heap.size, 3, none⟩ = some (.slice (some ⟨P.gm, 0, none⟩) (P.n + 1) (P.n + 1)) := fun W h => h.f3
              have z4 : ∀ W, Tx w w.heap.size s P Dv Di Dm W → W.cell? ⟨P.gm, k1, none⟩ = some (.slice (some ⟨P.rm k1, 0, none⟩) (P.n + 1) (P.n + 1)) := fun W h => (HXK.out W h).2.1
              have z5 : ∀ W, Tx w w.heap.size s P Dv Di Dm W → W.cell? ⟨P.rm k1, j, none⟩ = some (.int .i64 G2) := fun W h => (HXK.out W h).2.2
              have b1 : (0 : Int) ≤ (k1 : Int) := by omega
              have b2 : (k1 : Int) < (P.n : Int) + 1 := by omega
              have b3 : (0 : Int) ≤ (j : Int) := by omega
              have b4 : (j : Int) < (P.n : Int) + 1 := by omega
              clear y1 y2 y3 hR f0 f1 f2 f3
              go_region_held3 (Tx w w.heap.size s P Dv Di Dm) (first | exact hd2 | assumption)
                ((go_at_call 36; (with_reducible refine (HIK.out _ (by assumption)).mono ?_); rintro e wx ⟨rfl, hx3⟩))
              all_goals
                go_wp2_with fail
                first | go_ret | go_returns
                exact ⟨by rw [HZ.out]; rfl, hx3.bel⟩
            · have hnx := hnext fun hg => hb hg.2.2
              have d2 : decide (0 ≤ gd (.elms true) (ps s (k + 1) j)) = false := decide_eq_false hb
              generalize gd (.elm true) (ps s i k) = G1 at *
              generalize gd (.elms true) (ps s (k + 1) j) = G2 at *
              generalize hk1 : k + 1 = k1 at *
              have HK1 := Lib.hid hk1
              clear h44 hnext ha hb hk1
              go_wp2_with (first
                | (go_at_call 36; (with_reducible refine (HIK.out _ hR).mono ?_); rintro e w2 ⟨rfl, hx2⟩; obtain ⟨y1, y2, y3⟩ := HXK.out _ hx2))
              go_roundw
              case rel => exact ⟨k1, rfl, by have := HK1.out; omega, by have := HK1.out; omega, hx2, hnx⟩
              case measure => have := HK1.out; simp [RowKit.intOf]; omega
          · have hnx := hnext fun hg => ha hg.2.1
            have d1 : decide (0 ≤ gd (.elm true) (ps s i k)) = false := decide_eq_false ha
            generalize gd (.elm true) (ps s i k) = G1 at *
            generalize hk1 : k + 1 = k1 at *
            have HK1 := Lib.hid hk1
            clear h44 hnext ha hk1 HXK
            go_wp2_with (first
              | (go_at_call 36; (with_reducible refine (HIK.out _ hR).mono ?_); rintro e w2 ⟨rfl, hx2⟩))
            go_roundw
            case rel => exact ⟨k1, rfl, by have := HK1.out; omega, by have := HK1.out; omega, hx2, hnx⟩
            case measure => have := HK1.out; simp [RowKit.intOf]; omega
        · have hnx := hnext fun hg => h44 hg.1
          have n1 : ((by8 s k : Int) == 44) = false := by rw [beq_eq_false_iff_ne]; omega
          generalize by8 s k = c at *
          clear h44 hnext
          go_wp2_with fail
          go_roundw
          case rel => exact ⟨k + 1, rfl, by omega, by omega, hR, hnx⟩
          case measure => simp [RowKit.intOf]; omega
      · obtain rfl : k = j := by omega
        have HZ := Lib.hid (HN.out hno.out)
        clear hno
        go_wp2_with fail
        first | go_ret | go_returns
        exact ⟨by rw [HZ.out]; rfl, hR.bel⟩
end Go.Proofs.YteinaclkpickaaaGreatDoor.Gr

namespace Go.Proofs.YteinaclkpickaaaGreatDoor.Gr
open Go.RowKit Go.Lib Go.Proofs.YteinaclkpickaaaGreatDoor.Byt Go.Proofs.YteinaclkpickaaaGreatDoor.Lx

theorem infoInt : (Tryz.prog.info? 3).map (fun i => (i.zero, i.size, i.bytes)) = some (some (.int .i64 0), 1, 8) := by kernel_rfl
theorem infoRow : (Tryz.prog.info? 52).map (fun i => (i.zero, i.size, i.bytes)) = some (some (.slice none 0 0), 1, 24) := by kernel_rfl
/-- Block b holds n + 1 cells of type e. -/
def Ro (W : World) (e : TypeId) (b n : Nat) (h : Nat → Value) : Prop := W.heap[b]? = some (.cells ((List.range (n + 1)).map h).toArray e (0, 0))
section
variable {W W' : World} {e : TypeId} {b n : Nat} {h : Nat → Value}
theorem Ro.cell (k : Ro W e b n h) {p : Nat} (hp : p ≤ n) : W.cell? ⟨b, p, none⟩ = some (h p) := by
  unfold Ro at k
  rw [Lib.cell_of_heap k]
  simp [show p < n + 1 by omega]
theorem Ro.free (k : Ro W e b n h) (p : Nat) : W.frozen? ⟨b, p, none⟩ = false := Lib.frozen_of_heap k p
theorem Ro.lt (k : Ro W e b n h) : b < W.heap.size := by
  rcases Nat.lt_or_ge b W.heap.size with h' | h'
  · exact h'
  · unfold Ro at k; simp [Array.getElem?_eq_none h'] at k
theorem Ro.next (k : Ro W e b n h) (hb : Below W.heap.size W W') : Ro W' e b n h := (hb.block b k.lt).trans k
theorem Ro.congr (k : Ro W e b n h) {h' : Nat → Value} (hh : ∀ p, p ≤ n → h p = h' p) : Ro W e b n h' := by
  unfold Ro at k ⊢
  rw [k]
  congr 3
  exact List.map_congr_left fun p hp => hh p (by have := List.mem_range.1 hp; omega)
theorem Ro.put (k : Ro W e b n h) (j : Nat) (u : Value) : Ro (W.setCell ⟨b, j, none⟩ u) e b n (fun p => if p = j then u else h p) := by
  unfold Ro at k ⊢
  rw [Go.heap_setCell_same W b j _ e u k]
  congr 2
  rw [List.setIfInBounds_toArray]
  congr 1
  apply List.ext_getElem
  · simp
  · intro i h1 h2
    rw [List.getElem_set, List.getElem_map, List.getElem_map, List.getElem_range]
    by_cases hij : j = i
    · rw [if_pos hij, if_pos hij.symm]
    · rw [if_neg hij, if_neg (fun e => hij e.symm)]
theorem Ro.aside (k : Ro W e b n h) {c : Nat} (hc : b ≠ c) (j : Nat) (u : Value) : Ro (W.setCell ⟨c, j, none⟩ u) e b n h := by
  unfold Ro at k ⊢
  rw [Go.heap_setCell_other W ⟨c, j, none⟩ b u hc]
  exact k
end
section
variable {ops : Array Oper} {rest : List Oper} {o : Oper} {a : Act} {Q : Exit → Act → World → Prop}
theorem make_row (W : World) (e : TypeId) (z : Value) (n : Nat) : Ro (W.alloc (.cells (madeCells #[z] (n + 1)) e)) e W.heap.size n (fun _ => z) := by
  unfold Ro
  rw [heap_alloc_new]
  congr 2
  apply Array.toList_inj.1
  rw [toList_madeCells_one, List.map_const', List.length_range]
/-- 'make([]int, n + 1)'. -/
theorem wpList_makeI (W : World) (hg : o.guard = none) (x y : Operand) (ho : o.op = .makeSlice 52 x y) (N : Int) (n : Nat) (hx : a.eval x = .int .i64 N) (hy : a.eval y = .int .i64 N) (hN : N = ((n + 1 : Nat) : Int)) (hn : n ≤ 1000)
    (h : ∀ w', w'.heap.size = W.heap.size + 1 → Ro w' 3 W.heap.size n (fun _ => .int .i64 0) → Below W.heap.size W w' → wpList Tryz.prog ops Q rest (a.put o.dst (.slice (some ⟨W.heap.size, 0, none⟩) (n + 1) (n + 1))) w') : wpList Tryz.prog ops Q (o :: rest) a W := by
  obtain ⟨i0, hi, hz0, hz1, hz2⟩ := info_parts infoInt
  subst hN
  have hr := run_make (P := Tryz.prog) W 52 3 i0 (.int .i64 0) Tryz.underlying52 hi hz0 .i64 .i64 ((n + 1 : Nat) : Int) ((n + 1 : Nat) : Int) (by omega) (Int.le_refl _) (by rw [hz2]; omega) (by omega)
  rw [hz1, Nat.mul_one, Int.toNat_natCast] at hr
  refine wpList_plain hg fun K hK => ?_
  unfold Oper.wp execOp
  simp only [ho, Sem.run_bind, Sem.run_pure, Result.andThen_ok, hx, hy, hr]
  exact hK _ _ (h _ (by rw [World.size_alloc]) (make_row W _ _ n) ((Below.refl _ _).alloc (Nat.le_refl _) _))
/-- 'make([][]int, n + 1)'. -/
theorem wpList_makeR (W : World) (hg : o.guard = none) (x y : Operand) (ho : o.op = .makeSlice 47 x y) (N : Int) (n : Nat) (hx : a.eval x = .int .i64 N) (hy : a.eval y = .int .i64 N) (hN : N = ((n + 1 : Nat) : Int)) (hn : n ≤ 1000)
    (h : ∀ w', w'.heap.size = W.heap.size + 1 → Ro w' 52 W.heap.size n (fun _ => .slice none 0 0) → Below W.heap.size W w' → wpList Tryz.prog ops Q rest (a.put o.dst (.slice (some ⟨W.heap.size, 0, none⟩) (n + 1) (n + 1))) w') : wpList Tryz.prog ops Q (o :: rest) a W := by
  obtain ⟨i0, hi, hz0, hz1, hz2⟩ := info_parts infoRow
  subst hN
  have hr := run_make (P := Tryz.prog) W 47 52 i0 (.slice none 0 0) Tryz.underlying47 hi hz0 .i64 .i64 ((n + 1 : Nat) : Int) ((n + 1 : Nat) : Int) (by omega) (Int.le_refl _) (by rw [hz2]; omega) (by omega)
  rw [hz1, Nat.mul_one, Int.toNat_natCast] at hr
  refine wpList_plain hg fun K hK => ?_
  unfold Oper.wp execOp
  simp only [ho, Sem.run_bind, Sem.run_pure, Result.andThen_ok, hx, hy, hr]
  exact hK _ _ (h _ (by rw [World.size_alloc]) (make_row W _ _ n) ((Below.refl _ _).alloc (Nat.le_refl _) _))
end
/-- A row's value. -/
def rS (b n : Nat) : Value := .slice (some ⟨b, 0, none⟩) (n + 1) (n + 1)
/-- The first i rows are made, and filled. -/
structure Nn (w W : World) (n i : Nat) : Prop where
  z : W.heap.size = w.heap.size + 1 + i
  row : Ro W 52 w.heap.size n (fun p => if p < i then rS (w.heap.size + 1 + p) n else .slice none 0 0)
  int : ∀ p, p < i → Ro W 3 (w.heap.size + 1 + p) n (fun _ => .int .i64 (-1))
  bel : Below w.heap.size w W
/-- In the i-th row, j cells are filled. -/
structure Nj (w W : World) (n i j : Nat) : Prop where
  z : W.heap.size = w.heap.size + 1 + i + 1
  row : Ro W 52 w.heap.size n (fun p => if p < i + 1 then rS (w.heap.size + 1 + p) n else .slice none 0 0)
  int : ∀ p, p < i → Ro W 3 (w.heap.size + 1 + p) n (fun _ => .int .i64 (-1))
  cur : Ro W 3 (w.heap.size + 1 + i) n (fun q => if q < j then .int .i64 (-1) else .int .i64 0)
  bel : Below w.heap.size w W
theorem Nn.start {w W : World} {n : Nat} (h1 : W.heap.size = w.heap.size + 1) (h2 : Ro W 52 w.heap.size n (fun _ => .slice none 0 0)) (h3 : Below w.heap.size w W) : Nn w W n 0 :=
  ⟨h1, h2.congr fun p _ => by simp, fun p hp => by omega, h3⟩
/-- The i-th row is made and laid in. -/
theorem Nn.made {w W W2 : World} {n i : Nat} (h : Nn w W n i) (hz : W2.heap.size = W.heap.size + 1) (hr : Ro W2 3 W.heap.size n (fun _ => .int .i64 0)) (hb : Below W.heap.size W W2) :
    Nj w (W2.setCell ⟨w.heap.size, i, none⟩ (rS W.heap.size n)) n i 0 := by
  have e := h.z
  refine ⟨by rw [World.size_setCell, hz, e], ?_, fun p hp => ?_, ?_, ?_⟩
  · refine ((h.row.next hb).put i _).congr fun p _ => ?_
    by_cases hp : p = i
    · subst hp; simp [e]
    · rw [if_neg hp]
      by_cases h2 : p < i
      · rw [if_pos h2, if_pos (by omega)]
      · rw [if_neg h2, if_neg (by omega)]
  · exact ((h.int p hp).next hb).aside (by omega) _ _
  · have := hr.aside (c := w.heap.size) (by omega) i (rS W.heap.size n)
    rw [e] at this
    rw [e]
    exact this.congr fun q _ => by simp
  · exact ((h.bel.trans (hb.mono h.bel.size)).setCell (p := ⟨w.heap.size, i, none⟩) (Nat.le_refl _) _)
theorem Nj.step {w W : World} {n i j : Nat} (h : Nj w W n i j) : Nj w (W.setCell ⟨w.heap.size + 1 + i, j, none⟩ (.int .i64 (-1))) n i (j + 1) := by
  refine ⟨by rw [World.size_setCell]; exact h.z, h.row.aside (by omega) _ _, fun p hp => (h.int p hp).aside (by omega) _ _, ?_, h.bel.setCell (p := ⟨w.heap.size + 1 + i, j, none⟩) (by show _ ≤ w.heap.size + 1 + i; omega) _⟩
  refine (h.cur.put j _).congr fun q _ => ?_
  by_cases hq : q = j
  · subst hq; simp
  · rw [if_neg hq]
    by_cases h2 : q < j
    · rw [if_pos h2, if_pos (by omega)]
    · rw [if_neg h2, if_neg (by omega)]
theorem Nj.done {w W : World} {n i : Nat} (h : Nj w W n i (n + 1)) : Nn w W n (i + 1) := by
  refine ⟨h.z, h.row, fun p hp => ?_, h.bel⟩
  by_cases hpi : p = i
  · subst hpi; exact h.cur.congr fun q hq => by rw [if_pos (by omega)]
  · exact h.int p (by omega)
set_option maxHeartbeats 2000000 in
set_option maxRecDepth 100000 in
theorem rnone_any (n : Nat) (w : World) (hn : n ≤ 1000) :
    Calls Tryz.prog 18 #[.int .i64 (n : Int)] w fun e w' => e = .returned (.slice (some ⟨w.heap.size, 0, none⟩) (n + 1) (n + 1)) ∧ Nn w w' n (n + 1) := by
  have hw1 : IntKind.i64.wrap ((n : Int) + 1) = (n : Int) + 1 := by rw [IntKind.wrap_i64]; omega
  generalize hH : w.heap.size = H
  have HH := Lib.hid hH
  go_enter Tryz.func18, Tryz.ntmps18
  go_wp2_with (refine wpList_makeR _ rfl _ _ rfl ((n : Int) + 1) n rfl rfl (by omega) hn ?_; intro w1 hz1 hr1 hb1; rw [hH])
  go_loopw [11, 4, 25, 5] (fun x _ _ _ wr => ∃ i : Nat, x = .int .i64 (i : Int) ∧ i ≤ n + 1 ∧ Nn w wr n i) (fun x _ _ _ _ => n + 1 - (RowKit.intOf x).toNat)
  case atStart => exact ⟨0, rfl, Nat.zero_le _, Nn.start hz1 hr1 hb1⟩
  case round =>
    clear hz1 hr1 hb1
    obtain ⟨i, rfl, hi, hN⟩ := hrel
    by_cases hin : i < n + 1
    · have e := hN.z
      have b1 : (0 : Int) ≤ (i : Int) := by omega
      have b2 : (i : Int) < (n : Int) + 1 := by omega
      have hgz : H + 1 + i = wr.heap.size := by omega
      have HC : Hid (∀ w2, w2.heap.size = wr.heap.size + 1 → Ro w2 3 wr.heap.size n (fun _ => .int .i64 0) → Below wr.heap.size wr w2 →
          w2.cell? ⟨H, i, none⟩ = some (.slice none 0 0) ∧ w2.frozen? ⟨H, i, none⟩ = false ∧ Nj w (w2.setCell ⟨H, i, none⟩ (.slice (some ⟨wr.heap.size, 0, none⟩) (n + 1) (n + 1))) n i 0) := Lib.hid fun w2 h1 h2 h3 => by
        have hr := hN.row.next h3
        rw [hH] at hr
        have c := hr.cell (p := i) (by omega)
        rw [if_neg (by omega)] at c
        have hm := hN.made h1 h2 h3
        rw [hH] at hm
        exact ⟨c, hr.free i, hm⟩
      have HF : Hid (∀ W j, Nj w W n i j → W.cell? ⟨H, i, none⟩ = some (.slice (some ⟨wr.heap.size, 0, none⟩) (n + 1) (n + 1)) ∧ (j ≤ n → (∃ u, W.cell? ⟨wr.heap.size, j, none⟩ = some u) ∧ W.frozen? ⟨wr.heap.size, j, none⟩ = false ∧ Nj w (W.setCell ⟨wr.heap.size, j, none⟩ (.int .i64 (-1))) n i (j + 1))) := Lib.hid fun W j h => by
        have hr := h.row
        rw [hH] at hr
        have c := hr.cell (p := i) (by omega)
        rw [if_pos (by omega)] at c
        unfold rS at c
        rw [hgz] at c
        refine ⟨c, fun hj => ?_⟩
        have hc := h.cur
        have hs := h.step
        rw [hH, hgz] at hc hs
        exact ⟨⟨_, hc.cell hj⟩, hc.free j, hs⟩
      clear e hN
      generalize hg : wr.heap.size = g at *
      have HG := Lib.hid hg
      clear hgz
      go_wp2_with (refine wpList_makeI _ rfl _ _ rfl ((n : Int) + 1) n rfl rfl (by omega) hn ?_; intro w2 hz2 hr2 hb2; rw [hg] at hz2 hr2 hb2 ⊢; obtain ⟨k1, k2, nj⟩ := HC.out w2 hz2 hr2 hb2; have k3 := (HF.out _ _ nj).1)
      go_loopw [25, 5] (fun x _ ws => ∃ j : Nat, x = .int .i64 (j : Int) ∧ j ≤ n + 1 ∧ Nj w ws n i j) (fun x _ _ => n + 1 - (RowKit.intOf x).toNat)
      case atStart => exact ⟨0, rfl, Nat.zero_le _, nj⟩
      case round =>
        clear nj k1 k2 k3 hz2 hr2 hb2
        obtain ⟨j, rfl, hj, hM⟩ := hrel
        obtain ⟨k1, k2⟩ := HF.out _ _ hM
        by_cases hjn : j < n + 1
        · obtain ⟨⟨u, k3⟩, k4, k5⟩ := k2 (by omega)
          have b3 : (0 : Int) ≤ (j : Int) := by omega
          have b4 : (j : Int) < (n : Int) + 1 := by omega
          clear k2
          go_wp2_with fail
          go_roundw
          case rel => exact ⟨j + 1, by go_num, by omega, k5⟩
          case measure => simp [RowKit.intOf]; omega
        · obtain rfl : j = n + 1 := by omega
          clear k2
          go_wp2_with fail
          go_roundw
          case rel => exact ⟨i + 1, by go_num, by omega, hM.done⟩
          case measure => simp [RowKit.intOf]; omega
    · obtain rfl : i = n + 1 := by omega
      go_wp2_with fail
      go_ret
      exact ⟨rfl, hN⟩
end Go.Proofs.YteinaclkpickaaaGreatDoor.Gr
