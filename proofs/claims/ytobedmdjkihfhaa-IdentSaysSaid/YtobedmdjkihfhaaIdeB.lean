/- Contracts of slices.BinarySearch at texts, of ident's Find and Rising, and of the document's. Conditions: as each theorem states. -/
import Derived.Test.YtobedmdjkihfhaaIdeMath
import Derived.Test.YtobedmdjkihfhaaRowsA
import Derived.Laws.Cover1
import Derived.Deep.QuietTactic
import Derived.BigQuiet
import Derived.Handy
namespace Go.Proofs.Ytobedmdjkihfhaa.Ide
open Go.RowKit Go.Lib Go.Proofs.Ytobedmdjkihfhaa.Byt

theorem cnan_any (s : ByteArray) (w : World) : Calls Try.prog 22 #[.string s] w fun e w' => e = .returned (.bool false) ∧ w = w' := by
  go_enter Try.func22, Try.ntmps22
  go_wp2_with fail
  go_ret
  exact ⟨by simp, rfl⟩
theorem snan_any (s : ByteArray) (w : World) : Calls Try.prog 21 #[.string s] w fun e w' => e = .returned (.bool false) ∧ w = w' := by
  go_enter Try.func21, Try.ntmps21
  go_wp2_with fail
  go_ret
  exact ⟨by simp, rfl⟩
theorem less_any (a b : ByteArray) (w : World) : Calls Try.prog 20 #[.string a, .string b] w fun e w' => e = .returned (.bool (lt a b)) ∧ w = w' := by
  have hn := cnan_any
  obtain ⟨R, hR⟩ : ∃ R, lt a b = R := ⟨_, rfl⟩
  have h1 : Op.bytesLess a.toList b.toList = R := hR
  rw [hR]
  clear hR
  go_enter Try.func20, Try.ntmps20
  go_wp2_with (go_at_call 22; refine (hn _ _).mono ?_; rintro e w1 ⟨rfl, rfl⟩)
  go_ret
  exact ⟨rfl, rfl⟩

/-- In a row that is less than s up to k and not behind it. -/
structure Hd (l : List ByteArray) (s : ByteArray) (k : Nat) : Prop where
  le : k ≤ l.length
  low : ∀ t, t < k → lt (ga l t) s = true
  high : ∀ t, k ≤ t → t < l.length → lt (ga l t) s = false
set_option maxHeartbeats 4000000 in
set_option maxRecDepth 100000 in
theorem search_any (l : List ByteArray) (v : Value) (s : ByteArray) (k : Nat) (hk : Hd l s k) (w : World) (hr : Strs.Row w v l) (hl : l.length ≤ 4611686018427387904) :
    Calls Try.prog 19 #[v, .string s] w fun e w' =>
      e = .returned (.tuple #[.int .i64 (k : Int), .bool (decide (k < l.length ∧ ga l k = s))]) ∧ Below w.heap.size w w' := by
  obtain ⟨a, cap, rfl, hc⟩ := hr.open_
  have HC := Lib.hid hc
  have HK := Lib.hid hk
  have hkl := hk.le
  have HN := Lib.hid snan_any
  have HL := Lib.hid fun x w => less_any x s w
  obtain ⟨R, hR⟩ : ∃ R, decide (k < l.length ∧ ga l k = s) = R := ⟨_, rfl⟩
  have HR := Lib.hid hR
  rw [hR]
  clear hc hr hR hk
  go_enter Try.func19, Try.ntmps19
  go_wp2_with fail
  go_loopw [7, 8] (fun x y wr => ∃ lo hi : Nat, x = .int .i64 (lo : Int) ∧ y = .int .i64 (hi : Int) ∧ lo ≤ k ∧ k ≤ hi ∧ hi ≤ l.length ∧ Below w.heap.size w wr) (fun x y _ => (RowKit.intOf y).toNat - (RowKit.intOf x).toNat)
  case atStart => exact ⟨0, l.length, by go_num, rfl, Nat.zero_le _, hkl, Nat.le_refl _, Below.refl _ _⟩
  case round =>
    obtain ⟨lo, hi, rfl, rfl, hlo, hhi, hle, hb⟩ := hrel
    by_cases hlt : lo < hi
    · have hmid : (lo + hi) / 2 < hi := by omega
      have hmid2 : lo ≤ (lo + hi) / 2 := by omega
      obtain ⟨b, off, rfl, hcell⟩ := HC.out ((lo + hi) / 2) (by omega)
      have hcell2 := (hb.cell (Strs.cell_lt hcell)).trans hcell
      have e1 : ((lo : Int) + (hi : Int)) / 2 = (((lo + hi) / 2 : Nat) : Int) := by omega
      have HG := Lib.hid (show (lt (ga l ((lo + hi) / 2)) s = true → (lo + hi) / 2 < k) ∧ (lt (ga l ((lo + hi) / 2)) s = false → k ≤ (lo + hi) / 2) from by
        constructor
        · intro h
          rcases Nat.lt_or_ge ((lo + hi) / 2) k with q | q
          · exact q
          · rw [HK.out.high _ q (by omega)] at h; cases h
        · intro h
          rcases Nat.lt_or_ge ((lo + hi) / 2) k with q | q
          · rw [HK.out.low _ q] at h; cases h
          · exact q)
      change _ = some (Value.string (ga l ((lo + hi) / 2))) at hcell2
      clear hcell
      have HX := Lib.hid fun w => HL.out (ga l ((lo + hi) / 2)) w
      generalize hm : (lo + hi) / 2 = m at *
      generalize ga l m = x at *
      cases hx : lt x s with
      | true =>
        rw [hx] at HX
        have hmk := HG.out.1 hx
        clear HG hx
        go_wp2_with (go_at_call 20; refine (HX.out _).mono ?_; rintro e w1 ⟨rfl, rfl⟩)
        go_roundw
        case rel => exact ⟨m + 1, hi, by go_num, rfl, by omega, hhi, hle, by first | exact hb | exact hb.drew⟩
        case measure => simp [RowKit.intOf]; omega
      | false =>
        rw [hx] at HX
        have hmk := HG.out.2 hx
        clear HG hx
        go_wp2_with (go_at_call 20; refine (HX.out _).mono ?_; rintro e w1 ⟨rfl, rfl⟩)
        go_roundw
        case rel => exact ⟨lo, m, rfl, by go_num, hlo, by omega, by omega, by first | exact hb | exact hb.drew⟩
        case measure => simp [RowKit.intOf]; omega
    · obtain rfl : lo = k := by omega
      obtain rfl : hi = lo := by omega
      by_cases hn : hi < l.length
      · obtain ⟨b, off, rfl, hcell⟩ := HC.out hi hn
        have hcell2 := (hb.cell (Strs.cell_lt hcell)).trans hcell
        change _ = some (Value.string (ga l hi)) at hcell2
        clear hcell
        by_cases hx : ga l hi = s
        · obtain rfl : R = true := by rw [← HR.out]; exact decide_eq_true ⟨hn, hx⟩
          rw [hx] at hcell2
          have e1 : (s.toList == s.toList) = true := beq_self_eq_true _
          clear hx HR HL
          go_wp2_with (go_at_call 21; refine (HN.out _ _).mono ?_; rintro e w1 ⟨rfl, rfl⟩)
          go_ret2
          exact ⟨rfl, by first | exact hb | exact hb.drew⟩
        · obtain rfl : R = false := by rw [← HR.out]; exact decide_eq_false fun q => hx q.2
          generalize ga l hi = x at *
          have e1 : (x.toList == s.toList) = false := Byt.str_neq hx
          go_wp2_with (go_at_call 21; refine (HN.out _ _).mono ?_; rintro e w1 ⟨rfl, rfl⟩)
          go_ret2
          exact ⟨rfl, by first | exact hb | exact hb.drew⟩
      · obtain rfl : R = false := by rw [← HR.out]; exact decide_eq_false fun q => hn q.1
        go_wp2_with (go_at_call 21; refine (HN.out _ _).mono ?_; rintro e w1 ⟨rfl, rfl⟩)
        go_ret2
        exact ⟨rfl, by first | exact hb | exact hb.drew⟩

theorem hd_of {l : List ByteArray} (h : rs l < 0) (s : ByteArray) : Hd l s (fn l s) := ⟨fn_le l s, (fn_head h s).1, (fn_head h s).2⟩
theorem find_any (l : List ByteArray) (v : Value) (s : ByteArray) (h : rs l < 0) (w : World) (hr : Strs.Row w v l) (hl : l.length ≤ 4611686018427387904) :
    Calls Try.prog 14 #[v, .string s] w fun e w' => e = .returned (.tuple #[.int .i64 (fn l s : Int), .bool (fi l s)]) ∧ Below w.heap.size w w' := by
  have HS := Lib.hid (search_any l v s (fn l s) (hd_of h s) w hr hl)
  change Hid (Calls Try.prog _ _ w fun e w' => e = .returned (.tuple #[.int .i64 (fn l s : Int), .bool (fi l s)]) ∧ _) at HS
  clear hr h
  generalize fn l s = k at *
  generalize fi l s = b at *
  go_enter Try.func14, Try.ntmps14
  go_wp2_with (go_at_call 19; refine HS.out.mono ?_; rintro e w1 ⟨rfl, hb1⟩)
  go_ret2
  exact ⟨rfl, hb1⟩

set_option maxHeartbeats 4000000 in
set_option maxRecDepth 100000 in
theorem rfind_any (l : List ByteArray) (v : Value) (s : ByteArray) (w : World) (hr : Strs.Row w v l) (hl : l.length ≤ 4611686018427387904) :
    Calls Try.prog 15 #[v, .string s] w fun e w' => e = .returned (.tuple #[.int .i64 (fn l s : Int), .bool (fi l s)]) ∧ Below w.heap.size w w' := by
  obtain ⟨a, cap, rfl, hc⟩ := hr.open_
  have HC := Lib.hid hc
  have hkl := fn_le l s
  have HB := Lib.hid (fun j (h : j < fn l s) => fn_below h)
  have HA := Lib.hid (fun (h : fn l s < l.length) => fn_at h)
  obtain ⟨R, hR⟩ : ∃ R, fi l s = R := ⟨_, rfl⟩
  have HR := Lib.hid (show decide (fn l s < l.length ∧ ga l (fn l s) = s) = R from hR)
  rw [hR]
  generalize fn l s = k at *
  clear hc hr hR
  go_enter Try.func15, Try.ntmps15
  go_wp2_with fail
  go_loopw [6] (fun x wr => ∃ i : Nat, x = .int .i64 (i : Int) ∧ i ≤ k ∧ Below w.heap.size w wr) (fun x _ => k - (RowKit.intOf x).toNat)
  case atStart => exact ⟨0, by go_num, Nat.zero_le _, Below.refl _ _⟩
  case round =>
    obtain ⟨i, rfl, hik, hb⟩ := hrel
    by_cases hlt : i < k
    · obtain ⟨b, off, rfl, hcell⟩ := HC.out i (by omega)
      have hcell2 := (hb.cell (Strs.cell_lt hcell)).trans hcell
      change _ = some (Value.string (ga l i)) at hcell2
      clear hcell
      have hx := HB.out i hlt
      have i1 : i < l.length := by omega
      generalize ga l i = x at *
      have h1 : Op.bytesLess x.toList s.toList = true := hx
      clear hx
      go_wp2_with fail
      go_roundw
      case rel => exact ⟨i + 1, by go_num, by omega, by first | exact hb | exact hb.drew⟩
      case measure => simp [RowKit.intOf]; omega
    · obtain rfl : i = k := by omega
      by_cases hn : i < l.length
      · obtain ⟨b, off, rfl, hcell⟩ := HC.out i hn
        have hcell2 := (hb.cell (Strs.cell_lt hcell)).trans hcell
        change _ = some (Value.string (ga l i)) at hcell2
        clear hcell
        have hx := HA.out hn
        have HQ := Lib.hid (show decide (ga l i = s) = R from by rw [← HR.out, Bool.eq_iff_iff, decide_eq_true_eq, decide_eq_true_eq]; exact ⟨fun q => ⟨hn, q⟩, fun q => q.2⟩)
        generalize ga l i = x at *
        have h1 : Op.bytesLess x.toList s.toList = false := hx
        clear hx HR
        by_cases he : x = s
        · obtain rfl : R = true := by rw [← HQ.out]; exact decide_eq_true he
          subst he
          have e1 : (x.toList == x.toList) = true := beq_self_eq_true _
          clear HQ
          go_wp2_with fail
          go_region
          go_wp2_with fail
          go_ret2
          exact ⟨rfl, by first | exact hb | exact hb.drew⟩
        · obtain rfl : R = false := by rw [← HQ.out]; exact decide_eq_false he
          have e1 : (x.toList == s.toList) = false := Byt.str_neq he
          clear HQ
          go_wp2_with fail
          go_region
          go_wp2_with fail
          go_ret2
          exact ⟨rfl, by first | exact hb | exact hb.drew⟩
      · obtain rfl : R = false := by rw [← HR.out]; exact decide_eq_false fun q => hn q.1
        clear HR
        go_wp2_with fail
        go_region
        go_wp2_with fail
        go_ret2
        exact ⟨rfl, by first | exact hb | exact hb.drew⟩

/-! ### Rising -/
theorem rs_end {l : List ByteArray} (h : ∀ j, 1 ≤ j → j < l.length → lt (ga l (j - 1)) (ga l j) = true) : rs l = -1 := by
  refine fst_none fun j hj => ?_
  unfold rsAt
  by_cases h1 : 1 ≤ j
  · rw [h j h1 hj]; simp
  · rw [decide_eq_false h1]; rfl
theorem rs_at {l : List ByteArray} {k : Nat} (h1 : 1 ≤ k) (hk : k < l.length) (h : ∀ j, 1 ≤ j → j < k → lt (ga l (j - 1)) (ga l j) = true) (hn : lt (ga l (k - 1)) (ga l k) = false) : rs l = k := by
  refine fst_at hk ?_ fun j hj => ?_
  · unfold rsAt
    rw [hn, decide_eq_true h1]; rfl
  · unfold rsAt
    by_cases h2 : 1 ≤ j
    · rw [h j h2 hj]; simp
    · rw [decide_eq_false h2]; rfl
set_option maxHeartbeats 4000000 in
set_option maxRecDepth 100000 in
theorem rising_any (l : List ByteArray) (v : Value) (w : World) (hr : Strs.Row w v l) (hl : l.length ≤ 4611686018427387904) :
    Calls Try.prog 12 #[v] w fun e w' => e = .returned (.int .i64 (rs l)) ∧ Below w.heap.size w w' := by
  obtain ⟨a, cap, rfl, hc⟩ := hr.open_
  have HC := Lib.hid hc
  obtain ⟨R, hR⟩ : ∃ R, rs l = R := ⟨_, rfl⟩
  have HE := Lib.hid (rs_end (l := l))
  have HA := Lib.hid fun k => rs_at (l := l) (k := k)
  rw [hR] at HE HA
  rw [hR]
  clear hc hr hR
  go_enter Try.func12, Try.ntmps12
  go_wp2_with fail
  go_loopw [3] (fun x wr => ∃ i : Nat, x = .int .i64 (i : Int) ∧ 1 ≤ i ∧ (i ≤ l.length ∨ i = 1) ∧ Hid (∀ j, 1 ≤ j → j < i → lt (ga l (j - 1)) (ga l j) = true) ∧ Hid (Below w.heap.size w wr)) (fun x _ => l.length - (RowKit.intOf x).toNat)
  case atStart => exact ⟨1, by go_num, Nat.le_refl _, .inr rfl, Lib.hid fun j h1 h2 => by omega, Lib.hid (Below.refl _ _)⟩
  case round =>
    obtain ⟨i, rfl, hi1, hi, HI, HB⟩ := hrel
    by_cases hlt : i < l.length
    · obtain ⟨b, off, rfl, f1⟩ := HC.out i hlt
      obtain ⟨b', off', e', f2⟩ := HC.out (i - 1) (by omega)
      obtain ⟨rfl, rfl⟩ : b = b' ∧ off = off' := by injection e' with e'; injection e' with q1 q2; exact ⟨q1, q2⟩
      have h1 := (HB.out.cell (Strs.cell_lt f1)).trans f1
      have h2 := (HB.out.cell (Strs.cell_lt f2)).trans f2
      change _ = some (Value.string (ga l i)) at h1
      change _ = some (Value.string (ga l (i - 1))) at h2
      have HQ := Lib.hid (HA.out i hi1 hlt HI.out)
      have HN := Lib.hid (show lt (ga l (i - 1)) (ga l i) = true → ∀ j, 1 ≤ j → j < i + 1 → lt (ga l (j - 1)) (ga l j) = true from fun h j hj1 hj2 => by
        by_cases q : j < i
        · exact HI.out j hj1 q
        · obtain rfl : j = i := by omega
          exact h)
      clear f1 f2 e' HE HA HI
      generalize ga l i = x at *
      generalize ga l (i - 1) = y at *
      have hle := le_is x y
      obtain ⟨m, rfl⟩ : ∃ m, i = m + 1 := ⟨i - 1, by omega⟩
      have e1 : ((m + 1 : Nat) : Int) - 1 = (m : Int) := by omega
      have e2 : off + (m + 1 - 1) = off + m := by omega
      rw [e2] at h2
      have i1 : ((m + 1 : Nat) : Int) < (l.length : Int) := by omega
      have i2 : (m : Int) < (l.length : Int) := by omega
      cases hx : lt y x with
      | true =>
        rw [hx] at hle
        have HN2 := Lib.hid (HN.out hx)
        clear HN HQ hx
        go_wp2_with fail
        go_region
        go_wp2_with fail
        go_roundw
        case rel => exact ⟨m + 1 + 1, by go_num, by omega, .inl (by omega), HN2, Lib.hid (by first | exact HB.out | exact HB.out.drew)⟩
        case measure => simp [RowKit.intOf]; omega
      | false =>
        rw [hx] at hle
        obtain rfl := HQ.out hx
        clear HN HQ hx
        go_wp2_with fail
        go_region
        go_wp2_with fail
        go_ret
        exact ⟨rfl, by first | exact HB.out | exact HB.out.drew⟩
    · obtain rfl : R = -1 := HE.out fun j h1 h2 => HI.out j h1 (by omega)
      go_wp2_with fail
      go_ret
      exact ⟨rfl, HB.out⟩
set_option maxHeartbeats 4000000 in
set_option maxRecDepth 100000 in
theorem rrising_any (l : List ByteArray) (v : Value) (w : World) (hr : Strs.Row w v l) (hl : l.length ≤ 4611686018427387904) :
    Calls Try.prog 13 #[v] w fun e w' => e = .returned (.int .i64 (rs l)) ∧ Below w.heap.size w w' := by
  obtain ⟨a, cap, rfl, hc⟩ := hr.open_
  have HC := Lib.hid hc
  obtain ⟨R, hR⟩ : ∃ R, rs l = R := ⟨_, rfl⟩
  have HE := Lib.hid (rs_end (l := l))
  have HA := Lib.hid fun k => rs_at (l := l) (k := k)
  rw [hR] at HE HA
  rw [hR]
  clear hc hr hR
  go_enter Try.func13, Try.ntmps13
  go_wp2_with fail
  go_loopw [3] (fun x wr => ∃ i : Nat, x = .int .i64 (i : Int) ∧ 1 ≤ i ∧ (i ≤ l.length ∨ i = 1) ∧ Hid (∀ j, 1 ≤ j → j < i → lt (ga l (j - 1)) (ga l j) = true) ∧ Hid (Below w.heap.size w wr)) (fun x _ => l.length - (RowKit.intOf x).toNat)
  case atStart => exact ⟨1, by go_num, Nat.le_refl _, .inr rfl, Lib.hid fun j h1 h2 => by omega, Lib.hid (Below.refl _ _)⟩
  case round =>
    obtain ⟨i, rfl, hi1, hi, HI, HB⟩ := hrel
    by_cases hlt : i < l.length
    · obtain ⟨b, off, rfl, f1⟩ := HC.out i hlt
      obtain ⟨b', off', e', f2⟩ := HC.out (i - 1) (by omega)
      obtain ⟨rfl, rfl⟩ : b = b' ∧ off = off' := by injection e' with e'; injection e' with q1 q2; exact ⟨q1, q2⟩
      have h1 := (HB.out.cell (Strs.cell_lt f1)).trans f1
      have h2 := (HB.out.cell (Strs.cell_lt f2)).trans f2
      change _ = some (Value.string (ga l i)) at h1
      change _ = some (Value.string (ga l (i - 1))) at h2
      have HQ := Lib.hid (HA.out i hi1 hlt HI.out)
      have HN := Lib.hid (show lt (ga l (i - 1)) (ga l i) = true → ∀ j, 1 ≤ j → j < i + 1 → lt (ga l (j - 1)) (ga l j) = true from fun h j hj1 hj2 => by
        by_cases q : j < i
        · exact HI.out j hj1 q
        · obtain rfl : j = i := by omega
          exact h)
      clear f1 f2 e' HE HA HI
      generalize ga l i = x at *
      generalize ga l (i - 1) = y at *
      have hle := le_is x y
      obtain ⟨m, rfl⟩ : ∃ m, i = m + 1 := ⟨i - 1, by omega⟩
      have e1 : ((m + 1 : Nat) : Int) - 1 = (m : Int) := by omega
      have e2 : off + (m + 1 - 1) = off + m := by omega
      rw [e2] at h2
      have i1 : ((m + 1 : Nat) : Int) < (l.length : Int) := by omega
      have i2 : (m : Int) < (l.length : Int) := by omega
      cases hx : lt y x with
      | true =>
        rw [hx] at hle
        have HN2 := Lib.hid (HN.out hx)
        clear HN HQ hx
        go_wp2_with fail
        go_region
        go_wp2_with fail
        go_roundw
        case rel => exact ⟨m + 1 + 1, by go_num, by omega, .inl (by omega), HN2, Lib.hid (by first | exact HB.out | exact HB.out.drew)⟩
        case measure => simp [RowKit.intOf]; omega
      | false =>
        rw [hx] at hle
        obtain rfl := HQ.out hx
        clear HN HQ hx
        go_wp2_with fail
        go_region
        go_wp2_with fail
        go_ret
        exact ⟨rfl, by first | exact HB.out | exact HB.out.drew⟩
    · obtain rfl : R = -1 := HE.out fun j h1 h2 => HI.out j h1 (by omega)
      go_wp2_with fail
      go_ret
      exact ⟨rfl, HB.out⟩
end Go.Proofs.Ytobedmdjkihfhaa.Ide
