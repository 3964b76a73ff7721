/- Contracts of the library's Cut and Clone, of route's row, cut and Split. Conditions: as each theorem states. -/
import Derived.Test.YtmlpgfjopkobbaaRouB
import Derived.Test.YtmlpgfjopkobbaaShelf
namespace Go.Proofs.Ytmlpgfjopkobbaa.Rou
open Go.RowKit Go.Lib Go.Proofs.Ytmlpgfjopkobbaa.Byt

theorem below_drewN {B n : Nat} {w W : World} (h : Below B w W) : Below B w (W.drewN n) := ⟨h.os, h.tape, h.output, h.size, h.block⟩
def mk (l : List UInt8) : ByteArray := ⟨l.toArray⟩
theorem mk_data (x : ByteArray) : mk x.data.toList = x := by cases x; simp [mk]
theorem dt_mk (l : List UInt8) : (mk l).data.toList = l := by simp [mk]
theorem sz_mk (l : List UInt8) : (mk l).size = l.length := by show (List.toArray _).size = _; simp
theorem len_dt (s : ByteArray) : s.data.toList.length = s.size := by simp
theorem cut_lo {s : ByteArray} {a b : List UInt8} (h : s.data.toList = a ++ 47 :: b) : cutB s 0 a.length = mk a := by
  unfold cutB mk
  rw [h]; simp
theorem cut_hi {s : ByteArray} {a b : List UInt8} (h : s.data.toList = a ++ 47 :: b) : cutB s (a.length + 1) b.length = mk b := by
  unfold cutB mk
  rw [h]; simp

/-! ### Cut, Clone -/
theorem lcut_no (s : ByteArray) (h : (47 : UInt8) ∉ s.data.toList) (w : World) :
    Calls Try.prog 41 #[.string s, .string ⟨#[47]⟩] w fun e w' => e = .returned (.tuple #[.string s, .string ⟨#[]⟩, .bool false]) ∧ ∃ n, w' = w.drewN n := by
  have HI := Lib.hid fun W => Try.stringslite_Index_one s 47 W
  rw [ix_none _ h] at HI
  clear h
  go_enter Try.func41, Try.ntmps41
  go_wp2_with (go_at_call 44; (with_reducible refine (HI.out _).mono ?_); rintro e w1 ⟨rfl, rfl⟩)
  go_ret3
  exact ⟨rfl, 0, rfl⟩
theorem lcut_yes (s : ByteArray) (hs : s.size ≤ 281474976710656) (a b : List UInt8) (h : s.data.toList = a ++ 47 :: b) (ha : (47 : UInt8) ∉ a) (w : World) :
    Calls Try.prog 41 #[.string s, .string ⟨#[47]⟩] w fun e w' => e = .returned (.tuple #[.string (mk a), .string (mk b), .bool true]) ∧ ∃ n, w' = w.drewN n := by
  have HI := Lib.hid fun W => Try.stringslite_Index_one s 47 W
  have hsz : a.length + 1 + b.length = s.size := by rw [← len_dt, h]; simp; omega
  have c1 := fun W => sl_to s a.length (by omega) W
  have c2 := fun W => sl_from s (a.length + 1) b.length hsz W
  rw [cut_lo h] at c1
  rw [cut_hi h] at c2
  rw [h, ix_some a b ha] at HI
  have e1 : ((a.length + 1 : Nat) : Int) = (a.length : Int) + 1 := by omega
  rw [e1] at c2
  clear h ha e1
  generalize mk a = x at *
  generalize mk b = y at *
  generalize a.length = n at *
  generalize b.length = m at *
  have ew : IntKind.i64.wrap ((n : Int) + 1) = (n : Int) + 1 := by rw [IntKind.wrap_i64]; omega
  go_enter Try.func41, Try.ntmps41
  go_wp2_with (go_at_call 44; (with_reducible refine (HI.out _).mono ?_); rintro e w1 ⟨rfl, rfl⟩)
  go_region
  all_goals
    go_wp2_with fail
    go_ret3
    exact ⟨rfl, 1, rfl⟩
theorem scut_no (s : ByteArray) (h : (47 : UInt8) ∉ s.data.toList) (w : World) :
    Calls Try.prog 30 #[.string s, .string ⟨#[47]⟩] w fun e w' => e = .returned (.tuple #[.string s, .string ⟨#[]⟩, .bool false]) ∧ ∃ n, w' = w.drewN n := by
  have HI := Lib.hid fun W => lcut_no s h W
  go_enter Try.func30, Try.ntmps30
  go_wp2_with (go_at_call 41; (with_reducible refine (HI.out _).mono ?_); rintro e w1 ⟨rfl, n, rfl⟩)
  go_ret3
  exact ⟨rfl, n, rfl⟩
theorem scut_yes (s : ByteArray) (hs : s.size ≤ 281474976710656) (a b : List UInt8) (h : s.data.toList = a ++ 47 :: b) (ha : (47 : UInt8) ∉ a) (w : World) :
    Calls Try.prog 30 #[.string s, .string ⟨#[47]⟩] w fun e w' => e = .returned (.tuple #[.string (mk a), .string (mk b), .bool true]) ∧ ∃ n, w' = w.drewN n := by
  have HI := Lib.hid fun W => lcut_yes s hs a b h ha W
  clear h ha
  generalize mk a = x at *
  generalize mk b = y at *
  go_enter Try.func30, Try.ntmps30
  go_wp2_with (go_at_call 41; (with_reducible refine (HI.out _).mono ?_); rintro e w1 ⟨rfl, n, rfl⟩)
  go_ret3
  exact ⟨rfl, n, rfl⟩
theorem clone_str (s : ByteArray) (w : World) (hs : s.size ≤ 281474976710656) :
    Calls Try.prog 20 #[.string s] w fun e w' => e = .returned (.string s) ∧ Below w.heap.size w w' := by
  go_enter Try.func20, Try.ntmps20
  go_wp2_with (go_at_call 31; refine (Try.stringslite_Clone _ _ hs).mono ?_; rintro e w' ⟨rfl, hb⟩)
  go_ret
  exact ⟨rfl, hb⟩

/-! ### row -/
def rowB (s : ByteArray) : Bool := row s.data.toList
theorem rowB_is (s : ByteArray) : rowB s = (decide (s.size ≤ 255) && (Lib.hasPrefix s.data.toList [47] && decide (Lib.countByte s.data.toList 47 ≤ 32))) := by
  unfold rowB
  rw [← len_dt]
  cases s.data.toList with
  | nil => rfl
  | cons c l =>
    have hp : Lib.hasPrefix (c :: l) [47] = decide (c = 47) := by
      show ([47] : List UInt8).isPrefixOf (c :: l) = _
      show ((47 : UInt8) == c && List.isPrefixOf [] l) = _
      rw [Bool.eq_iff_iff, Bool.and_eq_true, beq_iff_eq, decide_eq_true_eq]
      constructor
      · rintro ⟨h, _⟩; exact h.symm
      · intro h; exact ⟨h.symm, by cases l <;> rfl⟩
    rw [hp]
    by_cases hc : c = 47
    · subst hc
      rw [Bool.eq_iff_iff]
      simp only [row, Lib.countByte, Bool.and_eq_true, decide_eq_true_eq, List.length_cons, List.count_cons_self, true_and]
      omega
    · show (decide (c = 47) && decide (l.length ≤ 254) && decide (List.count 47 l ≤ 31)) = _
      rw [decide_eq_false hc]; simp only [Bool.false_and, Bool.and_false]
theorem row_any (s : ByteArray) (w : World) (hs : s.size ≤ 140737488355328) : Calls Try.prog 18 #[.string s] w fun e w' => e = .returned (.bool (rowB s)) ∧ w = w' := by
  rw [rowB_is]
  have HP := Lib.hid fun W => Try.strings_HasPrefix s ⟨#[47]⟩ W
  have HC := Lib.hid fun W => Try.strings_Count_one s 47 W
  change Hid (∀ W, Calls Try.prog 28 #[.string s, .string ⟨#[47]⟩] W fun e w' => e = .returned (.bool (Lib.hasPrefix s.data.toList [47])) ∧ w' = W) at HP
  have e1 : decide ((s.size : Int) ≤ 255) = decide (s.size ≤ 255) := by rw [Bool.eq_iff_iff, decide_eq_true_eq, decide_eq_true_eq]; omega
  have e2 : decide (((Lib.countByte s.data.toList 47 : Nat) : Int) ≤ 32) = decide (Lib.countByte s.data.toList 47 ≤ 32) := by rw [Bool.eq_iff_iff, decide_eq_true_eq, decide_eq_true_eq]; omega
  have e3 : decide (s.size ≤ 255) = decide (s.size ≤ 255) := rfl
  generalize Lib.countByte s.data.toList 47 = m at *
  generalize Lib.hasPrefix s.data.toList [47] = bp at *
  generalize hb1 : decide (s.size ≤ 255) = b1 at *
  generalize hb2 : decide (m ≤ 32) = b2 at *
  clear e3
  cases b1 <;> cases bp <;> cases b2
  all_goals
    go_enter Try.func18, Try.ntmps18
    go_wp2_with (first
      | (go_at_call 28; (with_reducible refine (HP.out _).mono ?_); rintro e w1 ⟨rfl, rfl⟩)
      | (go_at_call 29; (with_reducible refine (HC.out _).mono ?_); rintro e w1 ⟨rfl, rfl⟩))
    go_ret
    exact ⟨rfl, rfl⟩
end Go.Proofs.Ytmlpgfjopkobbaa.Rou
