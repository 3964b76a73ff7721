/- Contracts of rule's within, Kind, KindOf, a field's check. Conditions: the table of kinds' names reads as the program lays it. -/
import Derived.Test.YtaiafhepeleefaaDoorPlainB
import Derived.Test.YtaiafhepeleefaaDoorSatB
import Derived.Lib.Hide
import Derived.Laws.Cover1
namespace Go.Proofs.YtaiafhepeleefaaDoor.Rul
open Go.RowKit Go.Lib

/-- The table of kinds' names reads as the program lays it. -/
def Tab (w : World) : Prop := ∀ u : Nat, u < 4 → w.cell? ⟨0, u, none⟩ = some (.string (kB u))
theorem Tab.next {w W : World} (h : Tab w) (hb : Below w.heap.size w W) : Tab W := fun u hu => by
  have hc := h u hu
  have hlt : 0 < w.heap.size := by
    rcases Nat.lt_or_ge 0 w.heap.size with h' | h'
    · exact h'
    · simp [World.cell?, Array.getElem?_eq_none h'] at hc
  exact (hb.cell (p := ⟨_, u, none⟩) hlt).trans hc
theorem str_ne {a b : ByteArray} (h : a ≠ b) : (a.toList == b.toList) = false := by
  rw [beq_eq_false_iff_ne]
  rcases a with ⟨⟨l⟩⟩
  rcases b with ⟨⟨m⟩⟩
  rw [show (⟨⟨l⟩⟩ : ByteArray).toList = l from ByteArray.toList_mk l, show (⟨⟨m⟩⟩ : ByteArray).toList = m from ByteArray.toList_mk m]
  exact fun q => h (by rw [q])

/-- n is from lo to hi. -/
def isIn (n lo hi : Int) : Bool := decide (lo ≤ n) && decide (n ≤ hi)
theorem within_any (n lo hi : Int) (w : World) : Calls Tryd.prog 27 #[.int .i64 n, .int .i64 lo, .int .i64 hi] w fun e w' => e = .returned (.bool (isIn n lo hi)) ∧ w = w' := by
  unfold isIn
  by_cases h1 : lo ≤ n
  all_goals by_cases h2 : n ≤ hi
  all_goals
    go_enter Tryd.func27, Tryd.ntmps27
    go_wp2
    go_ret
    exact ⟨by simp [h1, h2], rfl⟩

theorem kind_any (k : Int) (w : World) (hT : Tab w) : Calls Tryd.prog 12 #[.int .i64 k] w fun e w' => e = .returned (.string (kB k)) ∧ w = w' := by
  by_cases h1 : k < 1
  · rw [(kB_none k).2 (by omega)]
    go_enter Tryd.func12, Tryd.ntmps12
    go_wp2
    go_ret
    exact ⟨rfl, rfl⟩
  by_cases h2 : 3 < k
  · rw [(kB_none k).2 (by omega)]
    go_enter Tryd.func12, Tryd.ntmps12
    go_wp2
    go_ret
    exact ⟨rfl, rfl⟩
  obtain ⟨u, rfl⟩ := Int.eq_ofNat_of_zero_le (show 0 ≤ k by omega)
  have hc := hT u (by omega)
  have hu : u < 4 := by omega
  clear hT
  generalize kB (u : Int) = z at *
  go_enter Tryd.func12, Tryd.ntmps12
  go_wp2
  go_ret
  exact ⟨rfl, rfl⟩

/-- A name of the table, taken by value. -/
theorem index_at (w : World) (m : Int) (h : 0 ≤ m) (h4 : m < 4) :
    Sem.run Tryd.prog (Instr.index 46 (.agg #[.string (kB 0), .string (kB 1), .string (kB 2), .string (kB 3)]) (.int .i64 m)) w = .ok (.string (kB m)) w := by
  obtain rfl | rfl | rfl | rfl : m = 0 ∨ m = 1 ∨ m = 2 ∨ m = 3 := by omega
  · rfl
  · rfl
  · rfl
  · rfl
theorem kb_next {m : Int} {s : ByteArray} (h : ∀ k : Nat, (k : Int) < m → kB k ≠ s) (hm : kB m ≠ s) : ∀ k : Nat, (k : Int) < m + 1 → kB k ≠ s := fun k hk => by
  by_cases e : (k : Int) < m
  · exact h k e
  · obtain e2 : (k : Int) = m := by omega
    rw [e2]; exact hm
theorem kO_in {m : Int} (h : 0 ≤ m) (h4 : m < 4) : kO (kB m) = m := by
  obtain ⟨k, rfl⟩ := Int.eq_ofNat_of_zero_le h
  exact kO_at (by omega)

theorem kindof_any (s : ByteArray) (w : World) (hT : Tab w) :
    Calls Tryd.prog 14 #[.string s] w fun e w' => e = .returned (.int .i64 (kO s)) ∧ w = w' := by
  have c0 : w.cell? ⟨0, 0, none⟩ = some (.string (kB 0)) := hT 0 (by omega)
  have c1 : w.cell? ⟨0, 1, none⟩ = some (.string (kB 1)) := hT 1 (by omega)
  have c2 : w.cell? ⟨0, 2, none⟩ = some (.string (kB 2)) := hT 2 (by omega)
  have c3 : w.cell? ⟨0, 3, none⟩ = some (.string (kB 3)) := hT 3 (by omega)
  clear hT
  have HX := Lib.hid index_at
  obtain ⟨nm, hnm⟩ : ∃ nm, nm = kB := ⟨_, rfl⟩
  have PI := Lib.hid fun (m : Int) (h : 0 ≤ m) (h4 : m < 4) => kO_in h h4
  have PN := Lib.hid fun (h : ∀ k : Nat, 1 ≤ k → k < 4 → kB k ≠ s) => kO_no h
  have HN0 := Lib.hid fun (m : Int) (h : ∀ k : Nat, (k : Int) < m → kB k ≠ s) (hm : kB m ≠ s) => kb_next h hm
  rw [← hnm] at c0 c1 c2 c3 HX PI PN HN0
  clear hnm
  go_enter Tryd.func14, Tryd.ntmps14
  go_wp2_with fail
  go_loop [6] (fun i => ∃ m : Int, i = .int .i64 m ∧ 0 ≤ m ∧ m ≤ 4 ∧ Hid (∀ k : Nat, (k : Int) < m → nm k ≠ s)) (fun i => 4 - (RowKit.intOf i).toNat)
  case atStart => exact ⟨0, rfl, by omega, by omega, Lib.hid fun k h => absurd h (by omega)⟩
  case round =>
    obtain ⟨m, rfl, h0, h4, HN⟩ := hrel
    by_cases hlt : m < 4
    · have hx := HX.out w m h0 hlt
      by_cases hz : nm m = s
      · have HP := Lib.hid (hz ▸ PI.out m h0 hlt)
        have hq : (s.toList == s.toList) = true := beq_self_eq_true _
        rw [hz] at hx
        clear hz
        go_wp2_with fail
        go_ret
        rw [HP.out]
        exact ⟨rfl, rfl⟩
      · have HN2 := Lib.hid (HN0.out m HN.out hz)
        have hq : ((nm m).toList == s.toList) = false := str_ne hz
        clear hz
        generalize nm m = z at *
        go_wp2_with fail
        go_round
        case rel => exact ⟨m + 1, rfl, by omega, by omega, HN2⟩
        case measure => simp [RowKit.intOf]; omega
    · obtain rfl : m = 4 := by omega
      have HE := Lib.hid (PN.out fun k _ hk => HN.out k (by omega))
      go_wp2_with fail
      go_ret
      rw [HE.out]
      exact ⟨rfl, rfl⟩

/-- A number's field in memory, as a value. -/
theorem fcheck_any (p : ByteArray) (n k lo hi ki : Int) (w : World) :
    Calls Tryd.prog 18 #[.agg #[.string p, .int .i64 n, .int .i64 k, .int .i64 lo, .int .i64 hi], .int .i64 ki] w fun e w' => e = .returned (.int .i64 (fd k ki n lo hi)) ∧ Below w.heap.size w w' := by
  have HW := Lib.hid fun W => within_any n lo hi W
  unfold fd
  by_cases h1 : k = ki
  · subst h1
    cases hi' : isIn n lo hi
    · rw [hi'] at HW
      unfold isIn at hi'
      have hh : n < lo ∨ hi < n := by rw [Bool.and_eq_false_iff, decide_eq_false_iff_not, decide_eq_false_iff_not] at hi'; omega
      rw [if_neg (by simp), if_pos ⟨rfl, hh⟩]
      clear hi' hh
      go_enter Tryd.func18, Tryd.ntmps18
      go_wp2_with (go_at_call 27; (with_reducible refine (HW.out _).mono ?_); rintro e w1 ⟨rfl, rfl⟩)
      go_ret
      exact ⟨rfl, (Below.refl _ _).alloc (Nat.le_refl _) _⟩
    · rw [hi'] at HW
      unfold isIn at hi'
      have hh : ¬ (n < lo ∨ hi < n) := by rw [Bool.and_eq_true, decide_eq_true_eq, decide_eq_true_eq] at hi'; omega
      rw [if_neg (by simp), if_neg (fun q => hh q.2)]
      clear hi' hh
      go_enter Tryd.func18, Tryd.ntmps18
      go_wp2_with (go_at_call 27; (with_reducible refine (HW.out _).mono ?_); rintro e w1 ⟨rfl, rfl⟩)
      go_ret
      exact ⟨rfl, (Below.refl _ _).alloc (Nat.le_refl _) _⟩
  · by_cases h2 : n = 0
    · subst h2
      rw [if_neg (fun q => q.2 rfl), if_neg (fun q => h1 q.1)]
      go_enter Tryd.func18, Tryd.ntmps18
      go_wp2_with fail
      go_ret
      exact ⟨rfl, (Below.refl _ _).alloc (Nat.le_refl _) _⟩
    · rw [if_pos ⟨h1, h2⟩]
      have b1 : (k != ki) = true := by simp [h1]
      have b2 : (n != 0) = true := by simp [h2]
      go_enter Tryd.func18, Tryd.ntmps18
      go_wp2_with fail
      go_ret
      exact ⟨rfl, (Below.refl _ _).alloc (Nat.le_refl _) _⟩
end Go.Proofs.YtaiafhepeleefaaDoor.Rul
