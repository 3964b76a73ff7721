/- Contracts of unit's Name and Parse. Conditions: the table of units reads as the program lays it. -/
import Derived.Test.YthkopnobekohcaaGreatDoorUniA
namespace Go.Proofs.YthkopnobekohcaaGreatDoor.Uni
open Go.RowKit Go.Lib

theorem str_ne {a b : ByteArray} (h : a ≠ b) : (a.toList == b.toList) = false := by
  rw [beq_eq_false_iff_ne]
  rcases a with ⟨⟨l⟩⟩
  rcases b with ⟨⟨m⟩⟩
  rw [show (⟨⟨l⟩⟩ : ByteArray).toList = l from ByteArray.toList_mk l, show (⟨⟨m⟩⟩ : ByteArray).toList = m from ByteArray.toList_mk m]
  exact fun q => h (by rw [q])
theorem isU_nm {u : Int} (h : isU u = false) : nmB u = ⟨#[]⟩ := by
  unfold isU at h
  rw [Bool.and_eq_false_iff, decide_eq_false_iff_not, decide_eq_false_iff_not] at h
  unfold nmB
  rw [if_neg (by omega), if_neg (by omega), if_neg (by omega)]

theorem name_any (u : Int) (w : World) (hT : Tab w) :
    Calls Tryz.prog 53 #[.int .i64 u] w fun e w' => e = .returned (.string (nmB u)) ∧ w = w' := by
  have HI := Lib.hid fun W => is_any u W
  cases hu : isU u
  · rw [isU_nm hu]
    rw [hu] at HI
    clear hu
    go_enter Tryz.func53, Tryz.ntmps53
    go_wp2_with (go_at_call 60; (with_reducible refine (HI.out _).mono ?_); rintro e w1 ⟨rfl, rfl⟩)
    go_ret
    exact ⟨rfl, rfl⟩
  · rw [hu] at HI
    obtain ⟨k, rfl, h1, h2⟩ := isU_nat hu
    have hc := (hT k h2).1
    clear hu
    generalize nmB (k : Int) = z at *
    go_enter Tryz.func53, Tryz.ntmps53
    go_wp2_with (go_at_call 60; (with_reducible refine (HI.out _).mono ?_); rintro e w1 ⟨rfl, rfl⟩)
    go_ret
    exact ⟨rfl, rfl⟩

theorem pa_at (k : Nat) (h : k < 4) : pa (nmB k) = k := by
  match k, h with
  | 0, _ => decide
  | 1, _ => decide
  | 2, _ => decide
  | 3, _ => decide
theorem pa_no {s : ByteArray} (h : ∀ k : Nat, k < 4 → nmB k ≠ s) : pa s = 0 := by
  have a1 := h 1 (by omega); have a2 := h 2 (by omega); have a3 := h 3 (by omega)
  unfold pa
  rw [if_neg (fun e : s = nm1 => a1 e.symm), if_neg (fun e : s = nm2 => a2 e.symm), if_neg (fun e : s = nm3 => a3 e.symm)]

set_option maxRecDepth 100000 in
/-- An element of the table, taken by value. -/
theorem index_at (w : World) (m : Int) (h : 0 ≤ m) (h4 : m < 4) :
    Sem.run Tryz.prog (Instr.index 71 (.agg #[.string (nmB 0), .int .i64 0, .string (nmB 1), .int .i64 1, .string (nmB 2), .int .i64 1000, .string (nmB 3), .int .i64 60000]) (.int .i64 m)) w = .ok (.agg #[.string (nmB m), .int .i64 (sz m)]) w := by
  obtain rfl | rfl | rfl | rfl : m = 0 ∨ m = 1 ∨ m = 2 ∨ m = 3 := by omega
  · rfl
  · rfl
  · rfl
  · rfl
theorem nm_next {m : Int} {s : ByteArray} (h : ∀ k : Nat, (k : Int) < m → nmB k ≠ s) (hm : nmB m ≠ s) : ∀ k : Nat, (k : Int) < m + 1 → nmB k ≠ s := fun k hk => by
  by_cases e : (k : Int) < m
  · exact h k e
  · obtain e2 : (k : Int) = m := by omega
    rw [e2]; exact hm
theorem pa_in {m : Int} (h : 0 ≤ m) (h4 : m < 4) : pa (nmB m) = m := by
  obtain ⟨k, rfl⟩ := Int.eq_ofNat_of_zero_le h
  exact pa_at k (by omega)

end Go.Proofs.YthkopnobekohcaaGreatDoor.Uni
