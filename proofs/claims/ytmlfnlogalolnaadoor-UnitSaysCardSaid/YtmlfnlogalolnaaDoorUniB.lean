/- Contracts of unit's Name and Parse. Conditions: the table of units reads as the program lays it. -/
import Derived.Test.YtmlfnlogalolnaaDoorUniA
namespace Go.Proofs.YtmlfnlogalolnaaDoor.Uni
open Go.RowKit Go.Lib

theorem str_ne {a b : ByteArray} (h : a ≠ b) : (a.toList == b.toList) = false := by
  rw [beq_eq_false_iff_ne]
  rcases a with ⟨⟨l⟩⟩
  rcases b with ⟨⟨m⟩⟩
  rw [show (⟨⟨l⟩⟩ : ByteArray).toList = l from ByteArray.toList_mk l, show (⟨⟨m⟩⟩ : ByteArray).toList = m from ByteArray.toList_mk m]
  exact fun q => h (by rw [q])
theorem isU_nm {u : Int} (h : isU u = false) : nmB u = ⟨#[]⟩ := by
  unfold isU at h
  rw [Bool.and_eq_false_iff, decide_eq_false_iff_not, decide_eq_false_iff_not] at h
  unfold nmB
  rw [if_neg (by omega), if_neg (by omega), if_neg (by omega)]

theorem name_any (u : Int) (w : World) (hT : Tab w) :
    Calls Tryd.prog 9 #[.int .i64 u] w fun e w' => e = .returned (.string (nmB u)) ∧ w = w' := by
  have HI := Lib.hid fun W => is_any u W
  cases hu : isU u
  · rw [isU_nm hu]
    rw [hu] at HI
    clear hu
    go_enter Tryd.func9, Tryd.ntmps9
    go_wp2_with (go_at_call 14; (with_reducible refine (HI.out _).mono ?_); rintro e w1 ⟨rfl, rfl⟩)
    go_ret
    exact ⟨rfl, rfl⟩
  · rw [hu] at HI
    obtain ⟨k, rfl, h1, h2⟩ := isU_nat hu
    have hc := (hT k h2).1
    clear hu
    generalize nmB (k : Int) = z at *
    go_enter Tryd.func9, Tryd.ntmps9
    go_wp2_with (go_at_call 14; (with_reducible refine (HI.out _).mono ?_); rintro e w1 ⟨rfl, rfl⟩)
    go_ret
    exact ⟨rfl, rfl⟩

theorem pa_at (k : Nat) (h : k < 4) : pa (nmB k) = k := by
  match k, h with
  | 0, _ => decide
  | 1, _ => decide
  | 2, _ => decide
  | 3, _ => decide
theorem pa_no {s : ByteArray} (h : ∀ k : Nat, k < 4 → nmB k ≠ s) : pa s = 0 := by
  have a1 := h 1 (by omega); have a2 := h 2 (by omega); have a3 := h 3 (by omega)
  unfold pa
  rw [if_neg (fun e : s = nm1 => a1 e.symm), if_neg (fun e : s = nm2 => a2 e.symm), if_neg (fun e : s = nm3 => a3 e.symm)]

/-- An element of the table, taken by value. -/
theorem index_at (w : World) (m : Int) (h : 0 ≤ m) (h4 : m < 4) :
    Sem.run Tryd.prog (Instr.index 36 (.agg #[.string (nmB 0), .int .i64 0, .string (nmB 1), .int .i64 1, .string (nmB 2), .int .i64 1000, .string (nmB 3), .int .i64 60000]) (.int .i64 m)) w = .ok (.agg #[.string (nmB m), .int .i64 (sz m)]) w := by
  obtain rfl | rfl | rfl | rfl : m = 0 ∨ m = 1 ∨ m = 2 ∨ m = 3 := by omega
  · rfl
  · rfl
  · rfl
  · rfl
theorem nm_next {m : Int} {s : ByteArray} (h : ∀ k : Nat, (k : Int) < m → nmB k ≠ s) (hm : nmB m ≠ s) : ∀ k : Nat, (k : Int) < m + 1 → nmB k ≠ s := fun k hk => by
  by_cases e : (k : Int) < m
  · exact h k e
  · obtain e2 : (k : Int) = m := by omega
    rw [e2]; exact hm
theorem pa_in {m : Int} (h : 0 ≤ m) (h4 : m < 4) : pa (nmB m) = m := by
  obtain ⟨k, rfl⟩ := Int.eq_ofNat_of_zero_le h
  exact pa_at k (by omega)

theorem parse_any (s : ByteArray) (w : World) (hT : Tab w) :
    Calls Tryd.prog 11 #[.string s] w fun e w' => e = .returned (.int .i64 (pa s)) ∧ Below w.heap.size w w' := by
  have c0 : w.cell? ⟨0, 0, none⟩ = some (.string (nmB 0)) := (hT 0 (by omega)).1
  have c1 : w.cell? ⟨0, 1, none⟩ = some (.int .i64 0) := (hT 0 (by omega)).2
  have c2 : w.cell? ⟨0, 2, none⟩ = some (.string (nmB 1)) := (hT 1 (by omega)).1
  have c3 : w.cell? ⟨0, 3, none⟩ = some (.int .i64 1) := (hT 1 (by omega)).2
  have c4 : w.cell? ⟨0, 4, none⟩ = some (.string (nmB 2)) := (hT 2 (by omega)).1
  have c5 : w.cell? ⟨0, 5, none⟩ = some (.int .i64 1000) := (hT 2 (by omega)).2
  have c6 : w.cell? ⟨0, 6, none⟩ = some (.string (nmB 3)) := (hT 3 (by omega)).1
  have c7 : w.cell? ⟨0, 7, none⟩ = some (.int .i64 60000) := (hT 3 (by omega)).2
  clear hT
  have HX := Lib.hid index_at
  obtain ⟨nm, hnm⟩ : ∃ nm, nm = nmB := ⟨_, rfl⟩
  have PI := Lib.hid fun (m : Int) (h : 0 ≤ m) (h4 : m < 4) => pa_in h h4
  have PN := Lib.hid fun (h : ∀ k : Nat, k < 4 → nmB k ≠ s) => pa_no h
  have HN0 := Lib.hid fun (m : Int) (h : ∀ k : Nat, (k : Int) < m → nmB k ≠ s) (hm : nmB m ≠ s) => nm_next h hm
  rw [← hnm] at c0 c2 c4 c6 HX PI PN HN0
  clear hnm
  go_enter Tryd.func11, Tryd.ntmps11
  go_wp2_with fail
  go_loopw [6] (fun i wr => ∃ m : Int, i = .int .i64 m ∧ 0 ≤ m ∧ m ≤ 4 ∧ Hid (Below w.heap.size w wr) ∧ Hid (∀ k : Nat, (k : Int) < m → nm k ≠ s)) (fun i _ => 4 - (RowKit.intOf i).toNat)
  case atStart => exact ⟨0, rfl, by omega, by omega, Lib.hid (Below.refl _ _), Lib.hid fun k h => absurd h (by omega)⟩
  case round =>
    obtain ⟨m, rfl, h0, h4, HB, HN⟩ := hrel
    by_cases hlt : m < 4
    · have hx := HX.out wr m h0 hlt
      by_cases hz : nm m = s
      · have HP := Lib.hid (hz ▸ PI.out m h0 hlt)
        have hq : (s.toList == s.toList) = true := beq_self_eq_true _
        rw [hz] at hx
        clear hz
        generalize sz m = y at *
        go_wp2_with fail
        go_ret
        rw [HP.out]
        exact ⟨rfl, HB.out.alloc HB.out.size _⟩
      · have HN2 := Lib.hid (HN0.out m HN.out hz)
        have hq : ((nm m).toList == s.toList) = false := str_ne hz
        clear hz
        generalize nm m = z at *
        generalize sz m = y at *
        go_wp2_with fail
        go_roundw
        case rel => exact ⟨m + 1, rfl, by omega, by omega, Lib.hid (HB.out.alloc HB.out.size _), HN2⟩
        case measure => simp [RowKit.intOf]; omega
    · obtain rfl : m = 4 := by omega
      have HE := Lib.hid (PN.out fun k hk => HN.out k (by omega))
      go_wp2_with fail
      go_ret
      rw [HE.out]
      exact ⟨rfl, HB.out⟩
end Go.Proofs.YtmlfnlogalolnaaDoor.Uni
