/- Contracts of the code's at, within, Kind, checkRate, checkCap, checkCommon, checkRule of sets of rules of version 2. Conditions: as each theorem states. -/
import Derived.Test.YthkopnobekohcaaGreatDoorTwoG
import Derived.Test.YthkopnobekohcaaGreatDoorTwoP2
import Derived.Test.YthkopnobekohcaaGreatDoorIdeA
import Derived.Test.YthkopnobekohcaaGreatDoorRouL
import Derived.Test.YthkopnobekohcaaGreatDoorUtfG1
import Derived.Test.YthkopnobekohcaaGreatDoorUniB
namespace Go.Proofs.YthkopnobekohcaaGreatDoor.Two
open Go.RowKit Go.Lib
open Go.Proofs.YthkopnobekohcaaGreatDoor.Ren (Pw)
open Go.Proofs.YthkopnobekohcaaGreatDoor.Rul (fst fst_yes fst_no fst_zero isId isTx isPa)

theorem at_any (i : Nat) (h : i ≤ 5000) (W : World) (hP : Pw W) : Calls Tryz.prog 21 #[.int .i64 (i : Int)] W fun e w' => e = .returned (.string (at_ i)) ∧ Below W.heap.size W w' := by
  have HI := Lib.hid (itoa_at (i : Int) (by omega) (by omega) W hP)
  have hz := itoa_size i h
  have hat : (⟨#[47]⟩ : ByteArray) ++ ⟨(Lib.itoa (i : Int)).toArray⟩ = at_ i := rfl
  generalize (⟨(Lib.itoa (i : Int)).toArray⟩ : ByteArray) = it at *
  generalize at_ i = A at *
  clear hP
  go_enter Tryz.func21, Tryz.ntmps21
  go_wp2_with (first
    | (go_at_call 22; (with_reducible refine HI.out.mono ?_); rintro e w1 ⟨rfl, hb1⟩))
  go_ret
  exact ⟨rfl, hb1⟩

/-- n is from lo to hi. -/
def isIn (n lo hi : Int) : Bool := decide (lo ≤ n) && decide (n ≤ hi)
theorem within_any (n lo hi : Int) (w : World) : Calls Tryz.prog 52 #[.int .i64 n, .int .i64 lo, .int .i64 hi] w fun e w' => e = .returned (.bool (isIn n lo hi)) ∧ w = w' := by
  unfold isIn
  by_cases h1 : lo ≤ n
  all_goals by_cases h2 : n ≤ hi
  all_goals
    go_enter Tryz.func52, Tryz.ntmps52
    go_wp2
    go_ret
    exact ⟨by simp [h1, h2], rfl⟩

theorem isIn_no {n lo hi : Int} (h : n < lo ∨ hi < n) : isIn n lo hi = false := by
  unfold isIn
  rw [Bool.and_eq_false_iff, decide_eq_false_iff_not, decide_eq_false_iff_not]
  omega
theorem isIn_yes {n lo hi : Int} (h : ¬ (n < lo ∨ hi < n)) : isIn n lo hi = true := by
  unfold isIn
  rw [Bool.and_eq_true, decide_eq_true_eq, decide_eq_true_eq]
  omega
theorem kindn_any (k : Int) (w : World) (hT : Nt w) : Calls Tryz.prog 14 #[.int .i64 k] w fun e w' => e = .returned (.string (kB k)) ∧ w = w' := by
  by_cases h1 : k < 1
  · rw [(kB_none k).2 (by omega)]
    go_enter Tryz.func14, Tryz.ntmps14
    go_wp2
    go_ret
    exact ⟨rfl, rfl⟩
  by_cases h2 : 2 < k
  · rw [(kB_none k).2 (by omega)]
    go_enter Tryz.func14, Tryz.ntmps14
    go_wp2
    go_ret
    exact ⟨rfl, rfl⟩
  obtain ⟨u, rfl⟩ := Int.eq_ofNat_of_zero_le (show 0 ≤ k by omega)
  have hc := hT u (by omega)
  have hu : u < 3 := by omega
  clear hT
  generalize kB (u : Int) = z at *
  go_enter Tryz.func14, Tryz.ntmps14
  go_wp2
  go_ret
  exact ⟨rfl, rfl⟩

set_option maxHeartbeats 4000000 in
set_option maxRecDepth 100000 in
theorem rate_any (r : Rw) (w : World) (n0 : -9223372036854775808 ≤ r.wi) (n1 : r.wi ≤ 9223372036854775807) (hT : Uni.Tab w) :
    Calls Tryz.prog 33 #[.agg (ruC r)] w fun e w' => e = .returned (.tuple #[.string (fst [(q1, eR r.li 0 1000000), (q2, eU r.un), (q3, Uni.tE r.wi r.un 15 2), (q4, eR r.bu 0 1000000)]).1, .int .i64 (fst [(q1, eR r.li 0 1000000), (q2, eU r.un), (q3, Uni.tE r.wi r.un 15 2), (q4, eR r.bu 0 1000000)]).2]) ∧ Below w.heap.size w w' := by
  have HN := Lib.hid fun W (k : Uni.Tab W) => Uni.name_any r.un W k
  have HT := Lib.hid fun W (k : Uni.Tab W) => Uni.ticks_any r.wi r.un W n0 n1 k
  have HU := Lib.hid hT
  have HW1 := Lib.hid fun W => within_any r.li 0 1000000 W
  have HW4 := Lib.hid fun W => within_any r.bu 0 1000000 W
  have hA := Lib.hid fun o => (Below.refl w.heap.size w).alloc (Nat.le_refl _) o
  have HZ := Lib.hid (@nm_none r.un)
  have HS := Lib.hid (@nm_some r.un)
  obtain ⟨id, no, ma, rk, ki, li, wi, un, bu⟩ := r
  dsimp only [ruC] at *
  clear n0 n1 hT
  by_cases a1 : li < 0
  · rw [isIn_no (.inl a1)] at HW1
    rw [fst_yes _ (by rw [eR_lo a1]; decide), eR_lo a1]
    unfold q1
    go_enter Tryz.func33, Tryz.ntmps33
    go_wp2_with (first
      | (go_at_call 52; (with_reducible refine (HW1.out _).mono ?_); rintro e x1 ⟨rfl, rfl⟩)
      | (go_at_call 52; (with_reducible refine (HW4.out _).mono ?_); rintro e x4 ⟨rfl, rfl⟩))
    go_ret2
    exact ⟨rfl, hA.out _⟩
  by_cases a2 : li ≤ 1000000
  · rw [isIn_yes (fun h => h.elim a1 (fun k => by omega))] at HW1
    rw [fst_no _ (eR_in a1 a2)]
    by_cases b1 : Uni.sz un = 0
    · have hu : eU un = 15 := if_pos b1
      rw [fst_yes _ (by rw [hu]; decide), hu]
      rw [HZ.out b1] at HN
      unfold q2
      go_enter Tryz.func33, Tryz.ntmps33
      go_wp2_with (first
        | (go_at_call 52; (with_reducible refine (HW1.out _).mono ?_); rintro e x1 ⟨rfl, rfl⟩)
        | (go_at_call 52; (with_reducible refine (HW4.out _).mono ?_); rintro e x4 ⟨rfl, rfl⟩)
        | (go_at_call 53; (with_reducible refine (HN.out _ (HU.out.next (hA.out _))).mono ?_); rintro e w1 ⟨rfl, rfl⟩))
      go_ret2
      exact ⟨rfl, hA.out _⟩
    · have hu : eU un = 0 := if_neg b1
      have he := HS.out b1
      rw [fst_no _ hu]
      generalize Uni.nmB un = nm at *
      generalize Uni.tV wi un = tv at *
      by_cases c1 : Uni.tE wi un 15 2 = 0
      · rw [fst_no _ c1]
        rw [c1] at HT
        by_cases d1 : bu < 0
        · rw [isIn_no (.inl d1)] at HW4
          rw [fst_yes _ (by rw [eR_lo d1]; decide), eR_lo d1]
          unfold q4
          go_enter Tryz.func33, Tryz.ntmps33
          go_wp2_with (first
            | (go_at_call 52; (with_reducible refine (HW1.out _).mono ?_); rintro e x1 ⟨rfl, rfl⟩)
            | (go_at_call 52; (with_reducible refine (HW4.out _).mono ?_); rintro e x4 ⟨rfl, rfl⟩)
            | (go_at_call 53; (with_reducible refine (HN.out _ (HU.out.next (hA.out _))).mono ?_); rintro e w1 ⟨rfl, rfl⟩)
            | (go_at_call 39; (with_reducible refine (HT.out _ (HU.out.next (hA.out _))).mono ?_); rintro e w2 ⟨rfl, rfl⟩))
          go_ret2
          exact ⟨rfl, hA.out _⟩
        by_cases d2 : bu ≤ 1000000
        · rw [isIn_yes (fun h => h.elim d1 (fun k => by omega))] at HW4
          rw [fst_no _ (eR_in d1 d2)]
          go_enter Tryz.func33, Tryz.ntmps33
          go_wp2_with (first
            | (go_at_call 52; (with_reducible refine (HW1.out _).mono ?_); rintro e x1 ⟨rfl, rfl⟩)
            | (go_at_call 52; (with_reducible refine (HW4.out _).mono ?_); rintro e x4 ⟨rfl, rfl⟩)
            | (go_at_call 53; (with_reducible refine (HN.out _ (HU.out.next (hA.out _))).mono ?_); rintro e w1 ⟨rfl, rfl⟩)
            | (go_at_call 39; (with_reducible refine (HT.out _ (HU.out.next (hA.out _))).mono ?_); rintro e w2 ⟨rfl, rfl⟩))
          go_ret2
          exact ⟨rfl, hA.out _⟩
        · rw [isIn_no (.inr (by omega))] at HW4
          rw [fst_yes _ (by rw [eR_hi (by omega)]; decide), eR_hi (by omega)]
          unfold q4
          go_enter Tryz.func33, Tryz.ntmps33
          go_wp2_with (first
            | (go_at_call 52; (with_reducible refine (HW1.out _).mono ?_); rintro e x1 ⟨rfl, rfl⟩)
            | (go_at_call 52; (with_reducible refine (HW4.out _).mono ?_); rintro e x4 ⟨rfl, rfl⟩)
            | (go_at_call 53; (with_reducible refine (HN.out _ (HU.out.next (hA.out _))).mono ?_); rintro e w1 ⟨rfl, rfl⟩)
            | (go_at_call 39; (with_reducible refine (HT.out _ (HU.out.next (hA.out _))).mono ?_); rintro e w2 ⟨rfl, rfl⟩))
          go_ret2
          exact ⟨rfl, hA.out _⟩
      · have hne : (Uni.tE wi un 15 2 != 0) = true := by simpa using c1
        rw [fst_yes _ c1]
        clear c1
        generalize Uni.tE wi un 15 2 = E at *
        unfold q3
        go_enter Tryz.func33, Tryz.ntmps33
        go_wp2_with (first
          | (go_at_call 52; (with_reducible refine (HW1.out _).mono ?_); rintro e x1 ⟨rfl, rfl⟩)
          | (go_at_call 52; (with_reducible refine (HW4.out _).mono ?_); rintro e x4 ⟨rfl, rfl⟩)
          | (go_at_call 53; (with_reducible refine (HN.out _ (HU.out.next (hA.out _))).mono ?_); rintro e w1 ⟨rfl, rfl⟩)
          | (go_at_call 39; (with_reducible refine (HT.out _ (HU.out.next (hA.out _))).mono ?_); rintro e w2 ⟨rfl, rfl⟩))
        go_ret2
        exact ⟨rfl, hA.out _⟩
  · rw [isIn_no (.inr (by omega))] at HW1
    rw [fst_yes _ (by rw [eR_hi (by omega)]; decide), eR_hi (by omega)]
    unfold q1
    go_enter Tryz.func33, Tryz.ntmps33
    go_wp2_with (first
      | (go_at_call 52; (with_reducible refine (HW1.out _).mono ?_); rintro e x1 ⟨rfl, rfl⟩)
      | (go_at_call 52; (with_reducible refine (HW4.out _).mono ?_); rintro e x4 ⟨rfl, rfl⟩))
    go_ret2
    exact ⟨rfl, hA.out _⟩

set_option maxHeartbeats 4000000 in
set_option maxRecDepth 100000 in
theorem most_any (r : Rw) (w : World) :
    Calls Tryz.prog 32 #[.agg (ruC r)] w fun e w' => e = .returned (.tuple #[.string (fst [(q1, eR r.li 1 1000000), (q2, eZ r.un), (q3, eZ r.wi), (q4, eZ r.bu)]).1, .int .i64 (fst [(q1, eR r.li 1 1000000), (q2, eZ r.un), (q3, eZ r.wi), (q4, eZ r.bu)]).2]) ∧ Below w.heap.size w w' := by
  have hA := Lib.hid fun o => (Below.refl w.heap.size w).alloc (Nat.le_refl _) o
  have HW1 := Lib.hid fun W => within_any r.li 1 1000000 W
  obtain ⟨id, no, ma, rk, ki, li, wi, un, bu⟩ := r
  dsimp only [ruC] at *
  by_cases a1 : li < 1
  · rw [isIn_no (.inl a1)] at HW1
    rw [fst_yes _ (by rw [eR_lo a1]; decide), eR_lo a1]
    unfold q1
    go_enter Tryz.func32, Tryz.ntmps32
    go_wp2_with (first
      | (go_at_call 52; (with_reducible refine (HW1.out _).mono ?_); rintro e x1 ⟨rfl, rfl⟩))
    go_ret2
    exact ⟨rfl, hA.out _⟩
  by_cases a2 : li ≤ 1000000
  · rw [isIn_yes (fun h => h.elim a1 (fun k => by omega))] at HW1
    rw [fst_no _ (eR_in a1 a2)]
    by_cases b1 : un = 0
    · subst b1
      rw [fst_no _ (show eZ 0 = 0 from rfl)]
      by_cases c1 : wi = 0
      · subst c1
        rw [fst_no _ (show eZ 0 = 0 from rfl)]
        by_cases d1 : bu = 0
        · subst d1
          rw [fst_no _ (show eZ 0 = 0 from rfl)]
          go_enter Tryz.func32, Tryz.ntmps32
          go_wp2_with (first
            | (go_at_call 52; (with_reducible refine (HW1.out _).mono ?_); rintro e x1 ⟨rfl, rfl⟩))
          go_ret2
          exact ⟨rfl, hA.out _⟩
        · have hne : (bu != 0) = true := by simpa using d1
          rw [fst_yes _ (by rw [eZ_no d1]; decide), eZ_no d1]
          unfold q4
          clear d1
          go_enter Tryz.func32, Tryz.ntmps32
          go_wp2_with (first
            | (go_at_call 52; (with_reducible refine (HW1.out _).mono ?_); rintro e x1 ⟨rfl, rfl⟩))
          go_ret2
          exact ⟨rfl, hA.out _⟩
      · have hne : (wi != 0) = true := by simpa using c1
        rw [fst_yes _ (by rw [eZ_no c1]; decide), eZ_no c1]
        unfold q3
        clear c1
        go_enter Tryz.func32, Tryz.ntmps32
        go_wp2_with (first
          | (go_at_call 52; (with_reducible refine (HW1.out _).mono ?_); rintro e x1 ⟨rfl, rfl⟩))
        go_ret2
        exact ⟨rfl, hA.out _⟩
    · have hne : (un != 0) = true := by simpa using b1
      rw [fst_yes _ (by rw [eZ_no b1]; decide), eZ_no b1]
      unfold q2
      clear b1
      go_enter Tryz.func32, Tryz.ntmps32
      go_wp2_with (first
        | (go_at_call 52; (with_reducible refine (HW1.out _).mono ?_); rintro e x1 ⟨rfl, rfl⟩))
      go_ret2
      exact ⟨rfl, hA.out _⟩
  · rw [isIn_no (.inr (by omega))] at HW1
    rw [fst_yes _ (by rw [eR_hi (by omega)]; decide), eR_hi (by omega)]
    unfold q1
    go_enter Tryz.func32, Tryz.ntmps32
    go_wp2_with (first
      | (go_at_call 52; (with_reducible refine (HW1.out _).mono ?_); rintro e x1 ⟨rfl, rfl⟩))
    go_ret2
    exact ⟨rfl, hA.out _⟩

set_option maxHeartbeats 4000000 in
set_option maxRecDepth 100000 in
theorem common_any (r : Rw) (w : World) (hT : Nt w) (hU : Utf.Tabs w) (h1 : r.id.size ≤ 140737488355328) (h2 : r.no.size ≤ 140737488355328) (h3 : r.ma.size ≤ 140737488355328) :
    Calls Tryz.prog 31 #[.agg (ruC r)] w fun e w' => e = .returned (.tuple #[.string (txs r).1, .int .i64 (txs r).2]) ∧ Below w.heap.size w w' := by
  have HI := Lib.hid fun W => Ide.is_any r.id W h1
  have HB := Lib.hid fun W hW => Utf.bad_any r.no W hW h2
  have HP := Lib.hid fun W => Rou.pat_any r.ma W h3
  have HW := Lib.hid fun W => within_any r.rk 0 1000 W
  have HK := Lib.hid fun W hW => kindn_any r.ki W hW
  have HT := Lib.hid hT
  have HU := Lib.hid hU
  have hA : ∀ o, Below w.heap.size w (w.alloc o) := fun o => (Below.refl _ _).alloc (Nat.le_refl _) o
  have hA := Lib.hid hA
  have hz := tx_bad r.no
  clear hT hU
  change Hid (∀ W, Calls _ _ _ W fun e w' => e = .returned (.bool (isId r.id)) ∧ W = w') at HI
  change Hid (∀ W, Calls _ _ _ W fun e w' => e = .returned (.bool (isPa r.ma)) ∧ Below W.heap.size W w') at HP
  generalize Utf.bI (Utf.badL r.no.data.toList) = z at *
  cases q1 : isId r.id with
  | false =>
    rw [q1] at HI
    rw [tx_id q1]
    clear q1 hz
    unfold f1
    obtain ⟨id, no, ma, rk, ki, li, wi, un, bu⟩ := r
    dsimp only [ruC] at *
    go_enter Tryz.func31, Tryz.ntmps31
    go_wp2_with (go_at_call 49; (with_reducible refine (HI.out _).mono ?_); rintro e w1 ⟨rfl, rfl⟩)
    go_ret2
    exact ⟨rfl, hA.out _⟩
  | true =>
  rw [q1] at HI
  by_cases q2 : 255 < r.no.size
  · rw [tx_long q1 q2]
    clear q1 hz
    unfold f2
    obtain ⟨id, no, ma, rk, ki, li, wi, un, bu⟩ := r
    dsimp only [ruC] at *
    go_enter Tryz.func31, Tryz.ntmps31
    go_wp2_with (go_at_call 49; (with_reducible refine (HI.out _).mono ?_); rintro e w1 ⟨rfl, rfl⟩)
    go_ret2
    exact ⟨rfl, hA.out _⟩
  cases q3 : isTx r.no with
  | false =>
    have z1 := hz.2 q3
    rw [tx_no q1 q2 q3]
    clear q1 q3 hz
    unfold f2
    obtain ⟨id, no, ma, rk, ki, li, wi, un, bu⟩ := r
    dsimp only [ruC] at *
    go_enter Tryz.func31, Tryz.ntmps31
    go_wp2_with (first
      | (go_at_call 49; (with_reducible refine (HI.out _).mono ?_); rintro e w1 ⟨rfl, rfl⟩)
      | (go_at_call 50; (with_reducible refine (HB.out _ (HU.out.next (hA.out _))).mono ?_); rintro e w1 ⟨rfl, hb1⟩))
    go_ret2
    exact ⟨rfl, (hA.out _).trans (hb1.mono (by simp))⟩
  | true =>
  have z1 := hz.1 q3
  cases q4 : isPa r.ma with
  | false =>
    rw [q4] at HP
    rw [tx_ro q1 q2 q3 q4]
    clear q1 q3 q4 hz
    unfold f3
    obtain ⟨id, no, ma, rk, ki, li, wi, un, bu⟩ := r
    dsimp only [ruC] at *
    go_enter Tryz.func31, Tryz.ntmps31
    go_wp2_with (first
      | (go_at_call 49; (with_reducible refine (HI.out _).mono ?_); rintro e w1 ⟨rfl, rfl⟩)
      | (go_at_call 50; (with_reducible refine (HB.out _ (HU.out.next (hA.out _))).mono ?_); rintro e w1 ⟨rfl, hb1⟩
         have k2 : w1.cell? ⟨w.heap.size, 2, none⟩ = some (.string ma) := (box_stay hb1).cell 2)
      | (go_at_call 51; (with_reducible refine (HP.out _).mono ?_); rintro e w2 ⟨rfl, hb2⟩))
    go_ret2
    exact ⟨rfl, ((hA.out _).trans (hb1.mono (by simp))).trans (hb2.mono (by have := hb1.size; simp at this; omega))⟩
  | true =>
  rw [q4] at HP
  by_cases q5 : r.rk < 0 ∨ 1000 < r.rk
  · rw [isIn_no q5] at HW
    rw [tx_pr q1 q2 q3 q4 q5]
    clear q1 q3 q4 q5 hz
    unfold f4
    obtain ⟨id, no, ma, rk, ki, li, wi, un, bu⟩ := r
    dsimp only [ruC] at *
    go_enter Tryz.func31, Tryz.ntmps31
    go_wp2_with (first
      | (go_at_call 49; (with_reducible refine (HI.out _).mono ?_); rintro e w1 ⟨rfl, rfl⟩)
      | (go_at_call 50; (with_reducible refine (HB.out _ (HU.out.next (hA.out _))).mono ?_); rintro e w1 ⟨rfl, hb1⟩
         have k2 : w1.cell? ⟨w.heap.size, 2, none⟩ = some (.string ma) := (box_stay hb1).cell 2)
      | (go_at_call 51; (with_reducible refine (HP.out _).mono ?_); rintro e w2 ⟨rfl, hb2⟩
         have k3 : w2.cell? ⟨w.heap.size, 3, none⟩ = some (.int .i64 rk) := ((box_stay hb1).next hb2 (box_stay hb1).lt).cell 3)
      | (go_at_call 52; (with_reducible refine (HW.out _).mono ?_); rintro e w3 ⟨rfl, rfl⟩))
    go_ret2
    exact ⟨rfl, ((hA.out _).trans (hb1.mono (by simp))).trans (hb2.mono (by have := hb1.size; simp at this; omega))⟩
  rw [isIn_yes q5] at HW
  by_cases q6 : kB r.ki = ⟨#[]⟩
  · rw [q6] at HK
    rw [tx_ki q1 q2 q3 q4 q5 q6]
    clear q1 q3 q4 q5 q6 hz
    unfold f5
    obtain ⟨id, no, ma, rk, ki, li, wi, un, bu⟩ := r
    dsimp only [ruC] at *
    go_enter Tryz.func31, Tryz.ntmps31
    go_wp2_with (first
      | (go_at_call 49; (with_reducible refine (HI.out _).mono ?_); rintro e w1 ⟨rfl, rfl⟩)
      | (go_at_call 50; (with_reducible refine (HB.out _ (HU.out.next (hA.out _))).mono ?_); rintro e w1 ⟨rfl, hb1⟩
         have k2 : w1.cell? ⟨w.heap.size, 2, none⟩ = some (.string ma) := (box_stay hb1).cell 2)
      | (go_at_call 51; (with_reducible refine (HP.out _).mono ?_); rintro e w2 ⟨rfl, hb2⟩
         have k3 : w2.cell? ⟨w.heap.size, 3, none⟩ = some (.int .i64 rk) := ((box_stay hb1).next hb2 (box_stay hb1).lt).cell 3
         have k4 : w2.cell? ⟨w.heap.size, 4, none⟩ = some (.int .i64 ki) := ((box_stay hb1).next hb2 (box_stay hb1).lt).cell 4
         have HT2 := Lib.hid (((HT.out.next (hA.out _)).next hb1).next hb2))
      | (go_at_call 52; (with_reducible refine (HW.out _).mono ?_); rintro e w3 ⟨rfl, rfl⟩)
      | (go_at_call 14; (with_reducible refine (HK.out _ HT2.out).mono ?_); rintro e w3 ⟨rfl, rfl⟩))
    go_ret2
    exact ⟨rfl, ((hA.out _).trans (hb1.mono (by simp))).trans (hb2.mono (by have := hb1.size; simp at this; omega))⟩
  · rw [tx_ok q1 q2 q3 q4 q5 q6]
    have q7 : (kB r.ki).toList.isEmpty = false := by
      cases he : (kB r.ki).toList with
      | nil =>
        rw [Byt.toList_data] at he
        exact absurd (ByteArray.ext (Array.toList_inj.1 he)) q6
      | cons _ _ => rfl
    clear q1 q3 q4 q5 q6 hz
    generalize kB r.ki = kn at *
    obtain ⟨id, no, ma, rk, ki, li, wi, un, bu⟩ := r
    dsimp only [ruC] at *
    go_enter Tryz.func31, Tryz.ntmps31
    go_wp2_with (first
      | (go_at_call 49; (with_reducible refine (HI.out _).mono ?_); rintro e w1 ⟨rfl, rfl⟩)
      | (go_at_call 50; (with_reducible refine (HB.out _ (HU.out.next (hA.out _))).mono ?_); rintro e w1 ⟨rfl, hb1⟩
         have k2 : w1.cell? ⟨w.heap.size, 2, none⟩ = some (.string ma) := (box_stay hb1).cell 2)
      | (go_at_call 51; (with_reducible refine (HP.out _).mono ?_); rintro e w2 ⟨rfl, hb2⟩
         have k3 : w2.cell? ⟨w.heap.size, 3, none⟩ = some (.int .i64 rk) := ((box_stay hb1).next hb2 (box_stay hb1).lt).cell 3
         have k4 : w2.cell? ⟨w.heap.size, 4, none⟩ = some (.int .i64 ki) := ((box_stay hb1).next hb2 (box_stay hb1).lt).cell 4
         have HT2 := Lib.hid (((HT.out.next (hA.out _)).next hb1).next hb2))
      | (go_at_call 52; (with_reducible refine (HW.out _).mono ?_); rintro e w3 ⟨rfl, rfl⟩)
      | (go_at_call 14; (with_reducible refine (HK.out _ HT2.out).mono ?_); rintro e w3 ⟨rfl, rfl⟩))
    go_ret2
    exact ⟨rfl, ((hA.out _).trans (hb1.mono (by simp))).trans (hb2.mono (by have := hb1.size; simp at this; omega))⟩

theorem txs_ki (r : Rw) : (txs r).2 = 0 → r.ki = 1 ∨ r.ki = 2 := fun h => Decidable.byContradiction fun k => by
  have h5 : e5 r = 15 := by unfold e5; rw [if_neg k]
  have := (fst_zero _).1 h (f5, e5 r) (by simp)
  rw [show ((f5, e5 r) : ByteArray × Int).2 = e5 r from rfl, h5] at this
  exact absurd this (by decide)
set_option maxHeartbeats 4000000 in
set_option maxRecDepth 100000 in
theorem check1_any (r : Rw) (w : World) (hE : Ev w) (h1 : r.id.size ≤ 140737488355328) (h2 : r.no.size ≤ 140737488355328) (h3 : r.ma.size ≤ 140737488355328) (n0 : -9223372036854775808 ≤ r.wi) (n1 : r.wi ≤ 9223372036854775807) :
    Calls Tryz.prog 20 #[.agg (ruC r)] w fun e w' => e = .returned (.tuple #[.string (chk r).1, .int .i64 (chk r).2]) ∧ Below w.heap.size w w' := by
  rw [chk_two, nums_fst]
  have HT := Lib.hid fun W (k : Ev W) => common_any r W k.nam k.utf h1 h2 h3
  have HR := Lib.hid fun W (k : Uni.Tab W) => rate_any r W n0 n1 k
  have HM := Lib.hid fun W => most_any r W
  have HU := Lib.hid hE
  have hki := txs_ki r
  have hA := Lib.hid fun o => (Below.refl w.heap.size w).alloc (Nat.le_refl _) o
  have hX := Lib.hid (bx_new w (ruC r))
  clear h1 h2 h3 n0 n1 hE
  generalize txs r = x at *
  generalize fst [(q1, eR r.li 0 1000000), (q2, eU r.un), (q3, Uni.tE r.wi r.un 15 2), (q4, eR r.bu 0 1000000)] = y at *
  generalize fst [(q1, eR r.li 1 1000000), (q2, eZ r.un), (q3, eZ r.wi), (q4, eZ r.bu)] = z at *
  obtain ⟨p, E⟩ := x
  obtain ⟨p', E'⟩ := y
  obtain ⟨p'', E''⟩ := z
  obtain ⟨id, no, ma, rk, ki, li, wi, un, bu⟩ := r
  dsimp only [ruC] at *
  have HB := Lib.hid (hA.out (.cells #[.string id, .string no, .string ma, .int .i64 rk, .int .i64 ki, .int .i64 li, .int .i64 wi, .int .i64 un, .int .i64 bu] 35))
  by_cases hz : E = 0
  · subst hz
    rw [if_pos rfl]
    by_cases hk : ki = 1
    · subst hk
      clear hki
      rw [if_pos rfl]
      go_enter Tryz.func20, Tryz.ntmps20
      go_wp2_with (first
        | (refine wpList_fetch _ rfl _ rfl _ _ rfl X2.out rfl ?_)
        | (refine wpList_fetch _ rfl _ rfl _ _ rfl hX.out rfl ?_)
        | (go_at_call 31; (with_reducible refine (HT.out _ (HU.out.next HB.out)).mono ?_); rintro e w2 ⟨rfl, hb2⟩; have X2 := Lib.hid (hX.out.next hb2 hX.out.lt); have k4 : w2.cell? ⟨w.heap.size, 4, none⟩ = some (.int .i64 1) := X2.out.cell 4; have B2 := Lib.hid (HB.out.trans (hb2.mono HB.out.size)); clear hb2)
        | (go_at_call 33; (with_reducible refine (HR.out _ (HU.out.uni.next B2.out)).mono ?_); rintro e w3 ⟨rfl, hb3⟩; have B3 := Lib.hid (B2.out.trans (hb3.mono B2.out.size)); clear hb3))
      go_ret2
      exact ⟨rfl, B3.out⟩
    · obtain rfl : ki = 2 := (hki rfl).resolve_left hk
      rw [if_neg (by decide)]
      clear hk hki
      go_enter Tryz.func20, Tryz.ntmps20
      go_wp2_with (first
        | (refine wpList_fetch _ rfl _ rfl _ _ rfl X2.out rfl ?_)
        | (refine wpList_fetch _ rfl _ rfl _ _ rfl hX.out rfl ?_)
        | (go_at_call 31; (with_reducible refine (HT.out _ (HU.out.next HB.out)).mono ?_); rintro e w2 ⟨rfl, hb2⟩; have X2 := Lib.hid (hX.out.next hb2 hX.out.lt); have k4 : w2.cell? ⟨w.heap.size, 4, none⟩ = some (.int .i64 2) := X2.out.cell 4; have B2 := Lib.hid (HB.out.trans (hb2.mono HB.out.size)); clear hb2)
        | (go_at_call 32; (with_reducible refine (HM.out _).mono ?_); rintro e w3 ⟨rfl, hb3⟩; have B3 := Lib.hid (B2.out.trans (hb3.mono B2.out.size)); clear hb3))
      go_ret2
      exact ⟨rfl, B3.out⟩
  · have hb : (E != 0) = true := by simpa using hz
    rw [if_neg hz]
    clear hz hki
    go_enter Tryz.func20, Tryz.ntmps20
    go_wp2_with (first
      | (refine wpList_fetch _ rfl _ rfl _ _ rfl hX.out rfl ?_)
      | (go_at_call 31; (with_reducible refine (HT.out _ (HU.out.next HB.out)).mono ?_); rintro e w2 ⟨rfl, hb2⟩; have B2 := Lib.hid (HB.out.trans (hb2.mono HB.out.size)); clear hb2))
    go_ret2
    exact ⟨rfl, B2.out⟩
end Go.Proofs.YthkopnobekohcaaGreatDoor.Two
