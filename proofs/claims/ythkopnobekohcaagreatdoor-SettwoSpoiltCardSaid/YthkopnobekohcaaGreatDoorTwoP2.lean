/- Contracts of the document's Kind, KindOf, texts of sets of rules of version 2. Conditions: as each theorem states. · Contract of the document's 'one' of sets of rules of version 2. Conditions: the texts have at most 2^47 bytes; the window is an int. · Contract of the document's Check of sets of rules. Conditions: the rules can be read, their texts have at most 2^47 bytes; the table of powers reads as the library lays it. · Laws of sets of rules: light. Conditions: the rules can be read. -/
import Derived.Test.YthkopnobekohcaaGreatDoorTwoP1
import Derived.Test.YthkopnobekohcaaGreatDoorUtfG1
import Derived.Test.YthkopnobekohcaaGreatDoorUniC
import Derived.Test.YthkopnobekohcaaGreatDoorRouG3
import Derived.Test.YthkopnobekohcaaGreatDoorIdeA
import Derived.Test.YthkopnobekohcaaGreatDoorRenN
import Derived.Lib.ItoaLen
namespace Go.Proofs.YthkopnobekohcaaGreatDoor.Two
open Go.RowKit Go.Lib
open Go.Proofs.YthkopnobekohcaaGreatDoor.Rul (fst fst_yes fst_no isId isTx isPa)

/-! ### kinds -/
def k1 : ByteArray := ⟨#[114, 97, 116, 101]⟩
def k2 : ByteArray := ⟨#[99, 97, 112]⟩
def kB (k : Int) : ByteArray := if k = 1 then k1 else if k = 2 then k2 else ⟨#[]⟩
def kO (s : ByteArray) : Int := if s = k1 then 1 else if s = k2 then 2 else 0
theorem kB_none (k : Int) : kB k = ⟨#[]⟩ ↔ ¬ (k = 1 ∨ k = 2) := by
  unfold kB
  split
  · subst_vars; exact ⟨fun h => absurd h (by decide), fun h => absurd (.inl rfl) h⟩
  · split
    · subst_vars; exact ⟨fun h => absurd h (by decide), fun h => absurd (.inr rfl) h⟩
    · exact ⟨fun _ => by omega, fun _ => rfl⟩
theorem kO_in {m : Int} (h : 0 ≤ m) (h4 : m < 3) : kO (kB m) = m := by
  rcases (show m = 0 ∨ m = 1 ∨ m = 2 by omega) with rfl | rfl | rfl <;> decide
theorem kO_no {s : ByteArray} (h : ∀ k : Nat, 1 ≤ k → k < 3 → kB k ≠ s) : kO s = 0 := by
  have h1 : k1 ≠ s := h 1 (by decide) (by decide)
  have h2 : k2 ≠ s := h 2 (by decide) (by decide)
  unfold kO
  rw [if_neg (fun e => h1 e.symm), if_neg (fun e => h2 e.symm)]
theorem e5_kB (r : Rw) : e5 r = if kB r.ki = ⟨#[]⟩ then 15 else 0 := by
  unfold e5
  by_cases h : r.ki = 1 ∨ r.ki = 2
  · rw [if_pos h, if_neg (fun e => (kB_none _).1 e h)]
  · rw [if_neg h, if_pos ((kB_none _).2 h)]
theorem rkind_any (k : Int) (w : World) : Calls Tryz.prog 15 #[.int .i64 k] w fun e w' => e = .returned (.string (kB k)) ∧ w = w' := by
  by_cases h1 : k = 1
  · subst h1
    go_enter Tryz.func15, Tryz.ntmps15
    go_wp2
    go_ret
    exact ⟨rfl, rfl⟩
  by_cases h2 : k = 2
  · subst h2
    go_enter Tryz.func15, Tryz.ntmps15
    go_wp2
    go_ret
    exact ⟨rfl, rfl⟩
  rw [(kB_none k).2 (by omega)]
  go_enter Tryz.func15, Tryz.ntmps15
  go_wp2
  go_ret
  exact ⟨rfl, rfl⟩

theorem rkindof_any (s : ByteArray) (w : World) :
    Calls Tryz.prog 17 #[.string s] w fun e w' => e = .returned (.int .i64 (kO s)) ∧ w = w' := by
  have HN := Lib.hid fun u W => rkind_any u W
  have PI := Lib.hid fun (m : Int) (h : 0 ≤ m) (h4 : m < 3) => kO_in h h4
  have PN := Lib.hid fun (h : ∀ k : Nat, 1 ≤ k → k < 3 → kB k ≠ s) => kO_no h
  go_enter Tryz.func17, Tryz.ntmps17
  go_wp2_with fail
  go_loop [3] (fun i => ∃ m : Int, i = .int .i64 m ∧ 1 ≤ m ∧ m ≤ 3 ∧ Hid (∀ k : Nat, 1 ≤ k → (k : Int) < m → kB k ≠ s)) (fun i => 3 - (RowKit.intOf i).toNat)
  case atStart => exact ⟨1, rfl, by omega, by omega, Lib.hid fun k h h2 => absurd h (by omega)⟩
  case round =>
    obtain ⟨m, rfl, h0, h4, HK⟩ := hrel
    have HM := Lib.hid fun W => HN.out m W
    by_cases hlt : m < 3
    · have HP := Lib.hid (PI.out m (by omega) hlt)
      have HX := Lib.hid fun (h : kB m ≠ s) (k : Nat) (h1 : 1 ≤ k) (h2 : (k : Int) < m + 1) => by
        by_cases e : (k : Int) < m
        · exact HK.out k h1 e
        · have e2 : (k : Int) = m := by omega
          rw [e2]; exact h
      generalize kB m = z at *
      by_cases hz : z = s
      · subst hz
        have hq : (z.toList == z.toList) = true := beq_self_eq_true _
        go_wp2_with (go_at_call 15; (with_reducible refine (HM.out _).mono ?_); rintro e w1 ⟨rfl, rfl⟩)
        go_ret
        rw [HP.out]
        exact ⟨rfl, rfl⟩
      · have HX2 := Lib.hid (HX.out hz)
        have hq : (z.toList == s.toList) = false := Byt.str_neq hz
        clear HX hz
        go_wp2_with (go_at_call 15; (with_reducible refine (HM.out _).mono ?_); rintro e w1 ⟨rfl, rfl⟩)
        go_round
        case rel => exact ⟨m + 1, rfl, by omega, by omega, HX2⟩
        case measure => simp [RowKit.intOf]; omega
    · obtain rfl : m = 3 := by omega
      have HE := Lib.hid (PN.out fun k h1 hk => HK.out k h1 (by omega))
      go_wp2_with fail
      go_ret
      rw [HE.out]
      exact ⟨rfl, rfl⟩

/-! ### texts -/
def txs (r : Rw) : ByteArray × Int := fst [(f1, e1 r), (f2, e2 r), (f3, e3 r), (f4, e4 r), (f5, e5 r)]
theorem chk_two (r : Rw) : chk r = if (txs r).2 = 0 then fst (nums r) else txs r := Rul.fst_app [(f1, e1 r), (f2, e2 r), (f3, e3 r), (f4, e4 r), (f5, e5 r)] (nums r)
theorem tx_id {r : Rw} (h : isId r.id = false) : txs r = (f1, 13) := by
  have : e1 r = 13 := by unfold e1; rw [h]; rfl
  unfold txs
  rw [fst_yes _ (by rw [this]; decide), this]
theorem tx_long {r : Rw} (h1 : isId r.id = true) (h2 : 255 < r.no.size) : txs r = (f2, 5) := by
  have : e2 r = 5 := by unfold e2; rw [if_pos h2]
  unfold txs
  rw [fst_no _ ((e1_zero r).2 h1), fst_yes _ (by rw [this]; decide), this]
theorem tx_no {r : Rw} (h1 : isId r.id = true) (h2 : ¬ 255 < r.no.size) (h3 : isTx r.no = false) : txs r = (f2, 8) := by
  have : e2 r = 8 := by unfold e2; rw [if_neg h2, h3]; rfl
  unfold txs
  rw [fst_no _ ((e1_zero r).2 h1), fst_yes _ (by rw [this]; decide), this]
theorem tx_ro {r : Rw} (h1 : isId r.id = true) (h2 : ¬ 255 < r.no.size) (h3 : isTx r.no = true) (h4 : isPa r.ma = false) : txs r = (f3, 14) := by
  have : e3 r = 14 := by unfold e3; rw [h4]; rfl
  unfold txs
  rw [fst_no _ ((e1_zero r).2 h1), fst_no _ ((e2_zero r).2 ⟨by omega, h3⟩), fst_yes _ (by rw [this]; decide), this]
theorem tx_pr {r : Rw} (h1 : isId r.id = true) (h2 : ¬ 255 < r.no.size) (h3 : isTx r.no = true) (h4 : isPa r.ma = true) (h5 : r.rk < 0 ∨ 1000 < r.rk) : txs r = (f4, 2) := by
  have : e4 r = 2 := by unfold e4; rw [if_pos h5]
  unfold txs
  rw [fst_no _ ((e1_zero r).2 h1), fst_no _ ((e2_zero r).2 ⟨by omega, h3⟩), fst_no _ ((e3_zero r).2 h4), fst_yes _ (by rw [this]; decide), this]
theorem tx_ki {r : Rw} (h1 : isId r.id = true) (h2 : ¬ 255 < r.no.size) (h3 : isTx r.no = true) (h4 : isPa r.ma = true) (h5 : ¬ (r.rk < 0 ∨ 1000 < r.rk)) (h6 : kB r.ki = ⟨#[]⟩) : txs r = (f5, 15) := by
  have : e5 r = 15 := by unfold e5; rw [if_neg ((kB_none _).1 h6)]
  unfold txs
  rw [fst_no _ ((e1_zero r).2 h1), fst_no _ ((e2_zero r).2 ⟨by omega, h3⟩), fst_no _ ((e3_zero r).2 h4), fst_no _ ((e4_zero r).2 (by omega)), fst_yes _ (by rw [this]; decide), this]
theorem tx_ok {r : Rw} (h1 : isId r.id = true) (h2 : ¬ 255 < r.no.size) (h3 : isTx r.no = true) (h4 : isPa r.ma = true) (h5 : ¬ (r.rk < 0 ∨ 1000 < r.rk)) (h6 : kB r.ki ≠ ⟨#[]⟩) : txs r = (⟨#[]⟩, 0) := by
  have h7 : r.ki = 1 ∨ r.ki = 2 := Decidable.byContradiction fun h => h6 ((kB_none _).2 h)
  unfold txs
  rw [fst_no _ ((e1_zero r).2 h1), fst_no _ ((e2_zero r).2 ⟨by omega, h3⟩), fst_no _ ((e3_zero r).2 h4), fst_no _ ((e4_zero r).2 (by omega)), fst_no _ ((e5_zero r).2 h7)]
  rfl
theorem tx_bad (s : ByteArray) : (isTx s = true → Utf.bI (Utf.badL s.data.toList) < 0) ∧ (isTx s = false → 0 ≤ Utf.bI (Utf.badL s.data.toList)) := by
  unfold isTx
  cases Utf.badL s.data.toList with
  | none => exact ⟨fun _ => by decide, fun h => absurd h (by simp)⟩
  | some k => exact ⟨fun h => absurd h (by simp), fun _ => Int.natCast_nonneg k⟩
/-- A rule boxed at the start of a call stands behind all that follows. -/
theorem box_stay {w w1 : World} {cs : Array Value} (hb : Below (w.alloc (.cells cs 35)).heap.size (w.alloc (.cells cs 35)) w1) : Bx w1 w.heap.size cs :=
  (bx_new w cs).next hb (by simp)

set_option maxHeartbeats 4000000 in
set_option maxRecDepth 100000 in
theorem rtexts_any (r : Rw) (w : World) (h1 : r.id.size ≤ 140737488355328) (h2 : r.no.size ≤ 140737488355328) (h3 : r.ma.size ≤ 140737488355328) :
    Calls Tryz.prog 35 #[.agg (ruC r)] w fun e w' => e = .returned (.tuple #[.string (txs r).1, .int .i64 (txs r).2]) ∧ Below w.heap.size w w' := by
  have HI := Lib.hid fun W => Ide.ris_any r.id W h1
  have HB := Lib.hid fun W => Utf.rbad_any r.no W h2
  have HP := Lib.hid fun W => Rou.rpat_any r.ma W h3
  have HK := Lib.hid fun W => rkind_any r.ki W
  have hA : ∀ o, Below w.heap.size w (w.alloc o) := fun o => (Below.refl _ _).alloc (Nat.le_refl _) o
  have hA := Lib.hid hA
  have hz := tx_bad r.no
  change Hid (∀ W, Calls _ _ _ W fun e w' => e = .returned (.bool (isId r.id)) ∧ W = w') at HI
  change Hid (∀ W, Calls _ _ _ W fun e w' => e = .returned (.bool (isPa r.ma)) ∧ Below W.heap.size W w') at HP
  generalize Utf.bI (Utf.badL r.no.data.toList) = z at *
  cases q1 : isId r.id with
  | false =>
    rw [q1] at HI
    rw [tx_id q1]
    clear q1 hz
    unfold f1
    obtain ⟨id, no, ma, rk, ki, li, wi, un, bu⟩ := r
    dsimp only [ruC] at *
    go_enter Tryz.func35, Tryz.ntmps35
    go_wp2_with (first
      | (go_at_call 55; (with_reducible refine (HI.out _).mono ?_); rintro e w1 ⟨rfl, rfl⟩))
    go_ret2
    exact ⟨rfl, hA.out _⟩
  | true =>
  rw [q1] at HI
  by_cases q2 : 255 < r.no.size
  · rw [tx_long q1 q2]
    clear q1 hz
    unfold f2
    obtain ⟨id, no, ma, rk, ki, li, wi, un, bu⟩ := r
    dsimp only [ruC] at *
    go_enter Tryz.func35, Tryz.ntmps35
    go_wp2_with (first
      | (go_at_call 55; (with_reducible refine (HI.out _).mono ?_); rintro e w1 ⟨rfl, rfl⟩))
    go_ret2
    exact ⟨rfl, hA.out _⟩
  cases q3 : isTx r.no with
  | false =>
    have z1 := hz.2 q3
    rw [tx_no q1 q2 q3]
    clear q1 q3 hz
    unfold f2
    obtain ⟨id, no, ma, rk, ki, li, wi, un, bu⟩ := r
    dsimp only [ruC] at *
    go_enter Tryz.func35, Tryz.ntmps35
    go_wp2_with (first
      | (go_at_call 55; (with_reducible refine (HI.out _).mono ?_); rintro e w1 ⟨rfl, rfl⟩)
      | (go_at_call 56; (with_reducible refine (HB.out _).mono ?_); rintro e w1 ⟨rfl, rfl⟩))
    go_ret2
    exact ⟨rfl, hA.out _⟩
  | true =>
  have z1 := hz.1 q3
  cases q4 : isPa r.ma with
  | false =>
    rw [q4] at HP
    rw [tx_ro q1 q2 q3 q4]
    clear q1 q3 q4 hz
    unfold f3
    obtain ⟨id, no, ma, rk, ki, li, wi, un, bu⟩ := r
    dsimp only [ruC] at *
    go_enter Tryz.func35, Tryz.ntmps35
    go_wp2_with (first
      | (go_at_call 55; (with_reducible refine (HI.out _).mono ?_); rintro e w1 ⟨rfl, rfl⟩)
      | (go_at_call 56; (with_reducible refine (HB.out _).mono ?_); rintro e w1 ⟨rfl, rfl⟩)
      | (go_at_call 57; (with_reducible refine (HP.out _).mono ?_); rintro e w2 ⟨rfl, hb2⟩; have k3 : w2.cell? ⟨w.heap.size, 3, none⟩ = some (.int .i64 rk) := (box_stay hb2).cell 3; have k4 : w2.cell? ⟨w.heap.size, 4, none⟩ = some (.int .i64 ki) := (box_stay hb2).cell 4))
    go_ret2
    exact ⟨rfl, (hA.out _).trans (hb2.mono (by simp))⟩
  | true =>
  rw [q4] at HP
  by_cases q5 : r.rk < 0
  · rw [tx_pr q1 q2 q3 q4 (.inl q5)]
    clear q1 q3 q4 hz
    unfold f4
    obtain ⟨id, no, ma, rk, ki, li, wi, un, bu⟩ := r
    dsimp only [ruC] at *
    go_enter Tryz.func35, Tryz.ntmps35
    go_wp2_with (first
      | (go_at_call 55; (with_reducible refine (HI.out _).mono ?_); rintro e w1 ⟨rfl, rfl⟩)
      | (go_at_call 56; (with_reducible refine (HB.out _).mono ?_); rintro e w1 ⟨rfl, rfl⟩)
      | (go_at_call 57; (with_reducible refine (HP.out _).mono ?_); rintro e w2 ⟨rfl, hb2⟩; have k3 : w2.cell? ⟨w.heap.size, 3, none⟩ = some (.int .i64 rk) := (box_stay hb2).cell 3; have k4 : w2.cell? ⟨w.heap.size, 4, none⟩ = some (.int .i64 ki) := (box_stay hb2).cell 4)
      | (go_at_call 15; (with_reducible refine (HK.out _).mono ?_); rintro e w3 ⟨rfl, rfl⟩))
    go_ret2
    exact ⟨rfl, (hA.out _).trans (hb2.mono (by simp))⟩
  by_cases q5' : 1000 < r.rk
  · rw [tx_pr q1 q2 q3 q4 (.inr q5')]
    clear q1 q3 q4 hz
    unfold f4
    obtain ⟨id, no, ma, rk, ki, li, wi, un, bu⟩ := r
    dsimp only [ruC] at *
    go_enter Tryz.func35, Tryz.ntmps35
    go_wp2_with (first
      | (go_at_call 55; (with_reducible refine (HI.out _).mono ?_); rintro e w1 ⟨rfl, rfl⟩)
      | (go_at_call 56; (with_reducible refine (HB.out _).mono ?_); rintro e w1 ⟨rfl, rfl⟩)
      | (go_at_call 57; (with_reducible refine (HP.out _).mono ?_); rintro e w2 ⟨rfl, hb2⟩; have k3 : w2.cell? ⟨w.heap.size, 3, none⟩ = some (.int .i64 rk) := (box_stay hb2).cell 3; have k4 : w2.cell? ⟨w.heap.size, 4, none⟩ = some (.int .i64 ki) := (box_stay hb2).cell 4)
      | (go_at_call 15; (with_reducible refine (HK.out _).mono ?_); rintro e w3 ⟨rfl, rfl⟩))
    go_ret2
    exact ⟨rfl, (hA.out _).trans (hb2.mono (by simp))⟩
  have q7 : ¬ (r.rk < 0 ∨ 1000 < r.rk) := fun h => h.elim q5 q5'
  by_cases q6 : kB r.ki = ⟨#[]⟩
  · rw [q6] at HK
    rw [tx_ki q1 q2 q3 q4 q7 q6]
    clear q1 q3 q4 q6 hz q7
    unfold f5
    obtain ⟨id, no, ma, rk, ki, li, wi, un, bu⟩ := r
    dsimp only [ruC] at *
    go_enter Tryz.func35, Tryz.ntmps35
    go_wp2_with (first
      | (go_at_call 55; (with_reducible refine (HI.out _).mono ?_); rintro e w1 ⟨rfl, rfl⟩)
      | (go_at_call 56; (with_reducible refine (HB.out _).mono ?_); rintro e w1 ⟨rfl, rfl⟩)
      | (go_at_call 57; (with_reducible refine (HP.out _).mono ?_); rintro e w2 ⟨rfl, hb2⟩; have k3 : w2.cell? ⟨w.heap.size, 3, none⟩ = some (.int .i64 rk) := (box_stay hb2).cell 3; have k4 : w2.cell? ⟨w.heap.size, 4, none⟩ = some (.int .i64 ki) := (box_stay hb2).cell 4)
      | (go_at_call 15; (with_reducible refine (HK.out _).mono ?_); rintro e w3 ⟨rfl, rfl⟩))
    go_ret2
    exact ⟨rfl, (hA.out _).trans (hb2.mono (by simp))⟩
  · rw [tx_ok q1 q2 q3 q4 q7 q6]
    have q8 : (kB r.ki).toList.isEmpty = false := by
      cases he : (kB r.ki).toList with
      | nil =>
        rw [Byt.toList_data] at he
        exact absurd (ByteArray.ext (Array.toList_inj.1 he)) q6
      | cons _ _ => rfl
    clear q1 q3 q4 q6 hz q7
    generalize kB r.ki = kn at *
    obtain ⟨id, no, ma, rk, ki, li, wi, un, bu⟩ := r
    dsimp only [ruC] at *
    go_enter Tryz.func35, Tryz.ntmps35
    go_wp2_with (first
      | (go_at_call 55; (with_reducible refine (HI.out _).mono ?_); rintro e w1 ⟨rfl, rfl⟩)
      | (go_at_call 56; (with_reducible refine (HB.out _).mono ?_); rintro e w1 ⟨rfl, rfl⟩)
      | (go_at_call 57; (with_reducible refine (HP.out _).mono ?_); rintro e w2 ⟨rfl, hb2⟩; have k3 : w2.cell? ⟨w.heap.size, 3, none⟩ = some (.int .i64 rk) := (box_stay hb2).cell 3; have k4 : w2.cell? ⟨w.heap.size, 4, none⟩ = some (.int .i64 ki) := (box_stay hb2).cell 4)
      | (go_at_call 15; (with_reducible refine (HK.out _).mono ?_); rintro e w3 ⟨rfl, rfl⟩))
    go_ret2
    exact ⟨rfl, (hA.out _).trans (hb2.mono (by simp))⟩


/-! ### numbers -/
theorem eR_lo {n lo hi : Int} (h : n < lo) : eR n lo hi = 2 := if_pos (.inl h)
theorem eR_hi {n lo hi : Int} (h : hi < n) : eR n lo hi = 2 := if_pos (.inr h)
theorem eR_in {n lo hi : Int} (h1 : ¬ n < lo) (h2 : n ≤ hi) : eR n lo hi = 0 := if_neg (by omega)
theorem nm_none {u : Int} (h : Uni.sz u = 0) : Uni.nmB u = ⟨#[]⟩ := by
  rcases Uni.sz_cases u with ⟨_, k⟩ | ⟨_, k⟩ | ⟨_, k⟩ | ⟨a, b, c, _⟩
  · omega
  · omega
  · omega
  · unfold Uni.nmB; rw [if_neg a, if_neg b, if_neg c]
theorem nm_some {u : Int} (h : Uni.sz u ≠ 0) : (Uni.nmB u).toList.isEmpty = false := by
  rcases Uni.sz_cases u with ⟨rfl, _⟩ | ⟨rfl, _⟩ | ⟨rfl, _⟩ | ⟨_, _, _, k⟩
  · rw [Byt.toList_data]; rfl
  · rw [Byt.toList_data]; rfl
  · rw [Byt.toList_data]; rfl
  · exact absurd k h
set_option maxHeartbeats 4000000 in
set_option maxRecDepth 100000 in
theorem rrate_any (r : Rw) (w : World) (n0 : -9223372036854775808 ≤ r.wi) (n1 : r.wi ≤ 9223372036854775807) :
    Calls Tryz.prog 36 #[.agg (ruC r)] w fun e w' => e = .returned (.tuple #[.string (fst [(q1, eR r.li 0 1000000), (q2, eU r.un), (q3, Uni.tE r.wi r.un 15 2), (q4, eR r.bu 0 1000000)]).1, .int .i64 (fst [(q1, eR r.li 0 1000000), (q2, eU r.un), (q3, Uni.tE r.wi r.un 15 2), (q4, eR r.bu 0 1000000)]).2]) ∧ Below w.heap.size w w' := by
  have HN := Lib.hid fun W => Uni.rname_any r.un W
  have HT := Lib.hid fun W => Uni.rticks_any r.wi r.un W n0 n1
  have hA := Lib.hid fun o => (Below.refl w.heap.size w).alloc (Nat.le_refl _) o
  have HZ := Lib.hid (@nm_none r.un)
  have HS := Lib.hid (@nm_some r.un)
  obtain ⟨id, no, ma, rk, ki, li, wi, un, bu⟩ := r
  dsimp only [ruC] at *
  clear n0 n1
  by_cases a1 : li < 0
  · rw [fst_yes _ (by rw [eR_lo a1]; decide), eR_lo a1]
    unfold q1
    go_enter Tryz.func36, Tryz.ntmps36
    go_wp2_with fail
    go_ret2
    exact ⟨rfl, hA.out _⟩
  by_cases a2 : li ≤ 1000000
  · rw [fst_no _ (eR_in a1 a2)]
    by_cases b1 : Uni.sz un = 0
    · have hu : eU un = 15 := if_pos b1
      rw [fst_yes _ (by rw [hu]; decide), hu]
      rw [HZ.out b1] at HN
      unfold q2
      go_enter Tryz.func36, Tryz.ntmps36
      go_wp2_with (first
        | (go_at_call 58; (with_reducible refine (HN.out _).mono ?_); rintro e w1 ⟨rfl, rfl⟩))
      go_ret2
      exact ⟨rfl, hA.out _⟩
    · have hu : eU un = 0 := if_neg b1
      have he := HS.out b1
      rw [fst_no _ hu]
      generalize Uni.nmB un = nm at *
      generalize Uni.tV wi un = tv at *
      by_cases c1 : Uni.tE wi un 15 2 = 0
      · rw [fst_no _ c1]
        rw [c1] at HT
        by_cases d1 : bu < 0
        · rw [fst_yes _ (by rw [eR_lo d1]; decide), eR_lo d1]
          unfold q4
          go_enter Tryz.func36, Tryz.ntmps36
          go_wp2_with (first
            | (go_at_call 58; (with_reducible refine (HN.out _).mono ?_); rintro e w1 ⟨rfl, rfl⟩)
            | (go_at_call 44; (with_reducible refine (HT.out _).mono ?_); rintro e w2 ⟨rfl, rfl⟩))
          go_ret2
          exact ⟨rfl, hA.out _⟩
        by_cases d2 : bu ≤ 1000000
        · rw [fst_no _ (eR_in d1 d2)]
          go_enter Tryz.func36, Tryz.ntmps36
          go_wp2_with (first
            | (go_at_call 58; (with_reducible refine (HN.out _).mono ?_); rintro e w1 ⟨rfl, rfl⟩)
            | (go_at_call 44; (with_reducible refine (HT.out _).mono ?_); rintro e w2 ⟨rfl, rfl⟩))
          go_ret2
          exact ⟨rfl, hA.out _⟩
        · rw [fst_yes _ (by rw [eR_hi (by omega)]; decide), eR_hi (by omega)]
          unfold q4
          go_enter Tryz.func36, Tryz.ntmps36
          go_wp2_with (first
            | (go_at_call 58; (with_reducible refine (HN.out _).mono ?_); rintro e w1 ⟨rfl, rfl⟩)
            | (go_at_call 44; (with_reducible refine (HT.out _).mono ?_); rintro e w2 ⟨rfl, rfl⟩))
          go_ret2
          exact ⟨rfl, hA.out _⟩
      · have hne : (Uni.tE wi un 15 2 != 0) = true := by simpa using c1
        rw [fst_yes _ c1]
        clear c1
        generalize Uni.tE wi un 15 2 = E at *
        unfold q3
        go_enter Tryz.func36, Tryz.ntmps36
        go_wp2_with (first
          | (go_at_call 58; (with_reducible refine (HN.out _).mono ?_); rintro e w1 ⟨rfl, rfl⟩)
          | (go_at_call 44; (with_reducible refine (HT.out _).mono ?_); rintro e w2 ⟨rfl, rfl⟩))
        go_ret2
        exact ⟨rfl, hA.out _⟩
  · rw [fst_yes _ (by rw [eR_hi (by omega)]; decide), eR_hi (by omega)]
    unfold q1
    go_enter Tryz.func36, Tryz.ntmps36
    go_wp2_with fail
    go_ret2
    exact ⟨rfl, hA.out _⟩

theorem eZ_no {n : Int} (h : n ≠ 0) : eZ n = 17 := if_neg h
set_option maxHeartbeats 4000000 in
set_option maxRecDepth 100000 in
theorem rmost_any (r : Rw) (w : World) :
    Calls Tryz.prog 37 #[.agg (ruC r)] w fun e w' => e = .returned (.tuple #[.string (fst [(q1, eR r.li 1 1000000), (q2, eZ r.un), (q3, eZ r.wi), (q4, eZ r.bu)]).1, .int .i64 (fst [(q1, eR r.li 1 1000000), (q2, eZ r.un), (q3, eZ r.wi), (q4, eZ r.bu)]).2]) ∧ Below w.heap.size w w' := by
  have hA := Lib.hid fun o => (Below.refl w.heap.size w).alloc (Nat.le_refl _) o
  obtain ⟨id, no, ma, rk, ki, li, wi, un, bu⟩ := r
  dsimp only [ruC] at *
  by_cases a1 : li < 1
  · rw [fst_yes _ (by rw [eR_lo a1]; decide), eR_lo a1]
    unfold q1
    go_enter Tryz.func37, Tryz.ntmps37
    go_wp2_with fail
    go_ret2
    exact ⟨rfl, hA.out _⟩
  by_cases a2 : li ≤ 1000000
  · rw [fst_no _ (eR_in a1 a2)]
    by_cases b1 : un = 0
    · subst b1
      rw [fst_no _ (show eZ 0 = 0 from rfl)]
      by_cases c1 : wi = 0
      · subst c1
        rw [fst_no _ (show eZ 0 = 0 from rfl)]
        by_cases d1 : bu = 0
        · subst d1
          rw [fst_no _ (show eZ 0 = 0 from rfl)]
          go_enter Tryz.func37, Tryz.ntmps37
          go_wp2_with fail
          go_ret2
          exact ⟨rfl, hA.out _⟩
        · have hne : (bu != 0) = true := by simpa using d1
          rw [fst_yes _ (by rw [eZ_no d1]; decide), eZ_no d1]
          unfold q4
          clear d1
          go_enter Tryz.func37, Tryz.ntmps37
          go_wp2_with fail
          go_ret2
          exact ⟨rfl, hA.out _⟩
      · have hne : (wi != 0) = true := by simpa using c1
        rw [fst_yes _ (by rw [eZ_no c1]; decide), eZ_no c1]
        unfold q3
        clear c1
        go_enter Tryz.func37, Tryz.ntmps37
        go_wp2_with fail
        go_ret2
        exact ⟨rfl, hA.out _⟩
    · have hne : (un != 0) = true := by simpa using b1
      rw [fst_yes _ (by rw [eZ_no b1]; decide), eZ_no b1]
      unfold q2
      clear b1
      go_enter Tryz.func37, Tryz.ntmps37
      go_wp2_with fail
      go_ret2
      exact ⟨rfl, hA.out _⟩
  · rw [fst_yes _ (by rw [eR_hi (by omega)]; decide), eR_hi (by omega)]
    unfold q1
    go_enter Tryz.func37, Tryz.ntmps37
    go_wp2_with fail
    go_ret2
    exact ⟨rfl, hA.out _⟩

end Go.Proofs.YthkopnobekohcaaGreatDoor.Two

namespace Go.Proofs.YthkopnobekohcaaGreatDoor.Two
open Go.RowKit Go.Lib
open Go.Proofs.YthkopnobekohcaaGreatDoor.Rul (fst)

theorem nums_fst (r : Rw) : fst (nums r) = if r.ki = 1 then fst [(q1, eR r.li 0 1000000), (q2, eU r.un), (q3, Uni.tE r.wi r.un 15 2), (q4, eR r.bu 0 1000000)] else fst [(q1, eR r.li 1 1000000), (q2, eZ r.un), (q3, eZ r.wi), (q4, eZ r.bu)] := by
  unfold nums
  split <;> rfl
set_option maxHeartbeats 4000000 in
set_option maxRecDepth 100000 in
theorem rone_any (r : Rw) (w : World) (h1 : r.id.size ≤ 140737488355328) (h2 : r.no.size ≤ 140737488355328) (h3 : r.ma.size ≤ 140737488355328) (n0 : -9223372036854775808 ≤ r.wi) (n1 : r.wi ≤ 9223372036854775807) :
    Calls Tryz.prog 23 #[.agg (ruC r)] w fun e w' => e = .returned (.tuple #[.string (chk r).1, .int .i64 (chk r).2]) ∧ Below w.heap.size w w' := by
  rw [chk_two, nums_fst]
  have HT := Lib.hid fun W => rtexts_any r W h1 h2 h3
  have HR := Lib.hid fun W => rrate_any r W n0 n1
  have HM := Lib.hid fun W => rmost_any r W
  have hA := Lib.hid fun o => (Below.refl w.heap.size w).alloc (Nat.le_refl _) o
  have hX := Lib.hid (bx_new w (ruC r))
  clear h1 h2 h3 n0 n1
  generalize txs r = x at *
  generalize fst [(q1, eR r.li 0 1000000), (q2, eU r.un), (q3, Uni.tE r.wi r.un 15 2), (q4, eR r.bu 0 1000000)] = y at *
  generalize fst [(q1, eR r.li 1 1000000), (q2, eZ r.un), (q3, eZ r.wi), (q4, eZ r.bu)] = z at *
  obtain ⟨p, E⟩ := x
  obtain ⟨p', E'⟩ := y
  obtain ⟨p'', E''⟩ := z
  obtain ⟨id, no, ma, rk, ki, li, wi, un, bu⟩ := r
  dsimp only [ruC] at *
  have HB := Lib.hid (hA.out (.cells #[.string id, .string no, .string ma, .int .i64 rk, .int .i64 ki, .int .i64 li, .int .i64 wi, .int .i64 un, .int .i64 bu] 35))
  by_cases hz : E = 0
  · subst hz
    rw [if_pos rfl]
    by_cases hk : ki = 1
    · subst hk
      rw [if_pos rfl]
      go_enter Tryz.func23, Tryz.ntmps23
      go_wp2_with (first
        | (refine wpList_fetch _ rfl _ rfl _ _ rfl X2.out rfl ?_)
        | (refine wpList_fetch _ rfl _ rfl _ _ rfl hX.out rfl ?_)
        | (go_at_call 35; (with_reducible refine (HT.out _).mono ?_); rintro e w2 ⟨rfl, hb2⟩; have X2 := Lib.hid (hX.out.next hb2 hX.out.lt); have k4 : w2.cell? ⟨w.heap.size, 4, none⟩ = some (.int .i64 1) := X2.out.cell 4; have B2 := Lib.hid (HB.out.trans (hb2.mono HB.out.size)); clear hb2)
        | (go_at_call 36; (with_reducible refine (HR.out _).mono ?_); rintro e w3 ⟨rfl, hb3⟩; have B3 := Lib.hid (B2.out.trans (hb3.mono B2.out.size)); clear hb3))
      go_ret2
      exact ⟨rfl, B3.out⟩
    · have hkb : (ki == 1) = false := by simpa using hk
      rw [if_neg hk]
      clear hk
      go_enter Tryz.func23, Tryz.ntmps23
      go_wp2_with (first
        | (refine wpList_fetch _ rfl _ rfl _ _ rfl X2.out rfl ?_)
        | (refine wpList_fetch _ rfl _ rfl _ _ rfl hX.out rfl ?_)
        | (go_at_call 35; (with_reducible refine (HT.out _).mono ?_); rintro e w2 ⟨rfl, hb2⟩; have X2 := Lib.hid (hX.out.next hb2 hX.out.lt); have k4 : w2.cell? ⟨w.heap.size, 4, none⟩ = some (.int .i64 ki) := X2.out.cell 4; have B2 := Lib.hid (HB.out.trans (hb2.mono HB.out.size)); clear hb2)
        | (go_at_call 37; (with_reducible refine (HM.out _).mono ?_); rintro e w3 ⟨rfl, hb3⟩; have B3 := Lib.hid (B2.out.trans (hb3.mono B2.out.size)); clear hb3))
      go_ret2
      exact ⟨rfl, B3.out⟩
  · have hb : (E != 0) = true := by simpa using hz
    rw [if_neg hz]
    clear hz
    go_enter Tryz.func23, Tryz.ntmps23
    go_wp2_with (first
      | (refine wpList_fetch _ rfl _ rfl _ _ rfl hX.out rfl ?_)
      | (go_at_call 35; (with_reducible refine (HT.out _).mono ?_); rintro e w2 ⟨rfl, hb2⟩; have B2 := Lib.hid (HB.out.trans (hb2.mono HB.out.size)); clear hb2))
    go_ret2
    exact ⟨rfl, B2.out⟩
end Go.Proofs.YthkopnobekohcaaGreatDoor.Two

namespace Go.Proofs.YthkopnobekohcaaGreatDoor.Two
open Go.RowKit Go.Lib
open Go.Proofs.YthkopnobekohcaaGreatDoor.Ren (Pw)

theorem itoa_at (n : Int) (h1 : -9223372036854775808 ≤ n) (h2 : n ≤ 9223372036854775807) (W : World) (hP : Pw W) :
    Calls Tryz.prog 22 #[.int .i64 n] W fun e w' => e = .returned (.string ⟨(Lib.itoa n).toArray⟩) ∧ Below W.heap.size W w' := by
  refine (Tryz.strconv_Itoa n h1 h2 W hP).mono ?_
  rintro e w' ⟨rfl, k, os, rfl⟩
  exact ⟨rfl, Lib.below_grow _ W (Nat.le_refl _) k os⟩
theorem fst_size (n : Nat) : ∀ l : List (ByteArray × Int), (∀ x ∈ l, x.1.size ≤ n) → (Rul.fst l).1.size ≤ n
  | [], _ => Nat.zero_le _
  | (p, e) :: l, h => by
    by_cases he : e = 0
    · rw [Rul.fst_no l he]; exact fst_size n l fun x hx => h x (List.mem_cons_of_mem _ hx)
    · rw [Rul.fst_yes l he]; exact h _ List.mem_cons_self
theorem path_size : ∀ p ∈ [f1, f2, f3, f4, f5, q1, q2, q3, q4], p.size ≤ 10 := by decide
theorem chk_size (r : Rw) : (chk r).1.size ≤ 10 := by
  refine fst_size 10 _ fun x hx => ?_
  unfold errs nums at hx
  split at hx
  all_goals
    simp only [List.mem_cons, List.not_mem_nil, or_false] at hx
    rcases hx with rfl | rfl | rfl | rfl | rfl | rfl | rfl | rfl | rfl <;> exact path_size _ (by simp only [List.mem_cons, true_or, or_true])
theorem rga_ga (L : List Rw) (i : Nat) : rga L i = ga L i := rfl
/-- Texts of at most 2^47 bytes, windows that are ints. -/
def Mod (L : List Rw) : Prop := ∀ r ∈ L, r.id.size ≤ 140737488355328 ∧ r.no.size ≤ 140737488355328 ∧ r.ma.size ≤ 140737488355328 ∧ -9223372036854775808 ≤ r.wi ∧ r.wi ≤ 9223372036854775807
/-- A rule's place, as a path. -/
def at_ (i : Nat) : ByteArray := ⟨#[47]⟩ ++ ⟨(Lib.itoa (i : Int)).toArray⟩
theorem pre_at (i : Nat) (p : ByteArray) : pre i p = at_ i ++ p := rfl
theorem itoa_size (i : Nat) (h : i ≤ 5000) : (⟨(Lib.itoa (i : Int)).toArray⟩ : ByteArray).size ≤ 21 := by
  have := Lib.itoa_length_le (i : Int) (by omega) (by omega)
  show (Lib.itoa (i : Int)).toArray.size ≤ 21
  rwa [List.size_toArray]
/-- What the loop over the rules has told so far. -/
theorem step_at {L : List Rw} {i : Nat} (hi : i < L.length) (hf : Rul.fst (nxs L) = Rul.fst ((nxs L).drop i)) :
    ((nx L i).2 = 0 → Rul.fst (nxs L) = Rul.fst ((nxs L).drop (i + 1))) ∧ ((nx L i).2 ≠ 0 → Rul.fst (nxs L) = nx L i) := by
  rw [nxs_drop L hi] at hf
  rcases hx : nx L i with ⟨p, e⟩
  rw [hx] at hf
  exact ⟨fun h => by rw [hf, Rul.fst_no _ h], fun h => by rw [hf, Rul.fst_yes _ h]⟩
/-- The three ends of a round. -/
theorem round_bad {L : List Rw} {i : Nat} (hi : i < L.length) (hf : Rul.fst (nxs L) = Rul.fst ((nxs L).drop i)) (h : (chk (ga L i)).2 ≠ 0) : Rul.fst (nxs L) = (at_ i ++ (chk (ga L i)).1, (chk (ga L i)).2) := by
  have e := nx_bad h
  have := (step_at hi hf).2 (by rw [e]; exact h)
  rw [this, e, pre_at]
theorem round_twice {L : List Rw} {i k : Nat} (hi : i < L.length) (hf : Rul.fst (nxs L) = Rul.fst ((nxs L).drop i)) (h : (chk (ga L i)).2 = 0) (hk : k < i) (he : (ga L k).id = (ga L i).id) : Rul.fst (nxs L) = (at_ i ++ ⟨#[47, 105, 100]⟩, 11) := by
  have e := nx_twice h (tw_yes hi hk he)
  have := (step_at hi hf).2 (by rw [e]; exact (by decide : (11 : Int) ≠ 0))
  rw [this, e]; rfl
theorem round_ok {L : List Rw} {i : Nat} (hi : i < L.length) (hf : Rul.fst (nxs L) = Rul.fst ((nxs L).drop i)) (h : (chk (ga L i)).2 = 0) (hn : ∀ k, k < i → (ga L k).id ≠ (ga L i).id) : Rul.fst (nxs L) = Rul.fst ((nxs L).drop (i + 1)) := by
  have e := nx_ok h ((tw_iff hi).2 hn)
  exact (step_at hi hf).1 (by rw [e])
theorem sck_many {L : List Rw} (h : 4096 < L.length) : sck L = (⟨#[]⟩, 12) := by unfold sck; rw [if_pos h]
theorem sck_few {L : List Rw} (h : ¬ 4096 < L.length) : sck L = Rul.fst (nxs L) := by unfold sck; rw [if_neg h]

set_option maxHeartbeats 8000000 in
set_option maxRecDepth 100000 in
theorem rcheck_any (L : List Rw) (v : Value) (w : World) (hr : Row w v L) (hl : L.length ≤ 9223372036854775807) (hs : Mod L) (hP : Pw w) :
    Calls Tryz.prog 8 #[v] w fun e w' => e = .returned (.tuple #[.string (sck L).1, .int .i64 (sck L).2]) ∧ Below w.heap.size w w' := by
  obtain ⟨a, cap, rfl, -, hc⟩ := hr.open_
  by_cases hm : 4096 < L.length
  · rw [sck_many hm]
    clear hc hr
    go_enter Tryz.func8, Tryz.ntmps8
    go_wp2_with fail
    go_ret2
    exact ⟨rfl, Below.refl _ _⟩
  rw [sck_few hm]
  have HC := Lib.hid hc
  have HPW := Lib.hid hP
  have HI := Lib.hid fun (i : Nat) (h : i < L.length) W (hW : Pw W) => itoa_at (i : Int) (by omega) (by omega) W hW
  have HZ := Lib.hid fun (i : Nat) (h : i < L.length) => itoa_size i (by omega)
  have HK := Lib.hid fun (i : Nat) (h : i < L.length) W => rone_any (ga L i) W (hs _ (ga_mem h)).1 (hs _ (ga_mem h)).2.1 (hs _ (ga_mem h)).2.2.1 (hs _ (ga_mem h)).2.2.2.1 (hs _ (ga_mem h)).2.2.2.2
  have HKS := Lib.hid fun (i : Nat) => chk_size (ga L i)
  have HRB := Lib.hid fun i => @round_bad L i
  have HRT := Lib.hid fun i k => @round_twice L i k
  have HRO := Lib.hid fun i => @round_ok L i
  have HEN := nxs_len L
  have HEN := Lib.hid HEN
  clear hc hr hs hP
  go_enter Tryz.func8, Tryz.ntmps8
  go_wp2_with fail
  go_loopw [14] (fun i wr => ∃ m : Nat, i = .int .i64 (m : Int) ∧ m ≤ L.length ∧ Hid (Below w.heap.size w wr) ∧ Hid (Rul.fst (nxs L) = Rul.fst ((nxs L).drop m))) (fun i _ => L.length - (RowKit.intOf i).toNat)
  case atStart => exact ⟨0, rfl, Nat.zero_le _, Lib.hid (Below.refl _ _), Lib.hid rfl⟩
  case round =>
    obtain ⟨m, rfl, hk, HB, HF⟩ := hrel
    by_cases hlt : m < L.length
    · obtain ⟨b, off, rfl, hcl⟩ := HC.out m hlt
      rw [rga_ga] at hcl
      have HCM := Lib.hid hcl
      have c0 : w.cell? ⟨b, off + m * 9, none⟩ = some (.string (ga L m).id) := hcl 0 _ rfl
      have HI2 := Lib.hid (HI.out m hlt)
      have HZ2 := HZ.out m hlt
      have HK2 := Lib.hid (HK.out m hlt)
      have HKS2 := HKS.out m
      have HRB2 := Lib.hid (HRB.out m hlt HF.out)
      have HRT2 := Lib.hid fun k => HRT.out m k hlt HF.out
      have HRO2 := Lib.hid (HRO.out m hlt HF.out)
      have hat : (⟨#[47]⟩ : ByteArray) ++ ⟨(Lib.itoa (m : Int)).toArray⟩ = at_ m := rfl
      have hats : (at_ m).size ≤ 22 := by rw [← hat, ByteArray.size_append]; show 1 + _ ≤ 22; omega
      clear hcl
      generalize (⟨(Lib.itoa (m : Int)).toArray⟩ : ByteArray) = it at *
      generalize at_ m = A at *
      obtain ⟨X, hX⟩ : ∃ X, ga L m = X := ⟨_, rfl⟩
      rw [hX] at HCM HK2 HKS2 HRB2 HRT2 HRO2 c0
      have HX := Lib.hid hX
      clear hX
      generalize chk X = c at *
      obtain ⟨p, E⟩ := c
      dsimp only at HKS2 HRB2 HRT2 HRO2 HK2
      by_cases hE : E = 0
      · subst hE
        go_wp2_with (first
          | (refine wpList_take _ rfl _ rfl b (off + m * 9) X rfl (rangeAt_next HCM.out B1.out) ?_)
          | (go_at_call 22; (with_reducible refine (HI2.out _ (HPW.out.next HB.out)).mono ?_); rintro e w1 ⟨rfl, hb1⟩; have B1 := Lib.hid (HB.out.trans (hb1.mono HB.out.size)); clear hb1)
          | (go_at_call 23; (with_reducible refine (HK2.out _).mono ?_); rintro e w2 ⟨rfl, hb2⟩; have B2 := Lib.hid (B1.out.trans (hb2.mono B1.out.size)); clear hb2))
        go_loopw [35] (fun i wr => ∃ k : Nat, i = .int .i64 (k : Int) ∧ k ≤ m ∧ Hid (Below w.heap.size w wr) ∧ Hid (∀ j, j < k → (ga L j).id ≠ X.id)) (fun i _ => m - (RowKit.intOf i).toNat)
        case atStart => exact ⟨0, rfl, Nat.zero_le _, B2, Lib.hid fun j hj => absurd hj (Nat.not_lt_zero _)⟩
        case round =>
          obtain ⟨k, rfl, hkm, HBQ, HA⟩ := hrel
          by_cases hlk : k < m
          · obtain ⟨b', off', hab, hck⟩ := HC.out k (by omega)
            injection hab with hab
            injection hab with e1 e2
            subst e1 e2
            rw [rga_ga] at hck
            have d0 : wr.cell? ⟨b, off + k * 9, none⟩ = some (.string (ga L k).id) := (HBQ.out.cell (lt_of_cell (hck 0 _ rfl))).trans (hck 0 _ rfl)
            have d1 : wr.cell? ⟨b, off + m * 9, none⟩ = some (.string X.id) := (HBQ.out.cell (lt_of_cell c0)).trans c0
            clear hck
            have HRT3 := Lib.hid fun h => HRT2.out k (by first | rfl | trivial) hlk h
            have HX3 := Lib.hid fun (h : (ga L k).id ≠ X.id) j (hj : j < k + 1) => by
              by_cases q : j < k
              · exact HA.out j q
              · obtain rfl : j = k := by omega
                exact h
            generalize (ga L k).id = y at *
            generalize X.id = x at *
            by_cases hz : y = x
            · have E := Lib.hid (HRT3.out hz)
              have hq : (y.toList == x.toList) = true := by rw [hz]; exact beq_self_eq_true _
              clear hz
              go_wp2_with fail
              go_region
              go_wp2_with fail
              go_ret2
              rw [E.out]
              exact ⟨rfl, HBQ.out.drew⟩
            · have HX4 := Lib.hid (HX3.out hz)
              have hq : (y.toList == x.toList) = false := Byt.str_neq hz
              clear hz
              go_wp2_with fail
              go_region
              go_wp2_with fail
              go_roundw
              case rel => exact ⟨k + 1, by go_num, by omega, Lib.hid HBQ.out.drew, HX4⟩
              case measure => simp [RowKit.intOf]; omega
          · obtain rfl : k = m := by omega
            have HF2 := Lib.hid (HRO2.out (by first | rfl | trivial) fun j hj => HA.out j hj)
            go_wp2_with fail
            go_roundw
            case rel => exact ⟨k + 1, by go_num, by omega, HBQ, HF2⟩
            case measure => simp [RowKit.intOf]; omega
      · have HZZ := Lib.hid (HRB2.out hE)
        have b1 : (E != 0) = true := by simpa using hE
        clear hE
        go_wp2_with (first
          | (refine wpList_take _ rfl _ rfl b (off + m * 9) X rfl (rangeAt_next HCM.out B1.out) ?_)
          | (go_at_call 22; (with_reducible refine (HI2.out _ (HPW.out.next HB.out)).mono ?_); rintro e w1 ⟨rfl, hb1⟩; have B1 := Lib.hid (HB.out.trans (hb1.mono HB.out.size)); clear hb1)
          | (go_at_call 23; (with_reducible refine (HK2.out _).mono ?_); rintro e w2 ⟨rfl, hb2⟩; have B2 := Lib.hid (B1.out.trans (hb2.mono B1.out.size)); clear hb2))
        go_ret2
        rw [HZZ.out]
        exact ⟨rfl, B2.out⟩
    · obtain rfl : m = L.length := by omega
      have HN := HF.out
      rw [List.drop_of_length_le (by rw [HEN.out]; exact Nat.le_refl _)] at HN
      go_wp2_with fail
      go_ret2
      rw [HN]
      exact ⟨rfl, HB.out⟩
end Go.Proofs.YthkopnobekohcaaGreatDoor.Two

namespace Go.Proofs.YthkopnobekohcaaGreatDoor.Two
open Go.RowKit Go.Lib

def lg1 (r : Rw) : Bool := decide (r.id.size ≤ 400) && decide (r.no.size ≤ 400) && decide (r.ma.size ≤ 400)
theorem lg1_iff (r : Rw) : lg1 r = true ↔ r.id.size ≤ 400 ∧ r.no.size ≤ 400 ∧ r.ma.size ≤ 400 := by
  unfold lg1
  rw [Bool.and_eq_true, Bool.and_eq_true, decide_eq_true_eq, decide_eq_true_eq, decide_eq_true_eq]
  exact ⟨fun h => ⟨h.1.1, h.1.2, h.2⟩, fun h => ⟨⟨h.1, h.2.1⟩, h.2.2⟩⟩
/-- Few rules, with short texts, or more than there may be. -/
def lgS (L : List Rw) : Bool := !((decide (60 < L.length) && decide (L.length ≤ 4096)) || decide (5000 < L.length)) && L.all lg1
theorem lgS_long {L : List Rw} (h : (60 < L.length ∧ L.length ≤ 4096) ∨ 5000 < L.length) : lgS L = false := by
  unfold lgS
  have : ((decide (60 < L.length) && decide (L.length ≤ 4096)) || decide (5000 < L.length)) = true := by simpa using h
  rw [this]; rfl
theorem lgS_wide {L : List Rw} {i : Nat} (hi : i < L.length) (h : lg1 (ga L i) = false) : lgS L = false := by
  unfold lgS
  rw [Bool.and_eq_false_iff]
  right
  rw [List.all_eq_false]
  exact ⟨_, ga_mem hi, by rw [h]; decide⟩
theorem lgS_yes {L : List Rw} (h1 : ¬ ((60 < L.length ∧ L.length ≤ 4096) ∨ 5000 < L.length)) (h2 : ∀ j, j < L.length → lg1 (ga L j) = true) : lgS L = true := by
  unfold lgS
  have : ((decide (60 < L.length) && decide (L.length ≤ 4096)) || decide (5000 < L.length)) = false := by
    rw [Bool.eq_false_iff]
    intro q
    exact h1 (by simpa using q)
  rw [this, Bool.not_false, Bool.true_and, List.all_eq_true]
  intro r hr
  obtain ⟨i, hi, rfl⟩ := mem_ga hr
  exact h2 i hi
theorem lgS_iff {L : List Rw} (h : lgS L = true) : L.length ≤ 5000 ∧ (L.length ≤ 60 ∨ 4096 < L.length) ∧ ∀ r ∈ L, r.id.size ≤ 400 ∧ r.no.size ≤ 400 ∧ r.ma.size ≤ 400 := by
  have h1 : ¬ ((60 < L.length ∧ L.length ≤ 4096) ∨ 5000 < L.length) := fun q => by rw [lgS_long q] at h; cases h
  refine ⟨by omega, by omega, fun r hr => ?_⟩
  obtain ⟨i, hi, rfl⟩ := mem_ga hr
  cases hq : lg1 (ga L i) with
  | true => exact (lg1_iff _).1 hq
  | false => rw [lgS_wide hi hq] at h; cases h
/-- The texts are strings. -/
def Fit (L : List Rw) : Prop := ∀ r ∈ L, r.id.size ≤ 9223372036854775807 ∧ r.no.size ≤ 9223372036854775807 ∧ r.ma.size ≤ 9223372036854775807 ∧ -9223372036854775808 ≤ r.wi ∧ r.wi ≤ 9223372036854775807

set_option maxHeartbeats 4000000 in
set_option maxRecDepth 100000 in
theorem light_any (L : List Rw) (v : Value) (w : World) (hr : Row w v L) (hl : L.length ≤ 9223372036854775807) (hs : Fit L) :
    Calls Tryz.prog 5 #[v] w fun e w' => e = .returned (.bool (lgS L)) ∧ w = w' := by
  obtain ⟨a, cap, rfl, -, hc⟩ := hr.open_
  by_cases h60 : (60 < L.length ∧ L.length ≤ 4096) ∨ 5000 < L.length
  · rw [lgS_long h60]
    clear hc hr hs
    by_cases g1 : 5000 < L.length
    · have n1 : 60 < L.length := by omega
      have n2 : ¬ L.length ≤ 4096 := by omega
      clear h60
      go_enter Tryz.func5, Tryz.ntmps5
      go_wp2_with fail
      go_ret
      exact ⟨rfl, rfl⟩
    · have n1 : 60 < L.length := by omega
      have n2 : L.length ≤ 4096 := by omega
      clear h60 g1
      go_enter Tryz.func5, Tryz.ntmps5
      go_wp2_with fail
      go_ret
      exact ⟨rfl, rfl⟩
  · have HC := Lib.hid hc
    have HW := Lib.hid fun i => @lgS_wide L i
    have HY := Lib.hid (@lgS_yes L h60)
    have HS := Lib.hid hs
    have HL1 := Lib.hid fun r => lg1_iff r
    have n1 : ¬ 5000 < L.length := by omega
    have n2 : ¬ (60 < L.length ∧ L.length ≤ 4096) := by omega
    clear hc hr hs h60
    rcases (show ¬ 60 < L.length ∨ (60 < L.length ∧ ¬ L.length ≤ 4096) by omega) with n3 | ⟨n3, n4⟩
    all_goals
      clear n2
      go_enter Tryz.func5, Tryz.ntmps5
      go_wp2_with fail
      go_loop [19] (fun i => ∃ k : Nat, i = .int .i64 (k : Int) ∧ k ≤ L.length ∧ Hid (∀ j, j < k → lg1 (ga L j) = true)) (fun i => L.length - (RowKit.intOf i).toNat)
      case atStart => exact ⟨0, rfl, Nat.zero_le _, Lib.hid fun j hj => absurd hj (Nat.not_lt_zero _)⟩
      case round =>
        obtain ⟨k, rfl, hk, HA⟩ := hrel
        by_cases hlt : k < L.length
        · obtain ⟨b, off, rfl, hcl⟩ := HC.out k hlt
          change w.rangeAt b (off + k * 9) (ruL (ga L k)) at hcl
          obtain ⟨c0, c1, c2, -⟩ := range_cells hcl
          have hsz := HS.out _ (ga_mem hlt)
          have HW2 := Lib.hid (HW.out k hlt)
          have HX := Lib.hid fun (h : lg1 (ga L k) = true) j (hj : j < k + 1) => by
            by_cases q : j < k
            · exact HA.out j q
            · obtain rfl : j = k := by omega
              exact h
          have HL2 := Lib.hid (HL1.out (ga L k))
          clear hcl
          generalize hq : lg1 (ga L k) = bq at *
          clear hq
          generalize (ga L k).id = x0 at *
          generalize (ga L k).no = x1 at *
          generalize (ga L k).ma = x2 at *
          obtain ⟨z0, z1, z2, -⟩ := hsz
          cases bq with
          | true =>
            obtain ⟨y0, y1, y2⟩ := HL2.out.1 rfl
            have HX2 := Lib.hid (HX.out rfl)
            go_wp2_with fail
            go_round
            case rel => exact ⟨k + 1, by go_num, by omega, HX2⟩
            case measure => simp [RowKit.intOf]; omega
          | false =>
            have HN : ¬ (x0.size ≤ 400 ∧ x1.size ≤ 400 ∧ x2.size ≤ 400) := fun h => by have := HL2.out.2 h; cases this
            have HZ := Lib.hid (HW2.out rfl)
            rcases (show ¬ x0.size ≤ 400 ∨ (x0.size ≤ 400 ∧ ¬ x1.size ≤ 400) ∨ (x0.size ≤ 400 ∧ x1.size ≤ 400 ∧ ¬ x2.size ≤ 400) by omega) with y0 | ⟨y0, y1⟩ | ⟨y0, y1, y2⟩
            all_goals
              clear HN
              go_wp2_with fail
              go_ret
              rw [HZ.out]
              exact ⟨rfl, rfl⟩
        · obtain rfl : k = L.length := by omega
          have HZ := Lib.hid (HY.out HA.out)
          go_wp2_with fail
          go_ret
          rw [HZ.out]
          exact ⟨rfl, rfl⟩
end Go.Proofs.YthkopnobekohcaaGreatDoor.Two
