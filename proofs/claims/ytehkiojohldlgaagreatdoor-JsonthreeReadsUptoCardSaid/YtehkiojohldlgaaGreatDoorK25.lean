/- Texts of my own, packed: RulP2. Conditions: as each theorem states. -/
import Derived.Deep.RegionHeld3
import Derived.Test.YtehkiojohldlgaaGreatDoorK04
import Derived.Test.YtehkiojohldlgaaGreatDoorK06
import Derived.Test.YtehkiojohldlgaaGreatDoorK09
import Derived.Test.YtehkiojohldlgaaGreatDoorK24
namespace Go.Proofs.YtehkiojohldlgaaGreatDoor.Rul
open Go.RowKit Go.Lib

/-! ### what is wrong with the texts -/
theorem tx_id {r : Ru} (h : isId r.id = false) : txs r = (p1, 13) := by
  have : e1 r = 13 := by unfold e1; rw [h]; rfl
  unfold txs
  rw [fst_yes _ (by rw [this]; decide), this]
theorem tx_long {r : Ru} (h1 : isId r.id = true) (h2 : 255 < r.no.size) : txs r = (p2, 5) := by
  have : e2 r = 5 := by unfold e2; rw [if_pos h2]
  unfold txs
  rw [fst_no _ ((e1_zero r).2 h1), fst_yes _ (by rw [this]; decide), this]
theorem tx_no {r : Ru} (h1 : isId r.id = true) (h2 : ¬ 255 < r.no.size) (h3 : isTx r.no = false) : txs r = (p2, 8) := by
  have : e2 r = 8 := by unfold e2; rw [if_neg h2, h3]; rfl
  unfold txs
  rw [fst_no _ ((e1_zero r).2 h1), fst_yes _ (by rw [this]; decide), this]
theorem tx_ro {r : Ru} (h1 : isId r.id = true) (h2 : ¬ 255 < r.no.size) (h3 : isTx r.no = true) (h4 : isPa r.ro = false) : txs r = (p3, 14) := by
  have : e3 r = 14 := by unfold e3; rw [h4]; rfl
  unfold txs
  rw [fst_no _ ((e1_zero r).2 h1), fst_no _ ((e2_zero r).2 ⟨by omega, h3⟩), fst_yes _ (by rw [this]; decide), this]
theorem tx_pr {r : Ru} (h1 : isId r.id = true) (h2 : ¬ 255 < r.no.size) (h3 : isTx r.no = true) (h4 : isPa r.ro = true) (h5 : r.pr < 0 ∨ 1000 < r.pr) : txs r = (p4, 2) := by
  have : e4 r = 2 := by unfold e4; rw [if_pos h5]
  unfold txs
  rw [fst_no _ ((e1_zero r).2 h1), fst_no _ ((e2_zero r).2 ⟨by omega, h3⟩), fst_no _ ((e3_zero r).2 h4), fst_yes _ (by rw [this]; decide), this]
theorem tx_ki {r : Ru} (h1 : isId r.id = true) (h2 : ¬ 255 < r.no.size) (h3 : isTx r.no = true) (h4 : isPa r.ro = true) (h5 : ¬ (r.pr < 0 ∨ 1000 < r.pr)) (h6 : kB r.ki = ⟨#[]⟩) : txs r = (p5, 15) := by
  have : e5 r = 15 := by unfold e5; rw [if_neg ((kB_none _).1 h6)]
  unfold txs
  rw [fst_no _ ((e1_zero r).2 h1), fst_no _ ((e2_zero r).2 ⟨by omega, h3⟩), fst_no _ ((e3_zero r).2 h4), fst_no _ ((e4_zero r).2 (by omega)), fst_yes _ (by rw [this]; decide), this]
theorem tx_ok {r : Ru} (h1 : isId r.id = true) (h2 : ¬ 255 < r.no.size) (h3 : isTx r.no = true) (h4 : isPa r.ro = true) (h5 : ¬ (r.pr < 0 ∨ 1000 < r.pr)) (h6 : kB r.ki ≠ ⟨#[]⟩) : txs r = (⟨#[]⟩, 0) := by
  have h7 : r.ki = 1 ∨ r.ki = 2 ∨ r.ki = 3 := Decidable.byContradiction fun h => h6 ((kB_none _).2 h)
  unfold txs
  rw [fst_no _ ((e1_zero r).2 h1), fst_no _ ((e2_zero r).2 ⟨by omega, h3⟩), fst_no _ ((e3_zero r).2 h4), fst_no _ ((e4_zero r).2 (by omega)), fst_no _ ((e5_zero r).2 h7)]
  rfl
theorem tx_bad (s : ByteArray) : (isTx s = true → Utf.bI (Utf.badL s.data.toList) < 0) ∧ (isTx s = false → 0 ≤ Utf.bI (Utf.badL s.data.toList)) := by
  unfold isTx
  cases Utf.badL s.data.toList with
  | none => exact ⟨fun _ => by decide, fun h => absurd h (by simp)⟩
  | some k => exact ⟨fun h => absurd h (by simp), fun _ => Int.natCast_nonneg k⟩
theorem isIn_no {n lo hi : Int} (h : n < lo ∨ hi < n) : isIn n lo hi = false := by
  unfold isIn
  rw [Bool.and_eq_false_iff, decide_eq_false_iff_not, decide_eq_false_iff_not]
  omega
theorem isIn_yes {n lo hi : Int} (h : ¬ (n < lo ∨ hi < n)) : isIn n lo hi = true := by
  unfold isIn
  rw [Bool.and_eq_true, decide_eq_true_eq, decide_eq_true_eq]
  omega
/-- A rule boxed at the start of a call stands behind all that follows. -/
theorem box_stay {w w1 : World} {cs : Array Value} (hb : Below (w.alloc (.cells cs 49)).heap.size (w.alloc (.cells cs 49)) w1) : Bx w1 w.heap.size cs :=
  (bx_new w cs).next hb (by simp)

set_option maxHeartbeats 4000000 in
set_option maxRecDepth 100000 in
theorem common_any (r : Ru) (w : World) (hT : Tab w) (hU : Utf.Tabs w) (h1 : r.id.size ≤ 140737488355328) (h2 : r.no.size ≤ 140737488355328) (h3 : r.ro.size ≤ 140737488355328) :
    Calls Tryz.prog 104 #[.agg (ruC r)] w fun e w' => e = .returned (.tuple #[.string (txs r).1, .int .i64 (txs r).2]) ∧ Below w.heap.size w w' := by
  have HI := Lib.hid fun W => Ide.is_any r.id W h1
  have HB := Lib.hid fun W hW => Utf.bad_any r.no W hW h2
  have HP := Lib.hid fun W => Rou.pat_any r.ro W h3
  have HW := Lib.hid fun W => within_any r.pr 0 1000 W
  have HK := Lib.hid fun W hW => kind_any r.ki W hW
  have HT := Lib.hid hT
  have HU := Lib.hid hU
  have hA : ∀ o, Below w.heap.size w (w.alloc o) := fun o => (Below.refl _ _).alloc (Nat.le_refl _) o
  have hA := Lib.hid hA
  have hz := tx_bad r.no
  clear hT hU
  change Hid (∀ W, Calls _ _ _ W fun e w' => e = .returned (.bool (isId r.id)) ∧ W = w') at HI
  change Hid (∀ W, Calls _ _ _ W fun e w' => e = .returned (.bool (isPa r.ro)) ∧ Below W.heap.size W w') at HP
  generalize Utf.bI (Utf.badL r.no.data.toList) = z at *
  cases q1 : isId r.id with
  | false =>
    rw [q1] at HI
    rw [tx_id q1]
    clear q1 hz
    unfold p1
    obtain ⟨id, no, ro, pr, ki, ra, pe, bu, co, mx, fa, wa, pb⟩ := r
    unfold ruC
    go_enter Tryz.func104, Tryz.ntmps104
    go_wp2_with (go_at_call 131; (with_reducible refine (HI.out _).mono ?_); rintro e w1 ⟨rfl, rfl⟩)
    go_ret2
    exact ⟨rfl, hA.out _⟩
  | true =>
  rw [q1] at HI
  by_cases q2 : 255 < r.no.size
  · rw [tx_long q1 q2]
    clear q1 hz
    unfold p2
    obtain ⟨id, no, ro, pr, ki, ra, pe, bu, co, mx, fa, wa, pb⟩ := r
    unfold ruC
    go_enter Tryz.func104, Tryz.ntmps104
    go_wp2_with (go_at_call 131; (with_reducible refine (HI.out _).mono ?_); rintro e w1 ⟨rfl, rfl⟩)
    go_ret2
    exact ⟨rfl, hA.out _⟩
  cases q3 : isTx r.no with
  | false =>
    have z1 := hz.2 q3
    rw [tx_no q1 q2 q3]
    clear q1 q3 hz
    unfold p2
    obtain ⟨id, no, ro, pr, ki, ra, pe, bu, co, mx, fa, wa, pb⟩ := r
    unfold ruC
    go_enter Tryz.func104, Tryz.ntmps104
    go_wp2_with (first
      | (go_at_call 131; (with_reducible refine (HI.out _).mono ?_); rintro e w1 ⟨rfl, rfl⟩)
      | (go_at_call 132; (with_reducible refine (HB.out _ (HU.out.next (hA.out _))).mono ?_); rintro e w1 ⟨rfl, hb1⟩))
    go_ret2
    exact ⟨rfl, (hA.out _).trans (hb1.mono (by simp))⟩
  | true =>
  have z1 := hz.1 q3
  cases q4 : isPa r.ro with
  | false =>
    rw [q4] at HP
    rw [tx_ro q1 q2 q3 q4]
    clear q1 q3 q4 hz
    unfold p3
    obtain ⟨id, no, ro, pr, ki, ra, pe, bu, co, mx, fa, wa, pb⟩ := r
    unfold ruC
    go_enter Tryz.func104, Tryz.ntmps104
    go_wp2_with (first
      | (go_at_call 131; (with_reducible refine (HI.out _).mono ?_); rintro e w1 ⟨rfl, rfl⟩)
      | (go_at_call 132; (with_reducible refine (HB.out _ (HU.out.next (hA.out _))).mono ?_); rintro e w1 ⟨rfl, hb1⟩
         have k2 : w1.cell? ⟨w.heap.size, 2, none⟩ = some (.string ro) := (box_stay hb1).cell 2)
      | (go_at_call 133; (with_reducible refine (HP.out _).mono ?_); rintro e w2 ⟨rfl, hb2⟩))
    go_ret2
    exact ⟨rfl, ((hA.out _).trans (hb1.mono (by simp))).trans (hb2.mono (by have := hb1.size; simp at this; omega))⟩
  | true =>
  rw [q4] at HP
  by_cases q5 : r.pr < 0 ∨ 1000 < r.pr
  · rw [isIn_no q5] at HW
    rw [tx_pr q1 q2 q3 q4 q5]
    clear q1 q3 q4 q5 hz
    unfold p4
    obtain ⟨id, no, ro, pr, ki, ra, pe, bu, co, mx, fa, wa, pb⟩ := r
    unfold ruC
    go_enter Tryz.func104, Tryz.ntmps104
    go_wp2_with (first
      | (go_at_call 131; (with_reducible refine (HI.out _).mono ?_); rintro e w1 ⟨rfl, rfl⟩)
      | (go_at_call 132; (with_reducible refine (HB.out _ (HU.out.next (hA.out _))).mono ?_); rintro e w1 ⟨rfl, hb1⟩
         have k2 : w1.cell? ⟨w.heap.size, 2, none⟩ = some (.string ro) := (box_stay hb1).cell 2)
      | (go_at_call 133; (with_reducible refine (HP.out _).mono ?_); rintro e w2 ⟨rfl, hb2⟩
         have k3 : w2.cell? ⟨w.heap.size, 3, none⟩ = some (.int .i64 pr) := ((box_stay hb1).next hb2 (box_stay hb1).lt).cell 3)
      | (go_at_call 134; (with_reducible refine (HW.out _).mono ?_); rintro e w3 ⟨rfl, rfl⟩))
    go_ret2
    exact ⟨rfl, ((hA.out _).trans (hb1.mono (by simp))).trans (hb2.mono (by have := hb1.size; simp at this; omega))⟩
  rw [isIn_yes q5] at HW
  by_cases q6 : kB r.ki = ⟨#[]⟩
  · rw [q6] at HK
    rw [tx_ki q1 q2 q3 q4 q5 q6]
    clear q1 q3 q4 q5 q6 hz
    unfold p5
    obtain ⟨id, no, ro, pr, ki, ra, pe, bu, co, mx, fa, wa, pb⟩ := r
    unfold ruC
    go_enter Tryz.func104, Tryz.ntmps104
    go_wp2_with (first
      | (go_at_call 131; (with_reducible refine (HI.out _).mono ?_); rintro e w1 ⟨rfl, rfl⟩)
      | (go_at_call 132; (with_reducible refine (HB.out _ (HU.out.next (hA.out _))).mono ?_); rintro e w1 ⟨rfl, hb1⟩
         have k2 : w1.cell? ⟨w.heap.size, 2, none⟩ = some (.string ro) := (box_stay hb1).cell 2)
      | (go_at_call 133; (with_reducible refine (HP.out _).mono ?_); rintro e w2 ⟨rfl, hb2⟩
         have k3 : w2.cell? ⟨w.heap.size, 3, none⟩ = some (.int .i64 pr) := ((box_stay hb1).next hb2 (box_stay hb1).lt).cell 3
         have k4 : w2.cell? ⟨w.heap.size, 4, none⟩ = some (.int .i64 ki) := ((box_stay hb1).next hb2 (box_stay hb1).lt).cell 4
         have HT2 := Lib.hid (((HT.out.next (hA.out _)).next hb1).next hb2))
      | (go_at_call 134; (with_reducible refine (HW.out _).mono ?_); rintro e w3 ⟨rfl, rfl⟩)
      | (go_at_call 55; (with_reducible refine (HK.out _ HT2.out).mono ?_); rintro e w3 ⟨rfl, rfl⟩))
    go_ret2
    exact ⟨rfl, ((hA.out _).trans (hb1.mono (by simp))).trans (hb2.mono (by have := hb1.size; simp at this; omega))⟩
  · rw [tx_ok q1 q2 q3 q4 q5 q6]
    have q7 : (kB r.ki).toList.isEmpty = false := by
      cases he : (kB r.ki).toList with
      | nil =>
        rw [Byt.toList_data] at he
        exact absurd (ByteArray.ext (Array.toList_inj.1 he)) q6
      | cons _ _ => rfl
    clear q1 q3 q4 q5 q6 hz
    generalize kB r.ki = kn at *
    obtain ⟨id, no, ro, pr, ki, ra, pe, bu, co, mx, fa, wa, pb⟩ := r
    unfold ruC
    go_enter Tryz.func104, Tryz.ntmps104
    go_wp2_with (first
      | (go_at_call 131; (with_reducible refine (HI.out _).mono ?_); rintro e w1 ⟨rfl, rfl⟩)
      | (go_at_call 132; (with_reducible refine (HB.out _ (HU.out.next (hA.out _))).mono ?_); rintro e w1 ⟨rfl, hb1⟩
         have k2 : w1.cell? ⟨w.heap.size, 2, none⟩ = some (.string ro) := (box_stay hb1).cell 2)
      | (go_at_call 133; (with_reducible refine (HP.out _).mono ?_); rintro e w2 ⟨rfl, hb2⟩
         have k3 : w2.cell? ⟨w.heap.size, 3, none⟩ = some (.int .i64 pr) := ((box_stay hb1).next hb2 (box_stay hb1).lt).cell 3
         have k4 : w2.cell? ⟨w.heap.size, 4, none⟩ = some (.int .i64 ki) := ((box_stay hb1).next hb2 (box_stay hb1).lt).cell 4
         have HT2 := Lib.hid (((HT.out.next (hA.out _)).next hb1).next hb2))
      | (go_at_call 134; (with_reducible refine (HW.out _).mono ?_); rintro e w3 ⟨rfl, rfl⟩)
      | (go_at_call 55; (with_reducible refine (HK.out _ HT2.out).mono ?_); rintro e w3 ⟨rfl, rfl⟩))
    go_ret2
    exact ⟨rfl, ((hA.out _).trans (hb1.mono (by simp))).trans (hb2.mono (by have := hb1.size; simp at this; omega))⟩

theorem fst_at {L : List (ByteArray × Int)} {m : Nat} {p : ByteArray} {E : Int} (h : L.drop m = (p, E) :: L.drop (m + 1)) (hf : fst L = fst (L.drop m)) : (E = 0 → fst L = fst (L.drop (m + 1))) ∧ (E ≠ 0 → fst L = (p, E)) := by
  rw [h] at hf
  exact ⟨fun e => by rw [hf, fst_no _ e], fun e => by rw [hf, fst_yes _ e]⟩
theorem nums_len (r : Ru) : (nums r).length = 8 := rfl
set_option maxHeartbeats 4000000 in
set_option maxRecDepth 100000 in
theorem chk_any (r : Ru) (w : World) (hT : Tab w) (hU : Utf.Tabs w) (h1 : r.id.size ≤ 140737488355328) (h2 : r.no.size ≤ 140737488355328) (h3 : r.ro.size ≤ 140737488355328) :
    Calls Tryz.prog 80 #[.agg (ruC r)] w fun e w' => e = .returned (.tuple #[.string (chk r).1, .int .i64 (chk r).2]) ∧ Below w.heap.size w w' := by
  have hA : ∀ o, Below w.heap.size w (w.alloc o) := fun o => (Below.refl _ _).alloc (Nat.le_refl _) o
  have HC := Lib.hid fun o => common_any r (w.alloc o) (hT.next (hA o)) (Utf.Tabs.next hU (hA o)) h1 h2 h3
  have HF := Lib.hid fun W => fields_any r W
  have HX := Lib.hid (field_at r)
  have HD := Lib.hid (nums_drop r)
  have hL := nums_len r
  have HE : ∀ m W, Calls Tryz.prog 106 #[.agg #[.string (pt m), .int .i64 (nv r m), .int .i64 (kd m), .int .i64 (lw m), .int .i64 (hh m)], .int .i64 r.ki] W fun e w' => e = .returned (.int .i64 (ev r m)) ∧ Below W.heap.size W w' := fun m W => fcheck_any _ _ _ _ _ _ W
  have HE := Lib.hid HE
  have hA := Lib.hid hA
  clear hT hU
  rw [chk_two]
  generalize txs r = x at *
  obtain ⟨a, b⟩ := x
  generalize nums r = L at *
  generalize flC r = V at *
  generalize ev r = E at *
  generalize nv r = NV at *
  obtain ⟨id, no, ro, pr, ki, ra, pe, bu, co, mx, fa, wa, pb⟩ := r
  dsimp only [ruC] at HC HF HE ⊢
  by_cases hb : b = 0
  · subst hb
    rw [if_pos rfl]
    go_enter Tryz.func80, Tryz.ntmps80
    go_wp2_with (first
      | (refine wpList_fetch _ rfl _ rfl _ _ rfl (box_stay hb1) rfl ?_)
      | (go_at_call 104; (with_reducible refine (HC.out _).mono ?_); rintro e w1 ⟨rfl, hb1⟩)
      | (go_at_call 105; (with_reducible refine (HF.out _).mono ?_); rintro e w2 ⟨rfl, hb2⟩))
    have B2 := Lib.hid (((hA.out _).trans (hb1.mono (by simp))).trans (hb2.mono (by have := hb1.size; simp at this; omega)))
    have X2 := Lib.hid ((box_stay hb1).next hb2 (box_stay hb1).lt)
    have hlt := X2.out.lt
    have hlt := Lib.hid hlt
    clear hb1 hb2 HC HF
    go_loopw [20] (fun i wr => ∃ m : Nat, i = .int .i64 m ∧ m ≤ 8 ∧ Hid (Below w2.heap.size w2 wr) ∧ Hid (fst L = fst (L.drop m))) (fun i _ => 8 - (RowKit.intOf i).toNat)
    case atStart => exact ⟨0, rfl, by omega, Lib.hid (Below.refl _ _), Lib.hid rfl⟩
    case round =>
      obtain ⟨m, rfl, h8, HB, HN⟩ := hrel
      have k5 : ∀ o, (wr.alloc o).cell? ⟨w.heap.size, 4, none⟩ = some (.int .i64 ki) := fun o => (bx_old (X2.out.next HB.out hlt.out) o).cell 4
      by_cases hm : m < 8
      · have hx := HX.out wr m (by omega) (by omega)
        have hf := fst_at (HD.out m hm) HN.out
        have HK := Lib.hid (HE.out m)
        generalize pt (m : Int) = p at *
        generalize NV (m : Int) = nvm at *
        generalize kd (m : Int) = kdm at *
        generalize lw (m : Int) = lwm at *
        generalize hh (m : Int) = hhm at *
        generalize E (m : Int) = em at *
        by_cases he : em = 0
        · subst he
          have HN2 := Lib.hid (hf.1 rfl)
          clear hf
          go_wp2_with (go_at_call 106; (with_reducible refine (HK.out _).mono ?_); rintro e w3 ⟨rfl, hb3⟩)
          go_roundw
          case rel => exact ⟨m + 1, by go_num, by omega, Lib.hid (HB.out.trans ((((Below.refl _ _).alloc (Nat.le_refl _) _).trans (hb3.mono (by simp))).mono HB.out.size)), HN2⟩
          case measure => simp [RowKit.intOf]; omega
        · have HN2 := Lib.hid (hf.2 he)
          have b1 : (em != 0) = true := by simp [he]
          clear hf he
          go_wp2_with (go_at_call 106; (with_reducible refine (HK.out _).mono ?_); rintro e w3 ⟨rfl, hb3⟩; have k6 : w3.cell? ⟨wr.heap.size, 0, none⟩ = some (.string p) := (hb3.cell (p := ⟨wr.heap.size, 0, none⟩) (by simp)).trans (by rw [Lib.cell_of_heap (Go.heap_alloc_new _ _)]; rfl))
          go_ret2
          rw [HN2.out]
          exact ⟨rfl, B2.out.trans ((HB.out.trans ((((Below.refl _ _).alloc (Nat.le_refl _) _).trans (hb3.mono (by simp))).mono HB.out.size)).mono B2.out.size)⟩
      · obtain rfl : m = 8 := by omega
        have HN2 := HN.out
        rw [List.drop_of_length_le (by omega)] at HN2
        go_wp2_with fail
        go_ret2
        rw [HN2]
        exact ⟨rfl, B2.out.trans (HB.out.mono B2.out.size)⟩
  · rw [if_neg hb]
    go_enter Tryz.func80, Tryz.ntmps80
    go_wp2_with (first
      | (go_at_call 104; (with_reducible refine (HC.out _).mono ?_); rintro e w1 ⟨rfl, hb1⟩)
      | (go_at_call 105; (with_reducible refine (HF.out _).mono ?_); rintro e w2 ⟨rfl, hb2⟩))
    go_ret2
    exact ⟨rfl, (hA.out _).trans (hb1.mono (by simp))⟩
end Go.Proofs.YtehkiojohldlgaaGreatDoor.Rul

namespace Go.Proofs.YtehkiojohldlgaaGreatDoor.Rul
open Go.RowKit Go.Lib

/-- The call's two variables: the rule that came in, and the result's. -/
structure Two (w : World) (cs zs : Array Value) (W : World) : Prop where
  one : Bx W w.heap.size cs
  two : Bx W (w.heap.size + 1) zs
  bel : Below w.heap.size w W
theorem Two.new (w : World) (cs zs : Array Value) : Two w cs zs ((w.alloc (.cells cs 49)).alloc (.cells zs 49)) :=
  ⟨bx_old (bx_new w cs) _, two_new w _ _, two_below w _ _⟩
theorem Two.next {w W W' : World} {cs zs : Array Value} (h : Two w cs zs W) (hb : Below W.heap.size W W') : Two w cs zs W' :=
  ⟨h.one.next hb h.one.lt, h.two.next hb h.two.lt, h.bel.trans (hb.mono h.bel.size)⟩
theorem Two.drewN {w W : World} {cs zs : Array Value} (h : Two w cs zs W) (n : Nat) : Two w cs zs (W.drewN n) := h.next ⟨rfl, rfl, rfl, Nat.le_refl _, fun _ _ => rfl⟩
theorem Two.set {w W : World} {cs zs : Array Value} (h : Two w cs zs W) (j : Nat) (v : Value) : Two w (cs.setIfInBounds j v) zs (W.setCell ⟨w.heap.size, j, none⟩ v) :=
  ⟨h.one.set j v, (heap_setCell_other W ⟨w.heap.size, j, none⟩ (w.heap.size + 1) v (show w.heap.size + 1 ≠ w.heap.size by omega)).trans h.two, h.bel.setCell (p := ⟨w.heap.size, j, none⟩) (Nat.le_refl _) v⟩

set_option maxHeartbeats 4000000 in
set_option maxRecDepth 100000 in
theorem own_any (r : Ru) (w : World) (h1 : r.id.size ≤ 140737488355328) (h2 : r.no.size ≤ 140737488355328) (h3 : r.ro.size ≤ 140737488355328) :
    Calls Tryz.prog 83 #[.agg (ruC r)] w fun e w' => e = .returned (.agg (ruC r)) ∧ Below w.heap.size w w' := by
  have H1 := Lib.hid fun W => Rou.clone_str r.id W (by omega)
  have H2 := Lib.hid fun W => Rou.clone_str r.no W (by omega)
  have H3 := Lib.hid fun W => Rou.clone_str r.ro W (by omega)
  obtain ⟨R, hR⟩ : ∃ R, R = r := ⟨_, rfl⟩
  obtain ⟨C, hC⟩ : ∃ C, C = ruC r := ⟨_, rfl⟩
  have HT0 := Lib.hid fun zs => Two.new w (ruC r) zs
  have HC : ∀ {W g}, Bx W g (ruC r) → W.cell? ⟨g, 0, none⟩ = some (.string r.id) ∧ W.cell? ⟨g, 1, none⟩ = some (.string r.no) ∧ W.cell? ⟨g, 2, none⟩ = some (.string r.ro) := fun h => ⟨h.cell 0, h.cell 1, h.cell 2⟩
  have HS : ∀ {W g}, Bx W g (ruC r) → W.setCell ⟨g, 0, none⟩ (.string r.id) = W ∧ W.setCell ⟨g, 1, none⟩ (.string r.no) = W ∧ W.setCell ⟨g, 2, none⟩ (.string r.ro) = W := fun h => ⟨setCell_self h rfl, setCell_self h rfl, setCell_self h rfl⟩
  have HCS := Lib.hid fun W g (h : Bx W g (ruC r)) => (⟨HC h, HS h, h.free 0, h.free 1, h.free 2⟩ : _ ∧ _ ∧ _ ∧ _ ∧ _)
  clear HC HS
  rw [← hC]
  obtain ⟨id, no, ro, pr, ki, ra, pe, bu, co, mx, fa, wa, pb⟩ := r
  dsimp only [ruC] at hC H1 H2 H3 HT0 HCS
  have hC := Lib.hid hC
  rw [hC.out]
  go_enter Tryz.func83, Tryz.ntmps83
  go_wp2_with (first
    | (refine wpList_fetch _ rfl _ rfl _ _ rfl i3.out.one rfl ?_)
    | (refine wpList_keep _ rfl _ _ rfl w.heap.size w i3.out.bel _ (by omega) R _ rfl (by rw [hR]; rfl) i3.out.two rfl ?_; intro w4 hk4 hb4 ho4)
    | (go_at_call 39; first
      | ((with_reducible refine (H1.out _).mono ?_); rintro e w1 ⟨rfl, hb1⟩; have i1 := Lib.hid ((HT0.out _).next hb1); obtain ⟨⟨_, c1, _⟩, ⟨s1, _, _⟩, f1, _, _⟩ := HCS.out _ _ i1.out.one)
      | ((with_reducible refine (H2.out _).mono ?_); rintro e w2 ⟨rfl, hb2⟩; have i2 := Lib.hid (i1.out.next hb2); obtain ⟨⟨_, _, c2⟩, ⟨_, s2, _⟩, _, f2, _⟩ := HCS.out _ _ i2.out.one)
      | ((with_reducible refine (H3.out _).mono ?_); rintro e w3 ⟨rfl, hb3⟩; have i3 := Lib.hid (i2.out.next hb3); obtain ⟨_, ⟨_, _, s3⟩, _, _, f3⟩ := HCS.out _ _ i3.out.one)))
  refine bodyPost_ret (results_one rfl _ _ _ _ rfl hk4 rfl) rfl ?_
  exact ⟨by rw [hR]; rfl, hb4⟩
end Go.Proofs.YtehkiojohldlgaaGreatDoor.Rul

namespace Go.Proofs.YtehkiojohldlgaaGreatDoor.Rul
open Go.RowKit Go.Lib

theorem cn_no {r : Ru} (h : (chk r).2 ≠ 0) : cn r = zero := by unfold cn; rw [if_neg h]
theorem cn_ok {r : Ru} (h : (chk r).2 = 0) : cn r = can r := by unfold cn; rw [if_pos h]
theorem Two.pb {w W : World} {id no ro : ByteArray} {pr ki ra pe bu co mx fa wa pb : Int} {zs : Array Value} (h : Two w (ruC ⟨id, no, ro, pr, ki, ra, pe, bu, co, mx, fa, wa, pb⟩) zs W) (v : Int) :
    Two w (ruC ⟨id, no, ro, pr, ki, ra, pe, bu, co, mx, fa, wa, v⟩) zs (W.setCell ⟨w.heap.size, 12, none⟩ (.int .i64 v)) := h.set 12 (.int .i64 v)
theorem Two.co {w W : World} {id no ro : ByteArray} {pr ki ra pe bu co mx fa wa pb : Int} {zs : Array Value} (h : Two w (ruC ⟨id, no, ro, pr, ki, ra, pe, bu, co, mx, fa, wa, pb⟩) zs W) (v : Int) :
    Two w (ruC ⟨id, no, ro, pr, ki, ra, pe, bu, v, mx, fa, wa, pb⟩) zs (W.setCell ⟨w.heap.size, 8, none⟩ (.int .i64 v)) := h.set 8 (.int .i64 v)
theorem Two.ra {w W : World} {id no ro : ByteArray} {pr ki ra pe bu co mx fa wa pb : Int} {zs : Array Value} (h : Two w (ruC ⟨id, no, ro, pr, ki, ra, pe, bu, co, mx, fa, wa, pb⟩) zs W) (v : Int) :
    Two w (ruC ⟨id, no, ro, pr, ki, v, pe, bu, co, mx, fa, wa, pb⟩) zs (W.setCell ⟨w.heap.size, 5, none⟩ (.int .i64 v)) := h.set 5 (.int .i64 v)
theorem Two.pe {w W : World} {id no ro : ByteArray} {pr ki ra pe bu co mx fa wa pb : Int} {zs : Array Value} (h : Two w (ruC ⟨id, no, ro, pr, ki, ra, pe, bu, co, mx, fa, wa, pb⟩) zs W) (v : Int) :
    Two w (ruC ⟨id, no, ro, pr, ki, ra, v, bu, co, mx, fa, wa, pb⟩) zs (W.setCell ⟨w.heap.size, 6, none⟩ (.int .i64 v)) := h.set 6 (.int .i64 v)

set_option maxHeartbeats 4000000 in
set_option maxRecDepth 100000 in
theorem canon_no (r : Ru) (w : World) (hT : Tab w) (hU : Utf.Tabs w) (h1 : r.id.size ≤ 140737488355328) (h2 : r.no.size ≤ 140737488355328) (h3 : r.ro.size ≤ 140737488355328) (hc : (chk r).2 ≠ 0) :
    Calls Tryz.prog 43 #[.agg (ruC r)] w fun e w' => e = .returned (.tuple #[.agg (ruC zero), .string (chk r).1, .int .i64 (chk r).2]) ∧ Below w.heap.size w w' := by
  have HC := Lib.hid fun o o' => chk_any r ((w.alloc o).alloc o') (hT.next (two_below w o o')) (Utf.Tabs.next hU (two_below w o o')) h1 h2 h3
  have HT0 := Lib.hid fun zs => Two.new w (ruC r) zs
  clear hT hU
  generalize chk r = x at *
  obtain ⟨a, b⟩ := x
  obtain ⟨id, no, ro, pr, ki, ra, pe, bu, co, mx, fa, wa, pb⟩ := r
  dsimp only [ruC] at HC HT0 ⊢
  have b1 : (b != 0) = true := by simpa using hc
  clear hc
  go_enter Tryz.func43, Tryz.ntmps43
  go_wp2_with (first
    | (refine wpList_keep _ rfl _ _ rfl w.heap.size w i1.out.bel _ (by omega) zero _ rfl rfl i1.out.two rfl ?_; intro w4 hk4 hb4 ho4)
    | (go_at_call 80; (with_reducible refine (HC.out _ _).mono ?_); rintro e w1 ⟨rfl, hb1⟩; have i1 := Lib.hid ((HT0.out _).next hb1)))
  refine bodyPost_ret (results_three rfl _ _ _ _ rfl hk4 rfl) rfl ?_
  exact ⟨rfl, hb4⟩

set_option maxHeartbeats 4000000 in
set_option maxRecDepth 100000 in
theorem canon_two (r : Ru) (w : World) (hT : Tab w) (hU : Utf.Tabs w) (h1 : r.id.size ≤ 140737488355328) (h2 : r.no.size ≤ 140737488355328) (h3 : r.ro.size ≤ 140737488355328) (hc : chk r = (⟨#[]⟩, 0)) (hk : r.ki = 2) :
    Calls Tryz.prog 43 #[.agg (ruC r)] w fun e w' => e = .returned (.tuple #[.agg (ruC r), .string ⟨#[]⟩, .int .i64 0]) ∧ Below w.heap.size w w' := by
  have HC := Lib.hid fun o o' => chk_any r ((w.alloc o).alloc o') (hT.next (two_below w o o')) (Utf.Tabs.next hU (two_below w o o')) h1 h2 h3
  rw [hc] at HC
  have HO := Lib.hid fun W => own_any r W h1 h2 h3
  have HT0 := Lib.hid fun zs => Two.new w (ruC r) zs
  clear hT hU hc
  obtain ⟨id, no, ro, pr, ki, ra, pe, bu, co, mx, fa, wa, pb⟩ := r
  dsimp only at hk
  subst hk
  dsimp only [ruC] at HC HT0 HO ⊢
  go_enter Tryz.func43, Tryz.ntmps43
  go_wp2_with (first
    | (refine wpList_fetch _ rfl _ rfl _ _ rfl i1.out.one rfl ?_)
    | (refine wpList_keep _ rfl _ _ rfl w.heap.size w i2.out.bel _ (by omega) ⟨id, no, ro, pr, 2, ra, pe, bu, co, mx, fa, wa, pb⟩ _ rfl rfl i2.out.two rfl ?_; intro w4 hk4 hb4 ho4)
    | (go_at_call 80; (with_reducible refine (HC.out _ _).mono ?_); rintro e w1 ⟨rfl, hb1⟩; have i1 := Lib.hid ((HT0.out _).next hb1); have k4 : w1.cell? ⟨w.heap.size, 4, none⟩ = some (.int .i64 2) := i1.out.one.cell 4)
    | (go_at_call 83; (with_reducible refine (HO.out _).mono ?_); rintro e w2 ⟨rfl, hb2⟩; have i2 := Lib.hid (i1.out.next hb2)))
  refine bodyPost_ret (results_three rfl _ _ _ _ rfl hk4 rfl) rfl ?_
  exact ⟨rfl, hb4⟩

set_option maxHeartbeats 4000000 in
set_option maxRecDepth 100000 in
theorem canon_three (r : Ru) (w : World) (hT : Tab w) (hU : Utf.Tabs w) (h1 : r.id.size ≤ 140737488355328) (h2 : r.no.size ≤ 140737488355328) (h3 : r.ro.size ≤ 140737488355328) (hc : chk r = (⟨#[]⟩, 0)) (hk : r.ki = 3) :
    Calls Tryz.prog 43 #[.agg (ruC r)] w fun e w' => e = .returned (.tuple #[.agg (ruC { r with pb := max r.pb 1 }), .string ⟨#[]⟩, .int .i64 0]) ∧ Below w.heap.size w w' := by
  have HC := Lib.hid fun o o' => chk_any r ((w.alloc o).alloc o') (hT.next (two_below w o o')) (Utf.Tabs.next hU (two_below w o o')) h1 h2 h3
  rw [hc] at HC
  have HO := Lib.hid fun W => own_any { r with pb := max r.pb 1 } W h1 h2 h3
  have HT0 := Lib.hid fun zs => Two.new w (ruC r) zs
  clear hT hU hc
  obtain ⟨id, no, ro, pr, ki, ra, pe, bu, co, mx, fa, wa, pb⟩ := r
  dsimp only at hk
  subst hk
  dsimp only [ruC] at HC HT0
  dsimp only at HO ⊢
  rw [show ruC ⟨id, no, ro, pr, 3, ra, pe, bu, co, mx, fa, wa, pb⟩ = #[.string id, .string no, .string ro, .int .i64 pr, .int .i64 3, .int .i64 ra, .int .i64 pe, .int .i64 bu, .int .i64 co, .int .i64 mx, .int .i64 fa, .int .i64 wa, .int .i64 pb] from rfl]
  go_enter Tryz.func43, Tryz.ntmps43
  go_wp2_with (first
    | (refine wpList_fetch _ rfl _ rfl _ _ rfl (i2.out _).one rfl ?_)
    | (refine wpList_keep _ rfl _ _ rfl w.heap.size w i3.out.bel _ (by omega) _ _ rfl rfl i3.out.two rfl ?_; intro w4 hk4 hb4 ho4)
    | (go_at_call 80; (with_reducible refine (HC.out _ _).mono ?_); rintro e w1 ⟨rfl, hb1⟩; have i1 := Lib.hid ((HT0.out _).next hb1); have k4 : w1.cell? ⟨w.heap.size, 4, none⟩ = some (.int .i64 3) := i1.out.one.cell 4
       have k12 : w1.cell? ⟨w.heap.size, 12, none⟩ = some (.int .i64 pb) := i1.out.one.cell 12
       have f12 : w1.frozen? ⟨w.heap.size, 12, none⟩ = false := i1.out.one.free 12
       have i2 := Lib.hid fun v => i1.out.pb v)
    | (go_at_call 83; (with_reducible refine (HO.out _).mono ?_); rintro e w2 ⟨rfl, hb2⟩; have i3 := Lib.hid ((i2.out _).next hb2)))
  refine bodyPost_ret (results_three rfl _ _ _ _ rfl hk4 rfl) rfl ?_
  exact ⟨rfl, hb4⟩
end Go.Proofs.YtehkiojohldlgaaGreatDoor.Rul

namespace Go.Proofs.YtehkiojohldlgaaGreatDoor.Rul
open Go.RowKit Go.Lib

set_option maxHeartbeats 8000000 in
set_option maxRecDepth 100000 in
theorem canon_one (r : Ru) (w : World) (hT : Tab w) (hU : Utf.Tabs w) (h1 : r.id.size ≤ 140737488355328) (h2 : r.no.size ≤ 140737488355328) (h3 : r.ro.size ≤ 140737488355328) (hc : chk r = (⟨#[]⟩, 0)) (hk : r.ki = 1) (hra : 0 ≤ r.ra ∧ r.ra ≤ 1000000) (hpe : 1 ≤ r.pe ∧ r.pe ≤ 86400000) :
    Calls Tryz.prog 43 #[.agg (ruC r)] w fun e w' => e = .returned (.tuple #[.agg (ruC { r with ra := r.ra / Sat.gd r.ra r.pe, pe := r.pe / Sat.gd r.ra r.pe, co := max r.co 1 }), .string ⟨#[]⟩, .int .i64 0]) ∧ Below w.heap.size w w' := by
  have HC := Lib.hid fun o o' => chk_any r ((w.alloc o).alloc o') (hT.next (two_below w o o')) (Utf.Tabs.next hU (two_below w o o')) h1 h2 h3
  rw [hc] at HC
  have HO := Lib.hid fun W => own_any { r with ra := r.ra / Sat.gd r.ra r.pe, pe := r.pe / Sat.gd r.ra r.pe, co := max r.co 1 } W h1 h2 h3
  have HT0 := Lib.hid fun zs => Two.new w (ruC r) zs
  have HG := Lib.hid fun W => Sat.gcd_any r.ra r.pe W (by omega) (by omega) (by omega) (by omega)
  obtain ⟨g1, g2, _, g3, g4, g5, g6, _⟩ := gd_div hra.1 hpe.1
  clear hT hU hc
  obtain ⟨id, no, ro, pr, ki, ra, pe, bu, co, mx, fa, wa, pb⟩ := r
  dsimp only at hk g1 g2 g3 g4 g5 g6 hra hpe HG
  subst hk
  dsimp only [ruC] at HC HT0
  dsimp only at HO ⊢
  rw [show ruC ⟨id, no, ro, pr, 1, ra, pe, bu, co, mx, fa, wa, pb⟩ = #[.string id, .string no, .string ro, .int .i64 pr, .int .i64 1, .int .i64 ra, .int .i64 pe, .int .i64 bu, .int .i64 co, .int .i64 mx, .int .i64 fa, .int .i64 wa, .int .i64 pb] from rfl]
  generalize Sat.gd ra pe = g at *
  obtain ⟨ra0, ra1⟩ := hra
  obtain ⟨pe0, pe1⟩ := hpe
  go_enter Tryz.func43, Tryz.ntmps43
  go_wp2_with (first
    | (go_at_call 80; (with_reducible refine (HC.out _ _).mono ?_); rintro e w1 ⟨rfl, hb1⟩; have i1 := Lib.hid ((HT0.out _).next hb1); have k4 : w1.cell? ⟨w.heap.size, 4, none⟩ = some (.int .i64 1) := i1.out.one.cell 4
       have k5 : w1.cell? ⟨w.heap.size, 5, none⟩ = some (.int .i64 ra) := i1.out.one.cell 5
       have k6 : w1.cell? ⟨w.heap.size, 6, none⟩ = some (.int .i64 pe) := i1.out.one.cell 6
       have k8 : w1.cell? ⟨w.heap.size, 8, none⟩ = some (.int .i64 co) := i1.out.one.cell 8
       have f5 : w1.frozen? ⟨w.heap.size, 5, none⟩ = false := i1.out.one.free 5
       have f6 : w1.frozen? ⟨w.heap.size, 6, none⟩ = false := i1.out.one.free 6
       have f8 : w1.frozen? ⟨w.heap.size, 8, none⟩ = false := i1.out.one.free 8)
    | (go_at_call 82; (with_reducible refine (HG.out _).mono ?_); rintro e w2 ⟨rfl, n, rfl⟩))
  go_region
  have i2 := ((i1.out.drewN (n + 1)).ra (ra / g)).pe (pe / g)
  clear k4 k5 k6 k8 f5 f6 f8 g2 g4 g6 i1 HT0 HC HG
  generalize ((w1.drewN (n + 1)).setCell ⟨w.heap.size, 5, none⟩ (.int .i64 (ra / g))).setCell ⟨w.heap.size, 6, none⟩ (.int .i64 (pe / g)) = W2 at *
  have k8 : W2.cell? ⟨w.heap.size, 8, none⟩ = some (.int .i64 co) := i2.one.cell 8
  have f8 : W2.frozen? ⟨w.heap.size, 8, none⟩ = false := i2.one.free 8
  have i2 := Lib.hid (i2.co (max co 1))
  go_wp2_with (first
    | (refine wpList_fetch _ rfl _ rfl _ _ rfl i2.out.one rfl ?_)
    | (refine wpList_keep _ rfl _ _ rfl w.heap.size w i3.out.bel _ (by omega) _ _ rfl rfl i3.out.two rfl ?_; intro w4 hk4 hb4 ho4)
    | (go_at_call 83; (with_reducible refine (HO.out _).mono ?_); rintro e w2 ⟨rfl, hb2⟩; have i3 := Lib.hid (i2.out.next hb2)))
  refine bodyPost_ret (results_three rfl _ _ _ _ rfl hk4 rfl) rfl ?_
  exact ⟨rfl, hb4⟩

theorem canon_any (r : Ru) (w : World) (hT : Tab w) (hU : Utf.Tabs w) (h1 : r.id.size ≤ 140737488355328) (h2 : r.no.size ≤ 140737488355328) (h3 : r.ro.size ≤ 140737488355328) :
    Calls Tryz.prog 43 #[.agg (ruC r)] w fun e w' => e = .returned (.tuple #[.agg (ruC (cn r)), .string (chk r).1, .int .i64 (chk r).2]) ∧ Below w.heap.size w w' := by
  by_cases h : (chk r).2 = 0
  · have hr := (chk_zero r).1 h
    have hc := chk_ok hr
    rw [cn_ok h]
    rcases hr.ki with hk | hk | hk
    · rw [can_one hk.1, hc]
      exact canon_one r w hT hU h1 h2 h3 hc hk.1 hk.2.1 hk.2.2.1
    · rw [can_two hk.1, hc]
      exact canon_two r w hT hU h1 h2 h3 hc hk.1
    · rw [can_three hk.1, hc]
      exact canon_three r w hT hU h1 h2 h3 hc hk.1
  · rw [cn_no h]
    exact canon_no r w hT hU h1 h2 h3 h
end Go.Proofs.YtehkiojohldlgaaGreatDoor.Rul
