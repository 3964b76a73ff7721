/- Contracts of rule's common and Check. Conditions: the table of kinds' names and those of unicode/utf8 read as the program lays them; the texts have at most 2^47 bytes. -/
import Derived.Test.YtaiafhepeleefaaDoorRulB
import Derived.Test.YtaiafhepeleefaaDoorIdeA
import Derived.Test.YtaiafhepeleefaaDoorUtfG1
import Derived.Test.YtaiafhepeleefaaDoorRouL
namespace Go.Proofs.YtaiafhepeleefaaDoor.Rul
open Go.RowKit Go.Lib

/-! ### what is wrong with the texts -/
theorem tx_id {r : Ru} (h : isId r.id = false) : txs r = (p1, 13) := by
  have : e1 r = 13 := by unfold e1; rw [h]; rfl
  unfold txs
  rw [fst_yes _ (by rw [this]; decide), this]
theorem tx_long {r : Ru} (h1 : isId r.id = true) (h2 : 255 < r.no.size) : txs r = (p2, 5) := by
  have : e2 r = 5 := by unfold e2; rw [if_pos h2]
  unfold txs
  rw [fst_no _ ((e1_zero r).2 h1), fst_yes _ (by rw [this]; decide), this]
theorem tx_no {r : Ru} (h1 : isId r.id = true) (h2 : ¬ 255 < r.no.size) (h3 : isTx r.no = false) : txs r = (p2, 8) := by
  have : e2 r = 8 := by unfold e2; rw [if_neg h2, h3]; rfl
  unfold txs
  rw [fst_no _ ((e1_zero r).2 h1), fst_yes _ (by rw [this]; decide), this]
theorem tx_ro {r : Ru} (h1 : isId r.id = true) (h2 : ¬ 255 < r.no.size) (h3 : isTx r.no = true) (h4 : isPa r.ro = false) : txs r = (p3, 14) := by
  have : e3 r = 14 := by unfold e3; rw [h4]; rfl
  unfold txs
  rw [fst_no _ ((e1_zero r).2 h1), fst_no _ ((e2_zero r).2 ⟨by omega, h3⟩), fst_yes _ (by rw [this]; decide), this]
theorem tx_pr {r : Ru} (h1 : isId r.id = true) (h2 : ¬ 255 < r.no.size) (h3 : isTx r.no = true) (h4 : isPa r.ro = true) (h5 : r.pr < 0 ∨ 1000 < r.pr) : txs r = (p4, 2) := by
  have : e4 r = 2 := by unfold e4; rw [if_pos h5]
  unfold txs
  rw [fst_no _ ((e1_zero r).2 h1), fst_no _ ((e2_zero r).2 ⟨by omega, h3⟩), fst_no _ ((e3_zero r).2 h4), fst_yes _ (by rw [this]; decide), this]
theorem tx_ki {r : Ru} (h1 : isId r.id = true) (h2 : ¬ 255 < r.no.size) (h3 : isTx r.no = true) (h4 : isPa r.ro = true) (h5 : ¬ (r.pr < 0 ∨ 1000 < r.pr)) (h6 : kB r.ki = ⟨#[]⟩) : txs r = (p5, 15) := by
  have : e5 r = 15 := by unfold e5; rw [if_neg ((kB_none _).1 h6)]
  unfold txs
  rw [fst_no _ ((e1_zero r).2 h1), fst_no _ ((e2_zero r).2 ⟨by omega, h3⟩), fst_no _ ((e3_zero r).2 h4), fst_no _ ((e4_zero r).2 (by omega)), fst_yes _ (by rw [this]; decide), this]
theorem tx_ok {r : Ru} (h1 : isId r.id = true) (h2 : ¬ 255 < r.no.size) (h3 : isTx r.no = true) (h4 : isPa r.ro = true) (h5 : ¬ (r.pr < 0 ∨ 1000 < r.pr)) (h6 : kB r.ki ≠ ⟨#[]⟩) : txs r = (⟨#[]⟩, 0) := by
  have h7 : r.ki = 1 ∨ r.ki = 2 ∨ r.ki = 3 := Decidable.byContradiction fun h => h6 ((kB_none _).2 h)
  unfold txs
  rw [fst_no _ ((e1_zero r).2 h1), fst_no _ ((e2_zero r).2 ⟨by omega, h3⟩), fst_no _ ((e3_zero r).2 h4), fst_no _ ((e4_zero r).2 (by omega)), fst_no _ ((e5_zero r).2 h7)]
  rfl
theorem tx_bad (s : ByteArray) : (isTx s = true → Utf.bI (Utf.badL s.data.toList) < 0) ∧ (isTx s = false → 0 ≤ Utf.bI (Utf.badL s.data.toList)) := by
  unfold isTx
  cases Utf.badL s.data.toList with
  | none => exact ⟨fun _ => by decide, fun h => absurd h (by simp)⟩
  | some k => exact ⟨fun h => absurd h (by simp), fun _ => Int.natCast_nonneg k⟩
theorem isIn_no {n lo hi : Int} (h : n < lo ∨ hi < n) : isIn n lo hi = false := by
  unfold isIn
  rw [Bool.and_eq_false_iff, decide_eq_false_iff_not, decide_eq_false_iff_not]
  omega
theorem isIn_yes {n lo hi : Int} (h : ¬ (n < lo ∨ hi < n)) : isIn n lo hi = true := by
  unfold isIn
  rw [Bool.and_eq_true, decide_eq_true_eq, decide_eq_true_eq]
  omega
/-- A rule boxed at the start of a call stands behind all that follows. -/
theorem box_stay {w w1 : World} {cs : Array Value} (hb : Below (w.alloc (.cells cs 23)).heap.size (w.alloc (.cells cs 23)) w1) : Bx w1 w.heap.size cs :=
  (bx_new w cs).next hb (by simp)

set_option maxHeartbeats 4000000 in
set_option maxRecDepth 100000 in
theorem common_any (r : Ru) (w : World) (hT : Tab w) (hU : Utf.Tabs w) (h1 : r.id.size ≤ 140737488355328) (h2 : r.no.size ≤ 140737488355328) (h3 : r.ro.size ≤ 140737488355328) :
    Calls Tryd.prog 16 #[.agg (ruC r)] w fun e w' => e = .returned (.tuple #[.string (txs r).1, .int .i64 (txs r).2]) ∧ Below w.heap.size w w' := by
  have HI := Lib.hid fun W => Ide.is_any r.id W h1
  have HB := Lib.hid fun W hW => Utf.bad_any r.no W hW h2
  have HP := Lib.hid fun W => Rou.pat_any r.ro W h3
  have HW := Lib.hid fun W => within_any r.pr 0 1000 W
  have HK := Lib.hid fun W hW => kind_any r.ki W hW
  have HT := Lib.hid hT
  have HU := Lib.hid hU
  have hA : ∀ o, Below w.heap.size w (w.alloc o) := fun o => (Below.refl _ _).alloc (Nat.le_refl _) o
  have hA := Lib.hid hA
  have hz := tx_bad r.no
  clear hT hU
  change Hid (∀ W, Calls _ _ _ W fun e w' => e = .returned (.bool (isId r.id)) ∧ W = w') at HI
  change Hid (∀ W, Calls _ _ _ W fun e w' => e = .returned (.bool (isPa r.ro)) ∧ Below W.heap.size W w') at HP
  generalize Utf.bI (Utf.badL r.no.data.toList) = z at *
  cases q1 : isId r.id with
  | false =>
    rw [q1] at HI
    rw [tx_id q1]
    clear q1 hz
    unfold p1
    obtain ⟨id, no, ro, pr, ki, ra, pe, bu, co, mx, fa, wa, pb⟩ := r
    unfold ruC
    go_enter Tryd.func16, Tryd.ntmps16
    go_wp2_with (go_at_call 24; (with_reducible refine (HI.out _).mono ?_); rintro e w1 ⟨rfl, rfl⟩)
    go_ret2
    exact ⟨rfl, hA.out _⟩
  | true =>
  rw [q1] at HI
  by_cases q2 : 255 < r.no.size
  · rw [tx_long q1 q2]
    clear q1 hz
    unfold p2
    obtain ⟨id, no, ro, pr, ki, ra, pe, bu, co, mx, fa, wa, pb⟩ := r
    unfold ruC
    go_enter Tryd.func16, Tryd.ntmps16
    go_wp2_with (go_at_call 24; (with_reducible refine (HI.out _).mono ?_); rintro e w1 ⟨rfl, rfl⟩)
    go_ret2
    exact ⟨rfl, hA.out _⟩
  cases q3 : isTx r.no with
  | false =>
    have z1 := hz.2 q3
    rw [tx_no q1 q2 q3]
    clear q1 q3 hz
    unfold p2
    obtain ⟨id, no, ro, pr, ki, ra, pe, bu, co, mx, fa, wa, pb⟩ := r
    unfold ruC
    go_enter Tryd.func16, Tryd.ntmps16
    go_wp2_with (first
      | (go_at_call 24; (with_reducible refine (HI.out _).mono ?_); rintro e w1 ⟨rfl, rfl⟩)
      | (go_at_call 25; (with_reducible refine (HB.out _ (HU.out.next (hA.out _))).mono ?_); rintro e w1 ⟨rfl, hb1⟩))
    go_ret2
    exact ⟨rfl, (hA.out _).trans (hb1.mono (by simp))⟩
  | true =>
  have z1 := hz.1 q3
  cases q4 : isPa r.ro with
  | false =>
    rw [q4] at HP
    rw [tx_ro q1 q2 q3 q4]
    clear q1 q3 q4 hz
    unfold p3
    obtain ⟨id, no, ro, pr, ki, ra, pe, bu, co, mx, fa, wa, pb⟩ := r
    unfold ruC
    go_enter Tryd.func16, Tryd.ntmps16
    go_wp2_with (first
      | (go_at_call 24; (with_reducible refine (HI.out _).mono ?_); rintro e w1 ⟨rfl, rfl⟩)
      | (go_at_call 25; (with_reducible refine (HB.out _ (HU.out.next (hA.out _))).mono ?_); rintro e w1 ⟨rfl, hb1⟩
         have k2 : w1.cell? ⟨w.heap.size, 2, none⟩ = some (.string ro) := (box_stay hb1).cell 2)
      | (go_at_call 26; (with_reducible refine (HP.out _).mono ?_); rintro e w2 ⟨rfl, hb2⟩))
    go_ret2
    exact ⟨rfl, ((hA.out _).trans (hb1.mono (by simp))).trans (hb2.mono (by have := hb1.size; simp at this; omega))⟩
  | true =>
  rw [q4] at HP
  by_cases q5 : r.pr < 0 ∨ 1000 < r.pr
  · rw [isIn_no q5] at HW
    rw [tx_pr q1 q2 q3 q4 q5]
    clear q1 q3 q4 q5 hz
    unfold p4
    obtain ⟨id, no, ro, pr, ki, ra, pe, bu, co, mx, fa, wa, pb⟩ := r
    unfold ruC
    go_enter Tryd.func16, Tryd.ntmps16
    go_wp2_with (first
      | (go_at_call 24; (with_reducible refine (HI.out _).mono ?_); rintro e w1 ⟨rfl, rfl⟩)
      | (go_at_call 25; (with_reducible refine (HB.out _ (HU.out.next (hA.out _))).mono ?_); rintro e w1 ⟨rfl, hb1⟩
         have k2 : w1.cell? ⟨w.heap.size, 2, none⟩ = some (.string ro) := (box_stay hb1).cell 2)
      | (go_at_call 26; (with_reducible refine (HP.out _).mono ?_); rintro e w2 ⟨rfl, hb2⟩
         have k3 : w2.cell? ⟨w.heap.size, 3, none⟩ = some (.int .i64 pr) := ((box_stay hb1).next hb2 (box_stay hb1).lt).cell 3)
      | (go_at_call 27; (with_reducible refine (HW.out _).mono ?_); rintro e w3 ⟨rfl, rfl⟩))
    go_ret2
    exact ⟨rfl, ((hA.out _).trans (hb1.mono (by simp))).trans (hb2.mono (by have := hb1.size; simp at this; omega))⟩
  rw [isIn_yes q5] at HW
  by_cases q6 : kB r.ki = ⟨#[]⟩
  · rw [q6] at HK
    rw [tx_ki q1 q2 q3 q4 q5 q6]
    clear q1 q3 q4 q5 q6 hz
    unfold p5
    obtain ⟨id, no, ro, pr, ki, ra, pe, bu, co, mx, fa, wa, pb⟩ := r
    unfold ruC
    go_enter Tryd.func16, Tryd.ntmps16
    go_wp2_with (first
      | (go_at_call 24; (with_reducible refine (HI.out _).mono ?_); rintro e w1 ⟨rfl, rfl⟩)
      | (go_at_call 25; (with_reducible refine (HB.out _ (HU.out.next (hA.out _))).mono ?_); rintro e w1 ⟨rfl, hb1⟩
         have k2 : w1.cell? ⟨w.heap.size, 2, none⟩ = some (.string ro) := (box_stay hb1).cell 2)
      | (go_at_call 26; (with_reducible refine (HP.out _).mono ?_); rintro e w2 ⟨rfl, hb2⟩
         have k3 : w2.cell? ⟨w.heap.size, 3, none⟩ = some (.int .i64 pr) := ((box_stay hb1).next hb2 (box_stay hb1).lt).cell 3
         have k4 : w2.cell? ⟨w.heap.size, 4, none⟩ = some (.int .i64 ki) := ((box_stay hb1).next hb2 (box_stay hb1).lt).cell 4
         have HT2 := Lib.hid (((HT.out.next (hA.out _)).next hb1).next hb2))
      | (go_at_call 27; (with_reducible refine (HW.out _).mono ?_); rintro e w3 ⟨rfl, rfl⟩)
      | (go_at_call 12; (with_reducible refine (HK.out _ HT2.out).mono ?_); rintro e w3 ⟨rfl, rfl⟩))
    go_ret2
    exact ⟨rfl, ((hA.out _).trans (hb1.mono (by simp))).trans (hb2.mono (by have := hb1.size; simp at this; omega))⟩
  · rw [tx_ok q1 q2 q3 q4 q5 q6]
    have q7 : (kB r.ki).toList.isEmpty = false := by
      cases he : (kB r.ki).toList with
      | nil =>
        rw [Byt.toList_data] at he
        exact absurd (ByteArray.ext (Array.toList_inj.1 he)) q6
      | cons _ _ => rfl
    clear q1 q3 q4 q5 q6 hz
    generalize kB r.ki = kn at *
    obtain ⟨id, no, ro, pr, ki, ra, pe, bu, co, mx, fa, wa, pb⟩ := r
    unfold ruC
    go_enter Tryd.func16, Tryd.ntmps16
    go_wp2_with (first
      | (go_at_call 24; (with_reducible refine (HI.out _).mono ?_); rintro e w1 ⟨rfl, rfl⟩)
      | (go_at_call 25; (with_reducible refine (HB.out _ (HU.out.next (hA.out _))).mono ?_); rintro e w1 ⟨rfl, hb1⟩
         have k2 : w1.cell? ⟨w.heap.size, 2, none⟩ = some (.string ro) := (box_stay hb1).cell 2)
      | (go_at_call 26; (with_reducible refine (HP.out _).mono ?_); rintro e w2 ⟨rfl, hb2⟩
         have k3 : w2.cell? ⟨w.heap.size, 3, none⟩ = some (.int .i64 pr) := ((box_stay hb1).next hb2 (box_stay hb1).lt).cell 3
         have k4 : w2.cell? ⟨w.heap.size, 4, none⟩ = some (.int .i64 ki) := ((box_stay hb1).next hb2 (box_stay hb1).lt).cell 4
         have HT2 := Lib.hid (((HT.out.next (hA.out _)).next hb1).next hb2))
      | (go_at_call 27; (with_reducible refine (HW.out _).mono ?_); rintro e w3 ⟨rfl, rfl⟩)
      | (go_at_call 12; (with_reducible refine (HK.out _ HT2.out).mono ?_); rintro e w3 ⟨rfl, rfl⟩))
    go_ret2
    exact ⟨rfl, ((hA.out _).trans (hb1.mono (by simp))).trans (hb2.mono (by have := hb1.size; simp at this; omega))⟩

theorem fst_at {L : List (ByteArray × Int)} {m : Nat} {p : ByteArray} {E : Int} (h : L.drop m = (p, E) :: L.drop (m + 1)) (hf : fst L = fst (L.drop m)) : (E = 0 → fst L = fst (L.drop (m + 1))) ∧ (E ≠ 0 → fst L = (p, E)) := by
  rw [h] at hf
  exact ⟨fun e => by rw [hf, fst_no _ e], fun e => by rw [hf, fst_yes _ e]⟩
theorem nums_len (r : Ru) : (nums r).length = 8 := rfl
set_option maxHeartbeats 4000000 in
set_option maxRecDepth 100000 in
theorem chk_any (r : Ru) (w : World) (hT : Tab w) (hU : Utf.Tabs w) (h1 : r.id.size ≤ 140737488355328) (h2 : r.no.size ≤ 140737488355328) (h3 : r.ro.size ≤ 140737488355328) :
    Calls Tryd.prog 8 #[.agg (ruC r)] w fun e w' => e = .returned (.tuple #[.string (chk r).1, .int .i64 (chk r).2]) ∧ Below w.heap.size w w' := by
  have hA : ∀ o, Below w.heap.size w (w.alloc o) := fun o => (Below.refl _ _).alloc (Nat.le_refl _) o
  have HC := Lib.hid fun o => common_any r (w.alloc o) (hT.next (hA o)) (Utf.Tabs.next hU (hA o)) h1 h2 h3
  have HF := Lib.hid fun W => fields_any r W
  have HX := Lib.hid (field_at r)
  have HD := Lib.hid (nums_drop r)
  have hL := nums_len r
  have HE : ∀ m W, Calls Tryd.prog 18 #[.agg #[.string (pt m), .int .i64 (nv r m), .int .i64 (kd m), .int .i64 (lw m), .int .i64 (hh m)], .int .i64 r.ki] W fun e w' => e = .returned (.int .i64 (ev r m)) ∧ Below W.heap.size W w' := fun m W => fcheck_any _ _ _ _ _ _ W
  have HE := Lib.hid HE
  have hA := Lib.hid hA
  clear hT hU
  rw [chk_two]
  generalize txs r = x at *
  obtain ⟨a, b⟩ := x
  generalize nums r = L at *
  generalize flC r = V at *
  generalize ev r = E at *
  generalize nv r = NV at *
  obtain ⟨id, no, ro, pr, ki, ra, pe, bu, co, mx, fa, wa, pb⟩ := r
  dsimp only [ruC] at HC HF HE ⊢
  by_cases hb : b = 0
  · subst hb
    rw [if_pos rfl]
    go_enter Tryd.func8, Tryd.ntmps8
    go_wp2_with (first
      | (refine wpList_fetch _ rfl _ rfl _ _ rfl (box_stay hb1) rfl ?_)
      | (go_at_call 16; (with_reducible refine (HC.out _).mono ?_); rintro e w1 ⟨rfl, hb1⟩)
      | (go_at_call 17; (with_reducible refine (HF.out _).mono ?_); rintro e w2 ⟨rfl, hb2⟩))
    have B2 := Lib.hid (((hA.out _).trans (hb1.mono (by simp))).trans (hb2.mono (by have := hb1.size; simp at this; omega)))
    have X2 := Lib.hid ((box_stay hb1).next hb2 (box_stay hb1).lt)
    have hlt := X2.out.lt
    have hlt := Lib.hid hlt
    clear hb1 hb2 HC HF
    go_loopw [20] (fun i wr => ∃ m : Nat, i = .int .i64 m ∧ m ≤ 8 ∧ Hid (Below w2.heap.size w2 wr) ∧ Hid (fst L = fst (L.drop m))) (fun i _ => 8 - (RowKit.intOf i).toNat)
    case atStart => exact ⟨0, rfl, by omega, Lib.hid (Below.refl _ _), Lib.hid rfl⟩
    case round =>
      obtain ⟨m, rfl, h8, HB, HN⟩ := hrel
      have k5 : ∀ o, (wr.alloc o).cell? ⟨w.heap.size, 4, none⟩ = some (.int .i64 ki) := fun o => (bx_old (X2.out.next HB.out hlt.out) o).cell 4
      by_cases hm : m < 8
      · have hx := HX.out wr m (by omega) (by omega)
        have hf := fst_at (HD.out m hm) HN.out
        have HK := Lib.hid (HE.out m)
        generalize pt (m : Int) = p at *
        generalize NV (m : Int) = nvm at *
        generalize kd (m : Int) = kdm at *
        generalize lw (m : Int) = lwm at *
        generalize hh (m : Int) = hhm at *
        generalize E (m : Int) = em at *
        by_cases he : em = 0
        · subst he
          have HN2 := Lib.hid (hf.1 rfl)
          clear hf
          go_wp2_with (go_at_call 18; (with_reducible refine (HK.out _).mono ?_); rintro e w3 ⟨rfl, hb3⟩)
          go_roundw
          case rel => exact ⟨m + 1, by go_num, by omega, Lib.hid (HB.out.trans ((((Below.refl _ _).alloc (Nat.le_refl _) _).trans (hb3.mono (by simp))).mono HB.out.size)), HN2⟩
          case measure => simp [RowKit.intOf]; omega
        · have HN2 := Lib.hid (hf.2 he)
          have b1 : (em != 0) = true := by simp [he]
          clear hf he
          go_wp2_with (go_at_call 18; (with_reducible refine (HK.out _).mono ?_); rintro e w3 ⟨rfl, hb3⟩; have k6 : w3.cell? ⟨wr.heap.size, 0, none⟩ = some (.string p) := (hb3.cell (p := ⟨wr.heap.size, 0, none⟩) (by simp)).trans (by rw [Lib.cell_of_heap (Go.heap_alloc_new _ _)]; rfl))
          go_ret2
          rw [HN2.out]
          exact ⟨rfl, B2.out.trans ((HB.out.trans ((((Below.refl _ _).alloc (Nat.le_refl _) _).trans (hb3.mono (by simp))).mono HB.out.size)).mono B2.out.size)⟩
      · obtain rfl : m = 8 := by omega
        have HN2 := HN.out
        rw [List.drop_of_length_le (by omega)] at HN2
        go_wp2_with fail
        go_ret2
        rw [HN2]
        exact ⟨rfl, B2.out.trans (HB.out.mono B2.out.size)⟩
  · rw [if_neg hb]
    go_enter Tryd.func8, Tryd.ntmps8
    go_wp2_with (first
      | (go_at_call 16; (with_reducible refine (HC.out _).mono ?_); rintro e w1 ⟨rfl, hb1⟩)
      | (go_at_call 17; (with_reducible refine (HF.out _).mono ?_); rintro e w2 ⟨rfl, hb2⟩))
    go_ret2
    exact ⟨rfl, (hA.out _).trans (hb1.mono (by simp))⟩
end Go.Proofs.YtaiafhepeleefaaDoor.Rul
