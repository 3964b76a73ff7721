/- Contracts of the document's texts and Check. Conditions: the texts have at most 2^47 bytes. -/
import Derived.Test.YtaiafhepeleefaaDoorRulR
namespace Go.Proofs.YtaiafhepeleefaaDoor.Rul
open Go.RowKit Go.Lib

set_option maxHeartbeats 4000000 in
set_option maxRecDepth 100000 in
theorem rtexts_any (r : Ru) (w : World) (h1 : r.id.size ≤ 140737488355328) (h2 : r.no.size ≤ 140737488355328) (h3 : r.ro.size ≤ 140737488355328) :
    Calls Tryd.prog 19 #[.agg (ruC r)] w fun e w' => e = .returned (.tuple #[.string (txs r).1, .int .i64 (txs r).2]) ∧ Below w.heap.size w w' := by
  have HI := Lib.hid fun W => Ide.ris_any r.id W h1
  have HB := Lib.hid fun W => Utf.rbad_any r.no W h2
  have HP := Lib.hid fun W => Rou.rpat_any r.ro W h3
  have HK := Lib.hid fun W => rkind_any r.ki W
  have hA : ∀ o, Below w.heap.size w (w.alloc o) := fun o => (Below.refl _ _).alloc (Nat.le_refl _) o
  have hA := Lib.hid hA
  have hz := tx_bad r.no
  change Hid (∀ W, Calls _ _ _ W fun e w' => e = .returned (.bool (isId r.id)) ∧ W = w') at HI
  change Hid (∀ W, Calls _ _ _ W fun e w' => e = .returned (.bool (isPa r.ro)) ∧ Below W.heap.size W w') at HP
  generalize Utf.bI (Utf.badL r.no.data.toList) = z at *
  cases q1 : isId r.id with
  | false =>
    rw [q1] at HI
    rw [tx_id q1]
    clear q1 hz
    unfold p1
    obtain ⟨id, no, ro, pr, ki, ra, pe, bu, co, mx, fa, wa, pb⟩ := r
    dsimp only [ruC] at *
    go_enter Tryd.func19, Tryd.ntmps19
    go_wp2_with (first
      | (go_at_call 28; (with_reducible refine (HI.out _).mono ?_); rintro e w1 ⟨rfl, rfl⟩))
    go_ret2
    exact ⟨rfl, hA.out _⟩
  | true =>
  rw [q1] at HI
  by_cases q2 : 255 < r.no.size
  · rw [tx_long q1 q2]
    clear q1 hz
    unfold p2
    obtain ⟨id, no, ro, pr, ki, ra, pe, bu, co, mx, fa, wa, pb⟩ := r
    dsimp only [ruC] at *
    go_enter Tryd.func19, Tryd.ntmps19
    go_wp2_with (first
      | (go_at_call 28; (with_reducible refine (HI.out _).mono ?_); rintro e w1 ⟨rfl, rfl⟩))
    go_ret2
    exact ⟨rfl, hA.out _⟩
  cases q3 : isTx r.no with
  | false =>
    have z1 := hz.2 q3
    rw [tx_no q1 q2 q3]
    clear q1 q3 hz
    unfold p2
    obtain ⟨id, no, ro, pr, ki, ra, pe, bu, co, mx, fa, wa, pb⟩ := r
    dsimp only [ruC] at *
    go_enter Tryd.func19, Tryd.ntmps19
    go_wp2_with (first
      | (go_at_call 28; (with_reducible refine (HI.out _).mono ?_); rintro e w1 ⟨rfl, rfl⟩)
      | (go_at_call 29; (with_reducible refine (HB.out _).mono ?_); rintro e w1 ⟨rfl, rfl⟩))
    go_ret2
    exact ⟨rfl, hA.out _⟩
  | true =>
  have z1 := hz.1 q3
  cases q4 : isPa r.ro with
  | false =>
    rw [q4] at HP
    rw [tx_ro q1 q2 q3 q4]
    clear q1 q3 q4 hz
    unfold p3
    obtain ⟨id, no, ro, pr, ki, ra, pe, bu, co, mx, fa, wa, pb⟩ := r
    dsimp only [ruC] at *
    go_enter Tryd.func19, Tryd.ntmps19
    go_wp2_with (first
      | (go_at_call 28; (with_reducible refine (HI.out _).mono ?_); rintro e w1 ⟨rfl, rfl⟩)
      | (go_at_call 29; (with_reducible refine (HB.out _).mono ?_); rintro e w1 ⟨rfl, rfl⟩)
      | (go_at_call 30; (with_reducible refine (HP.out _).mono ?_); rintro e w2 ⟨rfl, hb2⟩; have k3 : w2.cell? ⟨w.heap.size, 3, none⟩ = some (.int .i64 pr) := (box_stay hb2).cell 3; have k4 : w2.cell? ⟨w.heap.size, 4, none⟩ = some (.int .i64 ki) := (box_stay hb2).cell 4))
    go_ret2
    exact ⟨rfl, (hA.out _).trans (hb2.mono (by simp))⟩
  | true =>
  rw [q4] at HP
  by_cases q5 : r.pr < 0
  · rw [tx_pr q1 q2 q3 q4 (.inl q5)]
    clear q1 q3 q4 hz
    unfold p4
    obtain ⟨id, no, ro, pr, ki, ra, pe, bu, co, mx, fa, wa, pb⟩ := r
    dsimp only [ruC] at *
    go_enter Tryd.func19, Tryd.ntmps19
    go_wp2_with (first
      | (go_at_call 28; (with_reducible refine (HI.out _).mono ?_); rintro e w1 ⟨rfl, rfl⟩)
      | (go_at_call 29; (with_reducible refine (HB.out _).mono ?_); rintro e w1 ⟨rfl, rfl⟩)
      | (go_at_call 30; (with_reducible refine (HP.out _).mono ?_); rintro e w2 ⟨rfl, hb2⟩; have k3 : w2.cell? ⟨w.heap.size, 3, none⟩ = some (.int .i64 pr) := (box_stay hb2).cell 3; have k4 : w2.cell? ⟨w.heap.size, 4, none⟩ = some (.int .i64 ki) := (box_stay hb2).cell 4)
      | (go_at_call 13; (with_reducible refine (HK.out _).mono ?_); rintro e w3 ⟨rfl, rfl⟩))
    go_ret2
    exact ⟨rfl, (hA.out _).trans (hb2.mono (by simp))⟩
  by_cases q5' : 1000 < r.pr
  · rw [tx_pr q1 q2 q3 q4 (.inr q5')]
    clear q1 q3 q4 hz
    unfold p4
    obtain ⟨id, no, ro, pr, ki, ra, pe, bu, co, mx, fa, wa, pb⟩ := r
    dsimp only [ruC] at *
    go_enter Tryd.func19, Tryd.ntmps19
    go_wp2_with (first
      | (go_at_call 28; (with_reducible refine (HI.out _).mono ?_); rintro e w1 ⟨rfl, rfl⟩)
      | (go_at_call 29; (with_reducible refine (HB.out _).mono ?_); rintro e w1 ⟨rfl, rfl⟩)
      | (go_at_call 30; (with_reducible refine (HP.out _).mono ?_); rintro e w2 ⟨rfl, hb2⟩; have k3 : w2.cell? ⟨w.heap.size, 3, none⟩ = some (.int .i64 pr) := (box_stay hb2).cell 3; have k4 : w2.cell? ⟨w.heap.size, 4, none⟩ = some (.int .i64 ki) := (box_stay hb2).cell 4)
      | (go_at_call 13; (with_reducible refine (HK.out _).mono ?_); rintro e w3 ⟨rfl, rfl⟩))
    go_ret2
    exact ⟨rfl, (hA.out _).trans (hb2.mono (by simp))⟩
  have q7 : ¬ (r.pr < 0 ∨ 1000 < r.pr) := fun h => h.elim q5 q5'
  by_cases q6 : kB r.ki = ⟨#[]⟩
  · rw [q6] at HK
    rw [tx_ki q1 q2 q3 q4 q7 q6]
    clear q1 q3 q4 q6 hz q7
    unfold p5
    obtain ⟨id, no, ro, pr, ki, ra, pe, bu, co, mx, fa, wa, pb⟩ := r
    dsimp only [ruC] at *
    go_enter Tryd.func19, Tryd.ntmps19
    go_wp2_with (first
      | (go_at_call 28; (with_reducible refine (HI.out _).mono ?_); rintro e w1 ⟨rfl, rfl⟩)
      | (go_at_call 29; (with_reducible refine (HB.out _).mono ?_); rintro e w1 ⟨rfl, rfl⟩)
      | (go_at_call 30; (with_reducible refine (HP.out _).mono ?_); rintro e w2 ⟨rfl, hb2⟩; have k3 : w2.cell? ⟨w.heap.size, 3, none⟩ = some (.int .i64 pr) := (box_stay hb2).cell 3; have k4 : w2.cell? ⟨w.heap.size, 4, none⟩ = some (.int .i64 ki) := (box_stay hb2).cell 4)
      | (go_at_call 13; (with_reducible refine (HK.out _).mono ?_); rintro e w3 ⟨rfl, rfl⟩))
    go_ret2
    exact ⟨rfl, (hA.out _).trans (hb2.mono (by simp))⟩
  · rw [tx_ok q1 q2 q3 q4 q7 q6]
    have q8 : (kB r.ki).toList.isEmpty = false := by
      cases he : (kB r.ki).toList with
      | nil =>
        rw [Byt.toList_data] at he
        exact absurd (ByteArray.ext (Array.toList_inj.1 he)) q6
      | cons _ _ => rfl
    clear q1 q3 q4 q6 hz q7
    generalize kB r.ki = kn at *
    obtain ⟨id, no, ro, pr, ki, ra, pe, bu, co, mx, fa, wa, pb⟩ := r
    dsimp only [ruC] at *
    go_enter Tryd.func19, Tryd.ntmps19
    go_wp2_with (first
      | (go_at_call 28; (with_reducible refine (HI.out _).mono ?_); rintro e w1 ⟨rfl, rfl⟩)
      | (go_at_call 29; (with_reducible refine (HB.out _).mono ?_); rintro e w1 ⟨rfl, rfl⟩)
      | (go_at_call 30; (with_reducible refine (HP.out _).mono ?_); rintro e w2 ⟨rfl, hb2⟩; have k3 : w2.cell? ⟨w.heap.size, 3, none⟩ = some (.int .i64 pr) := (box_stay hb2).cell 3; have k4 : w2.cell? ⟨w.heap.size, 4, none⟩ = some (.int .i64 ki) := (box_stay hb2).cell 4)
      | (go_at_call 13; (with_reducible refine (HK.out _).mono ?_); rintro e w3 ⟨rfl, rfl⟩))
    go_ret2
    exact ⟨rfl, (hA.out _).trans (hb2.mono (by simp))⟩

theorem fd_un {k ki n lo hi : Int} (h1 : k ≠ ki) (h2 : n ≠ 0) : fd k ki n lo hi = 17 := by unfold fd; rw [if_pos ⟨h1, h2⟩]
theorem fd_out {k ki n lo hi : Int} (h1 : k = ki) (h2 : n < lo ∨ hi < n) : fd k ki n lo hi = 2 := by unfold fd; rw [if_neg (fun h => h.1 h1), if_pos ⟨h1, h2⟩]
theorem fd_in {k ki n lo hi : Int} (h1 : k = ki) (h2 : ¬ n < lo) (h3 : ¬ hi < n) : fd k ki n lo hi = 0 := by unfold fd; rw [if_neg (fun h => h.1 h1), if_neg (fun h => h.2.elim h2 h3)]
theorem fd_nil {k ki n lo hi : Int} (h1 : k ≠ ki) (h2 : n = 0) : fd k ki n lo hi = 0 := by unfold fd; rw [if_neg (fun h => h.2 h2), if_neg (fun h => h1 h.1)]

set_option maxHeartbeats 4000000 in
set_option maxRecDepth 100000 in
theorem rchk_any (r : Ru) (w : World) (h1 : r.id.size ≤ 140737488355328) (h2 : r.no.size ≤ 140737488355328) (h3 : r.ro.size ≤ 140737488355328) :
    Calls Tryd.prog 9 #[.agg (ruC r)] w fun e w' => e = .returned (.tuple #[.string (chk r).1, .int .i64 (chk r).2]) ∧ Below w.heap.size w w' := by
  have hA : ∀ o, Below w.heap.size w (w.alloc o) := fun o => (Below.refl _ _).alloc (Nat.le_refl _) o
  have HC := Lib.hid fun o => rtexts_any r (w.alloc o) h1 h2 h3
  have HF := Lib.hid fun W => rfields_any r W
  have HX := Lib.hid (rfC_at r)
  have HD := Lib.hid (nums_drop r)
  have hL := nums_len r
  have HE : ∀ m, ev r m = fd (kd m) r.ki (nv r m) (lw m) (hh m) := fun m => rfl
  have HE := Lib.hid HE
  have HPT := Lib.hid fun m => (⟨rn_pt m, rn_size m⟩ : _ ∧ _)
  have hA := Lib.hid hA
  rw [chk_two]
  generalize txs r = x at *
  obtain ⟨a, b⟩ := x
  generalize nums r = L at *
  generalize rfC r = V at *
  generalize ev r = E at *
  generalize nv r = NV at *
  obtain ⟨id, no, ro, pr, ki, ra, pe, bu, co, mx, fa, wa, pb⟩ := r
  dsimp only [ruC] at HC HF HE ⊢
  by_cases hb : b = 0
  · subst hb
    rw [if_pos rfl]
    go_enter Tryd.func9, Tryd.ntmps9
    go_wp2_with (first
      | (refine wpList_fetch _ rfl _ rfl _ _ rfl (box_stay hb1) rfl ?_)
      | (go_at_call 19; (with_reducible refine (HC.out _).mono ?_); rintro e w1 ⟨rfl, hb1⟩)
      | (go_at_call 20; (with_reducible refine (HF.out _).mono ?_); rintro e w2 ⟨g, rfl, hg, hb2⟩))
    have B2 := Lib.hid (((hA.out _).trans (hb1.mono (by simp))).trans (hb2.mono (by have := hb1.size; simp at this; omega)))
    have X2 := Lib.hid ((box_stay hb1).next hb2 (box_stay hb1).lt)
    have hlt := X2.out.lt
    have hlt := Lib.hid hlt
    have hlg := Lib.hid hg.lt
    have HG := Lib.hid hg
    clear hb1 hb2 HC HF hg
    go_loopw [22] (fun i wr => ∃ m : Nat, i = .int .i64 m ∧ m ≤ 8 ∧ Hid (Below w2.heap.size w2 wr) ∧ Hid (fst L = fst (L.drop m))) (fun i _ => 8 - (RowKit.intOf i).toNat)
    case atStart => exact ⟨0, rfl, by omega, Lib.hid (Below.refl _ _), Lib.hid rfl⟩
    case round =>
      obtain ⟨m, rfl, h8, HB, HN⟩ := hrel
      have k5 : ∀ o, (wr.alloc o).cell? ⟨w.heap.size, 4, none⟩ = some (.int .i64 ki) := fun o => (bx_old (X2.out.next HB.out hlt.out) o).cell 4
      by_cases hm : m < 8
      · obtain ⟨x0, x1, x2, x3, x4⟩ := HX.out m (by omega) (by omega)
        rw [Int.toNat_natCast] at x0 x1 x2 x3 x4
        have c0 : wr.cell? ⟨g, m * 5, none⟩ = some (.string (rn m)) := ((HG.out.next HB.out hlg.out).cell _).trans x0
        have c1 : wr.cell? ⟨g, m * 5 + 1, none⟩ = some (.int .i64 (NV m)) := ((HG.out.next HB.out hlg.out).cell _).trans x1
        have c2 : wr.cell? ⟨g, m * 5 + 2, none⟩ = some (.int .i64 (kd m)) := ((HG.out.next HB.out hlg.out).cell _).trans x2
        have c3 : wr.cell? ⟨g, m * 5 + 3, none⟩ = some (.int .i64 (lw m)) := ((HG.out.next HB.out hlg.out).cell _).trans x3
        have c4 : wr.cell? ⟨g, m * 5 + 4, none⟩ = some (.int .i64 (hh m)) := ((HG.out.next HB.out hlg.out).cell _).trans x4
        clear x0 x1 x2 x3 x4
        have hf := fst_at (HD.out m hm) HN.out
        obtain ⟨hp, hps⟩ := HPT.out m
        have he := HE.out m
        generalize rn (m : Int) = nm at *
        generalize pt (m : Int) = p at *
        generalize NV (m : Int) = nvm at *
        generalize kd (m : Int) = kdm at *
        generalize lw (m : Int) = lwm at *
        generalize hh (m : Int) = hhm at *
        generalize E (m : Int) = em at *
        by_cases g1 : kdm = ki
        · subst g1
          by_cases g2 : nvm < lwm
          · have HN2 := Lib.hid (hf.2 (by rw [he, fd_out rfl (.inl g2)]; decide))
            rw [he, fd_out rfl (.inl g2)] at HN2
            clear hf he
            go_wp2_with fail
            go_ret2
            rw [HN2.out]
            exact ⟨rfl, B2.out.trans ((HB.out.alloc HB.out.size _).mono B2.out.size)⟩
          by_cases g3 : hhm < nvm
          · have HN2 := Lib.hid (hf.2 (by rw [he, fd_out rfl (.inr g3)]; decide))
            rw [he, fd_out rfl (.inr g3)] at HN2
            clear hf he
            go_wp2_with fail
            go_ret2
            rw [HN2.out]
            exact ⟨rfl, B2.out.trans ((HB.out.alloc HB.out.size _).mono B2.out.size)⟩
          have HN2 := Lib.hid (hf.1 (by rw [he, fd_in rfl g2 g3]))
          clear hf he
          go_wp2_with fail
          go_roundw
          case rel => exact ⟨m + 1, by go_num, by omega, Lib.hid (HB.out.alloc HB.out.size _), HN2⟩
          case measure => simp [RowKit.intOf]; omega
        by_cases g2 : nvm = 0
        · have HN2 := Lib.hid (hf.1 (by rw [he, fd_nil g1 g2]))
          subst g2
          have b1 : (kdm != ki) = true := by simp [g1]
          have b2 : (kdm == ki) = false := by simp [g1]
          clear hf he
          go_wp2_with fail
          go_roundw
          case rel => exact ⟨m + 1, by go_num, by omega, Lib.hid (HB.out.alloc HB.out.size _), HN2⟩
          case measure => simp [RowKit.intOf]; omega
        · have HN2 := Lib.hid (hf.2 (by rw [he, fd_un g1 g2]; decide))
          rw [he, fd_un g1 g2] at HN2
          have b1 : (kdm != ki) = true := by simp [g1]
          have b2 : (nvm != 0) = true := by simp [g2]
          clear hf he
          go_wp2_with fail
          go_ret2
          rw [HN2.out]
          exact ⟨rfl, B2.out.trans ((HB.out.alloc HB.out.size _).mono B2.out.size)⟩
      · obtain rfl : m = 8 := by omega
        have HN2 := HN.out
        rw [List.drop_of_length_le (by omega)] at HN2
        go_wp2_with fail
        go_ret2
        rw [HN2]
        exact ⟨rfl, B2.out.trans (HB.out.mono B2.out.size)⟩
  · rw [if_neg hb]
    go_enter Tryd.func9, Tryd.ntmps9
    go_wp2_with (first
      | (go_at_call 19; (with_reducible refine (HC.out _).mono ?_); rintro e w1 ⟨rfl, hb1⟩)
      | (go_at_call 20; (with_reducible refine (HF.out _).mono ?_); rintro e w2 ⟨rfl, hb2⟩))
    go_ret2
    exact ⟨rfl, (hA.out _).trans (hb1.mono (by simp))⟩
end Go.Proofs.YtaiafhepeleefaaDoor.Rul
