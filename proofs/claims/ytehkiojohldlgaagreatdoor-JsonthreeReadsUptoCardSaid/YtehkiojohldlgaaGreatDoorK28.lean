/- Texts of my own, packed: RulP3. Conditions: as each theorem states. -/
import Derived.Great.Walk
import Derived.Test.YtehkiojohldlgaaGreatDoorK06
import Derived.Test.YtehkiojohldlgaaGreatDoorK18
import Derived.Test.YtehkiojohldlgaaGreatDoorK25
namespace Go.Proofs.YtehkiojohldlgaaGreatDoor.Rul
open Go.RowKit Go.Lib

theorem rkind_any (k : Int) (w : World) : Calls Tryz.prog 62 #[.int .i64 k] w fun e w' => e = .returned (.string (kB k)) ∧ w = w' := by
  by_cases h1 : k = 1
  · subst h1
    go_enter Tryz.func62, Tryz.ntmps62
    go_wp2
    go_ret
    exact ⟨rfl, rfl⟩
  by_cases h2 : k = 2
  · subst h2
    go_enter Tryz.func62, Tryz.ntmps62
    go_wp2
    go_ret
    exact ⟨rfl, rfl⟩
  by_cases h3 : k = 3
  · subst h3
    go_enter Tryz.func62, Tryz.ntmps62
    go_wp2
    go_ret
    exact ⟨rfl, rfl⟩
  rw [(kB_none k).2 (by omega)]
  go_enter Tryz.func62, Tryz.ntmps62
  go_wp2
  go_ret
  exact ⟨rfl, rfl⟩

theorem rkindof_any (s : ByteArray) (w : World) :
    Calls Tryz.prog 73 #[.string s] w fun e w' => e = .returned (.int .i64 (kO s)) ∧ w = w' := by
  have HN := Lib.hid fun u W => rkind_any u W
  have PI := Lib.hid fun (m : Int) (h : 0 ≤ m) (h4 : m < 4) => kO_in h h4
  have PN := Lib.hid fun (h : ∀ k : Nat, 1 ≤ k → k < 4 → kB k ≠ s) => kO_no h
  go_enter Tryz.func73, Tryz.ntmps73
  go_wp2_with fail
  go_loop [3] (fun i => ∃ m : Int, i = .int .i64 m ∧ 1 ≤ m ∧ m ≤ 4 ∧ Hid (∀ k : Nat, 1 ≤ k → (k : Int) < m → kB k ≠ s)) (fun i => 4 - (RowKit.intOf i).toNat)
  case atStart => exact ⟨1, rfl, by omega, by omega, Lib.hid fun k h h2 => absurd h (by omega)⟩
  case round =>
    obtain ⟨m, rfl, h0, h4, HK⟩ := hrel
    have HM := Lib.hid fun W => HN.out m W
    by_cases hlt : m < 4
    · have HP := Lib.hid (PI.out m (by omega) hlt)
      have HX := Lib.hid fun (h : kB m ≠ s) (k : Nat) (h1 : 1 ≤ k) (h2 : (k : Int) < m + 1) => by
        by_cases e : (k : Int) < m
        · exact HK.out k h1 e
        · have e2 : (k : Int) = m := by omega
          rw [e2]; exact h
      generalize kB m = z at *
      by_cases hz : z = s
      · subst hz
        have hq : (z.toList == z.toList) = true := beq_self_eq_true _
        go_wp2_with (go_at_call 62; (with_reducible refine (HM.out _).mono ?_); rintro e w1 ⟨rfl, rfl⟩)
        go_ret
        rw [HP.out]
        exact ⟨rfl, rfl⟩
      · have HX2 := Lib.hid (HX.out hz)
        have hq : (z.toList == s.toList) = false := str_ne hz
        clear HX hz
        go_wp2_with (go_at_call 62; (with_reducible refine (HM.out _).mono ?_); rintro e w1 ⟨rfl, rfl⟩)
        go_round
        case rel => exact ⟨m + 1, rfl, by omega, by omega, HX2⟩
        case measure => simp [RowKit.intOf]; omega
    · obtain rfl : m = 4 := by omega
      have HE := Lib.hid (PN.out fun k h1 hk => HK.out k h1 (by omega))
      go_wp2_with fail
      go_ret
      rw [HE.out]
      exact ⟨rfl, rfl⟩

/-! ### fields -/
def nm1 : ByteArray := ⟨#[114, 97, 116, 101]⟩
def nm2 : ByteArray := ⟨#[112, 101, 114]⟩
def nm3 : ByteArray := ⟨#[98, 117, 114, 115, 116]⟩
def nm4 : ByteArray := ⟨#[99, 111, 115, 116]⟩
def nm5 : ByteArray := ⟨#[109, 97, 120]⟩
def nm6 : ByteArray := ⟨#[102, 97, 105, 108, 115]⟩
def nm7 : ByteArray := ⟨#[119, 97, 105, 116]⟩
def nm8 : ByteArray := ⟨#[112, 114, 111, 98, 101, 115]⟩
def rn (m : Int) : ByteArray := if m = 0 then nm1 else if m = 1 then nm2 else if m = 2 then nm3 else if m = 3 then nm4 else if m = 4 then nm5 else if m = 5 then nm6 else if m = 6 then nm7 else nm8
theorem rn_pt (m : Int) : ⟨#[47]⟩ ++ rn m = pt m := by
  unfold rn pt
  (repeat' split) <;> decide
theorem rn_size (m : Int) : (rn m).size ≤ 8 := by
  unfold rn
  (repeat' split) <;> decide
def rfC (r : Ru) : Array Value :=
  #[.string nm1, .int .i64 r.ra, .int .i64 1, .int .i64 0, .int .i64 1000000, .string nm2, .int .i64 r.pe, .int .i64 1, .int .i64 1, .int .i64 86400000,
    .string nm3, .int .i64 r.bu, .int .i64 1, .int .i64 1, .int .i64 1000000, .string nm4, .int .i64 r.co, .int .i64 1, .int .i64 0, .int .i64 1000,
    .string nm5, .int .i64 r.mx, .int .i64 2, .int .i64 1, .int .i64 1000000, .string nm6, .int .i64 r.fa, .int .i64 3, .int .i64 1, .int .i64 1000,
    .string nm7, .int .i64 r.wa, .int .i64 3, .int .i64 1, .int .i64 86400000, .string nm8, .int .i64 r.pb, .int .i64 3, .int .i64 0, .int .i64 100]
theorem rfC_at (r : Ru) (m : Int) (h : 0 ≤ m) (h8 : m < 8) : (rfC r)[m.toNat * 5]? = some (.string (rn m)) ∧ (rfC r)[m.toNat * 5 + 1]? = some (.int .i64 (nv r m)) ∧ (rfC r)[m.toNat * 5 + 2]? = some (.int .i64 (kd m))
    ∧ (rfC r)[m.toNat * 5 + 3]? = some (.int .i64 (lw m)) ∧ (rfC r)[m.toNat * 5 + 4]? = some (.int .i64 (hh m)) := by
  obtain rfl | rfl | rfl | rfl | rfl | rfl | rfl | rfl : m = 0 ∨ m = 1 ∨ m = 2 ∨ m = 3 ∨ m = 4 ∨ m = 5 ∨ m = 6 ∨ m = 7 := by omega
  all_goals exact ⟨rfl, rfl, rfl, rfl, rfl⟩
/-- The document's row of fields in memory. -/
def Gx (w : World) (g : Nat) (cs : Array Value) : Prop := w.heap[g]? = some (.cells cs 148 (0, 0))
theorem Gx.next {w w' : World} {B g : Nat} {cs : Array Value} (h : Gx w g cs) (hb : Below B w w') (hg : g < B) : Gx w' g cs := (hb.block g hg).trans h
theorem Gx.lt {w : World} {g : Nat} {cs : Array Value} (h : Gx w g cs) : g < w.heap.size := by
  rcases Nat.lt_or_ge g w.heap.size with h' | h'
  · exact h'
  · unfold Gx at h; simp [Array.getElem?_eq_none h'] at h
theorem Gx.cell {w : World} {g : Nat} {cs : Array Value} (h : Gx w g cs) (j : Nat) : w.cell? ⟨g, j, none⟩ = cs[j]? := by
  unfold Gx at h
  simp [World.cell?, h]
theorem rbuilt (r : Ru) (a : Act) (parts : Array (Nat × Operand)) (hp : (parts.map fun (i, x) => (i, a.eval x)) = #[(0, .agg (fdC nm1 r.ra 1 0 1000000).toArray), (1, .agg (fdC nm2 r.pe 1 1 86400000).toArray), (2, .agg (fdC nm3 r.bu 1 1 1000000).toArray), (3, .agg (fdC nm4 r.co 1 0 1000).toArray),
    (4, .agg (fdC nm5 r.mx 2 1 1000000).toArray), (5, .agg (fdC nm6 r.fa 3 1 1000).toArray), (6, .agg (fdC nm7 r.wa 3 1 86400000).toArray), (7, .agg (fdC nm8 r.pb 3 0 100).toArray)]) :
    Tryz.prog.builtSlice 148 8 (parts.map fun (i, x) => (i, a.eval x)).toList = some (rfC r) := by
  rw [hp]
  kernel_rfl
set_option maxHeartbeats 4000000 in
set_option maxRecDepth 100000 in
theorem rfields_any (r : Ru) (w : World) : Calls Tryz.prog 124 #[.agg (ruC r)] w fun e w' => ∃ g, e = .returned (.slice (some ⟨g, 0, none⟩) 8 8) ∧ Gx w' g (rfC r) ∧ Below w.heap.size w w' := by
  obtain ⟨id, no, ro, pr, ki, ra, pe, bu, co, mx, fa, wa, pb⟩ := r
  unfold ruC
  go_enter Tryz.func124, Tryz.ntmps124
  go_wp2_with (refine wpList_buildSliceTo rfl 145 148 8 _ rfl (w.heap.size + 1) (by simp) _ rfl Tryz.underlying145 _ (rbuilt ⟨id, no, ro, pr, ki, ra, pe, bu, co, mx, fa, wa, pb⟩ _ _ rfl) ?_)
  go_ret
  exact ⟨_, rfl, two_new _ _ _, two_below _ _ _⟩
end Go.Proofs.YtehkiojohldlgaaGreatDoor.Rul

namespace Go.Proofs.YtehkiojohldlgaaGreatDoor.Rul
open Go.RowKit Go.Lib

set_option maxHeartbeats 4000000 in
set_option maxRecDepth 100000 in
theorem rtexts_any (r : Ru) (w : World) (h1 : r.id.size ≤ 140737488355328) (h2 : r.no.size ≤ 140737488355328) (h3 : r.ro.size ≤ 140737488355328) :
    Calls Tryz.prog 123 #[.agg (ruC r)] w fun e w' => e = .returned (.tuple #[.string (txs r).1, .int .i64 (txs r).2]) ∧ Below w.heap.size w w' := by
  have HI := Lib.hid fun W => Ide.ris_any r.id W h1
  have HB := Lib.hid fun W => Utf.rbad_any r.no W h2
  have HP := Lib.hid fun W => Rou.rpat_any r.ro W h3
  have HK := Lib.hid fun W => rkind_any r.ki W
  have hA : ∀ o, Below w.heap.size w (w.alloc o) := fun o => (Below.refl _ _).alloc (Nat.le_refl _) o
  have hA := Lib.hid hA
  have hz := tx_bad r.no
  change Hid (∀ W, Calls _ _ _ W fun e w' => e = .returned (.bool (isId r.id)) ∧ W = w') at HI
  change Hid (∀ W, Calls _ _ _ W fun e w' => e = .returned (.bool (isPa r.ro)) ∧ Below W.heap.size W w') at HP
  generalize Utf.bI (Utf.badL r.no.data.toList) = z at *
  cases q1 : isId r.id with
  | false =>
    rw [q1] at HI
    rw [tx_id q1]
    clear q1 hz
    unfold p1
    obtain ⟨id, no, ro, pr, ki, ra, pe, bu, co, mx, fa, wa, pb⟩ := r
    dsimp only [ruC] at *
    go_enter Tryz.func123, Tryz.ntmps123
    go_wp2_with (first
      | (go_at_call 149; (with_reducible refine (HI.out _).mono ?_); rintro e w1 ⟨rfl, rfl⟩))
    go_ret2
    exact ⟨rfl, hA.out _⟩
  | true =>
  rw [q1] at HI
  by_cases q2 : 255 < r.no.size
  · rw [tx_long q1 q2]
    clear q1 hz
    unfold p2
    obtain ⟨id, no, ro, pr, ki, ra, pe, bu, co, mx, fa, wa, pb⟩ := r
    dsimp only [ruC] at *
    go_enter Tryz.func123, Tryz.ntmps123
    go_wp2_with (first
      | (go_at_call 149; (with_reducible refine (HI.out _).mono ?_); rintro e w1 ⟨rfl, rfl⟩))
    go_ret2
    exact ⟨rfl, hA.out _⟩
  cases q3 : isTx r.no with
  | false =>
    have z1 := hz.2 q3
    rw [tx_no q1 q2 q3]
    clear q1 q3 hz
    unfold p2
    obtain ⟨id, no, ro, pr, ki, ra, pe, bu, co, mx, fa, wa, pb⟩ := r
    dsimp only [ruC] at *
    go_enter Tryz.func123, Tryz.ntmps123
    go_wp2_with (first
      | (go_at_call 149; (with_reducible refine (HI.out _).mono ?_); rintro e w1 ⟨rfl, rfl⟩)
      | (go_at_call 150; (with_reducible refine (HB.out _).mono ?_); rintro e w1 ⟨rfl, rfl⟩))
    go_ret2
    exact ⟨rfl, hA.out _⟩
  | true =>
  have z1 := hz.1 q3
  cases q4 : isPa r.ro with
  | false =>
    rw [q4] at HP
    rw [tx_ro q1 q2 q3 q4]
    clear q1 q3 q4 hz
    unfold p3
    obtain ⟨id, no, ro, pr, ki, ra, pe, bu, co, mx, fa, wa, pb⟩ := r
    dsimp only [ruC] at *
    go_enter Tryz.func123, Tryz.ntmps123
    go_wp2_with (first
      | (go_at_call 149; (with_reducible refine (HI.out _).mono ?_); rintro e w1 ⟨rfl, rfl⟩)
      | (go_at_call 150; (with_reducible refine (HB.out _).mono ?_); rintro e w1 ⟨rfl, rfl⟩)
      | (go_at_call 151; (with_reducible refine (HP.out _).mono ?_); rintro e w2 ⟨rfl, hb2⟩; have k3 : w2.cell? ⟨w.heap.size, 3, none⟩ = some (.int .i64 pr) := (box_stay hb2).cell 3; have k4 : w2.cell? ⟨w.heap.size, 4, none⟩ = some (.int .i64 ki) := (box_stay hb2).cell 4))
    go_ret2
    exact ⟨rfl, (hA.out _).trans (hb2.mono (by simp))⟩
  | true =>
  rw [q4] at HP
  by_cases q5 : r.pr < 0
  · rw [tx_pr q1 q2 q3 q4 (.inl q5)]
    clear q1 q3 q4 hz
    unfold p4
    obtain ⟨id, no, ro, pr, ki, ra, pe, bu, co, mx, fa, wa, pb⟩ := r
    dsimp only [ruC] at *
    go_enter Tryz.func123, Tryz.ntmps123
    go_wp2_with (first
      | (go_at_call 149; (with_reducible refine (HI.out _).mono ?_); rintro e w1 ⟨rfl, rfl⟩)
      | (go_at_call 150; (with_reducible refine (HB.out _).mono ?_); rintro e w1 ⟨rfl, rfl⟩)
      | (go_at_call 151; (with_reducible refine (HP.out _).mono ?_); rintro e w2 ⟨rfl, hb2⟩; have k3 : w2.cell? ⟨w.heap.size, 3, none⟩ = some (.int .i64 pr) := (box_stay hb2).cell 3; have k4 : w2.cell? ⟨w.heap.size, 4, none⟩ = some (.int .i64 ki) := (box_stay hb2).cell 4)
      | (go_at_call 62; (with_reducible refine (HK.out _).mono ?_); rintro e w3 ⟨rfl, rfl⟩))
    go_ret2
    exact ⟨rfl, (hA.out _).trans (hb2.mono (by simp))⟩
  by_cases q5' : 1000 < r.pr
  · rw [tx_pr q1 q2 q3 q4 (.inr q5')]
    clear q1 q3 q4 hz
    unfold p4
    obtain ⟨id, no, ro, pr, ki, ra, pe, bu, co, mx, fa, wa, pb⟩ := r
    dsimp only [ruC] at *
    go_enter Tryz.func123, Tryz.ntmps123
    go_wp2_with (first
      | (go_at_call 149; (with_reducible refine (HI.out _).mono ?_); rintro e w1 ⟨rfl, rfl⟩)
      | (go_at_call 150; (with_reducible refine (HB.out _).mono ?_); rintro e w1 ⟨rfl, rfl⟩)
      | (go_at_call 151; (with_reducible refine (HP.out _).mono ?_); rintro e w2 ⟨rfl, hb2⟩; have k3 : w2.cell? ⟨w.heap.size, 3, none⟩ = some (.int .i64 pr) := (box_stay hb2).cell 3; have k4 : w2.cell? ⟨w.heap.size, 4, none⟩ = some (.int .i64 ki) := (box_stay hb2).cell 4)
      | (go_at_call 62; (with_reducible refine (HK.out _).mono ?_); rintro e w3 ⟨rfl, rfl⟩))
    go_ret2
    exact ⟨rfl, (hA.out _).trans (hb2.mono (by simp))⟩
  have q7 : ¬ (r.pr < 0 ∨ 1000 < r.pr) := fun h => h.elim q5 q5'
  by_cases q6 : kB r.ki = ⟨#[]⟩
  · rw [q6] at HK
    rw [tx_ki q1 q2 q3 q4 q7 q6]
    clear q1 q3 q4 q6 hz q7
    unfold p5
    obtain ⟨id, no, ro, pr, ki, ra, pe, bu, co, mx, fa, wa, pb⟩ := r
    dsimp only [ruC] at *
    go_enter Tryz.func123, Tryz.ntmps123
    go_wp2_with (first
      | (go_at_call 149; (with_reducible refine (HI.out _).mono ?_); rintro e w1 ⟨rfl, rfl⟩)
      | (go_at_call 150; (with_reducible refine (HB.out _).mono ?_); rintro e w1 ⟨rfl, rfl⟩)
      | (go_at_call 151; (with_reducible refine (HP.out _).mono ?_); rintro e w2 ⟨rfl, hb2⟩; have k3 : w2.cell? ⟨w.heap.size, 3, none⟩ = some (.int .i64 pr) := (box_stay hb2).cell 3; have k4 : w2.cell? ⟨w.heap.size, 4, none⟩ = some (.int .i64 ki) := (box_stay hb2).cell 4)
      | (go_at_call 62; (with_reducible refine (HK.out _).mono ?_); rintro e w3 ⟨rfl, rfl⟩))
    go_ret2
    exact ⟨rfl, (hA.out _).trans (hb2.mono (by simp))⟩
  · rw [tx_ok q1 q2 q3 q4 q7 q6]
    have q8 : (kB r.ki).toList.isEmpty = false := by
      cases he : (kB r.ki).toList with
      | nil =>
        rw [Byt.toList_data] at he
        exact absurd (ByteArray.ext (Array.toList_inj.1 he)) q6
      | cons _ _ => rfl
    clear q1 q3 q4 q6 hz q7
    generalize kB r.ki = kn at *
    obtain ⟨id, no, ro, pr, ki, ra, pe, bu, co, mx, fa, wa, pb⟩ := r
    dsimp only [ruC] at *
    go_enter Tryz.func123, Tryz.ntmps123
    go_wp2_with (first
      | (go_at_call 149; (with_reducible refine (HI.out _).mono ?_); rintro e w1 ⟨rfl, rfl⟩)
      | (go_at_call 150; (with_reducible refine (HB.out _).mono ?_); rintro e w1 ⟨rfl, rfl⟩)
      | (go_at_call 151; (with_reducible refine (HP.out _).mono ?_); rintro e w2 ⟨rfl, hb2⟩; have k3 : w2.cell? ⟨w.heap.size, 3, none⟩ = some (.int .i64 pr) := (box_stay hb2).cell 3; have k4 : w2.cell? ⟨w.heap.size, 4, none⟩ = some (.int .i64 ki) := (box_stay hb2).cell 4)
      | (go_at_call 62; (with_reducible refine (HK.out _).mono ?_); rintro e w3 ⟨rfl, rfl⟩))
    go_ret2
    exact ⟨rfl, (hA.out _).trans (hb2.mono (by simp))⟩

theorem fd_un {k ki n lo hi : Int} (h1 : k ≠ ki) (h2 : n ≠ 0) : fd k ki n lo hi = 17 := by unfold fd; rw [if_pos ⟨h1, h2⟩]
theorem fd_out {k ki n lo hi : Int} (h1 : k = ki) (h2 : n < lo ∨ hi < n) : fd k ki n lo hi = 2 := by unfold fd; rw [if_neg (fun h => h.1 h1), if_pos ⟨h1, h2⟩]
theorem fd_in {k ki n lo hi : Int} (h1 : k = ki) (h2 : ¬ n < lo) (h3 : ¬ hi < n) : fd k ki n lo hi = 0 := by unfold fd; rw [if_neg (fun h => h.1 h1), if_neg (fun h => h.2.elim h2 h3)]
theorem fd_nil {k ki n lo hi : Int} (h1 : k ≠ ki) (h2 : n = 0) : fd k ki n lo hi = 0 := by unfold fd; rw [if_neg (fun h => h.2 h2), if_neg (fun h => h1 h.1)]

set_option maxHeartbeats 4000000 in
set_option maxRecDepth 100000 in
theorem rchk_any (r : Ru) (w : World) (h1 : r.id.size ≤ 140737488355328) (h2 : r.no.size ≤ 140737488355328) (h3 : r.ro.size ≤ 140737488355328) :
    Calls Tryz.prog 95 #[.agg (ruC r)] w fun e w' => e = .returned (.tuple #[.string (chk r).1, .int .i64 (chk r).2]) ∧ Below w.heap.size w w' := by
  have hA : ∀ o, Below w.heap.size w (w.alloc o) := fun o => (Below.refl _ _).alloc (Nat.le_refl _) o
  have HC := Lib.hid fun o => rtexts_any r (w.alloc o) h1 h2 h3
  have HF := Lib.hid fun W => rfields_any r W
  have HX := Lib.hid (rfC_at r)
  have HD := Lib.hid (nums_drop r)
  have hL := nums_len r
  have HE : ∀ m, ev r m = fd (kd m) r.ki (nv r m) (lw m) (hh m) := fun m => rfl
  have HE := Lib.hid HE
  have HPT := Lib.hid fun m => (⟨rn_pt m, rn_size m⟩ : _ ∧ _)
  have hA := Lib.hid hA
  rw [chk_two]
  generalize txs r = x at *
  obtain ⟨a, b⟩ := x
  generalize nums r = L at *
  generalize rfC r = V at *
  generalize ev r = E at *
  generalize nv r = NV at *
  obtain ⟨id, no, ro, pr, ki, ra, pe, bu, co, mx, fa, wa, pb⟩ := r
  dsimp only [ruC] at HC HF HE ⊢
  by_cases hb : b = 0
  · subst hb
    rw [if_pos rfl]
    go_enter Tryz.func95, Tryz.ntmps95
    go_wp2_with (first
      | (refine wpList_fetch _ rfl _ rfl _ _ rfl (box_stay hb1) rfl ?_)
      | (go_at_call 123; (with_reducible refine (HC.out _).mono ?_); rintro e w1 ⟨rfl, hb1⟩)
      | (go_at_call 124; (with_reducible refine (HF.out _).mono ?_); rintro e w2 ⟨g, rfl, hg, hb2⟩))
    have B2 := Lib.hid (((hA.out _).trans (hb1.mono (by simp))).trans (hb2.mono (by have := hb1.size; simp at this; omega)))
    have X2 := Lib.hid ((box_stay hb1).next hb2 (box_stay hb1).lt)
    have hlt := X2.out.lt
    have hlt := Lib.hid hlt
    have hlg := Lib.hid hg.lt
    have HG := Lib.hid hg
    clear hb1 hb2 HC HF hg
    go_loopw [22] (fun i wr => ∃ m : Nat, i = .int .i64 m ∧ m ≤ 8 ∧ Hid (Below w2.heap.size w2 wr) ∧ Hid (fst L = fst (L.drop m))) (fun i _ => 8 - (RowKit.intOf i).toNat)
    case atStart => exact ⟨0, rfl, by omega, Lib.hid (Below.refl _ _), Lib.hid rfl⟩
    case round =>
      obtain ⟨m, rfl, h8, HB, HN⟩ := hrel
      have k5 : ∀ o, (wr.alloc o).cell? ⟨w.heap.size, 4, none⟩ = some (.int .i64 ki) := fun o => (bx_old (X2.out.next HB.out hlt.out) o).cell 4
      by_cases hm : m < 8
      · obtain ⟨x0, x1, x2, x3, x4⟩ := HX.out m (by omega) (by omega)
        rw [Int.toNat_natCast] at x0 x1 x2 x3 x4
        have c0 : wr.cell? ⟨g, m * 5, none⟩ = some (.string (rn m)) := ((HG.out.next HB.out hlg.out).cell _).trans x0
        have c1 : wr.cell? ⟨g, m * 5 + 1, none⟩ = some (.int .i64 (NV m)) := ((HG.out.next HB.out hlg.out).cell _).trans x1
        have c2 : wr.cell? ⟨g, m * 5 + 2, none⟩ = some (.int .i64 (kd m)) := ((HG.out.next HB.out hlg.out).cell _).trans x2
        have c3 : wr.cell? ⟨g, m * 5 + 3, none⟩ = some (.int .i64 (lw m)) := ((HG.out.next HB.out hlg.out).cell _).trans x3
        have c4 : wr.cell? ⟨g, m * 5 + 4, none⟩ = some (.int .i64 (hh m)) := ((HG.out.next HB.out hlg.out).cell _).trans x4
        clear x0 x1 x2 x3 x4
        have hf := fst_at (HD.out m hm) HN.out
        obtain ⟨hp, hps⟩ := HPT.out m
        have he := HE.out m
        generalize rn (m : Int) = nm at *
        generalize pt (m : Int) = p at *
        generalize NV (m : Int) = nvm at *
        generalize kd (m : Int) = kdm at *
        generalize lw (m : Int) = lwm at *
        generalize hh (m : Int) = hhm at *
        generalize E (m : Int) = em at *
        by_cases g1 : kdm = ki
        · subst g1
          by_cases g2 : nvm < lwm
          · have HN2 := Lib.hid (hf.2 (by rw [he, fd_out rfl (.inl g2)]; decide))
            rw [he, fd_out rfl (.inl g2)] at HN2
            clear hf he
            go_wp2_with fail
            go_ret2
            rw [HN2.out]
            exact ⟨rfl, B2.out.trans ((HB.out.alloc HB.out.size _).mono B2.out.size)⟩
          by_cases g3 : hhm < nvm
          · have HN2 := Lib.hid (hf.2 (by rw [he, fd_out rfl (.inr g3)]; decide))
            rw [he, fd_out rfl (.inr g3)] at HN2
            clear hf he
            go_wp2_with fail
            go_ret2
            rw [HN2.out]
            exact ⟨rfl, B2.out.trans ((HB.out.alloc HB.out.size _).mono B2.out.size)⟩
          have HN2 := Lib.hid (hf.1 (by rw [he, fd_in rfl g2 g3]))
          clear hf he
          go_wp2_with fail
          go_roundw
          case rel => exact ⟨m + 1, by go_num, by omega, Lib.hid (HB.out.alloc HB.out.size _), HN2⟩
          case measure => simp [RowKit.intOf]; omega
        by_cases g2 : nvm = 0
        · have HN2 := Lib.hid (hf.1 (by rw [he, fd_nil g1 g2]))
          subst g2
          have b1 : (kdm != ki) = true := by simp [g1]
          have b2 : (kdm == ki) = false := by simp [g1]
          clear hf he
          go_wp2_with fail
          go_roundw
          case rel => exact ⟨m + 1, by go_num, by omega, Lib.hid (HB.out.alloc HB.out.size _), HN2⟩
          case measure => simp [RowKit.intOf]; omega
        · have HN2 := Lib.hid (hf.2 (by rw [he, fd_un g1 g2]; decide))
          rw [he, fd_un g1 g2] at HN2
          have b1 : (kdm != ki) = true := by simp [g1]
          have b2 : (nvm != 0) = true := by simp [g2]
          clear hf he
          go_wp2_with fail
          go_ret2
          rw [HN2.out]
          exact ⟨rfl, B2.out.trans ((HB.out.alloc HB.out.size _).mono B2.out.size)⟩
      · obtain rfl : m = 8 := by omega
        have HN2 := HN.out
        rw [List.drop_of_length_le (by omega)] at HN2
        go_wp2_with fail
        go_ret2
        rw [HN2]
        exact ⟨rfl, B2.out.trans (HB.out.mono B2.out.size)⟩
  · rw [if_neg hb]
    go_enter Tryz.func95, Tryz.ntmps95
    go_wp2_with (first
      | (go_at_call 123; (with_reducible refine (HC.out _).mono ?_); rintro e w1 ⟨rfl, hb1⟩)
      | (go_at_call 124; (with_reducible refine (HF.out _).mono ?_); rintro e w2 ⟨rfl, hb2⟩))
    go_ret2
    exact ⟨rfl, (hA.out _).trans (hb1.mono (by simp))⟩
end Go.Proofs.YtehkiojohldlgaaGreatDoor.Rul

namespace Go.Proofs.YtehkiojohldlgaaGreatDoor.Rul
open Go.RowKit Go.Lib

set_option maxHeartbeats 8000000 in
set_option maxRecDepth 100000 in
theorem rcanon_no (r : Ru) (w : World) (h1 : r.id.size ≤ 140737488355328) (h2 : r.no.size ≤ 140737488355328) (h3 : r.ro.size ≤ 140737488355328) (hc : (chk r).2 ≠ 0) :
    Calls Tryz.prog 58 #[.agg (ruC r)] w fun e w' => e = .returned (.tuple #[.agg (ruC zero), .string (chk r).1, .int .i64 (chk r).2]) ∧ Below w.heap.size w w' := by
  have HC := Lib.hid fun o o' => rchk_any r ((w.alloc o).alloc o') h1 h2 h3
  have HT0 := Lib.hid fun zs => Two.new w (ruC r) zs
  generalize chk r = x at *
  obtain ⟨a, b⟩ := x
  obtain ⟨id, no, ro, pr, ki, ra, pe, bu, co, mx, fa, wa, pb⟩ := r
  dsimp only [ruC] at HC HT0 ⊢
  have b1 : (b != 0) = true := by simpa using hc
  clear hc
  go_enter Tryz.func58, Tryz.ntmps58
  go_wp2_with (first
    | (refine wpList_keep _ rfl _ _ rfl w.heap.size w i1.out.bel _ (by omega) zero _ rfl rfl i1.out.two rfl ?_; intro w4 hk4 hb4 ho4)
    | (go_at_call 95; (with_reducible refine (HC.out _ _).mono ?_); rintro e w1 ⟨rfl, hb1⟩; have i1 := Lib.hid ((HT0.out _).next hb1)))
  refine bodyPost_ret (results_three rfl _ _ _ _ rfl hk4 rfl) rfl ?_
  exact ⟨rfl, hb4⟩

set_option maxHeartbeats 8000000 in
set_option maxRecDepth 100000 in
theorem rcanon_two (r : Ru) (w : World) (h1 : r.id.size ≤ 140737488355328) (h2 : r.no.size ≤ 140737488355328) (h3 : r.ro.size ≤ 140737488355328) (hc : chk r = (⟨#[]⟩, 0)) (hk : r.ki = 2) :
    Calls Tryz.prog 58 #[.agg (ruC r)] w fun e w' => e = .returned (.tuple #[.agg (ruC r), .string ⟨#[]⟩, .int .i64 0]) ∧ Below w.heap.size w w' := by
  have HC := Lib.hid fun o o' => rchk_any r ((w.alloc o).alloc o') h1 h2 h3
  rw [hc] at HC
  have HT0 := Lib.hid fun zs => Two.new w (ruC r) zs
  clear hc
  obtain ⟨id, no, ro, pr, ki, ra, pe, bu, co, mx, fa, wa, pb⟩ := r
  dsimp only at hk
  subst hk
  dsimp only [ruC] at HC HT0 ⊢
  go_enter Tryz.func58, Tryz.ntmps58
  go_wp2_with (first
    | (refine wpList_fetch _ rfl _ rfl _ _ rfl i1.out.one rfl ?_)
    | (refine wpList_keep _ rfl _ _ rfl w.heap.size w i1.out.bel _ (by omega) ⟨id, no, ro, pr, 2, ra, pe, bu, co, mx, fa, wa, pb⟩ _ rfl rfl i1.out.two rfl ?_; intro w4 hk4 hb4 ho4)
    | (go_at_call 95; (with_reducible refine (HC.out _ _).mono ?_); rintro e w1 ⟨rfl, hb1⟩; have i1 := Lib.hid ((HT0.out _).next hb1); have k4 : w1.cell? ⟨w.heap.size, 4, none⟩ = some (.int .i64 2) := i1.out.one.cell 4))
  refine bodyPost_ret (results_three rfl _ _ _ _ rfl hk4 rfl) rfl ?_
  exact ⟨rfl, hb4⟩

set_option maxHeartbeats 8000000 in
set_option maxRecDepth 100000 in
theorem rcanon_three (r : Ru) (w : World) (h1 : r.id.size ≤ 140737488355328) (h2 : r.no.size ≤ 140737488355328) (h3 : r.ro.size ≤ 140737488355328) (hc : chk r = (⟨#[]⟩, 0)) (hk : r.ki = 3) :
    Calls Tryz.prog 58 #[.agg (ruC r)] w fun e w' => e = .returned (.tuple #[.agg (ruC { r with pb := max r.pb 1 }), .string ⟨#[]⟩, .int .i64 0]) ∧ Below w.heap.size w w' := by
  have HC := Lib.hid fun o o' => rchk_any r ((w.alloc o).alloc o') h1 h2 h3
  rw [hc] at HC
  have HT0 := Lib.hid fun zs => Two.new w (ruC r) zs
  clear hc
  obtain ⟨id, no, ro, pr, ki, ra, pe, bu, co, mx, fa, wa, pb⟩ := r
  dsimp only at hk
  subst hk
  dsimp only [ruC] at HC HT0
  dsimp only
  rw [show ruC ⟨id, no, ro, pr, 3, ra, pe, bu, co, mx, fa, wa, pb⟩ = #[.string id, .string no, .string ro, .int .i64 pr, .int .i64 3, .int .i64 ra, .int .i64 pe, .int .i64 bu, .int .i64 co, .int .i64 mx, .int .i64 fa, .int .i64 wa, .int .i64 pb] from rfl]
  go_enter Tryz.func58, Tryz.ntmps58
  go_wp2_with (first
    | (refine wpList_fetch _ rfl _ rfl _ _ rfl (i2.out _).one rfl ?_)
    | (refine wpList_keep _ rfl _ _ rfl w.heap.size w (i2.out _).bel _ (by omega) _ _ rfl rfl (i2.out _).two rfl ?_; intro w4 hk4 hb4 ho4)
    | (go_at_call 95; (with_reducible refine (HC.out _ _).mono ?_); rintro e w1 ⟨rfl, hb1⟩; have i1 := Lib.hid ((HT0.out _).next hb1); have k4 : w1.cell? ⟨w.heap.size, 4, none⟩ = some (.int .i64 3) := i1.out.one.cell 4
       have k12 : w1.cell? ⟨w.heap.size, 12, none⟩ = some (.int .i64 pb) := i1.out.one.cell 12
       have f12 : w1.frozen? ⟨w.heap.size, 12, none⟩ = false := i1.out.one.free 12
       have i2 := Lib.hid fun v => i1.out.pb v))
  refine bodyPost_ret (results_three rfl _ _ _ _ rfl hk4 rfl) rfl ?_
  exact ⟨rfl, hb4⟩

set_option maxHeartbeats 8000000 in
set_option maxRecDepth 100000 in
theorem rcanon_one (r : Ru) (w : World) (h1 : r.id.size ≤ 140737488355328) (h2 : r.no.size ≤ 140737488355328) (h3 : r.ro.size ≤ 140737488355328) (hc : chk r = (⟨#[]⟩, 0)) (hk : r.ki = 1) (hra : 0 ≤ r.ra ∧ r.ra ≤ 1000000) (hpe : 1 ≤ r.pe ∧ r.pe ≤ 86400000) :
    Calls Tryz.prog 58 #[.agg (ruC r)] w fun e w' => e = .returned (.tuple #[.agg (ruC { r with ra := r.ra / Sat.gd r.ra r.pe, pe := r.pe / Sat.gd r.ra r.pe, co := max r.co 1 }), .string ⟨#[]⟩, .int .i64 0]) ∧ Below w.heap.size w w' := by
  have HC := Lib.hid fun o o' => rchk_any r ((w.alloc o).alloc o') h1 h2 h3
  rw [hc] at HC
  have HT0 := Lib.hid fun zs => Two.new w (ruC r) zs
  have HG := Lib.hid fun W => Sat.rgcd_any r.ra r.pe W (by omega) (by omega) (by omega) (by omega)
  obtain ⟨g1, g2, _, g3, g4, g5, g6, _⟩ := gd_div hra.1 hpe.1
  clear hc
  obtain ⟨id, no, ro, pr, ki, ra, pe, bu, co, mx, fa, wa, pb⟩ := r
  dsimp only at hk g1 g2 g3 g4 g5 g6 hra hpe HG
  subst hk
  dsimp only [ruC] at HC HT0
  dsimp only
  rw [show ruC ⟨id, no, ro, pr, 1, ra, pe, bu, co, mx, fa, wa, pb⟩ = #[.string id, .string no, .string ro, .int .i64 pr, .int .i64 1, .int .i64 ra, .int .i64 pe, .int .i64 bu, .int .i64 co, .int .i64 mx, .int .i64 fa, .int .i64 wa, .int .i64 pb] from rfl]
  generalize Sat.gd ra pe = g at *
  obtain ⟨ra0, ra1⟩ := hra
  obtain ⟨pe0, pe1⟩ := hpe
  go_enter Tryz.func58, Tryz.ntmps58
  go_wp2_with (first
    | (go_at_call 95; (with_reducible refine (HC.out _ _).mono ?_); rintro e w1 ⟨rfl, hb1⟩; have i1 := Lib.hid ((HT0.out _).next hb1); have k4 : w1.cell? ⟨w.heap.size, 4, none⟩ = some (.int .i64 1) := i1.out.one.cell 4
       have k5 : w1.cell? ⟨w.heap.size, 5, none⟩ = some (.int .i64 ra) := i1.out.one.cell 5
       have k6 : w1.cell? ⟨w.heap.size, 6, none⟩ = some (.int .i64 pe) := i1.out.one.cell 6
       have k8 : w1.cell? ⟨w.heap.size, 8, none⟩ = some (.int .i64 co) := i1.out.one.cell 8
       have f5 : w1.frozen? ⟨w.heap.size, 5, none⟩ = false := i1.out.one.free 5
       have f6 : w1.frozen? ⟨w.heap.size, 6, none⟩ = false := i1.out.one.free 6
       have f8 : w1.frozen? ⟨w.heap.size, 8, none⟩ = false := i1.out.one.free 8)
    | (go_at_call 96; (with_reducible refine (HG.out _).mono ?_); rintro e w2 ⟨rfl, n, rfl⟩))
  go_region
  have i2 := Lib.hid ((((i1.out.drewN (n + 1)).ra (ra / g)).pe (pe / g)).co (max co 1))
  clear k4 k5 k6 k8 f5 f6 f8 g2 g4 g6 i1 HT0 HC HG
  generalize (((w1.drewN (n + 1)).setCell ⟨w.heap.size, 5, none⟩ (.int .i64 (ra / g))).setCell ⟨w.heap.size, 6, none⟩ (.int .i64 (pe / g))).setCell ⟨w.heap.size, 8, none⟩ (.int .i64 (max co 1)) = W2 at *
  go_wp2_with (first
    | (refine wpList_fetch _ rfl _ rfl _ _ rfl i2.out.one rfl ?_)
    | (refine wpList_keep _ rfl _ _ rfl w.heap.size w i2.out.bel _ (by omega) _ _ rfl rfl i2.out.two rfl ?_; intro w4 hk4 hb4 ho4))
  refine bodyPost_ret (results_three rfl _ _ _ _ rfl hk4 rfl) rfl ?_
  exact ⟨rfl, hb4⟩

theorem rcanon_any (r : Ru) (w : World) (h1 : r.id.size ≤ 140737488355328) (h2 : r.no.size ≤ 140737488355328) (h3 : r.ro.size ≤ 140737488355328) :
    Calls Tryz.prog 58 #[.agg (ruC r)] w fun e w' => e = .returned (.tuple #[.agg (ruC (cn r)), .string (chk r).1, .int .i64 (chk r).2]) ∧ Below w.heap.size w w' := by
  by_cases h : (chk r).2 = 0
  · have hr := (chk_zero r).1 h
    have hc := chk_ok hr
    rw [cn_ok h]
    rcases hr.ki with hk | hk | hk
    · rw [can_one hk.1, hc]
      exact rcanon_one r w h1 h2 h3 hc hk.1 hk.2.1 hk.2.2.1
    · rw [can_two hk.1, hc]
      exact rcanon_two r w h1 h2 h3 hc hk.1
    · rw [can_three hk.1, hc]
      exact rcanon_three r w h1 h2 h3 hc hk.1
  · rw [cn_no h]
    exact rcanon_no r w h1 h2 h3 h
end Go.Proofs.YtehkiojohldlgaaGreatDoor.Rul
