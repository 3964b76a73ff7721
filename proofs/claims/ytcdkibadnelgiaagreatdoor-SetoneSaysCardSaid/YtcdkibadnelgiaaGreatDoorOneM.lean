/- Contracts of the code's at, check, isPath of sets of rules of version 1. Conditions: as each theorem states. -/
import Derived.Test.YtcdkibadnelgiaaGreatDoorOneP3
import Derived.Test.YtcdkibadnelgiaaGreatDoorIdeA
namespace Go.Proofs.YtcdkibadnelgiaaGreatDoor.One
open Go.RowKit Go.Lib
open Go.Proofs.YtcdkibadnelgiaaGreatDoor.Ren (Pw)

theorem at_any (i : Nat) (h : i ≤ 5000) (W : World) (hP : Pw W) : Calls Tryz.prog 16 #[.int .i64 (i : Int)] W fun e w' => e = .returned (.string (at_ i)) ∧ Below W.heap.size W w' := by
  have HI := Lib.hid (itoa_at (i : Int) (by omega) (by omega) W hP)
  have hz := itoa_size i h
  have hat : (⟨#[47]⟩ : ByteArray) ++ ⟨(Lib.itoa (i : Int)).toArray⟩ = at_ i := rfl
  generalize (⟨(Lib.itoa (i : Int)).toArray⟩ : ByteArray) = it at *
  generalize at_ i = A at *
  clear hP
  go_enter Tryz.func16, Tryz.ntmps16
  go_wp2_with (first
    | (go_at_call 17; (with_reducible refine HI.out.mono ?_); rintro e w1 ⟨rfl, hb1⟩))
  go_ret
  exact ⟨rfl, hb1⟩

set_option maxHeartbeats 4000000 in
theorem ispath_any (s : ByteArray) (w : World) (hs : s.size ≤ 140737488355328) : Calls Tryz.prog 29 #[.string s] w fun e w' => e = .returned (.bool (isP s)) ∧ Below w.heap.size w w' := by
  have HS := Lib.hid fun W => Rou.split_at s _ _ rfl rfl hs W
  have HR := Lib.hid fun W => Rou.is_at s _ rfl hs W
  have HP : isP s = (Rou.isB s && decide ((Rou.spB s).length ≤ 31) && decide (s.size ≤ 252)) := rfl
  rw [HP]
  clear HP
  generalize Rou.isB s = b2 at *
  generalize Rou.spB s = sp at *
  generalize Rou.rowB s = rw_ at *
  by_cases h252 : s.size ≤ 252
  · cases b2
    · go_enter Tryz.func29, Tryz.ntmps29
      go_wp2_with (first
        | (go_at_call 46; (with_reducible refine (HR.out _).mono ?_); rintro e w3 ⟨rfl, hb3⟩))
      go_ret
      exact ⟨by simp, hb3⟩
    · by_cases h31 : sp.length ≤ 31
      all_goals
        go_enter Tryz.func29, Tryz.ntmps29
        go_wp2_with (first
          | (go_at_call 46; (with_reducible refine (HR.out _).mono ?_); rintro e w3 ⟨rfl, hb3⟩; have B3 := Lib.hid hb3; clear hb3)
          | (go_at_call 47; (with_reducible refine (HS.out _).mono ?_); rintro e w2 ⟨sa, sc, rfl, hr2, hc2, hb2⟩; have B2 := Lib.hid (B3.out.trans (hb2.mono B3.out.size)); clear hr2 hc2 hb2))
        go_ret
        exact ⟨by first | (simp [h31, h252]; done) | (simp [h31, h252]; omega), B2.out⟩
  · go_enter Tryz.func29, Tryz.ntmps29
    go_wp2_with fail
    go_ret
    exact ⟨by simp, Below.refl _ _⟩
set_option maxHeartbeats 8000000 in
set_option maxRecDepth 100000 in
theorem check1_any (r : Ro) (w : World) (hp : r.ps < 18446744073709551616) (s1 : r.nm.size ≤ 140737488355328) (s2 : r.pa.size ≤ 140737488355328) :
    Calls Tryz.prog 15 #[.agg (ruC r)] w fun e w' => e = .returned (.tuple #[.string (chk r).1, .int .i64 (chk r).2]) ∧ Below w.heap.size w w' := by
  have HI := Lib.hid fun W => Ide.is_any r.nm W s1
  have HR := Lib.hid fun W => ispath_any r.pa W s2
  have HM := Lib.hid fun W => Real.Milli_any r.ps hp W
  have C1 := Lib.hid (@chk_1 r)
  have C2 := Lib.hid (@chk_2 r)
  have C3 := Lib.hid (@chk_3 r)
  have C4 := Lib.hid (@chk_4 r)
  have C5 := Lib.hid (@chk_5 r)
  have hA := Lib.hid fun o => (Below.refl w.heap.size w).alloc (Nat.le_refl _) o
  have hX := Lib.hid (bx_new w (ruC r))
  have HN : Ide.isI r.nm = isN r.nm := rfl
  rw [HN] at HI
  obtain ⟨nm, pa, ps, bu⟩ := r
  dsimp only [ruC] at *
  clear HN hp s1
  generalize isN nm = b1 at *
  generalize isP pa = b2 at *
  generalize Real.mn ps = mn at *
  generalize Real.me ps = me at *
  generalize chk ⟨nm, pa, ps, bu⟩ = c at *
  have HB := Lib.hid (hA.out (.cells #[.string nm, .string pa, .float .f64 ps, .int .i64 bu] 33))
  cases b1 with
  | false =>
    rw [C1.out rfl]
    clear C1 C2 C3 C4 C5
    go_enter Tryz.func15, Tryz.ntmps15
    go_wp2_with (first
      | (go_at_call 28; (with_reducible refine (HI.out _).mono ?_); rintro e w1 ⟨rfl, rfl⟩))
    go_ret2
    exact ⟨rfl, HB.out⟩
  | true =>
    have C2' := Lib.hid fun h => C2.out rfl h
    have C3' := Lib.hid fun h k => C3.out rfl h k
    have C4' := Lib.hid fun h k l => C4.out rfl h k l
    have C5' := Lib.hid fun h k l => C5.out rfl h k l
    clear C1 C2 C3 C4 C5
    cases b2 with
    | false =>
      rw [C2'.out rfl]
      clear C2' C3' C4' C5'
      go_enter Tryz.func15, Tryz.ntmps15
      go_wp2_with (first
        | (go_at_call 28; (with_reducible refine (HI.out _).mono ?_); rintro e w1 ⟨rfl, rfl⟩)
        | (go_at_call 29; (with_reducible refine (HR.out _).mono ?_); rintro e w3 ⟨rfl, hb3⟩; have X3 := Lib.hid (hX.out.next hb3 hX.out.lt); have u2 : w3.cell? ⟨w.heap.size, 2, none⟩ = some (.float .f64 ps) := X3.out.cell 2; have v3 : w3.cell? ⟨w.heap.size, 3, none⟩ = some (.int .i64 bu) := X3.out.cell 3; have B3 := Lib.hid (HB.out.trans (hb3.mono HB.out.size)); clear hb3))
      go_ret2
      exact ⟨rfl, B3.out⟩
    | true =>
      have D3 := Lib.hid (C3'.out rfl)
      have D4 := Lib.hid (C4'.out rfl)
      have D5 := Lib.hid (C5'.out rfl)
      clear C2' C3' C4' C5'
      by_cases hm : (me : Int) = 0
      · have D4' := Lib.hid (D4.out hm)
        have D5' := Lib.hid (D5.out hm)
        clear D3 D4 D5
        obtain rfl : me = 0 := by omega
        clear hm
        by_cases hlo : bu < 1
        · rw [D4'.out (by omega)]
          clear D4' D5'
          go_enter Tryz.func15, Tryz.ntmps15
          go_wp2_with (first
            | (go_at_call 28; (with_reducible refine (HI.out _).mono ?_); rintro e w1 ⟨rfl, rfl⟩)
            | (go_at_call 29; (with_reducible refine (HR.out _).mono ?_); rintro e w3 ⟨rfl, hb3⟩; have X3 := Lib.hid (hX.out.next hb3 hX.out.lt); have u2 : w3.cell? ⟨w.heap.size, 2, none⟩ = some (.float .f64 ps) := X3.out.cell 2; have v3 : w3.cell? ⟨w.heap.size, 3, none⟩ = some (.int .i64 bu) := X3.out.cell 3; have B3 := Lib.hid (HB.out.trans (hb3.mono HB.out.size)); clear hb3)
            | (go_at_call 30; (with_reducible refine (HM.out _).mono ?_); rintro e w4 ⟨rfl, rfl⟩))
          go_ret2
          exact ⟨rfl, B3.out⟩
        · by_cases hhi : bu ≤ 1000000
          · rw [D5'.out (by omega)]
            clear D4' D5'
            go_enter Tryz.func15, Tryz.ntmps15
            go_wp2_with (first
              | (go_at_call 28; (with_reducible refine (HI.out _).mono ?_); rintro e w1 ⟨rfl, rfl⟩)
              | (go_at_call 29; (with_reducible refine (HR.out _).mono ?_); rintro e w3 ⟨rfl, hb3⟩; have X3 := Lib.hid (hX.out.next hb3 hX.out.lt); have u2 : w3.cell? ⟨w.heap.size, 2, none⟩ = some (.float .f64 ps) := X3.out.cell 2; have v3 : w3.cell? ⟨w.heap.size, 3, none⟩ = some (.int .i64 bu) := X3.out.cell 3; have B3 := Lib.hid (HB.out.trans (hb3.mono HB.out.size)); clear hb3)
              | (go_at_call 30; (with_reducible refine (HM.out _).mono ?_); rintro e w4 ⟨rfl, rfl⟩))
            go_ret2
            exact ⟨rfl, B3.out⟩
          · rw [D4'.out (by omega)]
            clear D4' D5'
            go_enter Tryz.func15, Tryz.ntmps15
            go_wp2_with (first
              | (go_at_call 28; (with_reducible refine (HI.out _).mono ?_); rintro e w1 ⟨rfl, rfl⟩)
              | (go_at_call 29; (with_reducible refine (HR.out _).mono ?_); rintro e w3 ⟨rfl, hb3⟩; have X3 := Lib.hid (hX.out.next hb3 hX.out.lt); have u2 : w3.cell? ⟨w.heap.size, 2, none⟩ = some (.float .f64 ps) := X3.out.cell 2; have v3 : w3.cell? ⟨w.heap.size, 3, none⟩ = some (.int .i64 bu) := X3.out.cell 3; have B3 := Lib.hid (HB.out.trans (hb3.mono HB.out.size)); clear hb3)
              | (go_at_call 30; (with_reducible refine (HM.out _).mono ?_); rintro e w4 ⟨rfl, rfl⟩))
            go_ret2
            exact ⟨rfl, B3.out⟩
      · rw [D3.out hm]
        have b1 : ((me : Int) != 0) = true := by simpa using hm
        clear D3 D4 D5 hm
        go_enter Tryz.func15, Tryz.ntmps15
        go_wp2_with (first
          | (go_at_call 28; (with_reducible refine (HI.out _).mono ?_); rintro e w1 ⟨rfl, rfl⟩)
          | (go_at_call 29; (with_reducible refine (HR.out _).mono ?_); rintro e w3 ⟨rfl, hb3⟩; have X3 := Lib.hid (hX.out.next hb3 hX.out.lt); have u2 : w3.cell? ⟨w.heap.size, 2, none⟩ = some (.float .f64 ps) := X3.out.cell 2; have v3 : w3.cell? ⟨w.heap.size, 3, none⟩ = some (.int .i64 bu) := X3.out.cell 3; have B3 := Lib.hid (HB.out.trans (hb3.mono HB.out.size)); clear hb3)
          | (go_at_call 30; (with_reducible refine (HM.out _).mono ?_); rintro e w4 ⟨rfl, rfl⟩))
        go_ret2
        exact ⟨rfl, B3.out⟩
end Go.Proofs.YtcdkibadnelgiaaGreatDoor.One
