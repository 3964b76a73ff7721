/- Contract of the document's 'one': what is wrong with a rule of version 1. Conditions: its texts have at most 2^47 bytes. · Contract of the document's Check of sets of rules. Conditions: the rules can be read, their texts have at most 2^47 bytes; the table of powers reads as the library lays it. · Laws of sets of rules: light. Conditions: the rules can be read. -/
import Derived.Test.YtcdkibadnelgiaaGreatDoorOneP1
import Derived.Test.YtcdkibadnelgiaaGreatDoorIdeA
import Derived.Test.YtcdkibadnelgiaaGreatDoorRouG3
import Derived.Test.YtcdkibadnelgiaaGreatDoorRenN
import Derived.Lib.ItoaLen
namespace Go.Proofs.YtcdkibadnelgiaaGreatDoor.One
open Go.RowKit Go.Lib

theorem chk_1 {r : Ro} (h : isN r.nm = false) : chk r = (f1, 13) := by
  unfold chk errs e1
  rw [h]; rfl
theorem chk_2 {r : Ro} (h1 : isN r.nm = true) (h2 : isP r.pa = false) : chk r = (f2, 14) := by
  unfold chk errs e1 e2
  rw [h1, h2]; rfl
theorem chk_3 {r : Ro} (h1 : isN r.nm = true) (h2 : isP r.pa = true) (h3 : ((Real.me r.ps : Nat) : Int) ≠ 0) : chk r = (f3, ((Real.me r.ps : Nat) : Int)) := by
  unfold chk errs e1 e2 e3
  rw [h1, h2, if_pos rfl, if_pos rfl, Rul.fst_no _ rfl, Rul.fst_no _ rfl, Rul.fst_yes _ h3]
theorem chk_4 {r : Ro} (h1 : isN r.nm = true) (h2 : isP r.pa = true) (h3 : ((Real.me r.ps : Nat) : Int) = 0) (h4 : ¬ (1 ≤ r.bu ∧ r.bu ≤ 1000000)) : chk r = (f4, 2) := by
  unfold chk errs e1 e2 e3 e4
  rw [h1, h2, if_pos rfl, if_pos rfl, Rul.fst_no _ rfl, Rul.fst_no _ rfl, Rul.fst_no _ h3, if_neg h4]; rfl
theorem chk_5 {r : Ro} (h1 : isN r.nm = true) (h2 : isP r.pa = true) (h3 : ((Real.me r.ps : Nat) : Int) = 0) (h4 : 1 ≤ r.bu ∧ r.bu ≤ 1000000) : chk r = (⟨#[]⟩, 0) := chk_ok ⟨h1, h2, by omega, h4⟩

set_option maxHeartbeats 8000000 in
set_option maxRecDepth 100000 in
theorem rone_any (r : Ro) (w : World) (hp : r.ps < 18446744073709551616) (s1 : r.nm.size ≤ 140737488355328) (s2 : r.pa.size ≤ 140737488355328) :
    Calls Tryz.prog 18 #[.agg (ruC r)] w fun e w' => e = .returned (.tuple #[.string (chk r).1, .int .i64 (chk r).2]) ∧ Below w.heap.size w w' := by
  have HI := Lib.hid fun W => Ide.ris_any r.nm W s1
  have HS := Lib.hid fun W => Rou.rsplit_any r.pa W s2
  have HR := Lib.hid fun W => Rou.ris_any r.pa W s2
  have HM := Lib.hid fun W => (Real.rMilli_any r.ps hp W).mono (R' := fun e w' => e = .returned (.tuple #[.int .i64 (Real.mn r.ps : Nat), .int .i64 (Real.me r.ps : Nat)]) ∧ Below W.heap.size W w') fun e w' h => ⟨h.1, by obtain ⟨n, hn⟩ := h.2; rw [hn]; exact Real.bdrew (Below.refl _ _) n⟩
  have C1 := Lib.hid (@chk_1 r)
  have C2 := Lib.hid (@chk_2 r)
  have C3 := Lib.hid (@chk_3 r)
  have C4 := Lib.hid (@chk_4 r)
  have C5 := Lib.hid (@chk_5 r)
  have hA := Lib.hid fun o => (Below.refl w.heap.size w).alloc (Nat.le_refl _) o
  have hX := Lib.hid (bx_new w (ruC r))
  have HN : Ide.isI r.nm = isN r.nm := rfl
  rw [HN] at HI
  have HP : isP r.pa = (Rou.isB r.pa && decide ((Rou.spB r.pa).length ≤ 31) && decide (r.pa.size ≤ 252)) := rfl
  obtain ⟨nm, pa, ps, bu⟩ := r
  dsimp only [ruC] at *
  rw [HP] at C2 C3 C4 C5
  clear HN HP hp s1
  generalize isN nm = b1 at *
  generalize Rou.isB pa = b2 at *
  generalize Rou.spB pa = sp at *
  generalize Rou.rowB pa = rw_ at *
  generalize Real.mn ps = mn at *
  generalize Real.me ps = me at *
  generalize chk ⟨nm, pa, ps, bu⟩ = c at *
  have HB := Lib.hid (hA.out (.cells #[.string nm, .string pa, .float .f64 ps, .int .i64 bu] 33))
  cases b1 with
  | false =>
    rw [C1.out rfl]
    clear C1 C2 C3 C4 C5
    go_enter Tryz.func18, Tryz.ntmps18
    go_wp2_with (first
      | (go_at_call 32; (with_reducible refine (HI.out _).mono ?_); rintro e w1 ⟨rfl, rfl⟩))
    go_ret2
    exact ⟨rfl, HB.out⟩
  | true =>
    have C2' := Lib.hid fun h => C2.out rfl h
    have C3' := Lib.hid fun h k => C3.out rfl h k
    have C4' := Lib.hid fun h k l => C4.out rfl h k l
    have C5' := Lib.hid fun h k l => C5.out rfl h k l
    clear C1 C2 C3 C4 C5
    cases b2 with
    | false =>
      rw [C2'.out (by simp)]
      clear C2' C3' C4' C5'
      go_enter Tryz.func18, Tryz.ntmps18
      go_wp2_with (first
        | (go_at_call 32; (with_reducible refine (HI.out _).mono ?_); rintro e w1 ⟨rfl, rfl⟩)
        | (go_at_call 33; (with_reducible refine (HS.out _).mono ?_); rintro e w2 ⟨sa, sc, rfl, hr2, hb2⟩; have X2 := Lib.hid (hX.out.next hb2 hX.out.lt); have d1 : w2.cell? ⟨w.heap.size, 1, none⟩ = some (.string pa) := X2.out.cell 1; have B2 := Lib.hid (HB.out.trans (hb2.mono HB.out.size)); clear hr2 hb2)
        | (go_at_call 34; (with_reducible refine (HR.out _).mono ?_); rintro e w3 ⟨rfl, hb3⟩; have X3 := Lib.hid (X2.out.next hb3 X2.out.lt); have u1 : w3.cell? ⟨w.heap.size, 1, none⟩ = some (.string pa) := X3.out.cell 1; have u2 : w3.cell? ⟨w.heap.size, 2, none⟩ = some (.float .f64 ps) := X3.out.cell 2; have B3 := Lib.hid (B2.out.trans (hb3.mono B2.out.size)); clear hb3))
      go_ret2
      exact ⟨rfl, B3.out⟩
    | true =>
      by_cases h31 : sp.length ≤ 31
      · by_cases h252 : pa.size ≤ 252
        · have hq : (true && decide (sp.length ≤ 31) && decide (pa.size ≤ 252)) = true := by simp [h31, h252]
          have D3 := Lib.hid (C3'.out hq)
          have D4 := Lib.hid (C4'.out hq)
          have D5 := Lib.hid (C5'.out hq)
          clear C2' C3' C4' C5' hq
          by_cases hm : (me : Int) = 0
          · have D4' := Lib.hid (D4.out hm)
            have D5' := Lib.hid (D5.out hm)
            clear D3 D4 D5
            obtain rfl : me = 0 := by omega
            clear hm
            by_cases hlo : bu < 1
            · rw [D4'.out (by omega)]
              clear D4' D5'
              go_enter Tryz.func18, Tryz.ntmps18
              go_wp2_with (first
                | (go_at_call 32; (with_reducible refine (HI.out _).mono ?_); rintro e w1 ⟨rfl, rfl⟩)
                | (go_at_call 33; (with_reducible refine (HS.out _).mono ?_); rintro e w2 ⟨sa, sc, rfl, hr2, hb2⟩; have X2 := Lib.hid (hX.out.next hb2 hX.out.lt); have d1 : w2.cell? ⟨w.heap.size, 1, none⟩ = some (.string pa) := X2.out.cell 1; have B2 := Lib.hid (HB.out.trans (hb2.mono HB.out.size)); clear hr2 hb2)
                | (go_at_call 34; (with_reducible refine (HR.out _).mono ?_); rintro e w3 ⟨rfl, hb3⟩; have X3 := Lib.hid (X2.out.next hb3 X2.out.lt); have u1 : w3.cell? ⟨w.heap.size, 1, none⟩ = some (.string pa) := X3.out.cell 1; have u2 : w3.cell? ⟨w.heap.size, 2, none⟩ = some (.float .f64 ps) := X3.out.cell 2; have B3 := Lib.hid (B2.out.trans (hb3.mono B2.out.size)); clear hb3)
                | (go_at_call 22; (with_reducible refine (HM.out _).mono ?_); rintro e w4 ⟨rfl, hb4⟩; have X4 := Lib.hid (X3.out.next hb4 X3.out.lt); have v3 : w4.cell? ⟨w.heap.size, 3, none⟩ = some (.int .i64 bu) := X4.out.cell 3; have B4 := Lib.hid (B3.out.trans (hb4.mono B3.out.size)); clear hb4))
              go_ret2
              exact ⟨rfl, B4.out⟩
            · by_cases hhi : bu ≤ 1000000
              · rw [D5'.out (by omega)]
                clear D4' D5'
                go_enter Tryz.func18, Tryz.ntmps18
                go_wp2_with (first
                  | (go_at_call 32; (with_reducible refine (HI.out _).mono ?_); rintro e w1 ⟨rfl, rfl⟩)
                  | (go_at_call 33; (with_reducible refine (HS.out _).mono ?_); rintro e w2 ⟨sa, sc, rfl, hr2, hb2⟩; have X2 := Lib.hid (hX.out.next hb2 hX.out.lt); have d1 : w2.cell? ⟨w.heap.size, 1, none⟩ = some (.string pa) := X2.out.cell 1; have B2 := Lib.hid (HB.out.trans (hb2.mono HB.out.size)); clear hr2 hb2)
                  | (go_at_call 34; (with_reducible refine (HR.out _).mono ?_); rintro e w3 ⟨rfl, hb3⟩; have X3 := Lib.hid (X2.out.next hb3 X2.out.lt); have u1 : w3.cell? ⟨w.heap.size, 1, none⟩ = some (.string pa) := X3.out.cell 1; have u2 : w3.cell? ⟨w.heap.size, 2, none⟩ = some (.float .f64 ps) := X3.out.cell 2; have B3 := Lib.hid (B2.out.trans (hb3.mono B2.out.size)); clear hb3)
                  | (go_at_call 22; (with_reducible refine (HM.out _).mono ?_); rintro e w4 ⟨rfl, hb4⟩; have X4 := Lib.hid (X3.out.next hb4 X3.out.lt); have v3 : w4.cell? ⟨w.heap.size, 3, none⟩ = some (.int .i64 bu) := X4.out.cell 3; have B4 := Lib.hid (B3.out.trans (hb4.mono B3.out.size)); clear hb4))
                go_ret2
                exact ⟨rfl, B4.out⟩
              · rw [D4'.out (by omega)]
                clear D4' D5'
                go_enter Tryz.func18, Tryz.ntmps18
                go_wp2_with (first
                  | (go_at_call 32; (with_reducible refine (HI.out _).mono ?_); rintro e w1 ⟨rfl, rfl⟩)
                  | (go_at_call 33; (with_reducible refine (HS.out _).mono ?_); rintro e w2 ⟨sa, sc, rfl, hr2, hb2⟩; have X2 := Lib.hid (hX.out.next hb2 hX.out.lt); have d1 : w2.cell? ⟨w.heap.size, 1, none⟩ = some (.string pa) := X2.out.cell 1; have B2 := Lib.hid (HB.out.trans (hb2.mono HB.out.size)); clear hr2 hb2)
                  | (go_at_call 34; (with_reducible refine (HR.out _).mono ?_); rintro e w3 ⟨rfl, hb3⟩; have X3 := Lib.hid (X2.out.next hb3 X2.out.lt); have u1 : w3.cell? ⟨w.heap.size, 1, none⟩ = some (.string pa) := X3.out.cell 1; have u2 : w3.cell? ⟨w.heap.size, 2, none⟩ = some (.float .f64 ps) := X3.out.cell 2; have B3 := Lib.hid (B2.out.trans (hb3.mono B2.out.size)); clear hb3)
                  | (go_at_call 22; (with_reducible refine (HM.out _).mono ?_); rintro e w4 ⟨rfl, hb4⟩; have X4 := Lib.hid (X3.out.next hb4 X3.out.lt); have v3 : w4.cell? ⟨w.heap.size, 3, none⟩ = some (.int .i64 bu) := X4.out.cell 3; have B4 := Lib.hid (B3.out.trans (hb4.mono B3.out.size)); clear hb4))
                go_ret2
                exact ⟨rfl, B4.out⟩
          · rw [D3.out hm]
            have b1 : ((me : Int) != 0) = true := by simpa using hm
            clear D3 D4 D5 hm
            go_enter Tryz.func18, Tryz.ntmps18
            go_wp2_with (first
              | (go_at_call 32; (with_reducible refine (HI.out _).mono ?_); rintro e w1 ⟨rfl, rfl⟩)
              | (go_at_call 33; (with_reducible refine (HS.out _).mono ?_); rintro e w2 ⟨sa, sc, rfl, hr2, hb2⟩; have X2 := Lib.hid (hX.out.next hb2 hX.out.lt); have d1 : w2.cell? ⟨w.heap.size, 1, none⟩ = some (.string pa) := X2.out.cell 1; have B2 := Lib.hid (HB.out.trans (hb2.mono HB.out.size)); clear hr2 hb2)
              | (go_at_call 34; (with_reducible refine (HR.out _).mono ?_); rintro e w3 ⟨rfl, hb3⟩; have X3 := Lib.hid (X2.out.next hb3 X2.out.lt); have u1 : w3.cell? ⟨w.heap.size, 1, none⟩ = some (.string pa) := X3.out.cell 1; have u2 : w3.cell? ⟨w.heap.size, 2, none⟩ = some (.float .f64 ps) := X3.out.cell 2; have B3 := Lib.hid (B2.out.trans (hb3.mono B2.out.size)); clear hb3)
              | (go_at_call 22; (with_reducible refine (HM.out _).mono ?_); rintro e w4 ⟨rfl, hb4⟩; have X4 := Lib.hid (X3.out.next hb4 X3.out.lt); have v3 : w4.cell? ⟨w.heap.size, 3, none⟩ = some (.int .i64 bu) := X4.out.cell 3; have B4 := Lib.hid (B3.out.trans (hb4.mono B3.out.size)); clear hb4))
            go_ret2
            exact ⟨rfl, B4.out⟩
        · rw [C2'.out (by simp [h252])]
          clear C2' C3' C4' C5'
          go_enter Tryz.func18, Tryz.ntmps18
          go_wp2_with (first
            | (go_at_call 32; (with_reducible refine (HI.out _).mono ?_); rintro e w1 ⟨rfl, rfl⟩)
            | (go_at_call 33; (with_reducible refine (HS.out _).mono ?_); rintro e w2 ⟨sa, sc, rfl, hr2, hb2⟩; have X2 := Lib.hid (hX.out.next hb2 hX.out.lt); have d1 : w2.cell? ⟨w.heap.size, 1, none⟩ = some (.string pa) := X2.out.cell 1; have B2 := Lib.hid (HB.out.trans (hb2.mono HB.out.size)); clear hr2 hb2)
            | (go_at_call 34; (with_reducible refine (HR.out _).mono ?_); rintro e w3 ⟨rfl, hb3⟩; have X3 := Lib.hid (X2.out.next hb3 X2.out.lt); have u1 : w3.cell? ⟨w.heap.size, 1, none⟩ = some (.string pa) := X3.out.cell 1; have u2 : w3.cell? ⟨w.heap.size, 2, none⟩ = some (.float .f64 ps) := X3.out.cell 2; have B3 := Lib.hid (B2.out.trans (hb3.mono B2.out.size)); clear hb3))
          go_ret2
          exact ⟨rfl, B3.out⟩
      · rw [C2'.out (by simp [h31])]
        clear C2' C3' C4' C5'
        go_enter Tryz.func18, Tryz.ntmps18
        go_wp2_with (first
          | (go_at_call 32; (with_reducible refine (HI.out _).mono ?_); rintro e w1 ⟨rfl, rfl⟩)
          | (go_at_call 33; (with_reducible refine (HS.out _).mono ?_); rintro e w2 ⟨sa, sc, rfl, hr2, hb2⟩; have X2 := Lib.hid (hX.out.next hb2 hX.out.lt); have d1 : w2.cell? ⟨w.heap.size, 1, none⟩ = some (.string pa) := X2.out.cell 1; have B2 := Lib.hid (HB.out.trans (hb2.mono HB.out.size)); clear hr2 hb2)
          | (go_at_call 34; (with_reducible refine (HR.out _).mono ?_); rintro e w3 ⟨rfl, hb3⟩; have X3 := Lib.hid (X2.out.next hb3 X2.out.lt); have u1 : w3.cell? ⟨w.heap.size, 1, none⟩ = some (.string pa) := X3.out.cell 1; have u2 : w3.cell? ⟨w.heap.size, 2, none⟩ = some (.float .f64 ps) := X3.out.cell 2; have B3 := Lib.hid (B2.out.trans (hb3.mono B2.out.size)); clear hb3))
        go_ret2
        exact ⟨rfl, B3.out⟩
end Go.Proofs.YtcdkibadnelgiaaGreatDoor.One

namespace Go.Proofs.YtcdkibadnelgiaaGreatDoor.One
open Go.RowKit Go.Lib
open Go.Proofs.YtcdkibadnelgiaaGreatDoor.Ren (Pw)

theorem itoa_at (n : Int) (h1 : -9223372036854775808 ≤ n) (h2 : n ≤ 9223372036854775807) (W : World) (hP : Pw W) :
    Calls Tryz.prog 17 #[.int .i64 n] W fun e w' => e = .returned (.string ⟨(Lib.itoa n).toArray⟩) ∧ Below W.heap.size W w' := by
  refine (Tryz.strconv_Itoa n h1 h2 W hP).mono ?_
  rintro e w' ⟨rfl, k, os, rfl⟩
  exact ⟨rfl, Lib.below_grow _ W (Nat.le_refl _) k os⟩
theorem fst_size (n : Nat) : ∀ l : List (ByteArray × Int), (∀ x ∈ l, x.1.size ≤ n) → (Rul.fst l).1.size ≤ n
  | [], _ => Nat.zero_le _
  | (p, e) :: l, h => by
    by_cases he : e = 0
    · rw [Rul.fst_no l he]; exact fst_size n l fun x hx => h x (List.mem_cons_of_mem _ hx)
    · rw [Rul.fst_yes l he]; exact h _ List.mem_cons_self
theorem path_size : ∀ p ∈ [f1, f2, f3, f4], p.size ≤ 10 := by decide
theorem chk_size (r : Ro) : (chk r).1.size ≤ 10 := by
  refine fst_size 10 _ fun x hx => ?_
  unfold errs at hx
  simp only [List.mem_cons, List.not_mem_nil, or_false] at hx
  rcases hx with rfl | rfl | rfl | rfl <;> exact path_size _ (by simp only [List.mem_cons, true_or, or_true])
theorem rga_ga (L : List Ro) (i : Nat) : rga L i = ga L i := rfl
/-- Texts of at most 2^47 bytes, doubles of 64 bits. -/
def Mod (L : List Ro) : Prop := ∀ r ∈ L, r.ps < 18446744073709551616 ∧ r.nm.size ≤ 140737488355328 ∧ r.pa.size ≤ 140737488355328
/-- A rule's place, as a path. -/
def at_ (i : Nat) : ByteArray := ⟨#[47]⟩ ++ ⟨(Lib.itoa (i : Int)).toArray⟩
theorem pre_at (i : Nat) (p : ByteArray) : pre i p = at_ i ++ p := rfl
theorem itoa_size (i : Nat) (h : i ≤ 5000) : (⟨(Lib.itoa (i : Int)).toArray⟩ : ByteArray).size ≤ 21 := by
  have := Lib.itoa_length_le (i : Int) (by omega) (by omega)
  show (Lib.itoa (i : Int)).toArray.size ≤ 21
  rwa [List.size_toArray]
/-- What the loop over the rules has told so far. -/
theorem step_at {L : List Ro} {i : Nat} (hi : i < L.length) (hf : Rul.fst (nxs L) = Rul.fst ((nxs L).drop i)) :
    ((nx L i).2 = 0 → Rul.fst (nxs L) = Rul.fst ((nxs L).drop (i + 1))) ∧ ((nx L i).2 ≠ 0 → Rul.fst (nxs L) = nx L i) := by
  rw [nxs_drop L hi] at hf
  rcases hx : nx L i with ⟨p, e⟩
  rw [hx] at hf
  exact ⟨fun h => by rw [hf, Rul.fst_no _ h], fun h => by rw [hf, Rul.fst_yes _ h]⟩
/-- The three ends of a round. -/
theorem round_bad {L : List Ro} {i : Nat} (hi : i < L.length) (hf : Rul.fst (nxs L) = Rul.fst ((nxs L).drop i)) (h : (chk (ga L i)).2 ≠ 0) : Rul.fst (nxs L) = (at_ i ++ (chk (ga L i)).1, (chk (ga L i)).2) := by
  have e := nx_bad h
  have := (step_at hi hf).2 (by rw [e]; exact h)
  rw [this, e, pre_at]
theorem round_twice {L : List Ro} {i k : Nat} (hi : i < L.length) (hf : Rul.fst (nxs L) = Rul.fst ((nxs L).drop i)) (h : (chk (ga L i)).2 = 0) (hk : k < i) (he : (ga L k).nm = (ga L i).nm) : Rul.fst (nxs L) = (at_ i ++ ⟨#[47, 110, 97, 109, 101]⟩, 11) := by
  have e := nx_twice h (tw_yes hi hk he)
  have := (step_at hi hf).2 (by rw [e]; exact (by decide : (11 : Int) ≠ 0))
  rw [this, e]; rfl
theorem round_ok {L : List Ro} {i : Nat} (hi : i < L.length) (hf : Rul.fst (nxs L) = Rul.fst ((nxs L).drop i)) (h : (chk (ga L i)).2 = 0) (hn : ∀ k, k < i → (ga L k).nm ≠ (ga L i).nm) : Rul.fst (nxs L) = Rul.fst ((nxs L).drop (i + 1)) := by
  have e := nx_ok h ((tw_iff hi).2 hn)
  exact (step_at hi hf).1 (by rw [e])
theorem sck_many {L : List Ro} (h : 4096 < L.length) : sck L = (⟨#[]⟩, 12) := by unfold sck; rw [if_pos h]
theorem sck_few {L : List Ro} (h : ¬ 4096 < L.length) : sck L = Rul.fst (nxs L) := by unfold sck; rw [if_neg h]

set_option maxHeartbeats 8000000 in
set_option maxRecDepth 100000 in
theorem rcheck_any (L : List Ro) (v : Value) (w : World) (hr : Row w v L) (hl : L.length ≤ 9223372036854775807) (hs : Mod L) (hP : Pw w) :
    Calls Tryz.prog 7 #[v] w fun e w' => e = .returned (.tuple #[.string (sck L).1, .int .i64 (sck L).2]) ∧ Below w.heap.size w w' := by
  obtain ⟨a, cap, rfl, -, hc⟩ := hr.open_
  by_cases hm : 4096 < L.length
  · rw [sck_many hm]
    clear hc hr
    go_enter Tryz.func7, Tryz.ntmps7
    go_wp2_with fail
    go_ret2
    exact ⟨rfl, Below.refl _ _⟩
  rw [sck_few hm]
  have HC := Lib.hid hc
  have HPW := Lib.hid hP
  have HI := Lib.hid fun (i : Nat) (h : i < L.length) W (hW : Pw W) => itoa_at (i : Int) (by omega) (by omega) W hW
  have HZ := Lib.hid fun (i : Nat) (h : i < L.length) => itoa_size i (by omega)
  have HK := Lib.hid fun (i : Nat) (h : i < L.length) W => rone_any (ga L i) W (hs _ (ga_mem h)).1 (hs _ (ga_mem h)).2.1 (hs _ (ga_mem h)).2.2
  have HKS := Lib.hid fun (i : Nat) => chk_size (ga L i)
  have HRB := Lib.hid fun i => @round_bad L i
  have HRT := Lib.hid fun i k => @round_twice L i k
  have HRO := Lib.hid fun i => @round_ok L i
  have HEN := nxs_len L
  have HEN := Lib.hid HEN
  clear hc hr hs hP
  go_enter Tryz.func7, Tryz.ntmps7
  go_wp2_with fail
  go_loopw [14] (fun i wr => ∃ m : Nat, i = .int .i64 (m : Int) ∧ m ≤ L.length ∧ Hid (Below w.heap.size w wr) ∧ Hid (Rul.fst (nxs L) = Rul.fst ((nxs L).drop m))) (fun i _ => L.length - (RowKit.intOf i).toNat)
  case atStart => exact ⟨0, rfl, Nat.zero_le _, Lib.hid (Below.refl _ _), Lib.hid rfl⟩
  case round =>
    obtain ⟨m, rfl, hk, HB, HF⟩ := hrel
    by_cases hlt : m < L.length
    · obtain ⟨b, off, rfl, hcl⟩ := HC.out m hlt
      rw [rga_ga] at hcl
      have HCM := Lib.hid hcl
      have c0 : w.cell? ⟨b, off + m * 4, none⟩ = some (.string (ga L m).nm) := hcl 0 _ rfl
      have HI2 := Lib.hid (HI.out m hlt)
      have HZ2 := HZ.out m hlt
      have HK2 := Lib.hid (HK.out m hlt)
      have HKS2 := HKS.out m
      have HRB2 := Lib.hid (HRB.out m hlt HF.out)
      have HRT2 := Lib.hid fun k => HRT.out m k hlt HF.out
      have HRO2 := Lib.hid (HRO.out m hlt HF.out)
      have hat : (⟨#[47]⟩ : ByteArray) ++ ⟨(Lib.itoa (m : Int)).toArray⟩ = at_ m := rfl
      have hats : (at_ m).size ≤ 22 := by rw [← hat, ByteArray.size_append]; show 1 + _ ≤ 22; omega
      clear hcl
      generalize (⟨(Lib.itoa (m : Int)).toArray⟩ : ByteArray) = it at *
      generalize at_ m = A at *
      obtain ⟨X, hX⟩ : ∃ X, ga L m = X := ⟨_, rfl⟩
      rw [hX] at HCM HK2 HKS2 HRB2 HRT2 HRO2 c0
      have HX := Lib.hid hX
      clear hX
      generalize chk X = c at *
      obtain ⟨p, E⟩ := c
      dsimp only at HKS2 HRB2 HRT2 HRO2 HK2
      by_cases hE : E = 0
      · subst hE
        go_wp2_with (first
          | (refine wpList_take _ rfl _ rfl b (off + m * 4) X rfl (rangeAt_next HCM.out B1.out) ?_)
          | (go_at_call 17; (with_reducible refine (HI2.out _ (HPW.out.next HB.out)).mono ?_); rintro e w1 ⟨rfl, hb1⟩; have B1 := Lib.hid (HB.out.trans (hb1.mono HB.out.size)); clear hb1)
          | (go_at_call 18; (with_reducible refine (HK2.out _).mono ?_); rintro e w2 ⟨rfl, hb2⟩; have B2 := Lib.hid (B1.out.trans (hb2.mono B1.out.size)); clear hb2))
        go_loopw [35] (fun i wr => ∃ k : Nat, i = .int .i64 (k : Int) ∧ k ≤ m ∧ Hid (Below w.heap.size w wr) ∧ Hid (∀ j, j < k → (ga L j).nm ≠ X.nm)) (fun i _ => m - (RowKit.intOf i).toNat)
        case atStart => exact ⟨0, rfl, Nat.zero_le _, B2, Lib.hid fun j hj => absurd hj (Nat.not_lt_zero _)⟩
        case round =>
          obtain ⟨k, rfl, hkm, HBQ, HA⟩ := hrel
          by_cases hlk : k < m
          · obtain ⟨b', off', hab, hck⟩ := HC.out k (by omega)
            injection hab with hab
            injection hab with e1 e2
            subst e1 e2
            rw [rga_ga] at hck
            have d0 : wr.cell? ⟨b, off + k * 4, none⟩ = some (.string (ga L k).nm) := (HBQ.out.cell (lt_of_cell (hck 0 _ rfl))).trans (hck 0 _ rfl)
            have d1 : wr.cell? ⟨b, off + m * 4, none⟩ = some (.string X.nm) := (HBQ.out.cell (lt_of_cell c0)).trans c0
            clear hck
            have HRT3 := Lib.hid fun h => HRT2.out k (by first | rfl | trivial) hlk h
            have HX3 := Lib.hid fun (h : (ga L k).nm ≠ X.nm) j (hj : j < k + 1) => by
              by_cases q : j < k
              · exact HA.out j q
              · obtain rfl : j = k := by omega
                exact h
            generalize (ga L k).nm = y at *
            generalize X.nm = x at *
            by_cases hz : y = x
            · have E := Lib.hid (HRT3.out hz)
              have hq : (y.toList == x.toList) = true := by rw [hz]; exact beq_self_eq_true _
              clear hz
              go_wp2_with fail
              go_region
              go_wp2_with fail
              go_ret2
              rw [E.out]
              exact ⟨rfl, HBQ.out.drew⟩
            · have HX4 := Lib.hid (HX3.out hz)
              have hq : (y.toList == x.toList) = false := Byt.str_neq hz
              clear hz
              go_wp2_with fail
              go_region
              go_wp2_with fail
              go_roundw
              case rel => exact ⟨k + 1, by go_num, by omega, Lib.hid HBQ.out.drew, HX4⟩
              case measure => simp [RowKit.intOf]; omega
          · obtain rfl : k = m := by omega
            have HF2 := Lib.hid (HRO2.out (by first | rfl | trivial) fun j hj => HA.out j hj)
            go_wp2_with fail
            go_roundw
            case rel => exact ⟨k + 1, by go_num, by omega, HBQ, HF2⟩
            case measure => simp [RowKit.intOf]; omega
      · have HZZ := Lib.hid (HRB2.out hE)
        have b1 : (E != 0) = true := by simpa using hE
        clear hE
        go_wp2_with (first
          | (refine wpList_take _ rfl _ rfl b (off + m * 4) X rfl (rangeAt_next HCM.out B1.out) ?_)
          | (go_at_call 17; (with_reducible refine (HI2.out _ (HPW.out.next HB.out)).mono ?_); rintro e w1 ⟨rfl, hb1⟩; have B1 := Lib.hid (HB.out.trans (hb1.mono HB.out.size)); clear hb1)
          | (go_at_call 18; (with_reducible refine (HK2.out _).mono ?_); rintro e w2 ⟨rfl, hb2⟩; have B2 := Lib.hid (B1.out.trans (hb2.mono B1.out.size)); clear hb2))
        go_ret2
        rw [HZZ.out]
        exact ⟨rfl, B2.out⟩
    · obtain rfl : m = L.length := by omega
      have HN := HF.out
      rw [List.drop_of_length_le (by rw [HEN.out]; exact Nat.le_refl _)] at HN
      go_wp2_with fail
      go_ret2
      rw [HN]
      exact ⟨rfl, HB.out⟩
end Go.Proofs.YtcdkibadnelgiaaGreatDoor.One

namespace Go.Proofs.YtcdkibadnelgiaaGreatDoor.One
open Go.RowKit Go.Lib

def lg1 (r : Ro) : Bool := decide (r.nm.size ≤ 400) && decide (r.pa.size ≤ 400)
theorem lg1_iff (r : Ro) : lg1 r = true ↔ r.nm.size ≤ 400 ∧ r.pa.size ≤ 400 := by
  unfold lg1
  rw [Bool.and_eq_true, decide_eq_true_eq, decide_eq_true_eq]
/-- Few rules, with short texts, or more than there may be. -/
def lgS (L : List Ro) : Bool := !((decide (60 < L.length) && decide (L.length ≤ 4096)) || decide (5000 < L.length)) && L.all lg1
theorem lgS_long {L : List Ro} (h : (60 < L.length ∧ L.length ≤ 4096) ∨ 5000 < L.length) : lgS L = false := by
  unfold lgS
  have : ((decide (60 < L.length) && decide (L.length ≤ 4096)) || decide (5000 < L.length)) = true := by simpa using h
  rw [this]; rfl
theorem lgS_wide {L : List Ro} {i : Nat} (hi : i < L.length) (h : lg1 (ga L i) = false) : lgS L = false := by
  unfold lgS
  rw [Bool.and_eq_false_iff]
  right
  rw [List.all_eq_false]
  exact ⟨_, ga_mem hi, by rw [h]; decide⟩
theorem lgS_yes {L : List Ro} (h1 : ¬ ((60 < L.length ∧ L.length ≤ 4096) ∨ 5000 < L.length)) (h2 : ∀ j, j < L.length → lg1 (ga L j) = true) : lgS L = true := by
  unfold lgS
  have : ((decide (60 < L.length) && decide (L.length ≤ 4096)) || decide (5000 < L.length)) = false := by
    rw [Bool.eq_false_iff]
    intro q
    exact h1 (by simpa using q)
  rw [this, Bool.not_false, Bool.true_and, List.all_eq_true]
  intro r hr
  obtain ⟨i, hi, rfl⟩ := mem_ga hr
  exact h2 i hi
theorem lgS_iff {L : List Ro} (h : lgS L = true) : L.length ≤ 5000 ∧ (L.length ≤ 60 ∨ 4096 < L.length) ∧ ∀ r ∈ L, r.nm.size ≤ 400 ∧ r.pa.size ≤ 400 := by
  have h1 : ¬ ((60 < L.length ∧ L.length ≤ 4096) ∨ 5000 < L.length) := fun q => by rw [lgS_long q] at h; cases h
  refine ⟨by omega, by omega, fun r hr => ?_⟩
  obtain ⟨i, hi, rfl⟩ := mem_ga hr
  cases hq : lg1 (ga L i) with
  | true => exact (lg1_iff _).1 hq
  | false => rw [lgS_wide hi hq] at h; cases h
/-- The texts are strings. -/
def Fit (L : List Ro) : Prop := ∀ r ∈ L, r.nm.size ≤ 9223372036854775807 ∧ r.pa.size ≤ 9223372036854775807 ∧ r.ps < 18446744073709551616

set_option maxHeartbeats 4000000 in
set_option maxRecDepth 100000 in
theorem light_any (L : List Ro) (v : Value) (w : World) (hr : Row w v L) (hl : L.length ≤ 9223372036854775807) (hs : Fit L) :
    Calls Tryz.prog 4 #[v] w fun e w' => e = .returned (.bool (lgS L)) ∧ w = w' := by
  obtain ⟨a, cap, rfl, -, hc⟩ := hr.open_
  by_cases h60 : (60 < L.length ∧ L.length ≤ 4096) ∨ 5000 < L.length
  · rw [lgS_long h60]
    clear hc hr hs
    by_cases g1 : 5000 < L.length
    · have n1 : 60 < L.length := by omega
      have n2 : ¬ L.length ≤ 4096 := by omega
      clear h60
      go_enter Tryz.func4, Tryz.ntmps4
      go_wp2_with fail
      go_ret
      exact ⟨rfl, rfl⟩
    · have n1 : 60 < L.length := by omega
      have n2 : L.length ≤ 4096 := by omega
      clear h60 g1
      go_enter Tryz.func4, Tryz.ntmps4
      go_wp2_with fail
      go_ret
      exact ⟨rfl, rfl⟩
  · have HC := Lib.hid hc
    have HW := Lib.hid fun i => @lgS_wide L i
    have HY := Lib.hid (@lgS_yes L h60)
    have HS := Lib.hid hs
    have HL1 := Lib.hid fun r => lg1_iff r
    have n1 : ¬ 5000 < L.length := by omega
    have n2 : ¬ (60 < L.length ∧ L.length ≤ 4096) := by omega
    clear hc hr hs h60
    rcases (show ¬ 60 < L.length ∨ (60 < L.length ∧ ¬ L.length ≤ 4096) by omega) with n3 | ⟨n3, n4⟩
    all_goals
      clear n2
      go_enter Tryz.func4, Tryz.ntmps4
      go_wp2_with fail
      go_loop [19] (fun i => ∃ k : Nat, i = .int .i64 (k : Int) ∧ k ≤ L.length ∧ Hid (∀ j, j < k → lg1 (ga L j) = true)) (fun i => L.length - (RowKit.intOf i).toNat)
      case atStart => exact ⟨0, rfl, Nat.zero_le _, Lib.hid fun j hj => absurd hj (Nat.not_lt_zero _)⟩
      case round =>
        obtain ⟨k, rfl, hk, HA⟩ := hrel
        by_cases hlt : k < L.length
        · obtain ⟨b, off, rfl, hcl⟩ := HC.out k hlt
          change w.rangeAt b (off + k * 4) (ruL (ga L k)) at hcl
          obtain ⟨c0, c1, -⟩ := range_cells hcl
          have hsz := HS.out _ (ga_mem hlt)
          have HW2 := Lib.hid (HW.out k hlt)
          have HX := Lib.hid fun (h : lg1 (ga L k) = true) j (hj : j < k + 1) => by
            by_cases q : j < k
            · exact HA.out j q
            · obtain rfl : j = k := by omega
              exact h
          have HL2 := Lib.hid (HL1.out (ga L k))
          clear hcl
          generalize hq : lg1 (ga L k) = bq at *
          clear hq
          generalize (ga L k).nm = x0 at *
          generalize (ga L k).pa = x1 at *
          obtain ⟨z0, z1, z2⟩ := hsz
          cases bq with
          | true =>
            obtain ⟨y0, y1⟩ := HL2.out.1 rfl
            have HX2 := Lib.hid (HX.out rfl)
            go_wp2_with fail
            go_round
            case rel => exact ⟨k + 1, by go_num, by omega, HX2⟩
            case measure => simp [RowKit.intOf]; omega
          | false =>
            have HN : ¬ (x0.size ≤ 400 ∧ x1.size ≤ 400) := fun h => by have := HL2.out.2 h; cases this
            have HZ := Lib.hid (HW2.out rfl)
            rcases (show ¬ x0.size ≤ 400 ∨ (x0.size ≤ 400 ∧ ¬ x1.size ≤ 400) by omega) with y0 | ⟨y0, y1⟩
            all_goals
              clear HN
              go_wp2_with fail
              go_ret
              rw [HZ.out]
              exact ⟨rfl, rfl⟩
        · obtain rfl : k = L.length := by omega
          have HZ := Lib.hid (HY.out HA.out)
          go_wp2_with fail
          go_ret
          rw [HZ.out]
          exact ⟨rfl, rfl⟩
end Go.Proofs.YtcdkibadnelgiaaGreatDoor.One
