/- Contract of the document's 'one': what is wrong with a rule of version 1. Conditions: its texts have at most 2^47 bytes. · Contract of the document's Check of sets of rules. Conditions: the rules can be read, their texts have at most 2^47 bytes; the table of powers reads as the library lays it. · Laws of sets of rules: light. Conditions: the rules can be read. -/
import Derived.Test.YtcdkibadnelgiaaDoorOneP1
import Derived.Test.YtcdkibadnelgiaaDoorIdeA
import Derived.Test.YtcdkibadnelgiaaDoorRouG3
import Derived.Test.YtcdkibadnelgiaaDoorRenN
import Derived.Lib.ItoaLen
namespace Go.Proofs.YtcdkibadnelgiaaDoor.One
open Go.RowKit Go.Lib

theorem chk_1 {r : Ro} (h : isN r.nm = false) : chk r = (f1, 13) := by
  unfold chk errs e1
  rw [h]; rfl
theorem chk_2 {r : Ro} (h1 : isN r.nm = true) (h2 : isP r.pa = false) : chk r = (f2, 14) := by
  unfold chk errs e1 e2
  rw [h1, h2]; rfl
theorem chk_3 {r : Ro} (h1 : isN r.nm = true) (h2 : isP r.pa = true) (h3 : ((Real.me r.ps : Nat) : Int) ≠ 0) : chk r = (f3, ((Real.me r.ps : Nat) : Int)) := by
  unfold chk errs e1 e2 e3
  rw [h1, h2, if_pos rfl, if_pos rfl, Rul.fst_no _ rfl, Rul.fst_no _ rfl, Rul.fst_yes _ h3]
theorem chk_4 {r : Ro} (h1 : isN r.nm = true) (h2 : isP r.pa = true) (h3 : ((Real.me r.ps : Nat) : Int) = 0) (h4 : ¬ (1 ≤ r.bu ∧ r.bu ≤ 1000000)) : chk r = (f4, 2) := by
  unfold chk errs e1 e2 e3 e4
  rw [h1, h2, if_pos rfl, if_pos rfl, Rul.fst_no _ rfl, Rul.fst_no _ rfl, Rul.fst_no _ h3, if_neg h4]; rfl
theorem chk_5 {r : Ro} (h1 : isN r.nm = true) (h2 : isP r.pa = true) (h3 : ((Real.me r.ps : Nat) : Int) = 0) (h4 : 1 ≤ r.bu ∧ r.bu ≤ 1000000) : chk r = (⟨#[]⟩, 0) := chk_ok ⟨h1, h2, by omega, h4⟩

end Go.Proofs.YtcdkibadnelgiaaDoor.One

namespace Go.Proofs.YtcdkibadnelgiaaDoor.One
open Go.RowKit Go.Lib
open Go.Proofs.YtcdkibadnelgiaaDoor.Ren (Pw)

theorem itoa_at (n : Int) (h1 : -9223372036854775808 ≤ n) (h2 : n ≤ 9223372036854775807) (W : World) (hP : Pw W) :
    Calls Tryd.prog 35 #[.int .i64 n] W fun e w' => e = .returned (.string ⟨(Lib.itoa n).toArray⟩) ∧ Below W.heap.size W w' := by
  refine (Tryd.strconv_Itoa n h1 h2 W hP).mono ?_
  rintro e w' ⟨rfl, k, os, rfl⟩
  exact ⟨rfl, Lib.below_grow _ W (Nat.le_refl _) k os⟩
theorem fst_size (n : Nat) : ∀ l : List (ByteArray × Int), (∀ x ∈ l, x.1.size ≤ n) → (Rul.fst l).1.size ≤ n
  | [], _ => Nat.zero_le _
  | (p, e) :: l, h => by
    by_cases he : e = 0
    · rw [Rul.fst_no l he]; exact fst_size n l fun x hx => h x (List.mem_cons_of_mem _ hx)
    · rw [Rul.fst_yes l he]; exact h _ List.mem_cons_self
theorem path_size : ∀ p ∈ [f1, f2, f3, f4], p.size ≤ 10 := by decide
theorem chk_size (r : Ro) : (chk r).1.size ≤ 10 := by
  refine fst_size 10 _ fun x hx => ?_
  unfold errs at hx
  simp only [List.mem_cons, List.not_mem_nil, or_false] at hx
  rcases hx with rfl | rfl | rfl | rfl <;> exact path_size _ (by simp only [List.mem_cons, true_or, or_true])
theorem rga_ga (L : List Ro) (i : Nat) : rga L i = ga L i := rfl
/-- Texts of at most 2^47 bytes, doubles of 64 bits. -/
def Mod (L : List Ro) : Prop := ∀ r ∈ L, r.ps < 18446744073709551616 ∧ r.nm.size ≤ 140737488355328 ∧ r.pa.size ≤ 140737488355328
/-- A rule's place, as a path. -/
def at_ (i : Nat) : ByteArray := ⟨#[47]⟩ ++ ⟨(Lib.itoa (i : Int)).toArray⟩
theorem pre_at (i : Nat) (p : ByteArray) : pre i p = at_ i ++ p := rfl
theorem itoa_size (i : Nat) (h : i ≤ 5000) : (⟨(Lib.itoa (i : Int)).toArray⟩ : ByteArray).size ≤ 21 := by
  have := Lib.itoa_length_le (i : Int) (by omega) (by omega)
  show (Lib.itoa (i : Int)).toArray.size ≤ 21
  rwa [List.size_toArray]
/-- What the loop over the rules has told so far. -/
theorem step_at {L : List Ro} {i : Nat} (hi : i < L.length) (hf : Rul.fst (nxs L) = Rul.fst ((nxs L).drop i)) :
    ((nx L i).2 = 0 → Rul.fst (nxs L) = Rul.fst ((nxs L).drop (i + 1))) ∧ ((nx L i).2 ≠ 0 → Rul.fst (nxs L) = nx L i) := by
  rw [nxs_drop L hi] at hf
  rcases hx : nx L i with ⟨p, e⟩
  rw [hx] at hf
  exact ⟨fun h => by rw [hf, Rul.fst_no _ h], fun h => by rw [hf, Rul.fst_yes _ h]⟩
/-- The three ends of a round. -/
theorem round_bad {L : List Ro} {i : Nat} (hi : i < L.length) (hf : Rul.fst (nxs L) = Rul.fst ((nxs L).drop i)) (h : (chk (ga L i)).2 ≠ 0) : Rul.fst (nxs L) = (at_ i ++ (chk (ga L i)).1, (chk (ga L i)).2) := by
  have e := nx_bad h
  have := (step_at hi hf).2 (by rw [e]; exact h)
  rw [this, e, pre_at]
theorem round_twice {L : List Ro} {i k : Nat} (hi : i < L.length) (hf : Rul.fst (nxs L) = Rul.fst ((nxs L).drop i)) (h : (chk (ga L i)).2 = 0) (hk : k < i) (he : (ga L k).nm = (ga L i).nm) : Rul.fst (nxs L) = (at_ i ++ ⟨#[47, 110, 97, 109, 101]⟩, 11) := by
  have e := nx_twice h (tw_yes hi hk he)
  have := (step_at hi hf).2 (by rw [e]; exact (by decide : (11 : Int) ≠ 0))
  rw [this, e]; rfl
theorem round_ok {L : List Ro} {i : Nat} (hi : i < L.length) (hf : Rul.fst (nxs L) = Rul.fst ((nxs L).drop i)) (h : (chk (ga L i)).2 = 0) (hn : ∀ k, k < i → (ga L k).nm ≠ (ga L i).nm) : Rul.fst (nxs L) = Rul.fst ((nxs L).drop (i + 1)) := by
  have e := nx_ok h ((tw_iff hi).2 hn)
  exact (step_at hi hf).1 (by rw [e])
theorem sck_many {L : List Ro} (h : 4096 < L.length) : sck L = (⟨#[]⟩, 12) := by unfold sck; rw [if_pos h]
theorem sck_few {L : List Ro} (h : ¬ 4096 < L.length) : sck L = Rul.fst (nxs L) := by unfold sck; rw [if_neg h]

end Go.Proofs.YtcdkibadnelgiaaDoor.One

namespace Go.Proofs.YtcdkibadnelgiaaDoor.One
open Go.RowKit Go.Lib

def lg1 (r : Ro) : Bool := decide (r.nm.size ≤ 400) && decide (r.pa.size ≤ 400)
theorem lg1_iff (r : Ro) : lg1 r = true ↔ r.nm.size ≤ 400 ∧ r.pa.size ≤ 400 := by
  unfold lg1
  rw [Bool.and_eq_true, decide_eq_true_eq, decide_eq_true_eq]
/-- Few rules, with short texts, or more than there may be. -/
def lgS (L : List Ro) : Bool := !((decide (60 < L.length) && decide (L.length ≤ 4096)) || decide (5000 < L.length)) && L.all lg1
theorem lgS_long {L : List Ro} (h : (60 < L.length ∧ L.length ≤ 4096) ∨ 5000 < L.length) : lgS L = false := by
  unfold lgS
  have : ((decide (60 < L.length) && decide (L.length ≤ 4096)) || decide (5000 < L.length)) = true := by simpa using h
  rw [this]; rfl
theorem lgS_wide {L : List Ro} {i : Nat} (hi : i < L.length) (h : lg1 (ga L i) = false) : lgS L = false := by
  unfold lgS
  rw [Bool.and_eq_false_iff]
  right
  rw [List.all_eq_false]
  exact ⟨_, ga_mem hi, by rw [h]; decide⟩
theorem lgS_yes {L : List Ro} (h1 : ¬ ((60 < L.length ∧ L.length ≤ 4096) ∨ 5000 < L.length)) (h2 : ∀ j, j < L.length → lg1 (ga L j) = true) : lgS L = true := by
  unfold lgS
  have : ((decide (60 < L.length) && decide (L.length ≤ 4096)) || decide (5000 < L.length)) = false := by
    rw [Bool.eq_false_iff]
    intro q
    exact h1 (by simpa using q)
  rw [this, Bool.not_false, Bool.true_and, List.all_eq_true]
  intro r hr
  obtain ⟨i, hi, rfl⟩ := mem_ga hr
  exact h2 i hi
theorem lgS_iff {L : List Ro} (h : lgS L = true) : L.length ≤ 5000 ∧ (L.length ≤ 60 ∨ 4096 < L.length) ∧ ∀ r ∈ L, r.nm.size ≤ 400 ∧ r.pa.size ≤ 400 := by
  have h1 : ¬ ((60 < L.length ∧ L.length ≤ 4096) ∨ 5000 < L.length) := fun q => by rw [lgS_long q] at h; cases h
  refine ⟨by omega, by omega, fun r hr => ?_⟩
  obtain ⟨i, hi, rfl⟩ := mem_ga hr
  cases hq : lg1 (ga L i) with
  | true => exact (lg1_iff _).1 hq
  | false => rw [lgS_wide hi hq] at h; cases h
/-- The texts are strings. -/
def Fit (L : List Ro) : Prop := ∀ r ∈ L, r.nm.size ≤ 9223372036854775807 ∧ r.pa.size ≤ 9223372036854775807 ∧ r.ps < 18446744073709551616

set_option maxHeartbeats 4000000 in
set_option maxRecDepth 100000 in
theorem light_any (L : List Ro) (v : Value) (w : World) (hr : Row w v L) (hl : L.length ≤ 9223372036854775807) (hs : Fit L) :
    Calls Tryd.prog 5 #[v] w fun e w' => e = .returned (.bool (lgS L)) ∧ w = w' := by
  obtain ⟨a, cap, rfl, -, hc⟩ := hr.open_
  by_cases h60 : (60 < L.length ∧ L.length ≤ 4096) ∨ 5000 < L.length
  · rw [lgS_long h60]
    clear hc hr hs
    by_cases g1 : 5000 < L.length
    · have n1 : 60 < L.length := by omega
      have n2 : ¬ L.length ≤ 4096 := by omega
      clear h60
      go_enter Tryd.func5, Tryd.ntmps5
      go_wp2_with fail
      go_ret
      exact ⟨rfl, rfl⟩
    · have n1 : 60 < L.length := by omega
      have n2 : L.length ≤ 4096 := by omega
      clear h60 g1
      go_enter Tryd.func5, Tryd.ntmps5
      go_wp2_with fail
      go_ret
      exact ⟨rfl, rfl⟩
  · have HC := Lib.hid hc
    have HW := Lib.hid fun i => @lgS_wide L i
    have HY := Lib.hid (@lgS_yes L h60)
    have HS := Lib.hid hs
    have HL1 := Lib.hid fun r => lg1_iff r
    have n1 : ¬ 5000 < L.length := by omega
    have n2 : ¬ (60 < L.length ∧ L.length ≤ 4096) := by omega
    clear hc hr hs h60
    rcases (show ¬ 60 < L.length ∨ (60 < L.length ∧ ¬ L.length ≤ 4096) by omega) with n3 | ⟨n3, n4⟩
    all_goals
      clear n2
      go_enter Tryd.func5, Tryd.ntmps5
      go_wp2_with fail
      go_loop [19] (fun i => ∃ k : Nat, i = .int .i64 (k : Int) ∧ k ≤ L.length ∧ Hid (∀ j, j < k → lg1 (ga L j) = true)) (fun i => L.length - (RowKit.intOf i).toNat)
      case atStart => exact ⟨0, rfl, Nat.zero_le _, Lib.hid fun j hj => absurd hj (Nat.not_lt_zero _)⟩
      case round =>
        obtain ⟨k, rfl, hk, HA⟩ := hrel
        by_cases hlt : k < L.length
        · obtain ⟨b, off, rfl, hcl⟩ := HC.out k hlt
          change w.rangeAt b (off + k * 4) (ruL (ga L k)) at hcl
          obtain ⟨c0, c1, -⟩ := range_cells hcl
          have hsz := HS.out _ (ga_mem hlt)
          have HW2 := Lib.hid (HW.out k hlt)
          have HX := Lib.hid fun (h : lg1 (ga L k) = true) j (hj : j < k + 1) => by
            by_cases q : j < k
            · exact HA.out j q
            · obtain rfl : j = k := by omega
              exact h
          have HL2 := Lib.hid (HL1.out (ga L k))
          clear hcl
          generalize hq : lg1 (ga L k) = bq at *
          clear hq
          generalize (ga L k).nm = x0 at *
          generalize (ga L k).pa = x1 at *
          obtain ⟨z0, z1, z2⟩ := hsz
          cases bq with
          | true =>
            obtain ⟨y0, y1⟩ := HL2.out.1 rfl
            have HX2 := Lib.hid (HX.out rfl)
            go_wp2_with fail
            go_round
            case rel => exact ⟨k + 1, by go_num, by omega, HX2⟩
            case measure => simp [RowKit.intOf]; omega
          | false =>
            have HN : ¬ (x0.size ≤ 400 ∧ x1.size ≤ 400) := fun h => by have := HL2.out.2 h; cases this
            have HZ := Lib.hid (HW2.out rfl)
            rcases (show ¬ x0.size ≤ 400 ∨ (x0.size ≤ 400 ∧ ¬ x1.size ≤ 400) by omega) with y0 | ⟨y0, y1⟩
            all_goals
              clear HN
              go_wp2_with fail
              go_ret
              rw [HZ.out]
              exact ⟨rfl, rfl⟩
        · obtain rfl : k = L.length := by omega
          have HZ := Lib.hid (HY.out HA.out)
          go_wp2_with fail
          go_ret
          rw [HZ.out]
          exact ⟨rfl, rfl⟩
end Go.Proofs.YtcdkibadnelgiaaDoor.One
