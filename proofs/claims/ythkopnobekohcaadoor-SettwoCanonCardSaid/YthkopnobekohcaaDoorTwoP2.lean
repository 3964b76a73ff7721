/- Contracts of the document's Kind, KindOf, texts of sets of rules of version 2. Conditions: as each theorem states. · Contract of the document's 'one' of sets of rules of version 2. Conditions: the texts have at most 2^47 bytes; the window is an int. · Contract of the document's Check of sets of rules. Conditions: the rules can be read, their texts have at most 2^47 bytes; the table of powers reads as the library lays it. · Laws of sets of rules: light. Conditions: the rules can be read. -/
import Derived.Test.YthkopnobekohcaaDoorTwoP1
import Derived.Test.YthkopnobekohcaaDoorUtfG1
import Derived.Test.YthkopnobekohcaaDoorUniC
import Derived.Test.YthkopnobekohcaaDoorRouG3
import Derived.Test.YthkopnobekohcaaDoorIdeA
import Derived.Test.YthkopnobekohcaaDoorRenN
import Derived.Lib.ItoaLen
namespace Go.Proofs.YthkopnobekohcaaDoor.Two
open Go.RowKit Go.Lib
open Go.Proofs.YthkopnobekohcaaDoor.Rul (fst fst_yes fst_no isId isTx isPa)

/-! ### kinds -/
def k1 : ByteArray := ⟨#[114, 97, 116, 101]⟩
def k2 : ByteArray := ⟨#[99, 97, 112]⟩
def kB (k : Int) : ByteArray := if k = 1 then k1 else if k = 2 then k2 else ⟨#[]⟩
def kO (s : ByteArray) : Int := if s = k1 then 1 else if s = k2 then 2 else 0
theorem kB_none (k : Int) : kB k = ⟨#[]⟩ ↔ ¬ (k = 1 ∨ k = 2) := by
  unfold kB
  split
  · subst_vars; exact ⟨fun h => absurd h (by decide), fun h => absurd (.inl rfl) h⟩
  · split
    · subst_vars; exact ⟨fun h => absurd h (by decide), fun h => absurd (.inr rfl) h⟩
    · exact ⟨fun _ => by omega, fun _ => rfl⟩
theorem kO_in {m : Int} (h : 0 ≤ m) (h4 : m < 3) : kO (kB m) = m := by
  rcases (show m = 0 ∨ m = 1 ∨ m = 2 by omega) with rfl | rfl | rfl <;> decide
theorem kO_no {s : ByteArray} (h : ∀ k : Nat, 1 ≤ k → k < 3 → kB k ≠ s) : kO s = 0 := by
  have h1 : k1 ≠ s := h 1 (by decide) (by decide)
  have h2 : k2 ≠ s := h 2 (by decide) (by decide)
  unfold kO
  rw [if_neg (fun e => h1 e.symm), if_neg (fun e => h2 e.symm)]
theorem e5_kB (r : Rw) : e5 r = if kB r.ki = ⟨#[]⟩ then 15 else 0 := by
  unfold e5
  by_cases h : r.ki = 1 ∨ r.ki = 2
  · rw [if_pos h, if_neg (fun e => (kB_none _).1 e h)]
  · rw [if_neg h, if_pos ((kB_none _).2 h)]
/-! ### texts -/
def txs (r : Rw) : ByteArray × Int := fst [(f1, e1 r), (f2, e2 r), (f3, e3 r), (f4, e4 r), (f5, e5 r)]
theorem chk_two (r : Rw) : chk r = if (txs r).2 = 0 then fst (nums r) else txs r := Rul.fst_app [(f1, e1 r), (f2, e2 r), (f3, e3 r), (f4, e4 r), (f5, e5 r)] (nums r)
theorem tx_id {r : Rw} (h : isId r.id = false) : txs r = (f1, 13) := by
  have : e1 r = 13 := by unfold e1; rw [h]; rfl
  unfold txs
  rw [fst_yes _ (by rw [this]; decide), this]
theorem tx_long {r : Rw} (h1 : isId r.id = true) (h2 : 255 < r.no.size) : txs r = (f2, 5) := by
  have : e2 r = 5 := by unfold e2; rw [if_pos h2]
  unfold txs
  rw [fst_no _ ((e1_zero r).2 h1), fst_yes _ (by rw [this]; decide), this]
theorem tx_no {r : Rw} (h1 : isId r.id = true) (h2 : ¬ 255 < r.no.size) (h3 : isTx r.no = false) : txs r = (f2, 8) := by
  have : e2 r = 8 := by unfold e2; rw [if_neg h2, h3]; rfl
  unfold txs
  rw [fst_no _ ((e1_zero r).2 h1), fst_yes _ (by rw [this]; decide), this]
theorem tx_ro {r : Rw} (h1 : isId r.id = true) (h2 : ¬ 255 < r.no.size) (h3 : isTx r.no = true) (h4 : isPa r.ma = false) : txs r = (f3, 14) := by
  have : e3 r = 14 := by unfold e3; rw [h4]; rfl
  unfold txs
  rw [fst_no _ ((e1_zero r).2 h1), fst_no _ ((e2_zero r).2 ⟨by omega, h3⟩), fst_yes _ (by rw [this]; decide), this]
theorem tx_pr {r : Rw} (h1 : isId r.id = true) (h2 : ¬ 255 < r.no.size) (h3 : isTx r.no = true) (h4 : isPa r.ma = true) (h5 : r.rk < 0 ∨ 1000 < r.rk) : txs r = (f4, 2) := by
  have : e4 r = 2 := by unfold e4; rw [if_pos h5]
  unfold txs
  rw [fst_no _ ((e1_zero r).2 h1), fst_no _ ((e2_zero r).2 ⟨by omega, h3⟩), fst_no _ ((e3_zero r).2 h4), fst_yes _ (by rw [this]; decide), this]
theorem tx_ki {r : Rw} (h1 : isId r.id = true) (h2 : ¬ 255 < r.no.size) (h3 : isTx r.no = true) (h4 : isPa r.ma = true) (h5 : ¬ (r.rk < 0 ∨ 1000 < r.rk)) (h6 : kB r.ki = ⟨#[]⟩) : txs r = (f5, 15) := by
  have : e5 r = 15 := by unfold e5; rw [if_neg ((kB_none _).1 h6)]
  unfold txs
  rw [fst_no _ ((e1_zero r).2 h1), fst_no _ ((e2_zero r).2 ⟨by omega, h3⟩), fst_no _ ((e3_zero r).2 h4), fst_no _ ((e4_zero r).2 (by omega)), fst_yes _ (by rw [this]; decide), this]
theorem tx_ok {r : Rw} (h1 : isId r.id = true) (h2 : ¬ 255 < r.no.size) (h3 : isTx r.no = true) (h4 : isPa r.ma = true) (h5 : ¬ (r.rk < 0 ∨ 1000 < r.rk)) (h6 : kB r.ki ≠ ⟨#[]⟩) : txs r = (⟨#[]⟩, 0) := by
  have h7 : r.ki = 1 ∨ r.ki = 2 := Decidable.byContradiction fun h => h6 ((kB_none _).2 h)
  unfold txs
  rw [fst_no _ ((e1_zero r).2 h1), fst_no _ ((e2_zero r).2 ⟨by omega, h3⟩), fst_no _ ((e3_zero r).2 h4), fst_no _ ((e4_zero r).2 (by omega)), fst_no _ ((e5_zero r).2 h7)]
  rfl
theorem tx_bad (s : ByteArray) : (isTx s = true → Utf.bI (Utf.badL s.data.toList) < 0) ∧ (isTx s = false → 0 ≤ Utf.bI (Utf.badL s.data.toList)) := by
  unfold isTx
  cases Utf.badL s.data.toList with
  | none => exact ⟨fun _ => by decide, fun h => absurd h (by simp)⟩
  | some k => exact ⟨fun h => absurd h (by simp), fun _ => Int.natCast_nonneg k⟩
/-- A rule boxed at the start of a call stands behind all that follows. -/
theorem box_stay {w w1 : World} {cs : Array Value} (hb : Below (w.alloc (.cells cs 30)).heap.size (w.alloc (.cells cs 30)) w1) : Bx w1 w.heap.size cs :=
  (bx_new w cs).next hb (by simp)

/-! ### numbers -/
theorem eR_lo {n lo hi : Int} (h : n < lo) : eR n lo hi = 2 := if_pos (.inl h)
theorem eR_hi {n lo hi : Int} (h : hi < n) : eR n lo hi = 2 := if_pos (.inr h)
theorem eR_in {n lo hi : Int} (h1 : ¬ n < lo) (h2 : n ≤ hi) : eR n lo hi = 0 := if_neg (by omega)
theorem nm_none {u : Int} (h : Uni.sz u = 0) : Uni.nmB u = ⟨#[]⟩ := by
  rcases Uni.sz_cases u with ⟨_, k⟩ | ⟨_, k⟩ | ⟨_, k⟩ | ⟨a, b, c, _⟩
  · omega
  · omega
  · omega
  · unfold Uni.nmB; rw [if_neg a, if_neg b, if_neg c]
theorem nm_some {u : Int} (h : Uni.sz u ≠ 0) : (Uni.nmB u).toList.isEmpty = false := by
  rcases Uni.sz_cases u with ⟨rfl, _⟩ | ⟨rfl, _⟩ | ⟨rfl, _⟩ | ⟨_, _, _, k⟩
  · rw [Byt.toList_data]; rfl
  · rw [Byt.toList_data]; rfl
  · rw [Byt.toList_data]; rfl
  · exact absurd k h
theorem eZ_no {n : Int} (h : n ≠ 0) : eZ n = 17 := if_neg h
end Go.Proofs.YthkopnobekohcaaDoor.Two

namespace Go.Proofs.YthkopnobekohcaaDoor.Two
open Go.RowKit Go.Lib
open Go.Proofs.YthkopnobekohcaaDoor.Rul (fst)

theorem nums_fst (r : Rw) : fst (nums r) = if r.ki = 1 then fst [(q1, eR r.li 0 1000000), (q2, eU r.un), (q3, Uni.tE r.wi r.un 15 2), (q4, eR r.bu 0 1000000)] else fst [(q1, eR r.li 1 1000000), (q2, eZ r.un), (q3, eZ r.wi), (q4, eZ r.bu)] := by
  unfold nums
  split <;> rfl
end Go.Proofs.YthkopnobekohcaaDoor.Two

namespace Go.Proofs.YthkopnobekohcaaDoor.Two
open Go.RowKit Go.Lib
open Go.Proofs.YthkopnobekohcaaDoor.Ren (Pw)

theorem itoa_at (n : Int) (h1 : -9223372036854775808 ≤ n) (h2 : n ≤ 9223372036854775807) (W : World) (hP : Pw W) :
    Calls Tryd.prog 33 #[.int .i64 n] W fun e w' => e = .returned (.string ⟨(Lib.itoa n).toArray⟩) ∧ Below W.heap.size W w' := by
  refine (Tryd.strconv_Itoa n h1 h2 W hP).mono ?_
  rintro e w' ⟨rfl, k, os, rfl⟩
  exact ⟨rfl, Lib.below_grow _ W (Nat.le_refl _) k os⟩
theorem fst_size (n : Nat) : ∀ l : List (ByteArray × Int), (∀ x ∈ l, x.1.size ≤ n) → (Rul.fst l).1.size ≤ n
  | [], _ => Nat.zero_le _
  | (p, e) :: l, h => by
    by_cases he : e = 0
    · rw [Rul.fst_no l he]; exact fst_size n l fun x hx => h x (List.mem_cons_of_mem _ hx)
    · rw [Rul.fst_yes l he]; exact h _ List.mem_cons_self
theorem path_size : ∀ p ∈ [f1, f2, f3, f4, f5, q1, q2, q3, q4], p.size ≤ 10 := by decide
theorem chk_size (r : Rw) : (chk r).1.size ≤ 10 := by
  refine fst_size 10 _ fun x hx => ?_
  unfold errs nums at hx
  split at hx
  all_goals
    simp only [List.mem_cons, List.not_mem_nil, or_false] at hx
    rcases hx with rfl | rfl | rfl | rfl | rfl | rfl | rfl | rfl | rfl <;> exact path_size _ (by simp only [List.mem_cons, true_or, or_true])
theorem rga_ga (L : List Rw) (i : Nat) : rga L i = ga L i := rfl
/-- Texts of at most 2^47 bytes, windows that are ints. -/
def Mod (L : List Rw) : Prop := ∀ r ∈ L, r.id.size ≤ 140737488355328 ∧ r.no.size ≤ 140737488355328 ∧ r.ma.size ≤ 140737488355328 ∧ -9223372036854775808 ≤ r.wi ∧ r.wi ≤ 9223372036854775807
/-- A rule's place, as a path. -/
def at_ (i : Nat) : ByteArray := ⟨#[47]⟩ ++ ⟨(Lib.itoa (i : Int)).toArray⟩
theorem pre_at (i : Nat) (p : ByteArray) : pre i p = at_ i ++ p := rfl
theorem itoa_size (i : Nat) (h : i ≤ 5000) : (⟨(Lib.itoa (i : Int)).toArray⟩ : ByteArray).size ≤ 21 := by
  have := Lib.itoa_length_le (i : Int) (by omega) (by omega)
  show (Lib.itoa (i : Int)).toArray.size ≤ 21
  rwa [List.size_toArray]
/-- What the loop over the rules has told so far. -/
theorem step_at {L : List Rw} {i : Nat} (hi : i < L.length) (hf : Rul.fst (nxs L) = Rul.fst ((nxs L).drop i)) :
    ((nx L i).2 = 0 → Rul.fst (nxs L) = Rul.fst ((nxs L).drop (i + 1))) ∧ ((nx L i).2 ≠ 0 → Rul.fst (nxs L) = nx L i) := by
  rw [nxs_drop L hi] at hf
  rcases hx : nx L i with ⟨p, e⟩
  rw [hx] at hf
  exact ⟨fun h => by rw [hf, Rul.fst_no _ h], fun h => by rw [hf, Rul.fst_yes _ h]⟩
/-- The three ends of a round. -/
theorem round_bad {L : List Rw} {i : Nat} (hi : i < L.length) (hf : Rul.fst (nxs L) = Rul.fst ((nxs L).drop i)) (h : (chk (ga L i)).2 ≠ 0) : Rul.fst (nxs L) = (at_ i ++ (chk (ga L i)).1, (chk (ga L i)).2) := by
  have e := nx_bad h
  have := (step_at hi hf).2 (by rw [e]; exact h)
  rw [this, e, pre_at]
theorem round_twice {L : List Rw} {i k : Nat} (hi : i < L.length) (hf : Rul.fst (nxs L) = Rul.fst ((nxs L).drop i)) (h : (chk (ga L i)).2 = 0) (hk : k < i) (he : (ga L k).id = (ga L i).id) : Rul.fst (nxs L) = (at_ i ++ ⟨#[47, 105, 100]⟩, 11) := by
  have e := nx_twice h (tw_yes hi hk he)
  have := (step_at hi hf).2 (by rw [e]; exact (by decide : (11 : Int) ≠ 0))
  rw [this, e]; rfl
theorem round_ok {L : List Rw} {i : Nat} (hi : i < L.length) (hf : Rul.fst (nxs L) = Rul.fst ((nxs L).drop i)) (h : (chk (ga L i)).2 = 0) (hn : ∀ k, k < i → (ga L k).id ≠ (ga L i).id) : Rul.fst (nxs L) = Rul.fst ((nxs L).drop (i + 1)) := by
  have e := nx_ok h ((tw_iff hi).2 hn)
  exact (step_at hi hf).1 (by rw [e])
theorem sck_many {L : List Rw} (h : 4096 < L.length) : sck L = (⟨#[]⟩, 12) := by unfold sck; rw [if_pos h]
theorem sck_few {L : List Rw} (h : ¬ 4096 < L.length) : sck L = Rul.fst (nxs L) := by unfold sck; rw [if_neg h]

end Go.Proofs.YthkopnobekohcaaDoor.Two

namespace Go.Proofs.YthkopnobekohcaaDoor.Two
open Go.RowKit Go.Lib

def lg1 (r : Rw) : Bool := decide (r.id.size ≤ 400) && decide (r.no.size ≤ 400) && decide (r.ma.size ≤ 400)
theorem lg1_iff (r : Rw) : lg1 r = true ↔ r.id.size ≤ 400 ∧ r.no.size ≤ 400 ∧ r.ma.size ≤ 400 := by
  unfold lg1
  rw [Bool.and_eq_true, Bool.and_eq_true, decide_eq_true_eq, decide_eq_true_eq, decide_eq_true_eq]
  exact ⟨fun h => ⟨h.1.1, h.1.2, h.2⟩, fun h => ⟨⟨h.1, h.2.1⟩, h.2.2⟩⟩
/-- Few rules, with short texts, or more than there may be. -/
def lgS (L : List Rw) : Bool := !((decide (60 < L.length) && decide (L.length ≤ 4096)) || decide (5000 < L.length)) && L.all lg1
theorem lgS_long {L : List Rw} (h : (60 < L.length ∧ L.length ≤ 4096) ∨ 5000 < L.length) : lgS L = false := by
  unfold lgS
  have : ((decide (60 < L.length) && decide (L.length ≤ 4096)) || decide (5000 < L.length)) = true := by simpa using h
  rw [this]; rfl
theorem lgS_wide {L : List Rw} {i : Nat} (hi : i < L.length) (h : lg1 (ga L i) = false) : lgS L = false := by
  unfold lgS
  rw [Bool.and_eq_false_iff]
  right
  rw [List.all_eq_false]
  exact ⟨_, ga_mem hi, by rw [h]; decide⟩
theorem lgS_yes {L : List Rw} (h1 : ¬ ((60 < L.length ∧ L.length ≤ 4096) ∨ 5000 < L.length)) (h2 : ∀ j, j < L.length → lg1 (ga L j) = true) : lgS L = true := by
  unfold lgS
  have : ((decide (60 < L.length) && decide (L.length ≤ 4096)) || decide (5000 < L.length)) = false := by
    rw [Bool.eq_false_iff]
    intro q
    exact h1 (by simpa using q)
  rw [this, Bool.not_false, Bool.true_and, List.all_eq_true]
  intro r hr
  obtain ⟨i, hi, rfl⟩ := mem_ga hr
  exact h2 i hi
theorem lgS_iff {L : List Rw} (h : lgS L = true) : L.length ≤ 5000 ∧ (L.length ≤ 60 ∨ 4096 < L.length) ∧ ∀ r ∈ L, r.id.size ≤ 400 ∧ r.no.size ≤ 400 ∧ r.ma.size ≤ 400 := by
  have h1 : ¬ ((60 < L.length ∧ L.length ≤ 4096) ∨ 5000 < L.length) := fun q => by rw [lgS_long q] at h; cases h
  refine ⟨by omega, by omega, fun r hr => ?_⟩
  obtain ⟨i, hi, rfl⟩ := mem_ga hr
  cases hq : lg1 (ga L i) with
  | true => exact (lg1_iff _).1 hq
  | false => rw [lgS_wide hi hq] at h; cases h
/-- The texts are strings. -/
def Fit (L : List Rw) : Prop := ∀ r ∈ L, r.id.size ≤ 9223372036854775807 ∧ r.no.size ≤ 9223372036854775807 ∧ r.ma.size ≤ 9223372036854775807 ∧ -9223372036854775808 ≤ r.wi ∧ r.wi ≤ 9223372036854775807

set_option maxHeartbeats 4000000 in
set_option maxRecDepth 100000 in
theorem light_any (L : List Rw) (v : Value) (w : World) (hr : Row w v L) (hl : L.length ≤ 9223372036854775807) (hs : Fit L) :
    Calls Tryd.prog 4 #[v] w fun e w' => e = .returned (.bool (lgS L)) ∧ w = w' := by
  obtain ⟨a, cap, rfl, -, hc⟩ := hr.open_
  by_cases h60 : (60 < L.length ∧ L.length ≤ 4096) ∨ 5000 < L.length
  · rw [lgS_long h60]
    clear hc hr hs
    by_cases g1 : 5000 < L.length
    · have n1 : 60 < L.length := by omega
      have n2 : ¬ L.length ≤ 4096 := by omega
      clear h60
      go_enter Tryd.func4, Tryd.ntmps4
      go_wp2_with fail
      go_ret
      exact ⟨rfl, rfl⟩
    · have n1 : 60 < L.length := by omega
      have n2 : L.length ≤ 4096 := by omega
      clear h60 g1
      go_enter Tryd.func4, Tryd.ntmps4
      go_wp2_with fail
      go_ret
      exact ⟨rfl, rfl⟩
  · have HC := Lib.hid hc
    have HW := Lib.hid fun i => @lgS_wide L i
    have HY := Lib.hid (@lgS_yes L h60)
    have HS := Lib.hid hs
    have HL1 := Lib.hid fun r => lg1_iff r
    have n1 : ¬ 5000 < L.length := by omega
    have n2 : ¬ (60 < L.length ∧ L.length ≤ 4096) := by omega
    clear hc hr hs h60
    rcases (show ¬ 60 < L.length ∨ (60 < L.length ∧ ¬ L.length ≤ 4096) by omega) with n3 | ⟨n3, n4⟩
    all_goals
      clear n2
      go_enter Tryd.func4, Tryd.ntmps4
      go_wp2_with fail
      go_loop [19] (fun i => ∃ k : Nat, i = .int .i64 (k : Int) ∧ k ≤ L.length ∧ Hid (∀ j, j < k → lg1 (ga L j) = true)) (fun i => L.length - (RowKit.intOf i).toNat)
      case atStart => exact ⟨0, rfl, Nat.zero_le _, Lib.hid fun j hj => absurd hj (Nat.not_lt_zero _)⟩
      case round =>
        obtain ⟨k, rfl, hk, HA⟩ := hrel
        by_cases hlt : k < L.length
        · obtain ⟨b, off, rfl, hcl⟩ := HC.out k hlt
          change w.rangeAt b (off + k * 9) (ruL (ga L k)) at hcl
          obtain ⟨c0, c1, c2, -⟩ := range_cells hcl
          have hsz := HS.out _ (ga_mem hlt)
          have HW2 := Lib.hid (HW.out k hlt)
          have HX := Lib.hid fun (h : lg1 (ga L k) = true) j (hj : j < k + 1) => by
            by_cases q : j < k
            · exact HA.out j q
            · obtain rfl : j = k := by omega
              exact h
          have HL2 := Lib.hid (HL1.out (ga L k))
          clear hcl
          generalize hq : lg1 (ga L k) = bq at *
          clear hq
          generalize (ga L k).id = x0 at *
          generalize (ga L k).no = x1 at *
          generalize (ga L k).ma = x2 at *
          obtain ⟨z0, z1, z2, -⟩ := hsz
          cases bq with
          | true =>
            obtain ⟨y0, y1, y2⟩ := HL2.out.1 rfl
            have HX2 := Lib.hid (HX.out rfl)
            go_wp2_with fail
            go_round
            case rel => exact ⟨k + 1, by go_num, by omega, HX2⟩
            case measure => simp [RowKit.intOf]; omega
          | false =>
            have HN : ¬ (x0.size ≤ 400 ∧ x1.size ≤ 400 ∧ x2.size ≤ 400) := fun h => by have := HL2.out.2 h; cases this
            have HZ := Lib.hid (HW2.out rfl)
            rcases (show ¬ x0.size ≤ 400 ∨ (x0.size ≤ 400 ∧ ¬ x1.size ≤ 400) ∨ (x0.size ≤ 400 ∧ x1.size ≤ 400 ∧ ¬ x2.size ≤ 400) by omega) with y0 | ⟨y0, y1⟩ | ⟨y0, y1, y2⟩
            all_goals
              clear HN
              go_wp2_with fail
              go_ret
              rw [HZ.out]
              exact ⟨rfl, rfl⟩
        · obtain rfl : k = L.length := by omega
          have HZ := Lib.hid (HY.out HA.out)
          go_wp2_with fail
          go_ret
          rw [HZ.out]
          exact ⟨rfl, rfl⟩
end Go.Proofs.YthkopnobekohcaaDoor.Two
