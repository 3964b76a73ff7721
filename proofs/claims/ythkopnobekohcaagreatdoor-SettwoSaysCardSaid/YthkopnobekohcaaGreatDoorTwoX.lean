/- Sets of rules of version 2 with one field spoilt: what is wrong first; numbers' digits; a row's cell put. Conditions: as each theorem states. -/
import Derived.Test.YthkopnobekohcaaGreatDoorTwoG
import Derived.Test.YthkopnobekohcaaGreatDoorPtrA
namespace Go.Proofs.YthkopnobekohcaaGreatDoor.Two
open Go.RowKit Go.Lib
open Go.Proofs.YthkopnobekohcaaGreatDoor.Rul (fst fst_yes fst_no isId isPa)
open Go.Proofs.YthkopnobekohcaaGreatDoor.Ptr (jB Mx)

def spo (j : Nat) (r : Rw) : Rw := match j with
  | 0 => { r with id := ⟨#[]⟩ }
  | 1 => { r with ma := ⟨#[97]⟩ }
  | 2 => { r with rk := 1001 }
  | 3 => { r with ki := 3 }
  | _ => { r with li := -1 }
def spP (j : Nat) : ByteArray := match j with
  | 0 => f1
  | 1 => f3
  | 2 => f4
  | 3 => f5
  | _ => q1
def spE (j : Nat) : Int := match j with
  | 0 => 13
  | 1 => 14
  | 2 => 2
  | 3 => 15
  | _ => 2
/-- The field's place in a rule's cells, and what is put there. -/
def spF (j : Nat) : Nat := match j with
  | 0 => 0
  | 1 => 2
  | 2 => 3
  | 3 => 4
  | _ => 5
def spV (j : Nat) : Value := match j with
  | 0 => .string ⟨#[]⟩
  | 1 => .string ⟨#[97]⟩
  | 2 => .int .i64 1001
  | 3 => .int .i64 3
  | _ => .int .i64 (-1)
theorem id_none : isId ⟨#[]⟩ = false := by decide
theorem pa_a : isPa ⟨#[97]⟩ = false := by decide
theorem spo_chk {r : Rw} (h : Rt r) : ∀ j, j < 5 → chk (spo j r) = (spP j, spE j) := by
  have x1 := (e1_zero r).2 h.id
  have x2 := (e2_zero r).2 ⟨h.no, h.tx⟩
  have x3 := (e3_zero r).2 h.ma
  have x4 := (e4_zero r).2 h.rk
  have x5 : e5 r = 0 := (e5_zero r).2 (by rcases h.ki with ⟨k, _⟩ | ⟨k, _⟩ <;> omega)
  intro j hj
  unfold chk errs
  match j, hj with
  | 0, _ =>
    have k : e1 (spo 0 r) = 13 := if_neg (by show ¬ isId ⟨#[]⟩ = true; rw [id_none]; decide)
    rw [fst_yes _ (by rw [k]; decide), k]; rfl
  | 1, _ =>
    have k : e3 (spo 1 r) = 14 := if_neg (by show ¬ isPa ⟨#[97]⟩ = true; rw [pa_a]; decide)
    rw [fst_no _ (show e1 (spo 1 r) = 0 from x1), fst_no _ (show e2 (spo 1 r) = 0 from x2), fst_yes _ (by rw [k]; decide), k]; rfl
  | 2, _ =>
    have k : e4 (spo 2 r) = 2 := if_pos (by show (1001 : Int) < 0 ∨ 1000 < (1001 : Int); decide)
    rw [fst_no _ (show e1 (spo 2 r) = 0 from x1), fst_no _ (show e2 (spo 2 r) = 0 from x2), fst_no _ (show e3 (spo 2 r) = 0 from x3), fst_yes _ (by rw [k]; decide), k]; rfl
  | 3, _ =>
    have k : e5 (spo 3 r) = 15 := if_neg (by show ¬ ((3 : Int) = 1 ∨ (3 : Int) = 2); decide)
    rw [fst_no _ (show e1 (spo 3 r) = 0 from x1), fst_no _ (show e2 (spo 3 r) = 0 from x2), fst_no _ (show e3 (spo 3 r) = 0 from x3), fst_no _ (show e4 (spo 3 r) = 0 from x4), fst_yes _ (by rw [k]; decide), k]; rfl
  | 4, _ =>
    have k1 : eR (-1) 0 1000000 = 2 := by decide
    have k2 : eR (-1) 1 1000000 = 2 := by decide
    rw [fst_no _ (show e1 (spo 4 r) = 0 from x1), fst_no _ (show e2 (spo 4 r) = 0 from x2), fst_no _ (show e3 (spo 4 r) = 0 from x3), fst_no _ (show e4 (spo 4 r) = 0 from x4), fst_no _ (show e5 (spo 4 r) = 0 from x5)]
    unfold nums
    by_cases q : (spo 4 r).ki = 1
    · rw [if_pos q]
      refine (fst_yes _ (show eR (-1) 0 1000000 ≠ 0 by rw [k1]; decide)).trans ?_
      rw [k1]; rfl
    · rw [if_neg q]
      refine (fst_yes _ (show eR (-1) 1 1000000 ≠ 0 by rw [k2]; decide)).trans ?_
      rw [k2]; rfl
theorem spE_ne {j : Nat} (hj : j < 5) : spE j ≠ 0 := by
  match j, hj with
  | 0, _ => decide
  | 1, _ => decide
  | 2, _ => decide
  | 3, _ => decide
  | 4, _ => decide
theorem ga_set_ne {L : List Rw} {i k : Nat} (r : Rw) (h : k ≠ i) : ga (L.set i r) k = ga L k := by
  unfold ga
  rw [List.getD_eq_getElem?_getD, List.getD_eq_getElem?_getD, List.getElem?_set_ne (Ne.symm h)]
theorem ga_set_eq {L : List Rw} {i : Nat} (r : Rw) (h : i < L.length) : ga (L.set i r) i = r := by
  unfold ga
  rw [List.getD_eq_getElem?_getD, List.getElem?_set_self h]; rfl
theorem spo_sck {L : List Rw} (h : Rs L) {i : Nat} (hi : i < L.length) {j : Nat} (hj : j < 5) : sck (L.set i (spo j (ga L i))) = (at_ i ++ spP j, spE j) := by
  have hlen : (L.set i (spo j (ga L i))).length = L.length := List.length_set
  have hck := spo_chk (h.rt _ (ga_mem hi)) j hj
  have hset := ga_set_eq (spo j (ga L i)) hi
  have hne := fun k => @ga_set_ne L i k (spo j (ga L i))
  generalize spo j (ga L i) = R at *
  rw [sck_few (by rw [hlen]; have := h.len; omega)]
  have key : ∀ k, k ≤ i → fst (nxs (L.set i R)) = fst ((nxs (L.set i R)).drop k) := by
    intro k
    induction k with
    | zero => intro _; rfl
    | succ k ih =>
      intro hk
      have hkM : k < (L.set i R).length := by rw [hlen]; omega
      refine (step_at hkM (ih (by omega))).1 ((nx_zero hkM).2 ⟨?_, fun q hq => ?_⟩)
      · rw [hne k (by omega)]
        exact h.rt _ (ga_mem (by omega))
      · rw [hne k (by omega), hne q (by omega)]
        exact (nodup_ga L).1 h.nd k (by omega) q hq
  have := round_bad (show i < (L.set i R).length by rw [hlen]; exact hi) (key i (Nat.le_refl _)) (by rw [hset, hck]; exact spE_ne hj)
  rw [this, hset, hck]
theorem spo_mod {L : List Rw} (h : Mod L) {i : Nat} (hi : i < L.length) (j : Nat) : Mod (L.set i (spo j (ga L i))) := by
  intro r hr
  rcases List.mem_or_eq_of_mem_set hr with h' | rfl
  · exact h r h'
  · have := h _ (ga_mem hi)
    unfold spo
    split
    · exact ⟨Nat.zero_le _, this.2⟩
    · exact ⟨this.1, this.2.1, (by decide : 1 ≤ 140737488355328), this.2.2.2⟩
    · exact this
    · exact this
    · exact this
theorem spo_cell (r : Rw) : ∀ j, j < 5 → ruL (spo j r) = (ruL r).set (spF j) (spV j) := by
  intro j hj
  match j, hj with
  | 0, _ => rfl
  | 1, _ => rfl
  | 2, _ => rfl
  | 3, _ => rfl
  | 4, _ => rfl
theorem rowC_put (L : List Rw) (i f : Nat) (r : Rw) (u : Value) (hi : i < L.length) (hf : f < 9) (hr : ruL r = (ruL (rga L i)).set f u) : rowC (L.set i r) = (rowC L).set (i * 9 + f) u := by
  have hl : (rowC L).length = L.length * 9 := rowC_len L
  refine List.ext_getElem? fun q => ?_
  by_cases hq : q < L.length * 9
  · have h1 := rowC_at (L.set i r) (q / 9) (q % 9) (by rw [List.length_set]; omega) (by omega)
    have h2 := rowC_at L (q / 9) (q % 9) (by omega) (by omega)
    rw [show q / 9 * 9 + q % 9 = q by omega] at h1 h2
    rw [h1]
    by_cases e : q / 9 = i
    · subst e
      rw [show rga (L.set (q / 9) r) (q / 9) = r from ga_set_eq r hi, hr]
      by_cases e2 : f = q % 9
      · subst e2
        rw [show q / 9 * 9 + q % 9 = q by omega, List.getElem?_set_self (by rw [show (ruL (rga L (q / 9))).length = 9 from rfl]; omega), List.getElem?_set_self (by omega)]
      · rw [List.getElem?_set_ne e2, List.getElem?_set_ne (by omega), h2]
    · rw [show rga (L.set i r) (q / 9) = rga L (q / 9) from ga_set_ne r e, List.getElem?_set_ne (by omega), h2]
  · rw [List.getElem?_eq_none (by rw [rowC_len, List.length_set]; omega), List.getElem?_eq_none (by rw [List.length_set]; omega)]
/-- One field of one rule put, of a row that is the call's own. -/
theorem own_field {W : World} {B g cap : Nat} {L : List Rw} (h : Own W B (.slice (some ⟨g, 0, none⟩) L.length cap) L) (i f : Nat) (hi : i < L.length) (hf : f < 9) (r : Rw) (u : Value) (hr : ruL r = (ruL (rga L i)).set f u) :
    (∃ u0, W.cell? ⟨g, i * 9 + f, none⟩ = some u0) ∧ W.frozen? ⟨g, i * 9 + f, none⟩ = false ∧ Own (W.setCell ⟨g, i * 9 + f, none⟩ u) B (.slice (some ⟨g, 0, none⟩) L.length cap) (L.set i r) ∧ W.grownBy (W.setCell ⟨g, i * 9 + f, none⟩ u) (some g) := by
  have h0 := h
  unfold Own at h0
  have hs := h0.stored (i * 9 + f) u
  rw [← rowC_put L i f r u hi hf hr] at hs
  refine ⟨?_, h0.frozenAt _, ?_, hs.2⟩
  · have := h0.cellAt (i * 9 + f) (by omega)
    rw [this]
    exact ⟨_, List.getElem?_eq_getElem (by rw [rowC_len]; omega)⟩
  · unfold Own
    rw [List.length_set]
    exact hs.1

/-! ### a number's digits -/
def dg (n : Nat) : ByteArray := ⟨#[UInt8.ofNat (48 + n)]⟩
def dN (n : Nat) : ByteArray := if n < 10 then dg n else dg (n / 10) ++ dg (n % 10)
theorem dN_join : ∀ n, n < 60 → jB ⟨#[]⟩ (dN n) = at_ n := by decide +kernel
theorem dN_size (n : Nat) : (dN n).size ≤ 2 := by
  unfold dN
  split
  · exact (by decide : 1 ≤ 2)
  · rw [ByteArray.size_append]; exact Nat.le_refl 2
set_option maxRecDepth 100000 in
theorem dec_one (n : Nat) (h : n < 10) (W : World) : Calls Tryz.prog 19 #[.int .i64 (n : Int)] W fun e w' => e = .returned (.string (dg n)) ∧ W = w' := by
  rcases (show n = 0 ∨ n = 1 ∨ n = 2 ∨ n = 3 ∨ n = 4 ∨ n = 5 ∨ n = 6 ∨ n = 7 ∨ n = 8 ∨ n = 9 by omega) with rfl | rfl | rfl | rfl | rfl | rfl | rfl | rfl | rfl | rfl
  all_goals
    go_enter Tryz.func19, Tryz.ntmps19
    go_wp2_with fail
    go_ret
    exact ⟨rfl, rfl⟩
set_option maxRecDepth 100000 in
theorem dec_any (n : Nat) (h : n < 100) (W : World) : Calls Tryz.prog 19 #[.int .i64 (n : Int)] W fun e w' => e = .returned (.string (dN n)) ∧ W = w' := by
  by_cases h10 : n < 10
  · unfold dN
    rw [if_pos h10]
    exact dec_one n h10 W
  · unfold dN
    rw [if_neg h10]
    have e1 : (n : Int) / 10 = ((n / 10 : Nat) : Int) := by omega
    have e2 : (n : Int) % 10 = ((n % 10 : Nat) : Int) := by omega
    have H1 := Lib.hid fun W => e1 ▸ dec_one (n / 10) (by omega) W
    have H2 := Lib.hid fun W => e2 ▸ dec_one (n % 10) (by omega) W
    clear e1 e2
    have z1 : (dg (n / 10)).size = 1 := rfl
    have z2 : (dg (n % 10)).size = 1 := rfl
    generalize dg (n / 10) = x at *
    generalize dg (n % 10) = y at *
    go_enter Tryz.func19, Tryz.ntmps19
    go_wp2_with (go_at_call 19; first
      | ((with_reducible refine (H1.out _).mono ?_); rintro e w1 ⟨rfl, rfl⟩; clear H1)
      | ((with_reducible refine (H2.out _).mono ?_); rintro e w1 ⟨rfl, rfl⟩))
    go_ret
    exact ⟨rfl, rfl⟩
end Go.Proofs.YthkopnobekohcaaGreatDoor.Two
