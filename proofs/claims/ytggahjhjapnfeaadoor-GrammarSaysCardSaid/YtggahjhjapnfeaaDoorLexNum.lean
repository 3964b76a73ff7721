/- Plain facts of numbers' digits: what they are read as. Conditions: as each theorem states. -/
import Derived.Test.YtggahjhjapnfeaaDoorLexKeep
namespace Go.Proofs.YtggahjhjapnfeaaDoor.Lx
open Go.Lib Go.Proofs.YtggahjhjapnfeaaDoor.Utf Go.Proofs.YtggahjhjapnfeaaDoor.Oct Go.Proofs.YtggahjhjapnfeaaDoor.Quo

def d8 (k : Nat) : UInt8 := UInt8.ofNat (48 + k)
theorem d8_nat {k : Nat} (h : k < 10) : (d8 k).toNat = 48 + k := by unfold d8; rw [UInt8.toNat_ofNat']; omega
def dcF : Nat → Nat → List UInt8
  | 0, _ => []
  | f + 1, u => if u < 10 then [d8 u] else dcF f (u / 10) ++ [d8 (u % 10)]
/-- A number's digits. -/
def dcL (u : Nat) : List UInt8 := dcF 20 u
theorem dcF_fuel : ∀ (f g u : Nat), u < 10 ^ f → u < 10 ^ g → 0 < f → 0 < g → dcF f u = dcF g u
  | 0, _, _, _, _, h, _ => by omega
  | _ + 1, 0, _, _, _, _, h => by omega
  | f + 1, g + 1, u, hf, hg, _, _ => by
    rw [dcF, dcF]
    by_cases h : u < 10
    · rw [if_pos h, if_pos h]
    · rw [if_neg h, if_neg h]
      rw [Nat.pow_succ] at hf hg
      have hf2 : u / 10 < 10 ^ f := by omega
      have hg2 : u / 10 < 10 ^ g := by omega
      have f0 : 0 < f := by rcases f with _ | f; · simp at hf; omega
                            · omega
      have g0 : 0 < g := by rcases g with _ | g; · simp at hg; omega
                            · omega
      rw [dcF_fuel f g (u / 10) hf2 hg2 f0 g0]
theorem dcL_low {u : Nat} (h : u < 10) : dcL u = [d8 u] := by unfold dcL; rw [dcF, if_pos h]
theorem dcL_high {u : Nat} (h : ¬ u < 10) (h2 : u < 18446744073709551616) : dcL u = dcL (u / 10) ++ [d8 (u % 10)] := by
  conv => lhs; unfold dcL; rw [dcF, if_neg h]
  rw [dcF_fuel 19 20 (u / 10) (by omega) (by omega) (by omega) (by omega)]
  rfl
def allD (l : List UInt8) : Prop := ∀ c ∈ l, dg c.toNat = true
theorem dgs_all : ∀ {l : List UInt8}, allD l → dgs l = l.length
  | [], _ => rfl
  | c :: l, h => by rw [dgs, if_pos (h c List.mem_cons_self), dgs_all fun d hd => h d (List.mem_cons_of_mem _ hd)]; rfl
theorem vl_snoc (l : List UInt8) (c : UInt8) : vl (l ++ [c]) = 10 * vl l + (c.toNat - 48) := by unfold vl; rw [List.foldl_append]; rfl
theorem d8_dg {k : Nat} (h : k < 10) : dg (d8 k).toNat = true := by rw [d8_nat h]; unfold dg; simp; omega
theorem dc_rec {p : Nat → Prop} (h0 : ∀ u, u < 10 → p u) (h1 : ∀ u, ¬ u < 10 → p (u / 10) → p u) (u : Nat) : p u := by
  induction u using Nat.strongRecOn with
  | _ u ih =>
    by_cases h : u < 10
    · exact h0 u h
    · exact h1 u h (ih (u / 10) (by omega))
theorem dcL_facts (u : Nat) : u < 18446744073709551616 → dcL u ≠ [] ∧ allD (dcL u) ∧ vl (dcL u) = u ∧ (hd (dcL u) = 48 → u = 0) := by
  refine dc_rec (p := fun u => u < 18446744073709551616 → dcL u ≠ [] ∧ allD (dcL u) ∧ vl (dcL u) = u ∧ (hd (dcL u) = 48 → u = 0)) ?_ ?_ u
  · intro u h _
    rw [dcL_low h]
    refine ⟨by simp, ?_, ?_, ?_⟩
    · intro c hc; rw [List.mem_singleton.1 hc]; exact d8_dg h
    · show 10 * 0 + ((d8 u).toNat - 48) = u; rw [d8_nat h]; omega
    · intro e; have : hd [d8 u] = 48 + u := d8_nat h; omega
  · intro u h ih hu
    obtain ⟨i1, i2, i3, i4⟩ := ih (by omega)
    rw [dcL_high h hu]
    refine ⟨by simp, ?_, ?_, ?_⟩
    · intro c hc
      rcases List.mem_append.1 hc with h1 | h1
      · exact i2 c h1
      · rw [List.mem_singleton.1 h1]; exact d8_dg (by omega)
    · rw [vl_snoc, i3, d8_nat (by omega)]; omega
    · intro e
      rw [hd_left _ _ i1] at e
      have := i4 e
      omega
theorem dcF_len : ∀ f u, (dcF f u).length ≤ f
  | 0, _ => Nat.le_refl _
  | f + 1, u => by
    rw [dcF]
    split
    · simp
    · rw [List.length_append, List.length_singleton]; have := dcF_len f (u / 10); omega
theorem dcL_len (u : Nat) : (dcL u).length ≤ 20 := dcF_len 20 u

/-- What digits behind a sign are read as. -/
def sv (pre l : List UInt8) : Int := if pre = [] then (vl l : Int) else -(vl l : Int)
theorem tok_digits (pre l : List UInt8) (hpre : pre = [] ∨ pre = [45]) (hl : l ≠ []) (ha : allD l) (h0 : hd l = 48 → l.length = 1) :
    nx (pre ++ l) = if -9223372036854775808 ≤ sv pre l ∧ sv pre l ≤ 9223372036854775807 then (0, ⟨8, 0, (pre ++ l).length, [], sv pre l⟩) else (6, bad 0) := by
  have hlp := List.length_pos_iff.2 hl
  have hdl : dg (hd l) = true := by
    cases l with
    | nil => exact absurd rfl hl
    | cons c l => exact ha c List.mem_cons_self
  have hdl2 : 48 ≤ hd l ∧ hd l ≤ 57 := by unfold dg at hdl; simpa using hdl
  have hgc : dgc l = l.length := by
    unfold dgc
    by_cases h : hd l = 48
    · rw [if_pos h, h0 h]
    · rw [if_neg h, dgs_all ha]
  have key : sgn (pre ++ l) = pre.length ∧ (hd (pre ++ l) = 45 ∨ dg (hd (pre ++ l)) = true) ∧ bl (hd (pre ++ l)) = false ∧ sg (hd (pre ++ l)) = 0 ∧ hd (pre ++ l) ≠ 34 ∧ (sgn (pre ++ l) = 1 ↔ pre ≠ []) := by
    rcases hpre with rfl | rfl
    · rw [List.nil_append]
      have : sgn l = 0 := by unfold sgn; rw [if_neg (by omega)]
      refine ⟨this, .inr hdl, by unfold bl; simp; omega, ?_, by omega, by rw [this]; simp⟩
      unfold sg
      rw [if_neg (by omega), if_neg (by omega), if_neg (by omega), if_neg (by omega), if_neg (by omega), if_neg (by omega)]
    · have e : hd ([45] ++ l) = 45 := rfl
      have : sgn ([45] ++ l) = 1 := by unfold sgn; rw [if_pos e]
      refine ⟨this, .inl e, by rw [e]; decide, by rw [e]; decide, by rw [e]; decide, by rw [this]; simp⟩
  obtain ⟨k1, k2, k3, k4, k5, k6⟩ := key
  have hne : pre ++ l ≠ [] := by simp [hl]
  have hdr : (pre ++ l).drop (sgn (pre ++ l)) = l := by rw [k1, List.drop_left]
  have hdc : dc (pre ++ l) = l.length := by unfold dc; rw [hdr, hgc]
  have hvz : vz (pre ++ l) = vl l := by unfold vz; rw [hdc, hdr, List.take_length]
  have hvi : vi (pre ++ l) = sv pre l := by
    unfold vi sv
    rw [hvz]
    by_cases h : pre = []
    · rw [if_pos h, if_neg]; rw [k6]; simp [h]
    · rw [if_neg h, if_pos (k6.2 h)]
  have hend : mk ((pre ++ l).getD (sgn (pre ++ l) + dc (pre ++ l)) 0).toNat = false := by
    rw [k1, hdc, ← List.length_append, List.getD_eq_getElem?_getD, List.getElem?_eq_none (Nat.le_refl _)]
    rfl
  unfold nx
  rw [skp_none k3, List.drop_zero]
  have e : tok (pre ++ l) = num (pre ++ l) := by
    unfold tok
    rw [if_neg hne, if_neg (by rw [k4]; simp), if_neg k5, if_pos k2]
  rw [e]
  unfold num vo
  rw [hend, hdc, hvi, k1, if_neg (by omega), if_neg (by simp), ← List.length_append]
  by_cases h : -9223372036854775808 ≤ sv pre l ∧ sv pre l ≤ 9223372036854775807
  · rw [if_pos h, if_pos (by simpa using h)]; rfl
  · rw [if_neg h, if_neg (by simpa using h)]; rfl

/-- A whole number of 64 bits, its sign ahead. -/
def sL (n : Int) : List UInt8 := if n < 0 then [45] else []
def nL2 (n : Int) : List UInt8 := sL n ++ dcL n.natAbs
theorem sL_two (n : Int) : sL n = [] ∨ sL n = [45] := by
  unfold sL
  split
  · exact .inr rfl
  · exact .inl rfl
theorem sv_num (n : Int) (l : List UInt8) : sv (sL n) l = if n < 0 then -(vl l : Int) else (vl l : Int) := by
  unfold sv sL
  by_cases h : n < 0
  · rw [if_pos h, if_neg (by simp)]; rw [if_pos h]
  · rw [if_neg h, if_pos rfl]; rw [if_neg h]
theorem number_is (n : Int) (h1 : -9223372036854775808 ≤ n) (h2 : n ≤ 9223372036854775807) : nx (nL2 n) = (0, ⟨8, 0, (nL2 n).length, [], n⟩) := by
  obtain ⟨f1, f2, f3, f4⟩ := dcL_facts n.natAbs (by omega)
  unfold nL2
  have hs : sv (sL n) (dcL n.natAbs) = n := by rw [sv_num, f3]; split <;> omega
  rw [tok_digits (sL n) _ (sL_two n) f1 f2 (fun e => by rw [f4 e]; rfl), hs, if_pos ⟨h1, h2⟩]
theorem number_more (n : Int) (k : Nat) (hk : k < 10) (h1 : -9223372036854775808 ≤ n) (h2 : n ≤ 9223372036854775807) (h0 : n ≠ 0) :
    nx (nL2 n ++ [d8 k]) = if -9223372036854775808 ≤ 10 * n + (if n < 0 then -(k : Int) else (k : Int)) ∧ 10 * n + (if n < 0 then -(k : Int) else (k : Int)) ≤ 9223372036854775807 then
      (0, ⟨8, 0, (nL2 n ++ [d8 k]).length, [], 10 * n + (if n < 0 then -(k : Int) else (k : Int))⟩) else (6, bad 0) := by
  obtain ⟨f1, f2, f3, f4⟩ := dcL_facts n.natAbs (by omega)
  unfold nL2
  rw [List.append_assoc]
  have hs : sv (sL n) (dcL n.natAbs ++ [d8 k]) = 10 * n + (if n < 0 then -(k : Int) else (k : Int)) := by
    rw [sv_num, vl_snoc, f3, d8_nat hk]; split <;> omega
  rw [tok_digits (sL n) _ (sL_two n) (by simp) ?_ ?_, hs]
  · intro c hc
    rcases List.mem_append.1 hc with h | h
    · exact f2 c h
    · rw [List.mem_singleton.1 h]; exact d8_dg hk
  · intro e
    rw [hd_left _ _ f1] at e
    have := f4 e
    omega
theorem nL2_len (n : Int) : (nL2 n).length ≤ 21 := by
  unfold nL2
  rw [List.length_append]
  have := dcL_len n.natAbs
  rcases sL_two n with e | e <;> rw [e] <;> simp <;> omega
end Go.Proofs.YtggahjhjapnfeaaDoor.Lx
