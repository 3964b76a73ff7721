/- Plain facts of tokens: what stands at the head of a text, all tokens, what is cut again; no program. Conditions: as each theorem states. -/
import Derived.Test.YtggahjhjapnfeaaDoorQuoMath
namespace Go.Proofs.YtggahjhjapnfeaaDoor.Lx
open Go.Lib Go.Proofs.YtggahjhjapnfeaaDoor.Utf Go.Proofs.YtggahjhjapnfeaaDoor.Oct Go.Proofs.YtggahjhjapnfeaaDoor.Quo

/-! ### bytes -/
def hd (l : List UInt8) : Nat := (l.getD 0 0).toNat
def bl (c : Nat) : Bool := decide (c = 32 ∨ c = 9 ∨ c = 10 ∨ c = 13)
def dg (c : Nat) : Bool := decide (48 ≤ c ∧ c ≤ 57)
def mk (c : Nat) : Bool := decide (c = 46 ∨ c = 101 ∨ c = 69)
def sg (c : Nat) : Nat := if c = 123 then 1 else if c = 125 then 2 else if c = 91 then 3 else if c = 93 then 4 else if c = 58 then 5 else if c = 44 then 6 else 0
/-- The blanks at the head. -/
def skp : List UInt8 → Nat
  | [] => 0
  | c :: l => if bl c.toNat = true then skp l + 1 else 0
/-- The digits at the head. -/
def dgs : List UInt8 → Nat
  | [] => 0
  | c :: l => if dg c.toNat = true then dgs l + 1 else 0
/-- The digits of the number at the head. -/
def dgc (l : List UInt8) : Nat := if hd l = 48 then 1 else dgs l
def vl (l : List UInt8) : Nat := l.foldl (fun n c => 10 * n + (c.toNat - 48)) 0

/-- A token: its kind, where it begins, its bytes, its text, its number. -/
structure Tk where
  k : Nat
  o : Nat
  z : Nat
  v : List UInt8
  n : Int
def bad (o : Nat) : Tk := ⟨0, o, 0, [], 0⟩
def Tk.sh (b : Nat) (t : Tk) : Tk := ⟨t.k, b + t.o, t.z, t.v, t.n⟩

def sgn (l : List UInt8) : Nat := if hd l = 45 then 1 else 0
/-- The number's digits, from the head on. -/
def dc (l : List UInt8) : Nat := dgc (l.drop (sgn l))
def vz (l : List UInt8) : Nat := vl ((l.drop (sgn l)).take (dc l))
/-- The number's value, and whether it has room. -/
def vi (l : List UInt8) : Int := if sgn l = 1 then -(vz l : Int) else (vz l : Int)
def vo (l : List UInt8) : Bool := decide (-9223372036854775808 ≤ vi l ∧ vi l ≤ 9223372036854775807)
/-- The error and the token at the head. -/
def num (l : List UInt8) : Nat × Tk :=
  if dc l = 0 then (4, bad 0) else if mk (l.getD (sgn l + dc l) 0).toNat = true then (18, bad 0) else if vo l = true then (0, ⟨8, 0, sgn l + dc l, [], vi l⟩) else (6, bad 0)
def wrd (l : List UInt8) : Nat × Tk :=
  if l.take 4 = [116, 114, 117, 101] then (0, ⟨9, 0, 4, [], 0⟩) else if l.take 5 = [102, 97, 108, 115, 101] then (0, ⟨10, 0, 5, [], 0⟩) else if l.take 4 = [110, 117, 108, 108] then (0, ⟨11, 0, 4, [], 0⟩) else (4, bad 0)
def txt (l : List UInt8) : Nat × Tk :=
  if (tkQ (l.drop 1)).1 = 0 then (0, ⟨7, 0, (tkQ (l.drop 1)).2.1 + 1, (tkQ (l.drop 1)).2.2, 0⟩) else ((tkQ (l.drop 1)).1, bad ((tkQ (l.drop 1)).2.1 + 1))
def tok (l : List UInt8) : Nat × Tk :=
  if l = [] then (0, bad 0) else if sg (hd l) ≠ 0 then (0, ⟨sg (hd l), 0, 1, [], 0⟩) else if hd l = 34 then txt l else if hd l = 45 ∨ dg (hd l) = true then num l else wrd l
/-- The first token behind blanks. -/
def nx (l : List UInt8) : Nat × Tk := ((tok (l.drop (skp l))).1, (tok (l.drop (skp l))).2.sh (skp l))
/-- All tokens: the error, where it stands, the tokens. -/
def tks : Nat → Nat → List UInt8 → Nat × Nat × List Tk
  | 0, _, _ => (99, 0, [])
  | f + 1, b, l => if (nx l).1 ≠ 0 then ((nx l).1, b + (nx l).2.o, []) else if (nx l).2.k = 0 then (0, 0, [(nx l).2.sh b])
      else if (tks f (b + (nx l).2.o + (nx l).2.z) (l.drop ((nx l).2.o + (nx l).2.z))).1 = 0 then (0, 0, (nx l).2.sh b :: (tks f (b + (nx l).2.o + (nx l).2.z) (l.drop ((nx l).2.o + (nx l).2.z))).2.2)
      else tks f (b + (nx l).2.o + (nx l).2.z) (l.drop ((nx l).2.o + (nx l).2.z))

/-! ### sizes -/
theorem skp_le : ∀ l, skp l ≤ l.length
  | [] => Nat.le_refl _
  | c :: l => by rw [skp]; have := skp_le l; split <;> simp <;> omega
theorem dgs_le : ∀ l, dgs l ≤ l.length
  | [] => Nat.le_refl _
  | c :: l => by rw [dgs]; have := dgs_le l; split <;> simp <;> omega
theorem hd_ne {l : List UInt8} (h : hd l ≠ 0) : l ≠ [] := by rintro rfl; exact h rfl
theorem dgc_le (l : List UInt8) : dgc l ≤ l.length := by
  unfold dgc
  split
  · rename_i h; exact List.length_pos_iff.2 (hd_ne (by omega))
  · exact dgs_le l
theorem sgn_le1 (l : List UInt8) : sgn l ≤ 1 := by unfold sgn; split <;> omega
theorem dc_le (l : List UInt8) : sgn l + dc l ≤ l.length := by
  have h1 := dgc_le (l.drop (sgn l))
  rw [List.length_drop] at h1
  unfold dc
  by_cases h : hd l = 45
  · have h2 := List.length_pos_iff.2 (hd_ne (l := l) (by omega))
    have : sgn l = 1 := if_pos h
    omega
  · have : sgn l = 0 := if_neg h
    omega
theorem take_le {l : List UInt8} {n : Nat} {x : List UInt8} (h : l.take n = x) : x.length ≤ l.length := by
  rw [← h, List.length_take]; omega
theorem num_good (l : List UInt8) (h : (num l).1 = 0) : num l = (0, ⟨8, 0, sgn l + dc l, [], vi l⟩) ∧ 0 < dc l ∧ mk (l.getD (sgn l + dc l) 0).toNat = false ∧ vo l = true := by
  unfold num at h ⊢
  by_cases h1 : dc l = 0
  · rw [if_pos h1] at h; cases h
  · rw [if_neg h1] at h ⊢
    by_cases h2 : mk (l.getD (sgn l + dc l) 0).toNat = true
    · rw [if_pos h2] at h; cases h
    · rw [if_neg h2] at h ⊢
      by_cases h3 : vo l = true
      · rw [if_pos h3]; exact ⟨rfl, by omega, by simpa using h2, h3⟩
      · rw [if_neg h3] at h; cases h
theorem num_bad (l : List UInt8) (h : (num l).1 ≠ 0) : (num l).2 = bad 0 := by
  unfold num at h ⊢
  repeat' split
  all_goals first | rfl | skip
  exfalso
  apply h
  rw [if_neg (by assumption), if_neg (by assumption), if_pos (by assumption)]
theorem wrd_cases (l : List UInt8) : (wrd l = (0, ⟨9, 0, 4, [], 0⟩) ∧ 4 ≤ l.length ∧ l.take 4 = [116, 114, 117, 101]) ∨ (wrd l = (0, ⟨10, 0, 5, [], 0⟩) ∧ 5 ≤ l.length ∧ l.take 5 = [102, 97, 108, 115, 101]) ∨ (wrd l = (0, ⟨11, 0, 4, [], 0⟩) ∧ 4 ≤ l.length ∧ l.take 4 = [110, 117, 108, 108]) ∨
    (wrd l = (4, bad 0) ∧ l.take 4 ≠ [116, 114, 117, 101] ∧ l.take 5 ≠ [102, 97, 108, 115, 101] ∧ l.take 4 ≠ [110, 117, 108, 108]) := by
  by_cases h1 : l.take 4 = [116, 114, 117, 101]
  · exact .inl ⟨if_pos h1, take_le h1, h1⟩
  · by_cases h2 : l.take 5 = [102, 97, 108, 115, 101]
    · exact .inr (.inl ⟨by unfold wrd; rw [if_neg h1, if_pos h2], take_le h2, h2⟩)
    · by_cases h3 : l.take 4 = [110, 117, 108, 108]
      · exact .inr (.inr (.inl ⟨by unfold wrd; rw [if_neg h1, if_neg h2, if_pos h3], take_le h3, h3⟩))
      · exact .inr (.inr (.inr ⟨by unfold wrd; rw [if_neg h1, if_neg h2, if_neg h3], h1, h2, h3⟩))
theorem sg_le (c : Nat) : sg c ≤ 6 := by unfold sg; repeat' split
                                         all_goals omega
/-- Of the token at the head: what it can be. -/
theorem tok_good (l : List UInt8) (h : (tok l).1 = 0) : (tok l).2.o = 0 ∧ ((tok l).2.k = 0 ↔ l = []) ∧ ((tok l).2.z = 0 ↔ l = []) ∧ (tok l).2.z ≤ l.length ∧ (tok l).2.v.length ≤ (tok l).2.z ∧ (tok l).2.k ≤ 11 := by
  unfold tok at h ⊢
  by_cases h0 : l = []
  · rw [if_pos h0]; subst h0; simp [bad]
  · rw [if_neg h0] at h ⊢
    have hp := List.length_pos_iff.2 h0
    by_cases h1 : sg (hd l) ≠ 0
    · rw [if_pos h1]
      have := sg_le (hd l)
      exact ⟨rfl, ⟨fun e => absurd e h1, fun e => absurd e h0⟩, ⟨fun e => absurd e (by simp), fun e => absurd e h0⟩, by simp only; omega, by simp, by simp only; omega⟩
    · rw [if_neg h1] at h ⊢
      by_cases h2 : hd l = 34
      · rw [if_pos h2] at h ⊢
        unfold txt at h ⊢
        have hq := tkQ_in (l.drop 1)
        rw [List.length_drop] at hq
        by_cases h3 : (tkQ (l.drop 1)).1 = 0
        · rw [if_pos h3]
          exact ⟨rfl, ⟨fun e => absurd e (by simp), fun e => absurd e h0⟩, ⟨fun e => absurd e (by simp), fun e => absurd e h0⟩, by simp only; omega, by simp only; omega, by simp⟩
        · rw [if_neg h3] at h
          exact absurd h h3
      · rw [if_neg h2] at h ⊢
        by_cases h3 : hd l = 45 ∨ dg (hd l) = true
        · rw [if_pos h3] at h ⊢
          obtain ⟨e, h4, _⟩ := num_good l h
          rw [e]
          have h5 := dc_le l
          exact ⟨rfl, ⟨fun e => absurd e (by simp), fun e => absurd e h0⟩, ⟨fun e => absurd e (by simp only; omega), fun e => absurd e h0⟩, h5, by simp, by simp⟩
        · rw [if_neg h3] at h ⊢
          rcases wrd_cases l with ⟨e, h4, _⟩ | ⟨e, h4, _⟩ | ⟨e, h4, _⟩ | ⟨e, _⟩
          · rw [e]; exact ⟨rfl, ⟨fun e => absurd e (by simp), fun e => absurd e h0⟩, ⟨fun e => absurd e (by simp), fun e => absurd e h0⟩, h4, by simp, by simp⟩
          · rw [e]; exact ⟨rfl, ⟨fun e => absurd e (by simp), fun e => absurd e h0⟩, ⟨fun e => absurd e (by simp), fun e => absurd e h0⟩, h4, by simp, by simp⟩
          · rw [e]; exact ⟨rfl, ⟨fun e => absurd e (by simp), fun e => absurd e h0⟩, ⟨fun e => absurd e (by simp), fun e => absurd e h0⟩, h4, by simp, by simp⟩
          · rw [e] at h; cases h
theorem tok_bad (l : List UInt8) (h : (tok l).1 ≠ 0) : (∃ o, (tok l).2 = bad o ∧ o ≤ l.length) ∧ l ≠ [] := by
  unfold tok at h ⊢
  by_cases h0 : l = []
  · rw [if_pos h0] at h; exact absurd rfl h
  · refine ⟨?_, h0⟩
    rw [if_neg h0] at h ⊢
    have hp := List.length_pos_iff.2 h0
    by_cases h1 : sg (hd l) ≠ 0
    · rw [if_pos h1] at h; exact absurd rfl h
    · rw [if_neg h1] at h ⊢
      by_cases h2 : hd l = 34
      · rw [if_pos h2] at h ⊢
        unfold txt at h ⊢
        have hq := tkQ_in (l.drop 1)
        rw [List.length_drop] at hq
        by_cases h3 : (tkQ (l.drop 1)).1 = 0
        · rw [if_pos h3] at h; exact absurd rfl h
        · rw [if_neg h3]
          exact ⟨_, rfl, by omega⟩
      · rw [if_neg h2] at h ⊢
        by_cases h3 : hd l = 45 ∨ dg (hd l) = true
        · rw [if_pos h3] at h ⊢
          exact ⟨0, num_bad l h, by omega⟩
        · rw [if_neg h3] at h ⊢
          rcases wrd_cases l with ⟨e, h4, _⟩ | ⟨e, h4, _⟩ | ⟨e, h4, _⟩ | ⟨e, _⟩
          · rw [e] at h; exact absurd rfl h
          · rw [e] at h; exact absurd rfl h
          · rw [e] at h; exact absurd rfl h
          · rw [e]; exact ⟨0, rfl, by omega⟩
theorem drop_skp {l : List UInt8} (h : l.drop (skp l) = []) : skp l = l.length := by
  have := skp_le l
  have h2 := congrArg List.length h
  rw [List.length_drop] at h2
  simp at h2
  omega
/-- Of the first token: where it stands. -/
theorem nx_good (l : List UInt8) (h : (nx l).1 = 0) : (nx l).2.o = skp l ∧ (nx l).2.o + (nx l).2.z ≤ l.length ∧ ((nx l).2.k = 0 ↔ skp l = l.length) ∧ ((nx l).2.z = 0 ↔ (nx l).2.k = 0) ∧ (nx l).2.v.length ≤ (nx l).2.z ∧ (nx l).2.k ≤ 11 := by
  have h1 := tok_good (l.drop (skp l)) h
  obtain ⟨a, b, c, d, e, f⟩ := h1
  have hs := skp_le l
  have hn : l.drop (skp l) = [] ↔ skp l = l.length := ⟨drop_skp, fun e => by rw [e, List.drop_length]⟩
  rw [List.length_drop] at d
  refine ⟨by show skp l + _ = _; omega, by show skp l + _ + _ ≤ _; rw [show (nx l).2.z = (tok (l.drop (skp l))).2.z from rfl]; omega, b.trans hn, c.trans b.symm, e, f⟩
theorem nx_bad (l : List UInt8) (h : (nx l).1 ≠ 0) : ∃ o, (nx l).2 = bad o ∧ o ≤ l.length := by
  obtain ⟨⟨o, h1, h2⟩, _⟩ := tok_bad (l.drop (skp l)) h
  have hs := skp_le l
  rw [List.length_drop] at h2
  refine ⟨skp l + o, ?_, by omega⟩
  show Tk.sh _ _ = _
  rw [h1]; rfl
/-- Fewer bytes behind each token. -/
theorem nx_step (l : List UInt8) (h : (nx l).1 = 0) (hk : (nx l).2.k ≠ 0) : 0 < (nx l).2.z ∧ (nx l).2.o + (nx l).2.z ≤ l.length := by
  obtain ⟨_, b, _, d, _, _⟩ := nx_good l h
  exact ⟨Nat.pos_of_ne_zero fun e => hk (d.1 e), b⟩
theorem tks_fuel : ∀ (f g b : Nat) (l : List UInt8), l.length < f → l.length < g → tks f b l = tks g b l
  | 0, _, _, _, h, _ => by omega
  | _ + 1, 0, _, _, _, h => by omega
  | f + 1, g + 1, b, l, hf, hg => by
    rw [tks, tks]
    by_cases h : (nx l).1 ≠ 0
    · rw [if_pos h, if_pos h]
    · rw [if_neg h, if_neg h]
      by_cases hk : (nx l).2.k = 0
      · rw [if_pos hk, if_pos hk]
      · rw [if_neg hk, if_neg hk]
        have := nx_step l (by omega) hk
        rw [tks_fuel f g _ (l.drop ((nx l).2.o + (nx l).2.z)) (by rw [List.length_drop]; omega) (by rw [List.length_drop]; omega)]
/-- All tokens from place b on. -/
def tkA (b : Nat) (l : List UInt8) : Nat × Nat × List Tk := tks (l.length + 1) b l
theorem tkA_bad (b : Nat) (l : List UInt8) (h : (nx l).1 ≠ 0) : tkA b l = ((nx l).1, b + (nx l).2.o, []) := by unfold tkA; rw [tks, if_pos h]
theorem tkA_end (b : Nat) (l : List UInt8) (h : (nx l).1 = 0) (hk : (nx l).2.k = 0) : tkA b l = (0, 0, [(nx l).2.sh b]) := by unfold tkA; rw [tks, if_neg (by omega), if_pos hk]
theorem tkA_step (b : Nat) (l : List UInt8) (h : (nx l).1 = 0) (hk : (nx l).2.k ≠ 0) :
    tkA b l = if (tkA (b + (nx l).2.o + (nx l).2.z) (l.drop ((nx l).2.o + (nx l).2.z))).1 = 0 then (0, 0, (nx l).2.sh b :: (tkA (b + (nx l).2.o + (nx l).2.z) (l.drop ((nx l).2.o + (nx l).2.z))).2.2)
      else tkA (b + (nx l).2.o + (nx l).2.z) (l.drop ((nx l).2.o + (nx l).2.z)) := by
  have h1 := nx_step l h hk
  have e : ∀ b', tks l.length b' (l.drop ((nx l).2.o + (nx l).2.z)) = tkA b' (l.drop ((nx l).2.o + (nx l).2.z)) := fun b' => tks_fuel _ _ _ _ (by rw [List.length_drop]; omega) (by omega)
  conv => lhs; unfold tkA; rw [tks]
  rw [if_neg (by omega), if_neg hk, e]
/-- By its tokens. -/
theorem tok_len {p : Nat → List UInt8 → Prop} (hb : ∀ b l, (nx l).1 ≠ 0 → p b l) (he : ∀ b l, (nx l).1 = 0 → (nx l).2.k = 0 → p b l)
    (hs : ∀ b l, (nx l).1 = 0 → (nx l).2.k ≠ 0 → p (b + (nx l).2.o + (nx l).2.z) (l.drop ((nx l).2.o + (nx l).2.z)) → p b l) : ∀ (n b : Nat) (l : List UInt8), l.length < n → p b l
  | 0, _, _, h => by omega
  | n + 1, b, l, hn => by
    by_cases h : (nx l).1 = 0
    · by_cases hk : (nx l).2.k = 0
      · exact he b l h hk
      · have := nx_step l h hk
        exact hs b l h hk (tok_len hb he hs n _ _ (by rw [List.length_drop]; omega))
    · exact hb b l h
theorem tok_ind {p : Nat → List UInt8 → Prop} (hb : ∀ b l, (nx l).1 ≠ 0 → p b l) (he : ∀ b l, (nx l).1 = 0 → (nx l).2.k = 0 → p b l)
    (hs : ∀ b l, (nx l).1 = 0 → (nx l).2.k ≠ 0 → p (b + (nx l).2.o + (nx l).2.z) (l.drop ((nx l).2.o + (nx l).2.z)) → p b l) (b : Nat) (l : List UInt8) : p b l := tok_len hb he hs (l.length + 1) b l (by omega)
end Go.Proofs.YtggahjhjapnfeaaDoor.Lx
