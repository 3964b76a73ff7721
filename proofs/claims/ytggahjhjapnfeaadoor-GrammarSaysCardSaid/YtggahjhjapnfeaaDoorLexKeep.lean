/- Plain facts of tokens: what is read stays as it is when other bytes follow; tokens laid behind one another are cut again. Conditions: as each theorem states. -/
import Derived.Test.YtggahjhjapnfeaaDoorLexMath
namespace Go.Proofs.YtggahjhjapnfeaaDoor.Lx
open Go.Lib Go.Proofs.YtggahjhjapnfeaaDoor.Utf Go.Proofs.YtggahjhjapnfeaaDoor.Oct Go.Proofs.YtggahjhjapnfeaaDoor.Quo

theorem getD_left (p x : List UInt8) (i : Nat) (h : i < p.length) : (p ++ x).getD i 0 = p.getD i 0 := by
  rw [List.getD_eq_getElem?_getD, List.getElem?_append_left h, ← List.getD_eq_getElem?_getD]
theorem take_left (p x : List UInt8) (n : Nat) (h : n ≤ p.length) : (p ++ x).take n = p.take n := by
  rw [List.take_append, show n - p.length = 0 by omega, List.take_zero, List.append_nil]
theorem drop_left (p x : List UInt8) (n : Nat) (h : n ≤ p.length) : (p ++ x).drop n = p.drop n ++ x := by
  rw [List.drop_append, show n - p.length = 0 by omega, List.drop_zero]

/-! ### quoted strings -/
theorem nO_long (p x : List UInt8) (h : 6 ≤ p.length) : nO (p ++ x) = if p.take 2 = [92, 117] then hxF 0 ((p.drop 2).take 4) else none := by
  unfold nO
  rw [take_left p x 2 (by omega), drop_left p x 2 (by omega)]
  unfold h4
  have hl : 4 ≤ (p.drop 2 ++ x).length := by rw [List.length_append, List.length_drop]; omega
  rw [if_pos hl, take_left _ x 4 (by rw [List.length_drop]; omega)]
theorem nP_alone {n : Nat} (h : vB n = true) (o : Option Nat) : nP n o = (n, 6) := by
  unfold nP
  cases o with
  | none => rfl
  | some m =>
    simp only
    rw [if_neg]
    unfold pr vB at *
    simp only [decide_eq_true_eq] at *
    omega
theorem nP_six {n : Nat} {o : Option Nat} (h : (nP n o).2 = 6) : (nP n o).1 = n := by
  unfold nP at h ⊢
  cases o with
  | none => rfl
  | some m =>
    simp only at h ⊢
    split
    · rename_i hp; rw [if_pos hp] at h; cases h
    · rfl
theorem escL_keep (p r t : List UInt8) (h : (escL (p ++ r)).1 = 0) (hm : (escL (p ++ r)).2.1 ≤ p.length) : escL (p ++ t) = escL (p ++ r) := by
  have h1 := (escL_ok h).1
  have hg : 2 ≤ p.length → (p ++ t).getD 1 0 = (p ++ r).getD 1 0 := fun h2 => by rw [getD_left p t 1 (by omega), getD_left p r 1 (by omega)]
  unfold escL at h hm ⊢
  by_cases hl : ltN ((p ++ r).getD 1 0).toNat < 256
  · rw [if_pos hl] at hm ⊢
    simp only at hm
    rw [hg hm, if_pos hl]
  · rw [if_neg hl] at h hm ⊢
    cases hn : nO (p ++ r) with
    | none => rw [hn] at h; cases h
    | some n =>
      rw [hn] at h hm
      simp only at h hm ⊢
      by_cases hv : vB (nP n (nO ((p ++ r).drop 6))).1 = true
      · rw [if_pos hv] at hm
        simp only at hm
        have h6 : 6 ≤ p.length := by rcases nP_size n (nO ((p ++ r).drop 6)) with e | ⟨e, _⟩ <;> omega
        have e1 : nO (p ++ t) = some n := by rw [nO_long p t h6, ← nO_long p r h6, hn]
        rw [hg (by omega), if_neg hl, e1]
        simp only
        have e2 : nP n (nO ((p ++ t).drop 6)) = nP n (nO ((p ++ r).drop 6)) := by
          rcases nP_size n (nO ((p ++ r).drop 6)) with e | ⟨e, _⟩
          · have e3 := nP_six e
            rw [e3] at hv
            rw [nP_alone hv, nP_alone hv]
          · rw [drop_left p t 6 h6, drop_left p r 6 h6, nO_long _ t (by rw [List.length_drop]; omega), nO_long _ r (by rw [List.length_drop]; omega)]
        rw [e2]
      · rw [if_neg hv] at h; cases h
theorem wL_keep (p r t : List UInt8) (h : 0 < wL (p ++ r)) (hm : wL (p ++ r) ≤ p.length) : wL (p ++ t) = wL (p ++ r) := by
  have hv : vN (nL (p ++ r)) := rnL_valid _ _ (by rw [rnL_step h]; exact List.mem_cons_self)
  have e := enc_wL h
  rw [take_left p r _ hm] at e
  have e2 : p ++ t = encodeRune (nL (p ++ r) : Int) ++ (p.drop (wL (p ++ r)) ++ t) := by
    rw [e, ← List.append_assoc, List.take_append_drop]
  rw [e2, (wL_enc _ _ hv).1, e, List.length_take]
  omega
theorem stp_keep (p r t : List UInt8) (hp : p ≠ []) (h : (stp (p ++ r)).1 = 0) (hm : (stp (p ++ r)).2.1 ≤ p.length) : stp (p ++ t) = stp (p ++ r) := by
  have h0 := List.length_pos_iff.2 hp
  have hg : (p ++ t).getD 0 0 = (p ++ r).getD 0 0 := by rw [getD_left p t 0 h0, getD_left p r 0 h0]
  unfold stp at h hm ⊢
  rw [hg]
  by_cases h1 : ((p ++ r).getD 0 0).toNat = 92
  · rw [if_pos h1] at h hm
    rw [if_pos h1, if_pos h1]
    exact escL_keep p r t h hm
  · rw [if_neg h1] at h hm
    rw [if_neg h1, if_neg h1]
    by_cases h2 : ((p ++ r).getD 0 0).toNat < 32
    · rw [if_pos h2] at h; cases h
    · rw [if_neg h2] at h hm
      rw [if_neg h2, if_neg h2]
      by_cases h3 : wL (p ++ r) = 0
      · rw [if_pos h3] at h; cases h
      · rw [if_neg h3] at hm
        simp only at hm
        rw [wL_keep p r t (by omega) hm, if_neg h3, if_neg h3, take_left p t _ hm, take_left p r _ hm]
theorem tkQ_len : ∀ (n : Nat) (p r t : List UInt8), p.length < n → (tkQ (p ++ r)).1 = 0 → (tkQ (p ++ r)).2.1 ≤ p.length → tkQ (p ++ t) = tkQ (p ++ r)
  | 0, _, _, _, h, _, _ => by omega
  | n + 1, p, r, t, hn, h, hm => by
    have h1 := (tkQ_end (p ++ r) h).1
    have hp : p ≠ [] := by rintro rfl; rw [List.length_nil] at hm; omega
    have h0 := List.length_pos_iff.2 hp
    have hg : (p ++ t).getD 0 0 = (p ++ r).getD 0 0 := by rw [getD_left p t 0 h0, getD_left p r 0 h0]
    have hr : p ++ r ≠ [] := by simp [hp]
    have ht : p ++ t ≠ [] := by simp [hp]
    by_cases h34 : ((p ++ r).getD 0 0).toNat = 34
    · rw [tkQ_close h34, tkQ_close (by rw [hg]; exact h34)]
    · by_cases hs : (stp (p ++ r)).1 = 0
      · have hst := tkQ_step hr h34 hs
        have hok := stp_ok hr hs
        rw [hst] at h hm
        simp only at h hm
        have hk := stp_keep p r t hp hs (by omega)
        rw [drop_left p r _ (by omega)] at h hm
        have ih := tkQ_len n (p.drop (stp (p ++ r)).2.1) r t (by rw [List.length_drop]; omega) h (by rw [List.length_drop]; omega)
        rw [tkQ_step ht (by rw [hg]; exact h34) (by rw [hk]; exact hs), hst, hk, drop_left p r _ (by omega), drop_left p t _ (by omega), ih]
      · rw [tkQ_bad hr h34 hs] at h
        exact absurd h hs
/-- What is taken hangs on the bytes taken alone. -/
theorem tkQ_keep (p r t : List UInt8) (h : (tkQ (p ++ r)).1 = 0) (hm : (tkQ (p ++ r)).2.1 ≤ p.length) : tkQ (p ++ t) = tkQ (p ++ r) := tkQ_len (p.length + 1) p r t (by omega) h hm

/-! ### tokens -/
theorem dgs_keep : ∀ (p : List UInt8) (r : List UInt8) (c : UInt8) (t : List UInt8), dgs (p ++ r) = p.length → dg c.toNat = false → dgs (p ++ c :: t) = p.length
  | [], r, c, t, _, hc => by rw [List.nil_append, dgs, if_neg (by simp [hc])]; rfl
  | a :: p, r, c, t, h, hc => by
    rw [List.cons_append, dgs] at h ⊢
    by_cases hd : dg a.toNat = true
    · rw [if_pos hd] at h ⊢
      rw [List.length_cons] at h ⊢
      rw [dgs_keep p r c t (by omega) hc]
    · rw [if_neg hd] at h
      simp at h
theorem hd_left (p x : List UInt8) (h : p ≠ []) : hd (p ++ x) = hd p := by unfold hd; rw [getD_left p x 0 (List.length_pos_iff.2 h)]
theorem dgc_keep (p r : List UInt8) (c : UInt8) (t : List UInt8) (hp : p ≠ []) (h : dgc (p ++ r) = p.length) (hc : dg c.toNat = false) : dgc (p ++ c :: t) = p.length := by
  unfold dgc at h ⊢
  rw [hd_left p _ hp] at h ⊢
  by_cases h0 : hd p = 48
  · rw [if_pos h0] at h ⊢; exact h
  · rw [if_neg h0] at h ⊢; exact dgs_keep p r c t h hc
theorem bl_dg (c : Nat) (h : bl c = true) : dg c = false ∧ mk c = false := by
  unfold bl at h; unfold dg mk
  simp only [decide_eq_true_eq, decide_eq_false_iff_not] at *
  omega
theorem num_keep (p r : List UInt8) (c : UInt8) (t : List UInt8) (h : (num (p ++ r)).1 = 0) (hz : (num (p ++ r)).2.z = p.length) (hc : bl c.toNat = true) : num (p ++ c :: t) = num (p ++ r) := by
  obtain ⟨e, h1, h2, h3⟩ := num_good _ h
  obtain ⟨c1, c2⟩ := bl_dg _ hc
  rw [e] at hz
  simp only at hz
  have hp : p ≠ [] := by rintro rfl; rw [List.length_nil] at hz; omega
  have hs : ∀ x, sgn (p ++ x) = sgn p := fun x => by unfold sgn; rw [hd_left p x hp]
  have hsl := sgn_le1 p
  rw [hs] at hz
  have hsp : sgn p < p.length := by omega
  have hdr : ∀ x, (p ++ x).drop (sgn p) = p.drop (sgn p) ++ x := fun x => drop_left p x _ (by omega)
  have hpd : p.drop (sgn p) ≠ [] := fun e => by have := congrArg List.length e; rw [List.length_drop] at this; simp at this; omega
  have hdc : dc (p ++ c :: t) = dc (p ++ r) := by
    have : dc (p ++ r) = (p.drop (sgn p)).length := by rw [List.length_drop]; omega
    rw [this]
    unfold dc at this ⊢
    rw [hs, hdr] at this ⊢
    exact dgc_keep _ r c t hpd this c1
  have hvz : vz (p ++ c :: t) = vz (p ++ r) := by
    unfold vz
    rw [hdc, hs, hs, hdr, hdr, take_left _ _ _ (by rw [List.length_drop]; omega), take_left _ _ _ (by rw [List.length_drop]; omega)]
  have hvi : vi (p ++ c :: t) = vi (p ++ r) := by unfold vi; rw [hvz, hs, hs]
  have hvo : vo (p ++ c :: t) = true := by unfold vo at h3 ⊢; rw [hvi]; exact h3
  rw [e]
  unfold num
  rw [hdc, hs, hs, if_neg (by omega), hz, if_neg, hvo, if_pos rfl, hvi]
  rw [List.getD_eq_getElem?_getD, List.getElem?_append_right (Nat.le_refl _), Nat.sub_self]
  simp [c2]
theorem take_app {l x : List UInt8} {n : Nat} (h : l.take n = x) (p r : List UInt8) (e : l = p ++ r) (hp : n ≤ p.length) (t : List UInt8) : (p ++ t).take n = x := by
  rw [take_left p t n hp, ← take_left p r n hp, ← e, h]
/-- A token stays when a blank follows. -/
theorem tok_keep (p r : List UInt8) (c : UInt8) (t : List UInt8) (hp : p ≠ []) (h : (tok (p ++ r)).1 = 0) (hz : (tok (p ++ r)).2.z = p.length) (hc : bl c.toNat = true) : tok (p ++ c :: t) = tok (p ++ r) := by
  have hpl := List.length_pos_iff.2 hp
  unfold tok at h hz ⊢
  have hn : ∀ x, p ++ x ≠ [] := fun x => by simp [hp]
  rw [if_neg (hn _)] at h hz ⊢
  rw [if_neg (hn _), hd_left p _ hp]
  rw [hd_left p _ hp] at h hz ⊢
  by_cases h1 : sg (hd p) ≠ 0
  · rw [if_pos h1, if_pos h1]
  · rw [if_neg h1] at h hz
    rw [if_neg h1, if_neg h1]
    by_cases h2 : hd p = 34
    · rw [if_pos h2] at h hz
      rw [if_pos h2, if_pos h2]
      unfold txt at h hz ⊢
      rw [drop_left p r 1 hpl] at h hz ⊢
      rw [drop_left p _ 1 hpl]
      by_cases h3 : (tkQ (p.drop 1 ++ r)).1 = 0
      · rw [if_pos h3] at hz
        simp only at hz
        rw [tkQ_keep (p.drop 1) r (c :: t) h3 (by rw [List.length_drop]; omega)]
      · rw [if_neg h3] at h; exact absurd h h3
    · rw [if_neg h2] at h hz
      rw [if_neg h2, if_neg h2]
      by_cases h3 : hd p = 45 ∨ dg (hd p) = true
      · rw [if_pos h3] at h hz
        rw [if_pos h3, if_pos h3]
        exact num_keep p r c t h hz hc
      · rw [if_neg h3] at h hz
        rw [if_neg h3, if_neg h3]
        rcases wrd_cases (p ++ r) with ⟨e, _, h4⟩ | ⟨e, _, h4⟩ | ⟨e, _, h4⟩ | ⟨e, _⟩
        · rw [e] at hz
          have h5 := take_app h4 p r rfl (by simp only at hz; omega) (c :: t)
          rw [e]; unfold wrd; rw [if_pos h5]
        · rw [e] at hz
          have h5 := take_app h4 p r rfl (by simp only at hz; omega) (c :: t)
          rw [e]; unfold wrd
          rw [if_neg, if_pos h5]
          intro h6
          have h7 := congrArg (List.take 4) h5
          rw [List.take_take, show min 4 5 = 4 from rfl, h6] at h7
          exact absurd h7 (by decide)
        · rw [e] at hz
          have h5 := take_app h4 p r rfl (by simp only at hz; omega) (c :: t)
          rw [e]; unfold wrd
          rw [if_neg, if_neg, if_pos h5]
          · intro h6
            have h7 := congrArg (List.take 4) h6
            rw [List.take_take, show min 4 5 = 4 from rfl, h5] at h7
            exact absurd h7 (by decide)
          · rw [h5]; decide
        · rw [e] at h; cases h

/-! ### laid behind one another -/
/-- A token's bytes in S, with the blank c behind each. -/
def piece (S : List UInt8) (c : UInt8) (x : Tk) : List UInt8 := (S.drop x.o).take x.z ++ [c]
def laid (S : List UInt8) (c : UInt8) (L : List Tk) : List UInt8 := L.flatMap (piece S c)
theorem laid_cons (S : List UInt8) (c : UInt8) (x : Tk) (L : List Tk) : laid S c (x :: L) = (S.drop x.o).take x.z ++ c :: laid S c L := by simp [laid, piece]
theorem laid_nil (S : List UInt8) (c : UInt8) : laid S c [] = [] := rfl
theorem laid_snoc (S : List UInt8) (c : UInt8) (L : List Tk) (x : Tk) : laid S c (L ++ [x]) = laid S c L ++ piece S c x := by simp [laid]
/-- All but the place. -/
def core (x : Tk) : Nat × Nat × List UInt8 × Int := (x.k, x.z, x.v, x.n)
theorem skp_none {l : List UInt8} (h : bl (hd l) = false) : skp l = 0 := by
  cases l with
  | nil => rfl
  | cons c l => rw [skp, if_neg]; unfold hd at h; simpa using h
theorem skp_head (l : List UInt8) : bl (hd (l.drop (skp l))) = false := by
  induction l with
  | nil => rfl
  | cons c l ih =>
    rw [skp]
    by_cases h : bl c.toNat = true
    · rw [if_pos h, List.drop_succ_cons]; exact ih
    · rw [if_neg h, List.drop_zero]; unfold hd; simpa using h
theorem skp_cons {c : UInt8} (l : List UInt8) (h : bl c.toNat = true) : skp (c :: l) = skp l + 1 := by rw [skp, if_pos h]
/-- The blanks ahead of a text: none, or one. -/
theorem nx_pre {pre : List UInt8} (h : ∀ c ∈ pre, bl c.toNat = true) (l : List UInt8) : nx (pre ++ l) = ((nx l).1, (nx l).2.sh pre.length) ∧ skp (pre ++ l) = pre.length + skp l := by
  induction pre with
  | nil => refine ⟨?_, by simp⟩; simp [Tk.sh]
  | cons c pre ih =>
    obtain ⟨i1, i2⟩ := ih fun d hd => h d (List.mem_cons_of_mem _ hd)
    have hs : skp (c :: (pre ++ l)) = skp (pre ++ l) + 1 := skp_cons _ (h c List.mem_cons_self)
    have e : nx (c :: (pre ++ l)) = ((nx (pre ++ l)).1, (nx (pre ++ l)).2.sh 1) := by
      unfold nx
      rw [hs, List.drop_succ_cons]
      refine Prod.ext rfl ?_
      simp [Tk.sh]; omega
    rw [List.cons_append, e, i1, hs, i2]
    refine ⟨Prod.ext rfl ?_, by rw [List.length_cons]; omega⟩
    simp [Tk.sh]; omega
theorem tok_end {l : List UInt8} (h : (nx l).1 = 0) (hk : (nx l).2.k = 0) : (nx l).2.v = [] ∧ (nx l).2.n = 0 := by
  have h1 := (nx_good l h).2.2.1.1 hk
  have h2 : l.drop (skp l) = [] := by rw [h1, List.drop_length]
  unfold nx
  rw [h2]
  exact ⟨rfl, rfl⟩
theorem piece_split (S : List UInt8) (b : Nat) (l : List UInt8) (hl : l = S.drop b) (o z : Nat) : (S.drop (b + o)).take z = (l.drop o).take z := by rw [hl, List.drop_drop]
/-- What was laid is cut into the same tokens. -/
theorem again (S : List UInt8) (c : UInt8) (hc : bl c.toNat = true) (b : Nat) (l : List UInt8) : ∀ (pre : List UInt8) (b2 : Nat), l = S.drop b → (tkA b l).1 = 0 → (∀ d ∈ pre, bl d.toNat = true) →
    ∃ M, tkA b2 (pre ++ laid S c (tkA b l).2.2) = (0, 0, M) ∧ M.map core = (tkA b l).2.2.map core := by
  refine tok_ind (p := fun b l => ∀ (pre : List UInt8) (b2 : Nat), l = S.drop b → (tkA b l).1 = 0 → (∀ d ∈ pre, bl d.toNat = true) →
    ∃ M, tkA b2 (pre ++ laid S c (tkA b l).2.2) = (0, 0, M) ∧ M.map core = (tkA b l).2.2.map core) ?_ ?_ ?_ b l
  · intro b l h pre b2 hl h0 hpre
    rw [tkA_bad b l h] at h0
    exact absurd h0 h
  · intro b l h hk pre b2 hl h0 hpre
    have hg := nx_good l h
    have hz := hg.2.2.2.1.2 hk
    rw [tkA_end b l h hk, laid_cons, laid_nil]
    have e0 : ((nx l).2.sh b).z = 0 := hz
    rw [e0, List.take_zero, List.nil_append]
    have hn := nx_pre (pre := pre ++ [c]) (by
      intro d hd
      rcases List.mem_append.1 hd with h1 | h1
      · exact hpre d h1
      · rw [List.mem_singleton.1 h1]; exact hc) []
    have e1 : nx [] = (0, bad 0) := rfl
    rw [List.append_nil, e1] at hn
    have hx1 : (nx (pre ++ [c])).1 = 0 := by rw [hn.1]
    have hx2 : (nx (pre ++ [c])).2.k = 0 := by rw [hn.1]; rfl
    refine ⟨_, tkA_end b2 _ hx1 hx2, ?_⟩
    have ht := tok_end h hk
    rw [hn.1, List.map_cons, List.map_cons]
    congr 1
    show (0, 0, [], 0) = ((nx l).2.k, (nx l).2.z, (nx l).2.v, (nx l).2.n)
    rw [hk, hz, ht.1, ht.2]
  · intro b l h hk ih pre b2 hl h0 hpre
    have hst := nx_step l h hk
    have hg := nx_good l h
    have h1 := tkA_step b l h hk
    have hq : (tkA (b + (nx l).2.o + (nx l).2.z) (l.drop ((nx l).2.o + (nx l).2.z))).1 = 0 := by
      by_cases hq : (tkA (b + (nx l).2.o + (nx l).2.z) (l.drop ((nx l).2.o + (nx l).2.z))).1 = 0
      · exact hq
      · rw [h1, if_neg hq] at h0; exact h0
    rw [if_pos hq] at h1
    have e1 : (tkA b l).2.2 = (nx l).2.sh b :: (tkA (b + (nx l).2.o + (nx l).2.z) (l.drop ((nx l).2.o + (nx l).2.z))).2.2 := by rw [h1]
    obtain ⟨M, hM, hF⟩ := ih [c] (b2 + (pre.length + (nx l).2.z)) (by rw [hl, List.drop_drop]; congr 1; omega) hq (by intro d hd; rw [List.mem_singleton.1 hd]; exact hc)
    rw [e1]
    generalize (tkA (b + (nx l).2.o + (nx l).2.z) (l.drop ((nx l).2.o + (nx l).2.z))).2.2 = L at *
    rw [laid_cons]
    obtain ⟨P, hP⟩ : ∃ P, P = (l.drop (skp l)).take (nx l).2.z := ⟨_, rfl⟩
    have hs := skp_le l
    have ho := hg.1
    have hPl : P.length = (nx l).2.z := by rw [hP, List.length_take, List.length_drop]; omega
    have e2 : (S.drop ((nx l).2.sh b).o).take ((nx l).2.sh b).z = P := by
      rw [hP]; show (S.drop (b + (nx l).2.o)).take (nx l).2.z = _
      rw [ho]; exact piece_split S b l hl _ _
    rw [e2]
    have hP0 : P ≠ [] := fun e => by rw [e] at hPl; simp at hPl; omega
    have hsplit : l.drop (skp l) = P ++ (l.drop (skp l)).drop (nx l).2.z := by rw [hP, List.take_append_drop]
    obtain ⟨R, hR⟩ : ∃ R, R = (l.drop (skp l)).drop (nx l).2.z := ⟨_, rfl⟩
    rw [← hR] at hsplit
    have hb0 : bl (hd P) = false := by have := skp_head l; rw [hsplit, hd_left P R hP0] at this; exact this
    have ht : tok (P ++ c :: laid S c L) = tok (P ++ R) := tok_keep P R c _ hP0 (by rw [← hsplit]; exact h) (by rw [← hsplit, hPl]; rfl) hc
    have hsk : skp (P ++ c :: laid S c L) = 0 := skp_none (by rw [hd_left P _ hP0]; exact hb0)
    have hnx : nx (P ++ c :: laid S c L) = (0, ⟨(nx l).2.k, 0, (nx l).2.z, (nx l).2.v, (nx l).2.n⟩) := by
      unfold nx
      rw [hsk, List.drop_zero, ht, ← hsplit]
      have hto := (tok_good (l.drop (skp l)) h).1
      refine Prod.ext h ?_
      show Tk.sh 0 _ = _
      unfold Tk.sh
      rw [hto]
    obtain ⟨np, _⟩ := nx_pre hpre (P ++ c :: laid S c L)
    rw [hnx] at np
    have n1 : (nx (pre ++ (P ++ c :: laid S c L))).1 = 0 := by rw [np]
    have n2 : (nx (pre ++ (P ++ c :: laid S c L))).2.k ≠ 0 := by rw [np]; exact hk
    have hst2 := tkA_step b2 _ n1 n2
    have eo : (nx (pre ++ (P ++ c :: laid S c L))).2.o = pre.length := by rw [np]; rfl
    have ez : (nx (pre ++ (P ++ c :: laid S c L))).2.z = (nx l).2.z := by rw [np]; rfl
    rw [eo, ez] at hst2
    have ed : (pre ++ (P ++ c :: laid S c L)).drop (pre.length + (nx l).2.z) = [c] ++ laid S c L := by
      rw [← List.append_assoc, show pre.length + (nx l).2.z = (pre ++ P).length by rw [List.length_append, hPl], List.drop_left]; rfl
    rw [ed, show b2 + pre.length + (nx l).2.z = b2 + (pre.length + (nx l).2.z) by omega, hM, if_pos rfl] at hst2
    refine ⟨_, hst2, ?_⟩
    rw [List.map_cons, List.map_cons, hF, np]
    rfl
end Go.Proofs.YtggahjhjapnfeaaDoor.Lx
