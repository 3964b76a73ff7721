/- Plain facts: what a text says is no greater than the text. Conditions: as each theorem states. -/
import Derived.Test.YtbpofhlnnldceaaDoorRenMath
namespace Go.Proofs.YtbpofhlnnldceaaDoor.Ren
open Go.Lib Go.Proofs.YtbpofhlnnldceaaDoor.Utf Go.Proofs.YtbpofhlnnldceaaDoor.Quo Go.Proofs.YtbpofhlnnldceaaDoor.Lx Go.Proofs.YtbpofhlnnldceaaDoor.Par
open Go.Proofs.YtbpofhlnnldceaaDoor.Tre (Vt V0 cnt cntL)

/-- Its values and the bytes of its texts. -/
def cw (v : Vt) : Nat := cnt v + wg v
def cwL (l : List Vt) : Nat := cntL l + wgL l
def nmz (ns : List ByteArray) : Nat := (ns.map ByteArray.size).sum
theorem cntL_snoc (l : List Vt) (v : Vt) : cntL (l ++ [v]) = cntL l + cnt v := by
  induction l with
  | nil => simp [cntL]
  | cons x l ih => rw [List.cons_append, cntL, ih, cntL]; omega
theorem wgL_snoc (l : List Vt) (v : Vt) : wgL (l ++ [v]) = wgL l + wg v := by
  induction l with
  | nil => simp [wgL]
  | cons x l ih => rw [List.cons_append, wgL, ih, wgL]; omega
theorem cwL_snoc (l : List Vt) (v : Vt) : cwL (l ++ [v]) = cwL l + cw v := by
  unfold cwL cw
  rw [cntL_snoc, wgL_snoc]
  omega
theorem nmz_snoc (l : List ByteArray) (s : ByteArray) : nmz (l ++ [s]) = nmz l + s.size := by unfold nmz; simp
theorem cw_mk (k n : Int) (s : ByteArray) (l : List Vt) (ns : List ByteArray) : cw (.mk k n s l ns) = 1 + s.size + nmz ns + cwL l := by
  unfold cw cwL nmz
  rw [cnt, wg]
  omega
theorem tx_size (t : Tk) : (tx t).size = t.v.length := by
  show t.v.toArray.size = _
  simp
section
variable {l : List UInt8}
theorem nt_vz (p : Nat) : ∀ t q, nt l p = .ok t q → t.v.length ≤ t.z := by
  intro t q h
  unfold nt at h
  by_cases h0 : (nx (l.drop p)).1 = 0
  · rw [if_pos h0] at h
    injection h with h1 h2
    have := (nx_good _ h0).2.2.2.2.1
    rw [← h1]
    exact this
  · rw [if_neg h0] at h; cases h
theorem nt_good2 (p : Nat) (hp : p ≤ l.length) : Gd l.length (fun t q => (At l t q ∧ t.v.length ≤ t.z) ∧ p ≤ t.o) p (nt l p) := by
  have h := nt_good l p hp
  have k := nt_vz (l := l) p
  cases hn : nt l p with
  | ok t q =>
    rw [hn] at h
    exact ⟨h.1, h.2.1, ⟨h.2.2.1, k t q hn⟩, h.2.2.2⟩
  | no o e => rw [hn] at h; exact h
theorem lst_cw {vf : Tk → Nat → Rs Vt} (hv : ∀ t p, (At l t p ∧ t.v.length ≤ t.z) → Gd l.length (fun v q => cw v + t.o ≤ q + 1) p (vf t p)) :
    ∀ (g : Nat) (acc : List Vt) (t : Tk) (p : Nat), (At l t p ∧ t.v.length ≤ t.z) → Gd l.length (fun l' q => cwL l' + t.o ≤ cwL acc + q) p (lst (nt l) vf g acc t p)
  | 0, _, _, p, ha => ⟨ha.1.le, by decide⟩
  | g + 1, acc, t, p, ha => by
    rw [lst]
    refine (hv t p ha).bnd fun v p1 h1 h2 hv1 => (nt_good2 p1 h2).bnd fun t2 p2 h3 h4 h5 => ?_
    by_cases hk : t2.k = 4
    · rw [if_pos hk]
      have := h5.1.1.pos (by omega)
      refine ⟨Nat.le_refl _, h4, ?_⟩
      show cwL (acc ++ [v]) + t.o ≤ cwL acc + p2
      rw [cwL_snoc]
      omega
    · rw [if_neg hk]
      by_cases hk6 : t2.k = 6
      · rw [if_pos hk6]
        have := h5.1.1.pos (by omega)
        refine (nt_good2 p2 h4).bnd fun t3 p3 h6 h7 h8 => ?_
        have ih := lst_cw hv g (acc ++ [v]) t3 p3 h8.1
        cases hl : lst (nt l) vf g (acc ++ [v]) t3 p3 with
        | ok l' q =>
          rw [hl] at ih
          obtain ⟨i1, i2, i3⟩ := ih
          rw [cwL_snoc] at i3
          exact ⟨i1, i2, by omega⟩
        | no o e => rw [hl] at ih; exact ih
      · rw [if_neg hk6]; exact refu_good h5.1.1 _
theorem obj_cw {vf : Tk → Nat → Rs Vt} (hv : ∀ t p, (At l t p ∧ t.v.length ≤ t.z) → Gd l.length (fun v q => cw v + t.o ≤ q + 1) p (vf t p)) :
    ∀ (g : Nat) (ns : List ByteArray) (acc : List Vt) (t : Tk) (p : Nat), (At l t p ∧ t.v.length ≤ t.z) → Gd l.length (fun x q => cwL x.2 + nmz x.1 + t.o ≤ cwL acc + nmz ns + q) p (obj (nt l) vf g ns acc t p)
  | 0, _, _, _, p, ha => ⟨ha.1.le, by decide⟩
  | g + 1, ns, acc, t, p, ha => by
    rw [obj]
    by_cases hk7 : t.k = 7
    · rw [if_pos hk7]
      by_cases htw : isin ns (tx t) = true
      · rw [if_pos htw]; exact ⟨Nat.le_trans ha.1.o ha.1.le, by omega⟩
      · rw [if_neg htw]
        refine (nt_good2 p ha.1.le).bnd fun t2 p2 h1 h2 h3 => ?_
        by_cases hk5 : t2.k = 5
        · rw [if_pos hk5]
          have q2 := h3.1.1.pos (by omega)
          refine (nt_good2 p2 h2).bnd fun t3 p3 h4 h5 h6 => ?_
          refine (hv t3 p3 h6.1).bnd fun v p4 h7 h8 hv1 => (nt_good2 p4 h8).bnd fun t5 p5 h9 h10 h11 => ?_
          have hz := ha.1.z
          have hvz := ha.2
          have hts := tx_size t
          by_cases hk : t5.k = 2
          · rw [if_pos hk]
            have := h11.1.1.pos (by omega)
            refine ⟨Nat.le_refl _, h10, ?_⟩
            show cwL (acc ++ [v]) + nmz (ns ++ [tx t]) + t.o ≤ _
            rw [cwL_snoc, nmz_snoc]
            omega
          · rw [if_neg hk]
            by_cases hk6 : t5.k = 6
            · rw [if_pos hk6]
              have := h11.1.1.pos (by omega)
              refine (nt_good2 p5 h10).bnd fun t6 p6 h12 h13 h14 => ?_
              have ih := obj_cw hv g (ns ++ [tx t]) (acc ++ [v]) t6 p6 h14.1
              cases hl : obj (nt l) vf g (ns ++ [tx t]) (acc ++ [v]) t6 p6 with
              | ok x q =>
                rw [hl] at ih
                obtain ⟨i1, i2, i3⟩ := ih
                rw [cwL_snoc, nmz_snoc] at i3
                exact ⟨i1, i2, by omega⟩
              | no o e => rw [hl] at ih; exact ih
            · rw [if_neg hk6]; exact refu_good h11.1.1 _
        · rw [if_neg hk5]; exact refu_good h3.1.1 _
    · rw [if_neg hk7]; exact refu_good ha.1 _
theorem val_cw : ∀ (f : Nat) (t : Tk) (lv p : Nat), (At l t p ∧ t.v.length ≤ t.z) → Gd l.length (fun v q => cw v + t.o ≤ q + 1) p (val (nt l) f t lv p)
  | 0, _, _, p, ha => ⟨ha.1.le, by decide⟩
  | f + 1, t, lv, p, ha => by
    have hp := ha.1.le
    have ho := ha.1.o
    have hz := ha.1.z
    have hvz := ha.2
    have sc : ∀ (k n : Int) (s : ByteArray), s.size ≤ t.z → Gd l.length (fun v q => cw v + t.o ≤ q + 1) p (.ok (.mk k n s [] []) p) := by
      intro k n s hs
      refine ⟨Nat.le_refl _, hp, ?_⟩
      show cw (.mk k n s [] []) + t.o ≤ p + 1
      rw [cw_mk]
      show 1 + s.size + 0 + 0 + t.o ≤ p + 1
      omega
    have s0 : (⟨#[]⟩ : ByteArray).size ≤ t.z := Nat.zero_le _
    rw [val]
    by_cases h11 : t.k = 11
    · rw [if_pos h11]; exact sc 0 0 _ s0
    rw [if_neg h11]
    by_cases h10 : t.k = 10
    · rw [if_pos h10]; exact sc 1 0 _ s0
    rw [if_neg h10]
    by_cases h9 : t.k = 9
    · rw [if_pos h9]; exact sc 1 1 _ s0
    rw [if_neg h9]
    by_cases h8 : t.k = 8
    · rw [if_pos h8]; exact sc 2 t.n _ s0
    rw [if_neg h8]
    by_cases h7 : t.k = 7
    · rw [if_pos h7]; exact sc 3 0 _ (by rw [tx_size]; exact hvz)
    rw [if_neg h7]
    by_cases h3 : t.k = 3
    · rw [if_pos h3]
      have hpos := ha.1.pos (by omega)
      by_cases h64 : lv = 64
      · rw [if_pos h64]; exact ⟨Nat.le_trans ho hp, by omega⟩
      · rw [if_neg h64, lst0]
        refine (nt_good2 p hp).bnd fun t1 p1 q1 q2 q3 => ?_
        by_cases h4 : t1.k = 4
        · rw [if_pos h4]
          refine ⟨Nat.le_refl _, q2, ?_⟩
          show cw (.mk 4 0 ⟨#[]⟩ [] []) + t.o ≤ _
          have e : cw (.mk 4 0 ⟨#[]⟩ [] []) = 1 := rfl
          rw [e]
          omega
        · rw [if_neg h4]
          refine (lst_cw (fun t p h => val_cw f t (lv + 1) p h) f [] t1 p1 q3.1).bnd fun l' q r1 r2 r3 => ?_
          refine ⟨Nat.le_refl _, r2, ?_⟩
          show cw (.mk 4 0 ⟨#[]⟩ l' []) + t.o ≤ _
          rw [cw_mk]
          have e1 : (⟨#[]⟩ : ByteArray).size = 0 := rfl
          have e2 : nmz [] = 0 := rfl
          have e3 : cwL [] = 0 := rfl
          omega
    rw [if_neg h3]
    by_cases h1 : t.k = 1
    · rw [if_pos h1]
      have hpos := ha.1.pos (by omega)
      by_cases h64 : lv = 64
      · rw [if_pos h64]; exact ⟨Nat.le_trans ho hp, by omega⟩
      · rw [if_neg h64, obj0]
        refine (nt_good2 p hp).bnd fun t1 p1 q1 q2 q3 => ?_
        by_cases h4 : t1.k = 2
        · rw [if_pos h4]
          refine ⟨Nat.le_refl _, q2, ?_⟩
          show cw (.mk 5 0 ⟨#[]⟩ [] []) + t.o ≤ _
          have e : cw (.mk 5 0 ⟨#[]⟩ [] []) = 1 := rfl
          rw [e]
          omega
        · rw [if_neg h4]
          refine (obj_cw (fun t p h => val_cw f t (lv + 1) p h) f [] [] t1 p1 q3.1).bnd fun x q r1 r2 r3 => ?_
          refine ⟨Nat.le_refl _, r2, ?_⟩
          show cw (.mk 5 0 ⟨#[]⟩ x.2 x.1) + t.o ≤ _
          rw [cw_mk]
          have e1 : (⟨#[]⟩ : ByteArray).size = 0 := rfl
          have e2 : nmz [] = 0 := rfl
          have e3 : cwL [] = 0 := rfl
          omega
    rw [if_neg h1]
    exact refu_good ha.1 _
theorem prs_cw {F : Nat} {v : Vt} {q : Nat} (h : prs F l = .ok v q) : cw v ≤ l.length + 1 := by
  have key : Gd l.length (fun v _ => cw v ≤ l.length + 1) 0 (prs F l) := by
    unfold prs
    refine (nt_good2 0 (Nat.zero_le _)).bnd fun t p h1 h2 h3 => (val_cw F t 0 p h3.1).bnd fun v q r1 r2 r3 => (nt_good2 q r2).bnd fun t2 q2 s1 s2 s3 => ?_
    by_cases hk : t2.k = 0
    · rw [if_pos hk]; exact ⟨Nat.le_refl _, s2, by omega⟩
    · rw [if_neg hk]; exact ⟨Nat.le_trans s3.1.1.o s3.1.1.le, by omega⟩
  rw [h] at key
  exact key.2.2
end
end Go.Proofs.YtbpofhlnnldceaaDoor.Ren
