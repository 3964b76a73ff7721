/- Plain facts of reading values from tokens: the reader, what it gives is right, where it stops, and what blanks ahead change; no program. Conditions: as each theorem states. · The reader of package parse in memory, what a panic carries, and the contract of next. Conditions: as each theorem states. · Contracts of refusal, require, deeper, first, following. Conditions: as each theorem states. · The contract of following. Conditions: as each theorem states. -/
import Derived.Test.YtbpofhlnnldceaaDoorPlainA
import Derived.Test.YtbpofhlnnldceaaDoorTreG1
import Derived.Test.YtbpofhlnnldceaaDoorLexG1
import Derived.WalkSmall
import Derived.Handy
import Derived.Deep.RegionHeld3
namespace Go.Proofs.YtbpofhlnnldceaaDoor.Par
open Go.Lib Go.Proofs.YtbpofhlnnldceaaDoor.Utf Go.Proofs.YtbpofhlnnldceaaDoor.Quo Go.Proofs.YtbpofhlnnldceaaDoor.Lx
open Go.Proofs.YtbpofhlnnldceaaDoor.Tre (Vt V0 wi wiL wiL_all hdB textB nmB noneB scal OkT okV dep depL)

/-- What was read, and the place behind it; or where the fault stands, and which. -/
inductive Rs (α : Type) where
  | ok (x : α) (p : Nat)
  | no (o e : Nat)
def bnd {α β : Type} (r : Rs α) (f : α → Nat → Rs β) : Rs β := match r with | .ok x p => f x p | .no o e => .no o e
/-- A token that may not stand there. -/
def refu {α : Type} (t : Tk) : Rs α := .no t.o (if t.k = 0 then 3 else 4)
def tx (t : Tk) : ByteArray := ⟨t.v.toArray⟩
def isin (L : List ByteArray) (s : ByteArray) : Bool := L.any fun x => decide (x = s)
theorem isin_iff (L : List ByteArray) (s : ByteArray) : isin L s = true ↔ s ∈ L := by unfold isin; simp
/-- The token at a place. -/
def nt (l : List UInt8) (p : Nat) : Rs Tk :=
  if (nx (l.drop p)).1 = 0 then .ok ((nx (l.drop p)).2.sh p) (p + (nx (l.drop p)).2.o + (nx (l.drop p)).2.z) else .no (p + (nx (l.drop p)).2.o) (nx (l.drop p)).1
section
variable (T : Nat → Rs Tk)
def lst (vf : Tk → Nat → Rs Vt) : Nat → List Vt → Tk → Nat → Rs (List Vt)
  | 0, _, _, p => .no p 99
  | g + 1, acc, t, p => bnd (vf t p) fun v p1 => bnd (T p1) fun t2 p2 => if t2.k = 4 then .ok (acc ++ [v]) p2 else if t2.k = 6 then bnd (T p2) fun t3 p3 => lst vf g (acc ++ [v]) t3 p3 else refu t2
def lst0 (vf : Tk → Nat → Rs Vt) (f p : Nat) : Rs Vt :=
  bnd (T p) fun t1 p1 => if t1.k = 4 then .ok (.mk 4 0 ⟨#[]⟩ [] []) p1 else bnd (lst T vf f [] t1 p1) fun l q => .ok (.mk 4 0 ⟨#[]⟩ l []) q
def obj (vf : Tk → Nat → Rs Vt) : Nat → List ByteArray → List Vt → Tk → Nat → Rs (List ByteArray × List Vt)
  | 0, _, _, _, p => .no p 99
  | g + 1, ns, l, t, p => if t.k = 7 then (if isin ns (tx t) = true then .no t.o 11 else bnd (T p) fun t2 p2 => if t2.k = 5 then bnd (T p2) fun t3 p3 => bnd (vf t3 p3) fun v p4 => bnd (T p4) fun t5 p5 =>
      if t5.k = 2 then .ok (ns ++ [tx t], l ++ [v]) p5 else if t5.k = 6 then bnd (T p5) fun t6 p6 => obj vf g (ns ++ [tx t]) (l ++ [v]) t6 p6 else refu t5 else refu t2) else refu t
def obj0 (vf : Tk → Nat → Rs Vt) (f p : Nat) : Rs Vt :=
  bnd (T p) fun t1 p1 => if t1.k = 2 then .ok (.mk 5 0 ⟨#[]⟩ [] []) p1 else bnd (obj T vf f [] [] t1 p1) fun x q => .ok (.mk 5 0 ⟨#[]⟩ x.2 x.1) q
/-- The value that token t begins, behind lv brackets; p is the place behind t. -/
def val : Nat → Tk → Nat → Nat → Rs Vt
  | 0, _, _, p => .no p 99
  | f + 1, t, lv, p =>
    if t.k = 11 then .ok V0 p else if t.k = 10 then .ok (.mk 1 0 ⟨#[]⟩ [] []) p else if t.k = 9 then .ok (.mk 1 1 ⟨#[]⟩ [] []) p else if t.k = 8 then .ok (.mk 2 t.n ⟨#[]⟩ [] []) p else if t.k = 7 then .ok (.mk 3 0 (tx t) [] []) p
    else if t.k = 3 then (if lv = 64 then .no t.o 10 else lst0 T (fun t p => val f t (lv + 1) p) f p) else if t.k = 1 then (if lv = 64 then .no t.o 10 else obj0 T (fun t p => val f t (lv + 1) p) f p) else refu t
end
/-- The whole text's value, F being at least its length and two. -/
def prs (F : Nat) (l : List UInt8) : Rs Vt := bnd (nt l 0) fun t p => bnd (val (nt l) F t 0 p) fun v q => bnd (nt l q) fun t2 q2 => if t2.k = 0 then .ok v q2 else .no t2.o 7

/-! ### what is read is right -/
theorem tok_more (l : List UInt8) (h : (tok l).1 = 0) : badL (tok l).2.v = none ∧ -9223372036854775808 ≤ (tok l).2.n ∧ (tok l).2.n ≤ 9223372036854775807 := by
  have z : ∀ k o s : Nat, badL (Tk.mk k o s [] 0).v = none ∧ -9223372036854775808 ≤ (Tk.mk k o s [] 0).n ∧ (Tk.mk k o s [] 0).n ≤ 9223372036854775807 := fun _ _ _ => ⟨rfl, by simp, by simp⟩
  unfold tok at h ⊢
  by_cases h0 : l = []
  · rw [if_pos h0]; exact z _ _ _
  · rw [if_neg h0] at h ⊢
    by_cases h1 : sg (hd l) ≠ 0
    · rw [if_pos h1]; exact z _ _ _
    · rw [if_neg h1] at h ⊢
      by_cases h2 : hd l = 34
      · rw [if_pos h2] at h ⊢
        unfold txt at h ⊢
        by_cases h3 : (tkQ (l.drop 1)).1 = 0
        · rw [if_pos h3]; exact ⟨tkQ_text _, by simp, by simp⟩
        · rw [if_neg h3] at h; exact absurd h h3
      · rw [if_neg h2] at h ⊢
        by_cases h3 : hd l = 45 ∨ Lx.dg (hd l) = true
        · rw [if_pos h3] at h ⊢
          obtain ⟨e, _, _, h4⟩ := num_good l h
          rw [e]
          unfold vo at h4
          rw [decide_eq_true_eq] at h4
          exact ⟨rfl, h4.1, h4.2⟩
        · rw [if_neg h3] at h ⊢
          rcases wrd_cases l with ⟨e, _⟩ | ⟨e, _⟩ | ⟨e, _⟩ | ⟨e, _⟩
          · rw [e]; exact z _ _ _
          · rw [e]; exact z _ _ _
          · rw [e]; exact z _ _ _
          · rw [e] at h; cases h
/-- Of a token that was read, and the place behind it. -/
structure At (l : List UInt8) (t : Tk) (p : Nat) : Prop where
  le : p ≤ l.length
  o : t.o ≤ p
  z : t.o + t.z = p
  en : t.k = 0 → t.o = l.length ∧ p = l.length
  pos : t.k ≠ 0 → t.o < p
  txt : textB (tx t) = true
  lo : -9223372036854775808 ≤ t.n
  hi : t.n ≤ 9223372036854775807
  vl : t.v.length ≤ p
  k : t.k ≤ 11
def Gd {α : Type} (L : Nat) (P : α → Nat → Prop) (p : Nat) : Rs α → Prop
  | .ok x q => p ≤ q ∧ q ≤ L ∧ P x q
  | .no o e => o ≤ L ∧ e ≠ 0
theorem Gd.bnd {α β : Type} {L p : Nat} {P : α → Nat → Prop} {Q : β → Nat → Prop} {r : Rs α} {f : α → Nat → Rs β} (h : Gd L P p r) (k : ∀ x q, p ≤ q → q ≤ L → P x q → Gd L Q q (f x q)) : Gd L Q p (bnd r f) := by
  cases r with
  | ok x q =>
    have := k x q h.1 h.2.1 h.2.2
    show Gd L Q p (f x q)
    cases hf : f x q with
    | ok y q' => rw [hf] at this; exact ⟨Nat.le_trans h.1 this.1, this.2⟩
    | no o e => rw [hf] at this; exact this
  | no o e => exact h
theorem Gd.low {α : Type} {L p p' : Nat} {P : α → Nat → Prop} {r : Rs α} (h : Gd L P p r) (hp : p' ≤ p) : Gd L P p' r := by
  cases r with
  | ok x q => exact ⟨Nat.le_trans hp h.1, h.2⟩
  | no o e => exact h
theorem refu_good {α : Type} {l : List UInt8} {t : Tk} {p : Nat} {P : α → Nat → Prop} (h : At l t p) (q : Nat) : Gd l.length P q (refu (α := α) t) := by
  refine ⟨Nat.le_trans h.o h.le, ?_⟩
  split <;> omega
theorem nt_good (l : List UInt8) (p : Nat) (hp : p ≤ l.length) : Gd l.length (fun t q => At l t q ∧ p ≤ t.o) p (nt l p) := by
  unfold nt
  have hl : (l.drop p).length = l.length - p := List.length_drop
  by_cases h : (nx (l.drop p)).1 = 0
  · rw [if_pos h]
    obtain ⟨a, b, c, d, e, f⟩ := nx_good _ h
    obtain ⟨m1, m2, m3⟩ := tok_more _ h
    rw [hl] at b c
    refine ⟨by omega, by omega, ⟨by omega, by show p + _ ≤ _; omega, rfl, fun hk => ?_, fun hk => ?_, ?_, m2, m3, ?_, f⟩, by show p ≤ p + _; omega⟩
    · have h1 := c.1 hk
      have h2 := d.2 hk
      exact ⟨by show p + _ = _; omega, by omega⟩
    · have : (nx (l.drop p)).2.z ≠ 0 := fun q => hk (d.1 q)
      show p + _ < _
      omega
    · unfold textB tx
      rw [decide_eq_true_eq]
      exact m1
    · show (nx (l.drop p)).2.v.length ≤ _
      omega
  · rw [if_neg h]
    obtain ⟨o, h1, h2⟩ := nx_bad _ h
    rw [hl] at h2
    rw [h1]
    exact ⟨by show p + o ≤ _; omega, h⟩
/-- Enough fuel for a value. -/
def Fu (l : List UInt8) (f : Nat) (t : Tk) (p : Nat) : Prop := l.length + 2 ≤ f + p ∨ (t.k = 0 ∧ 1 ≤ f)
theorem Fu_next {l : List UInt8} {f p q : Nat} {t : Tk} (h : l.length + 1 ≤ f + p) (ha : At l t q) (ho : p ≤ t.o) : Fu l f t q := by
  by_cases hk : t.k = 0
  · have := ha.le
    have := ha.o
    exact .inr ⟨hk, by omega⟩
  · have := ha.pos hk
    exact .inl (by omega)
section
variable {l : List UInt8}
def Gv (d : Int) (v : Vt) : Prop := OkT v ∧ wi v d = true
theorem lst_good {vf : Tk → Nat → Rs Vt} {d : Int} {p0 : Nat} (hv : ∀ t p, p0 ≤ t.o → At l t p → Gd l.length (fun v _ => Gv d v) p (vf t p)) :
    ∀ (g : Nat) (acc : List Vt) (t : Tk) (p : Nat), p0 ≤ t.o → At l t p → l.length + 1 ≤ g + p → acc.length ≤ p → (∀ x ∈ acc, Gv d x) → Gd l.length (fun l' q => l'.length ≤ q ∧ ∀ x ∈ l', Gv d x) p (lst (nt l) vf g acc t p)
  | 0, _, _, p, _, ha, hg, _, _ => by have := ha.le; omega
  | g + 1, acc, t, p, h0, ha, hg, hl, hx => by
    rw [lst]
    refine (hv t p h0 ha).bnd fun v p1 h1 h2 hv1 => (nt_good l p1 h2).bnd fun t2 p2 h3 h4 h5 => ?_
    have hx2 : ∀ x ∈ acc ++ [v], Gv d x := by
      intro x hx'
      rcases List.mem_append.1 hx' with h | h
      · exact hx x h
      · rw [List.mem_singleton.1 h]; exact hv1
    by_cases hk : t2.k = 4
    · rw [if_pos hk]
      have := h5.1.pos (by omega)
      exact ⟨Nat.le_refl _, h4, by simp; omega, hx2⟩
    · rw [if_neg hk]
      by_cases hk6 : t2.k = 6
      · rw [if_pos hk6]
        have := h5.1.pos (by omega)
        refine (nt_good l p2 h4).bnd fun t3 p3 h6 h7 h8 => ?_
        refine lst_good hv g _ t3 p3 (by have := ha.o; omega) h8.1 (by omega) (by simp; omega) hx2
      · rw [if_neg hk6]; exact refu_good h5.1 _
theorem obj_good {vf : Tk → Nat → Rs Vt} {d : Int} {p0 : Nat} (hL : l.length ≤ 8000000) (hv : ∀ t p, p0 ≤ t.o → At l t p → Gd l.length (fun v _ => Gv d v) p (vf t p)) :
    ∀ (g : Nat) (ns : List ByteArray) (acc : List Vt) (t : Tk) (p : Nat), p0 ≤ t.o → At l t p → l.length + 1 ≤ g + p → acc.length ≤ p → (∀ x ∈ acc, Gv d x) → ns.length = acc.length → ns.Nodup → (∀ n ∈ ns, textB n = true ∧ n.size ≤ 8000000) →
      Gd l.length (fun x q => x.2.length ≤ q ∧ (∀ y ∈ x.2, Gv d y) ∧ x.1.length = x.2.length ∧ x.1.Nodup ∧ ∀ n ∈ x.1, textB n = true ∧ n.size ≤ 8000000) p (obj (nt l) vf g ns acc t p)
  | 0, _, _, _, p, _, ha, hg, _, _, _, _, _ => by have := ha.le; omega
  | g + 1, ns, acc, t, p, h0, ha, hg, hl, hx, hns, hnd, hn => by
    rw [obj]
    by_cases hk7 : t.k = 7
    · rw [if_pos hk7]
      by_cases htw : isin ns (tx t) = true
      · rw [if_pos htw]; exact ⟨Nat.le_trans ha.o ha.le, by omega⟩
      · rw [if_neg htw]
        have hpp := ha.le
        have hoo := ha.o
        refine (nt_good l p ha.le).bnd fun t2 p2 h1 h2 h3 => ?_
        by_cases hk5 : t2.k = 5
        · rw [if_pos hk5]
          refine (nt_good l p2 h2).bnd fun t3 p3 h4 h5 h6 => ?_
          refine (hv t3 p3 (by omega) h6.1).bnd fun v p4 h7 h8 hv1 => (nt_good l p4 h8).bnd fun t5 p5 h9 h10 h11 => ?_
          have hx2 : ∀ x ∈ acc ++ [v], Gv d x := by
            intro x hx'
            rcases List.mem_append.1 hx' with h | h
            · exact hx x h
            · rw [List.mem_singleton.1 h]; exact hv1
          have hn2 : ∀ n ∈ ns ++ [tx t], textB n = true ∧ n.size ≤ 8000000 := by
            intro n hn'
            rcases List.mem_append.1 hn' with h | h
            · exact hn n h
            · rw [List.mem_singleton.1 h]
              refine ⟨ha.txt, ?_⟩
              have := ha.vl
              show t.v.toArray.size ≤ _
              simp
              omega
          have hnd2 : (ns ++ [tx t]).Nodup := by
            rw [List.nodup_append]
            refine ⟨hnd, by simp, ?_⟩
            intro a ha' b hb
            rw [List.mem_singleton.1 hb]
            exact fun e => htw ((isin_iff _ _).2 (e ▸ ha'))
          by_cases hk : t5.k = 2
          · rw [if_pos hk]
            have := h11.1.pos (by omega)
            exact ⟨Nat.le_refl _, h10, by simp; omega, hx2, by simp [hns], hnd2, hn2⟩
          · rw [if_neg hk]
            by_cases hk6 : t5.k = 6
            · rw [if_pos hk6]
              have := h11.1.pos (by omega)
              refine (nt_good l p5 h10).bnd fun t6 p6 h12 h13 h14 => ?_
              exact obj_good hL hv g _ _ t6 p6 (by omega) h14.1 (by omega) (by simp; omega) hx2 (by simp [hns]) hnd2 hn2
            · rw [if_neg hk6]; exact refu_good h11.1 _
        · rw [if_neg hk5]; exact refu_good h3.1 _
    · rw [if_neg hk7]; exact refu_good ha _
theorem okV_of {k n : Int} {s : ByteArray} {l : List Vt} {ns : List ByteArray} (hk : 0 ≤ k ∧ k ≤ 5) (hn : -9223372036854775808 ≤ n ∧ n ≤ 9223372036854775807) (hs : s.size ≤ 8000000) (hl : l.length ≤ 8000000) (hns : ns.length ≤ 8000000) (h : ∀ m ∈ ns, m.size ≤ 8000000) : okV (.mk k n s l ns) :=
  ⟨⟨by show _ ≤ k; omega, by show k ≤ _; omega⟩, hn, by show s.size ≤ _; omega, by show l.length * 80 ≤ _; omega, by show ns.length * 16 ≤ _; omega, fun m hm => by have := h m hm; omega⟩
theorem val_good (hL : l.length ≤ 8000000) : ∀ (f : Nat) (t : Tk) (lv p : Nat), At l t p → Fu l f t p → lv ≤ 64 → Gd l.length (fun v _ => Gv (64 - (lv : Int)) v) p (val (nt l) f t lv p)
  | 0, _, _, _, ha, hf, _ => by have := ha.le; rcases hf with h | h <;> omega
  | f + 1, t, lv, p, ha, hf, hlv => by
    have hp := ha.le
    have sc : ∀ (k n : Int) (s : ByteArray), (0 ≤ k ∧ k ≤ 5) → (-9223372036854775808 ≤ n ∧ n ≤ 9223372036854775807) → s.size ≤ 8000000 → wi (.mk k n s [] []) (64 - (lv : Int)) = true → Gd l.length (fun v _ => Gv (64 - (lv : Int)) v) p (.ok (.mk k n s [] []) p) :=
      fun k n s hk hn hs hw => ⟨Nat.le_refl _, hp, .mk _ (okV_of hk hn hs (by simp) (by simp) (by simp)) (by intro x hx; cases hx), hw⟩
    rw [val]
    by_cases h11 : t.k = 11
    · rw [if_pos h11]; exact sc 0 0 _ (by omega) (by omega) (by decide) (by simp [wi, wiL, hdB, noneB, scal])
    rw [if_neg h11]
    by_cases h10 : t.k = 10
    · rw [if_pos h10]; exact sc 1 0 _ (by omega) (by omega) (by decide) (by simp [wi, wiL, hdB, noneB, scal])
    rw [if_neg h10]
    by_cases h9 : t.k = 9
    · rw [if_pos h9]; exact sc 1 1 _ (by omega) (by omega) (by decide) (by simp [wi, wiL, hdB, noneB, scal])
    rw [if_neg h9]
    by_cases h8 : t.k = 8
    · rw [if_pos h8]; exact sc 2 t.n _ (by omega) ⟨ha.lo, ha.hi⟩ (by decide) (by simp [wi, wiL, hdB, noneB, scal])
    rw [if_neg h8]
    by_cases h7 : t.k = 7
    · rw [if_pos h7]
      refine sc 3 0 _ (by omega) (by omega) ?_ (by simp [wi, wiL, hdB, scal, ha.txt])
      have := ha.vl
      show t.v.toArray.size ≤ _
      simp
      omega
    rw [if_neg h7]
    by_cases h3 : t.k = 3
    · rw [if_pos h3]
      have hf2 : l.length + 1 ≤ f + p := by rcases hf with h | h <;> omega
      by_cases h64 : lv = 64
      · rw [if_pos h64]; exact ⟨Nat.le_trans ha.o hp, by omega⟩
      · rw [if_neg h64, lst0]
        refine (nt_good l p hp).bnd fun t1 p1 q1 q2 q3 => ?_
        by_cases h4 : t1.k = 4
        · rw [if_pos h4]
          exact ⟨Nat.le_refl _, q2, .mk _ (okV_of (by omega) (by omega) (by decide) (by simp) (by simp) (by simp)) (by intro x hx; cases hx), by simp [wi, wiL, hdB, noneB]; omega⟩
        · rw [if_neg h4]
          refine (lst_good (d := 64 - ((lv + 1 : Nat) : Int)) (p0 := p) (fun t p' h0 h1 => val_good hL f t (lv + 1) p' h1 (Fu_next hf2 h1 h0) (by omega)) f [] t1 p1 q3.2 q3.1 (by omega) (by simp) (by intro x hx; cases hx)).bnd fun l' q r1 r2 r3 => ?_
          refine ⟨Nat.le_refl _, r2, .mk _ (okV_of (by omega) (by omega) (by decide) (by omega) (by simp) (by simp)) fun x hx => (r3.2 x hx).1, ?_⟩
          rw [wi, wiL_all]
          have e : l'.all (fun x => wi x (64 - (lv : Int) - 1)) = true := List.all_eq_true.2 fun x hx => by
            have := (r3.2 x hx).2
            rwa [show (64 : Int) - ((lv + 1 : Nat) : Int) = 64 - (lv : Int) - 1 by omega] at this
          rw [e]
          simp [hdB, noneB]
          omega
    rw [if_neg h3]
    by_cases h1 : t.k = 1
    · rw [if_pos h1]
      have hf2 : l.length + 1 ≤ f + p := by rcases hf with h | h <;> omega
      by_cases h64 : lv = 64
      · rw [if_pos h64]; exact ⟨Nat.le_trans ha.o hp, by omega⟩
      · rw [if_neg h64, obj0]
        refine (nt_good l p hp).bnd fun t1 p1 q1 q2 q3 => ?_
        by_cases h4 : t1.k = 2
        · rw [if_pos h4]
          exact ⟨Nat.le_refl _, q2, .mk _ (okV_of (by omega) (by omega) (by decide) (by simp) (by simp) (by simp)) (by intro x hx; cases hx), by simp [wi, wiL, hdB, noneB, nmB]; omega⟩
        · rw [if_neg h4]
          refine (obj_good (d := 64 - ((lv + 1 : Nat) : Int)) (p0 := p) hL (fun t p' h0 h1 => val_good hL f t (lv + 1) p' h1 (Fu_next hf2 h1 h0) (by omega)) f [] [] t1 p1 q3.2 q3.1 (by omega) (by simp) (by intro x hx; cases hx) rfl (by simp) (by intro x hx; cases hx)).bnd fun x q r1 r2 r3 => ?_
          obtain ⟨a1, a2, a3, a4, a5⟩ := r3
          refine ⟨Nat.le_refl _, r2, .mk _ (okV_of (by omega) (by omega) (by decide) (by omega) (by omega) fun m hm => (a5 m hm).2) fun y hy => (a2 y hy).1, ?_⟩
          rw [wi, wiL_all]
          have e : x.2.all (fun y => wi y (64 - (lv : Int) - 1)) = true := List.all_eq_true.2 fun y hy => by
            have := (a2 y hy).2
            rwa [show (64 : Int) - ((lv + 1 : Nat) : Int) = 64 - (lv : Int) - 1 by omega] at this
          have e2 : x.1.all textB = true := List.all_eq_true.2 fun y hy => (a5 y hy).1
          rw [e]
          simp [hdB, noneB, nmB, a3, e2, a4]
          omega
    rw [if_neg h1]
    exact refu_good ha _
theorem prs_good (F : Nat) (hL : l.length ≤ 8000000) (hF : l.length + 2 ≤ F) : Gd l.length (fun v _ => OkT v ∧ wi v 64 = true) 0 (prs F l) := by
  unfold prs
  refine (nt_good l 0 (Nat.zero_le _)).bnd fun t p h1 h2 h3 => (val_good hL F t 0 p h3.1 (.inl (by omega)) (by omega)).bnd fun v q r1 r2 r3 => (nt_good l q r2).bnd fun t2 q2 s1 s2 s3 => ?_
  by_cases hk : t2.k = 0
  · rw [if_pos hk]; exact ⟨Nat.le_refl _, s2, r3.1, by simpa [Gv] using r3.2⟩
  · rw [if_neg hk]; exact ⟨Nat.le_trans s3.1.o s2, by omega⟩
end

/-! ### blanks ahead -/
def shR {α : Type} (φ : α → α) (d : Nat) : Rs α → Rs α
  | .ok x p => .ok (φ x) (d + p)
  | .no o e => .no (d + o) e
theorem bnd_sh {α β : Type} {φ : α → α} {ψ : β → β} {d : Nat} {r : Rs α} {f f' : α → Nat → Rs β} (h : ∀ x p, f' (φ x) (d + p) = shR ψ d (f x p)) : bnd (shR φ d r) f' = shR ψ d (bnd r f) := by
  cases r with
  | ok x p => exact h x p
  | no o e => rfl
theorem refu_sh {α : Type} (φ : α → α) (d : Nat) (t : Tk) : refu (t.sh d) = shR φ d (refu t) := rfl
section
variable {T T' : Nat → Rs Tk} {d : Nat} (hT : ∀ p, T' (d + p) = shR (fun t => t.sh d) d (T p))
include hT
theorem lst_sh {vf vf' : Tk → Nat → Rs Vt} (hv : ∀ t p, vf' (t.sh d) (d + p) = shR id d (vf t p)) : ∀ (g : Nat) (acc : List Vt) (t : Tk) (p : Nat), lst T' vf' g acc (t.sh d) (d + p) = shR id d (lst T vf g acc t p)
  | 0, _, _, _ => rfl
  | g + 1, acc, t, p => by
    rw [lst, lst, hv]
    refine bnd_sh fun v p1 => ?_
    rw [hT]
    refine bnd_sh fun t2 p2 => ?_
    by_cases h4 : t2.k = 4
    · rw [if_pos h4, if_pos (show (t2.sh d).k = 4 from h4)]; rfl
    · rw [if_neg h4, if_neg (show ¬ (t2.sh d).k = 4 from h4)]
      by_cases h6 : t2.k = 6
      · rw [if_pos h6, if_pos (show (t2.sh d).k = 6 from h6), hT]
        exact bnd_sh fun t3 p3 => lst_sh hv g _ t3 p3
      · rw [if_neg h6, if_neg (show ¬ (t2.sh d).k = 6 from h6)]; rfl
theorem obj_sh {vf vf' : Tk → Nat → Rs Vt} (hv : ∀ t p, vf' (t.sh d) (d + p) = shR id d (vf t p)) : ∀ (g : Nat) (ns : List ByteArray) (acc : List Vt) (t : Tk) (p : Nat), obj T' vf' g ns acc (t.sh d) (d + p) = shR id d (obj T vf g ns acc t p)
  | 0, _, _, _, _ => rfl
  | g + 1, ns, acc, t, p => by
    rw [obj, obj]
    by_cases h7 : t.k = 7
    · rw [if_pos h7, if_pos (show (t.sh d).k = 7 from h7)]
      by_cases htw : isin ns (tx t) = true
      · rw [if_pos htw, if_pos (show isin ns (tx (t.sh d)) = true from htw)]; rfl
      · rw [if_neg htw, if_neg (show ¬ isin ns (tx (t.sh d)) = true from htw), hT]
        refine bnd_sh fun t2 p2 => ?_
        by_cases h5 : t2.k = 5
        · rw [if_pos h5, if_pos (show (t2.sh d).k = 5 from h5), hT]
          refine bnd_sh fun t3 p3 => ?_
          rw [hv]
          refine bnd_sh fun v p4 => ?_
          rw [hT]
          refine bnd_sh fun t5 p5 => ?_
          by_cases h2 : t5.k = 2
          · rw [if_pos h2, if_pos (show (t5.sh d).k = 2 from h2)]; rfl
          · rw [if_neg h2, if_neg (show ¬ (t5.sh d).k = 2 from h2)]
            by_cases h6 : t5.k = 6
            · rw [if_pos h6, if_pos (show (t5.sh d).k = 6 from h6), hT]
              exact bnd_sh fun t6 p6 => obj_sh hv g _ _ t6 p6
            · rw [if_neg h6, if_neg (show ¬ (t5.sh d).k = 6 from h6)]; rfl
        · rw [if_neg h5, if_neg (show ¬ (t2.sh d).k = 5 from h5)]; rfl
    · rw [if_neg h7, if_neg (show ¬ (t.sh d).k = 7 from h7)]; rfl
theorem val_sh : ∀ (f : Nat) (t : Tk) (lv p : Nat), val T' f (t.sh d) lv (d + p) = shR id d (val T f t lv p)
  | 0, _, _, _ => rfl
  | f + 1, t, lv, p => by
    rw [val, val]
    simp only [show (t.sh d).k = t.k from rfl, show (t.sh d).n = t.n from rfl, show tx (t.sh d) = tx t from rfl]
    repeat' split
    all_goals first
      | rfl
      | skip
    · rw [lst0, lst0, hT]
      refine bnd_sh fun t1 p1 => ?_
      by_cases h4 : t1.k = 4
      · rw [if_pos h4, if_pos (show (t1.sh d).k = 4 from h4)]; rfl
      · rw [if_neg h4, if_neg (show ¬ (t1.sh d).k = 4 from h4), lst_sh hT (fun t p => val_sh f t (lv + 1) p)]
        exact bnd_sh fun _ _ => rfl
    · rw [obj0, obj0, hT]
      refine bnd_sh fun t1 p1 => ?_
      by_cases h4 : t1.k = 2
      · rw [if_pos h4, if_pos (show (t1.sh d).k = 2 from h4)]; rfl
      · rw [if_neg h4, if_neg (show ¬ (t1.sh d).k = 2 from h4), obj_sh hT (fun t p => val_sh f t (lv + 1) p)]
        exact bnd_sh fun _ _ => rfl
end
theorem nt_pre (b l : List UInt8) (p : Nat) : nt (b ++ l) (b.length + p) = shR (fun t => t.sh b.length) b.length (nt l p) := by
  have e : (b ++ l).drop (b.length + p) = l.drop p := by rw [← List.drop_drop, List.drop_left' rfl]
  unfold nt
  rw [e]
  by_cases h : (nx (l.drop p)).1 = 0
  · rw [if_pos h, if_pos h]
    show Rs.ok _ _ = Rs.ok _ _
    congr 1
    · show Tk.sh _ _ = Tk.sh _ (Tk.sh _ _)
      unfold Tk.sh
      simp only [Nat.add_assoc]
    · omega
  · rw [if_neg h, if_neg h]
    show Rs.no _ _ = Rs.no _ _
    congr 1
    omega
theorem nt_first {b : List UInt8} (h : ∀ c ∈ b, bl c.toNat = true) (l : List UInt8) : nt (b ++ l) 0 = shR (fun t => t.sh b.length) b.length (nt l 0) := by
  have e := (nx_pre h l).1
  unfold nt
  rw [List.drop_zero, List.drop_zero, e]
  by_cases h : (nx l).1 = 0
  · rw [if_pos h, if_pos h]
    show Rs.ok _ _ = Rs.ok _ _
    congr 1
    · show Tk.sh _ (Tk.sh _ _) = Tk.sh _ (Tk.sh _ _)
      unfold Tk.sh
      simp only [Nat.zero_add]
    · show 0 + (b.length + (nx l).2.o) + (nx l).2.z = b.length + (0 + (nx l).2.o + (nx l).2.z)
      omega
  · rw [if_neg h, if_neg h]
    show Rs.no _ _ = Rs.no _ _
    congr 1
    show 0 + (b.length + (nx l).2.o) = b.length + (0 + (nx l).2.o)
    omega
/-- Blanks ahead shift the fault alone. -/
theorem prs_pre (F : Nat) {b : List UInt8} (h : ∀ c ∈ b, bl c.toNat = true) (l : List UInt8) : prs F (b ++ l) = shR id b.length (prs F l) := by
  unfold prs
  rw [nt_first h l]
  refine bnd_sh fun t p => ?_
  rw [val_sh (nt_pre b l)]
  refine bnd_sh fun v q => ?_
  show bnd (nt (b ++ l) (b.length + q)) _ = _
  rw [nt_pre]
  refine bnd_sh fun t2 q2 => ?_
  by_cases h0 : t2.k = 0
  · rw [if_pos h0, if_pos (show (t2.sh b.length).k = 0 from h0)]; rfl
  · rw [if_neg h0, if_neg (show ¬ (t2.sh b.length).k = 0 from h0)]; rfl
end Go.Proofs.YtbpofhlnnldceaaDoor.Par

namespace Go.Proofs.YtbpofhlnnldceaaDoor.Par
open Go.RowKit Go.Lib Go.Proofs.YtbpofhlnnldceaaDoor.Byt Go.Proofs.YtbpofhlnnldceaaDoor.Lx

/-- Of what was there only block b may have changed. -/
def Only (b : Nat) (W W' : World) : Prop := W.grownBy W' (some b)
section
variable {b : Nat} {w0 W W' W2 : World}
theorem Only.refl (b : Nat) (W : World) : Only b W W := ⟨rfl, rfl, rfl, Nat.le_refl _, fun _ _ _ => rfl⟩
theorem Only.at_ (h : Only b W W') {k : Nat} (hk : k < W.heap.size) (hne : k ≠ b) : W'.heap[k]? = W.heap[k]? := h.block k hk (by simpa using hne)
theorem Only.trans (h : Only b W W') (k : Only b W' W2) : Only b W W2 :=
  ⟨k.os.trans h.os, k.tape.trans h.tape, k.output.trans h.output, Nat.le_trans h.size k.size, fun j hj hne => (k.block j (Nat.lt_of_lt_of_le hj h.size) hne).trans (h.block j hj hne)⟩
theorem Only.of (h : Below W.heap.size W W') : Only b W W' := ⟨h.os, h.tape, h.output, h.size, fun k hk _ => h.block k hk⟩
theorem Only.next (h : Only b W W') (k : Below W'.heap.size W' W2) : Only b W W2 := h.trans (.of k)
theorem Only.put (h : Only b W W') (j : Nat) (u : Value) : Only b W (W'.setCell ⟨b, j, none⟩ u) :=
  h.trans ⟨rfl, rfl, rfl, by simp [World.setCell], fun k _ hne => Below.heap_setCell _ _ _ _ (by simpa using hne)⟩
theorem Only.low (h : Only b W W') {B : Nat} (hb : Below B w0 W) (hB : B ≤ b) (hs : B ≤ w0.heap.size) : Below B w0 W' :=
  hb.trans ⟨h.os, h.tape, h.output, h.size, fun k hk => h.at_ (by have := hb.size; omega) (by omega)⟩
end

section
variable {w0 W W' : World} {b p : Nat} {s : ByteArray}
theorem Only.low2 {W2 : World} (h : Only b W W') (k : Below W.heap.size W' W2) : Only b W W2 :=
  ⟨k.os.trans h.os, k.tape.trans h.tape, k.output.trans h.output, Nat.le_trans h.size k.size, fun j hj hne => (k.block j hj).trans (h.block j hj hne)⟩
end

section
variable {w0 W1 W' W2 : World} {b p : Nat} {s : ByteArray}
end
theorem keep_at {W w7 : World} {g : Nat} (hb : Below W.heap.size W w7) (hg : g < W.heap.size) {j : Nat} : w7.cell? ⟨g, j, none⟩ = W.cell? ⟨g, j, none⟩ := hb.cell (p := ⟨g, j, none⟩) hg
theorem keep_free {W w7 : World} {g : Nat} (hb : Below W.heap.size W w7) (hg : g < W.heap.size) {j : Nat} : w7.frozen? ⟨g, j, none⟩ = W.frozen? ⟨g, j, none⟩ := hb.frozen (p := ⟨g, j, none⟩) hg
theorem nxA_at (s : ByteArray) (p : Nat) (hp : p ≤ s.size) : nxA s (p : Int) = atR p (nx (sf s p)) := by unfold nxA; rw [cl_in s p hp]
theorem nR_tk (p : Nat) (r : Nat × Tk) : nR (atR p r) = .tuple #[.agg #[.int .i64 ((r.2.sh p).k : Int), .int .i64 ((r.2.sh p).o : Int), .int .i64 ((r.2.sh p).z : Int), .string ⟨(r.2.sh p).v.toArray⟩, .int .i64 (r.2.sh p).n], .int .i64 (r.1 : Int)] := rfl
theorem nt_sf (s : ByteArray) (p : Nat) : nt s.data.toList p = if (nx (sf s p)).1 = 0 then .ok ((nx (sf s p)).2.sh p) (p + (nx (sf s p)).2.o + (nx (sf s p)).2.z) else .no (p + (nx (sf s p)).2.o) (nx (sf s p)).1 := rfl

end Go.Proofs.YtbpofhlnnldceaaDoor.Par

namespace Go.Proofs.YtbpofhlnnldceaaDoor.Par
open Go.RowKit Go.Lib Go.Proofs.YtbpofhlnnldceaaDoor.Byt Go.Proofs.YtbpofhlnnldceaaDoor.Lx

/-! ### first -/
def fst (T : Nat → Rs Tk) (en p : Nat) : Rs (Tk × Bool) := bnd (T p) fun t q => .ok (t, decide (t.k ≠ en)) q
def fol (T : Nat → Rs Tk) (en p : Nat) : Rs (Tk × Bool) := bnd (T p) fun t q => if t.k = en then .ok (t, false) q else if t.k = 6 then bnd (T q) fun t2 q2 => .ok (t2, true) q2 else refu t
def tb (x : Tk × Bool) : Value := .tuple #[tkV x.1, .bool x.2]
theorem sets_below (w : World) {B g : Nat} (hg : B ≤ g) (u0 u1 u2 u3 u4 : Value) : Below B w (((((w.setCell ⟨g, 0, none⟩ u0).setCell ⟨g, 1, none⟩ u1).setCell ⟨g, 2, none⟩ u2).setCell ⟨g, 3, none⟩ u3).setCell ⟨g, 4, none⟩ u4) :=
  ((((((Below.refl B w).setCell (p := ⟨g, 0, none⟩) hg u0).setCell (p := ⟨g, 1, none⟩) hg u1).setCell (p := ⟨g, 2, none⟩) hg u2).setCell (p := ⟨g, 3, none⟩) hg u3).setCell (p := ⟨g, 4, none⟩) hg u4)
end Go.Proofs.YtbpofhlnnldceaaDoor.Par

namespace Go.Proofs.YtbpofhlnnldceaaDoor.Par
open Go.RowKit Go.Lib Go.Proofs.YtbpofhlnnldceaaDoor.Byt Go.Proofs.YtbpofhlnnldceaaDoor.Lx

/-! ### following -/
end Go.Proofs.YtbpofhlnnldceaaDoor.Par
