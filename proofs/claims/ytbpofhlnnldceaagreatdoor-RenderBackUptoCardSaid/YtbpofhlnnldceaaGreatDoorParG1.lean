/- Plain facts of reading values from tokens: the reader, what it gives is right, where it stops, and what blanks ahead change; no program. Conditions: as each theorem states. · The reader of package parse in memory, what a panic carries, and the contract of next. Conditions: as each theorem states. · Contracts of refusal, require, deeper, first, following. Conditions: as each theorem states. · The contract of following. Conditions: as each theorem states. -/
import Derived.Test.YtbpofhlnnldceaaGreatDoorPlainA
import Derived.Test.YtbpofhlnnldceaaGreatDoorTreG1
import Derived.Test.YtbpofhlnnldceaaGreatDoorLexG1
import Derived.WalkSmall
import Derived.Handy
import Derived.Deep.RegionHeld3
namespace Go.Proofs.YtbpofhlnnldceaaGreatDoor.Par
open Go.Lib Go.Proofs.YtbpofhlnnldceaaGreatDoor.Utf Go.Proofs.YtbpofhlnnldceaaGreatDoor.Quo Go.Proofs.YtbpofhlnnldceaaGreatDoor.Lx
open Go.Proofs.YtbpofhlnnldceaaGreatDoor.Tre (Vt V0 wi wiL wiL_all hdB textB nmB noneB scal OkT okV dep depL)

/-- What was read, and the place behind it; or where the fault stands, and which. -/
inductive Rs (α : Type) where
  | ok (x : α) (p : Nat)
  | no (o e : Nat)
def bnd {α β : Type} (r : Rs α) (f : α → Nat → Rs β) : Rs β := match r with | .ok x p => f x p | .no o e => .no o e
/-- A token that may not stand there. -/
def refu {α : Type} (t : Tk) : Rs α := .no t.o (if t.k = 0 then 3 else 4)
def tx (t : Tk) : ByteArray := ⟨t.v.toArray⟩
def isin (L : List ByteArray) (s : ByteArray) : Bool := L.any fun x => decide (x = s)
theorem isin_iff (L : List ByteArray) (s : ByteArray) : isin L s = true ↔ s ∈ L := by unfold isin; simp
/-- The token at a place. -/
def nt (l : List UInt8) (p : Nat) : Rs Tk :=
  if (nx (l.drop p)).1 = 0 then .ok ((nx (l.drop p)).2.sh p) (p + (nx (l.drop p)).2.o + (nx (l.drop p)).2.z) else .no (p + (nx (l.drop p)).2.o) (nx (l.drop p)).1
section
variable (T : Nat → Rs Tk)
def lst (vf : Tk → Nat → Rs Vt) : Nat → List Vt → Tk → Nat → Rs (List Vt)
  | 0, _, _, p => .no p 99
  | g + 1, acc, t, p => bnd (vf t p) fun v p1 => bnd (T p1) fun t2 p2 => if t2.k = 4 then .ok (acc ++ [v]) p2 else if t2.k = 6 then bnd (T p2) fun t3 p3 => lst vf g (acc ++ [v]) t3 p3 else refu t2
def lst0 (vf : Tk → Nat → Rs Vt) (f p : Nat) : Rs Vt :=
  bnd (T p) fun t1 p1 => if t1.k = 4 then .ok (.mk 4 0 ⟨#[]⟩ [] []) p1 else bnd (lst T vf f [] t1 p1) fun l q => .ok (.mk 4 0 ⟨#[]⟩ l []) q
def obj (vf : Tk → Nat → Rs Vt) : Nat → List ByteArray → List Vt → Tk → Nat → Rs (List ByteArray × List Vt)
  | 0, _, _, _, p => .no p 99
  | g + 1, ns, l, t, p => if t.k = 7 then (if isin ns (tx t) = true then .no t.o 11 else bnd (T p) fun t2 p2 => if t2.k = 5 then bnd (T p2) fun t3 p3 => bnd (vf t3 p3) fun v p4 => bnd (T p4) fun t5 p5 =>
      if t5.k = 2 then .ok (ns ++ [tx t], l ++ [v]) p5 else if t5.k = 6 then bnd (T p5) fun t6 p6 => obj vf g (ns ++ [tx t]) (l ++ [v]) t6 p6 else refu t5 else refu t2) else refu t
def obj0 (vf : Tk → Nat → Rs Vt) (f p : Nat) : Rs Vt :=
  bnd (T p) fun t1 p1 => if t1.k = 2 then .ok (.mk 5 0 ⟨#[]⟩ [] []) p1 else bnd (obj T vf f [] [] t1 p1) fun x q => .ok (.mk 5 0 ⟨#[]⟩ x.2 x.1) q
/-- The value that token t begins, behind lv brackets; p is the place behind t. -/
def val : Nat → Tk → Nat → Nat → Rs Vt
  | 0, _, _, p => .no p 99
  | f + 1, t, lv, p =>
    if t.k = 11 then .ok V0 p else if t.k = 10 then .ok (.mk 1 0 ⟨#[]⟩ [] []) p else if t.k = 9 then .ok (.mk 1 1 ⟨#[]⟩ [] []) p else if t.k = 8 then .ok (.mk 2 t.n ⟨#[]⟩ [] []) p else if t.k = 7 then .ok (.mk 3 0 (tx t) [] []) p
    else if t.k = 3 then (if lv = 64 then .no t.o 10 else lst0 T (fun t p => val f t (lv + 1) p) f p) else if t.k = 1 then (if lv = 64 then .no t.o 10 else obj0 T (fun t p => val f t (lv + 1) p) f p) else refu t
end
/-- The whole text's value, F being at least its length and two. -/
def prs (F : Nat) (l : List UInt8) : Rs Vt := bnd (nt l 0) fun t p => bnd (val (nt l) F t 0 p) fun v q => bnd (nt l q) fun t2 q2 => if t2.k = 0 then .ok v q2 else .no t2.o 7

/-! ### what is read is right -/
theorem tok_more (l : List UInt8) (h : (tok l).1 = 0) : badL (tok l).2.v = none ∧ -9223372036854775808 ≤ (tok l).2.n ∧ (tok l).2.n ≤ 9223372036854775807 := by
  have z : ∀ k o s : Nat, badL (Tk.mk k o s [] 0).v = none ∧ -9223372036854775808 ≤ (Tk.mk k o s [] 0).n ∧ (Tk.mk k o s [] 0).n ≤ 9223372036854775807 := fun _ _ _ => ⟨rfl, by simp, by simp⟩
  unfold tok at h ⊢
  by_cases h0 : l = []
  · rw [if_pos h0]; exact z _ _ _
  · rw [if_neg h0] at h ⊢
    by_cases h1 : sg (hd l) ≠ 0
    · rw [if_pos h1]; exact z _ _ _
    · rw [if_neg h1] at h ⊢
      by_cases h2 : hd l = 34
      · rw [if_pos h2] at h ⊢
        unfold txt at h ⊢
        by_cases h3 : (tkQ (l.drop 1)).1 = 0
        · rw [if_pos h3]; exact ⟨tkQ_text _, by simp, by simp⟩
        · rw [if_neg h3] at h; exact absurd h h3
      · rw [if_neg h2] at h ⊢
        by_cases h3 : hd l = 45 ∨ Lx.dg (hd l) = true
        · rw [if_pos h3] at h ⊢
          obtain ⟨e, _, _, h4⟩ := num_good l h
          rw [e]
          unfold vo at h4
          rw [decide_eq_true_eq] at h4
          exact ⟨rfl, h4.1, h4.2⟩
        · rw [if_neg h3] at h ⊢
          rcases wrd_cases l with ⟨e, _⟩ | ⟨e, _⟩ | ⟨e, _⟩ | ⟨e, _⟩
          · rw [e]; exact z _ _ _
          · rw [e]; exact z _ _ _
          · rw [e]; exact z _ _ _
          · rw [e] at h; cases h
/-- Of a token that was read, and the place behind it. -/
structure At (l : List UInt8) (t : Tk) (p : Nat) : Prop where
  le : p ≤ l.length
  o : t.o ≤ p
  z : t.o + t.z = p
  en : t.k = 0 → t.o = l.length ∧ p = l.length
  pos : t.k ≠ 0 → t.o < p
  txt : textB (tx t) = true
  lo : -9223372036854775808 ≤ t.n
  hi : t.n ≤ 9223372036854775807
  vl : t.v.length ≤ p
  k : t.k ≤ 11
def Gd {α : Type} (L : Nat) (P : α → Nat → Prop) (p : Nat) : Rs α → Prop
  | .ok x q => p ≤ q ∧ q ≤ L ∧ P x q
  | .no o e => o ≤ L ∧ e ≠ 0
theorem Gd.bnd {α β : Type} {L p : Nat} {P : α → Nat → Prop} {Q : β → Nat → Prop} {r : Rs α} {f : α → Nat → Rs β} (h : Gd L P p r) (k : ∀ x q, p ≤ q → q ≤ L → P x q → Gd L Q q (f x q)) : Gd L Q p (bnd r f) := by
  cases r with
  | ok x q =>
    have := k x q h.1 h.2.1 h.2.2
    show Gd L Q p (f x q)
    cases hf : f x q with
    | ok y q' => rw [hf] at this; exact ⟨Nat.le_trans h.1 this.1, this.2⟩
    | no o e => rw [hf] at this; exact this
  | no o e => exact h
theorem Gd.low {α : Type} {L p p' : Nat} {P : α → Nat → Prop} {r : Rs α} (h : Gd L P p r) (hp : p' ≤ p) : Gd L P p' r := by
  cases r with
  | ok x q => exact ⟨Nat.le_trans hp h.1, h.2⟩
  | no o e => exact h
theorem refu_good {α : Type} {l : List UInt8} {t : Tk} {p : Nat} {P : α → Nat → Prop} (h : At l t p) (q : Nat) : Gd l.length P q (refu (α := α) t) := by
  refine ⟨Nat.le_trans h.o h.le, ?_⟩
  split <;> omega
theorem nt_good (l : List UInt8) (p : Nat) (hp : p ≤ l.length) : Gd l.length (fun t q => At l t q ∧ p ≤ t.o) p (nt l p) := by
  unfold nt
  have hl : (l.drop p).length = l.length - p := List.length_drop
  by_cases h : (nx (l.drop p)).1 = 0
  · rw [if_pos h]
    obtain ⟨a, b, c, d, e, f⟩ := nx_good _ h
    obtain ⟨m1, m2, m3⟩ := tok_more _ h
    rw [hl] at b c
    refine ⟨by omega, by omega, ⟨by omega, by show p + _ ≤ _; omega, rfl, fun hk => ?_, fun hk => ?_, ?_, m2, m3, ?_, f⟩, by show p ≤ p + _; omega⟩
    · have h1 := c.1 hk
      have h2 := d.2 hk
      exact ⟨by show p + _ = _; omega, by omega⟩
    · have : (nx (l.drop p)).2.z ≠ 0 := fun q => hk (d.1 q)
      show p + _ < _
      omega
    · unfold textB tx
      rw [decide_eq_true_eq]
      exact m1
    · show (nx (l.drop p)).2.v.length ≤ _
      omega
  · rw [if_neg h]
    obtain ⟨o, h1, h2⟩ := nx_bad _ h
    rw [hl] at h2
    rw [h1]
    exact ⟨by show p + o ≤ _; omega, h⟩
/-- Enough fuel for a value. -/
def Fu (l : List UInt8) (f : Nat) (t : Tk) (p : Nat) : Prop := l.length + 2 ≤ f + p ∨ (t.k = 0 ∧ 1 ≤ f)
theorem Fu_next {l : List UInt8} {f p q : Nat} {t : Tk} (h : l.length + 1 ≤ f + p) (ha : At l t q) (ho : p ≤ t.o) : Fu l f t q := by
  by_cases hk : t.k = 0
  · have := ha.le
    have := ha.o
    exact .inr ⟨hk, by omega⟩
  · have := ha.pos hk
    exact .inl (by omega)
section
variable {l : List UInt8}
def Gv (d : Int) (v : Vt) : Prop := OkT v ∧ wi v d = true
theorem lst_good {vf : Tk → Nat → Rs Vt} {d : Int} {p0 : Nat} (hv : ∀ t p, p0 ≤ t.o → At l t p → Gd l.length (fun v _ => Gv d v) p (vf t p)) :
    ∀ (g : Nat) (acc : List Vt) (t : Tk) (p : Nat), p0 ≤ t.o → At l t p → l.length + 1 ≤ g + p → acc.length ≤ p → (∀ x ∈ acc, Gv d x) → Gd l.length (fun l' q => l'.length ≤ q ∧ ∀ x ∈ l', Gv d x) p (lst (nt l) vf g acc t p)
  | 0, _, _, p, _, ha, hg, _, _ => by have := ha.le; omega
  | g + 1, acc, t, p, h0, ha, hg, hl, hx => by
    rw [lst]
    refine (hv t p h0 ha).bnd fun v p1 h1 h2 hv1 => (nt_good l p1 h2).bnd fun t2 p2 h3 h4 h5 => ?_
    have hx2 : ∀ x ∈ acc ++ [v], Gv d x := by
      intro x hx'
      rcases List.mem_append.1 hx' with h | h
      · exact hx x h
      · rw [List.mem_singleton.1 h]; exact hv1
    by_cases hk : t2.k = 4
    · rw [if_pos hk]
      have := h5.1.pos (by omega)
      exact ⟨Nat.le_refl _, h4, by simp; omega, hx2⟩
    · rw [if_neg hk]
      by_cases hk6 : t2.k = 6
      · rw [if_pos hk6]
        have := h5.1.pos (by omega)
        refine (nt_good l p2 h4).bnd fun t3 p3 h6 h7 h8 => ?_
        refine lst_good hv g _ t3 p3 (by have := ha.o; omega) h8.1 (by omega) (by simp; omega) hx2
      · rw [if_neg hk6]; exact refu_good h5.1 _
theorem obj_good {vf : Tk → Nat → Rs Vt} {d : Int} {p0 : Nat} (hL : l.length ≤ 8000000) (hv : ∀ t p, p0 ≤ t.o → At l t p → Gd l.length (fun v _ => Gv d v) p (vf t p)) :
    ∀ (g : Nat) (ns : List ByteArray) (acc : List Vt) (t : Tk) (p : Nat), p0 ≤ t.o → At l t p → l.length + 1 ≤ g + p → acc.length ≤ p → (∀ x ∈ acc, Gv d x) → ns.length = acc.length → ns.Nodup → (∀ n ∈ ns, textB n = true ∧ n.size ≤ 8000000) →
      Gd l.length (fun x q => x.2.length ≤ q ∧ (∀ y ∈ x.2, Gv d y) ∧ x.1.length = x.2.length ∧ x.1.Nodup ∧ ∀ n ∈ x.1, textB n = true ∧ n.size ≤ 8000000) p (obj (nt l) vf g ns acc t p)
  | 0, _, _, _, p, _, ha, hg, _, _, _, _, _ => by have := ha.le; omega
  | g + 1, ns, acc, t, p, h0, ha, hg, hl, hx, hns, hnd, hn => by
    rw [obj]
    by_cases hk7 : t.k = 7
    · rw [if_pos hk7]
      by_cases htw : isin ns (tx t) = true
      · rw [if_pos htw]; exact ⟨Nat.le_trans ha.o ha.le, by omega⟩
      · rw [if_neg htw]
        have hpp := ha.le
        have hoo := ha.o
        refine (nt_good l p ha.le).bnd fun t2 p2 h1 h2 h3 => ?_
        by_cases hk5 : t2.k = 5
        · rw [if_pos hk5]
          refine (nt_good l p2 h2).bnd fun t3 p3 h4 h5 h6 => ?_
          refine (hv t3 p3 (by omega) h6.1).bnd fun v p4 h7 h8 hv1 => (nt_good l p4 h8).bnd fun t5 p5 h9 h10 h11 => ?_
          have hx2 : ∀ x ∈ acc ++ [v], Gv d x := by
            intro x hx'
            rcases List.mem_append.1 hx' with h | h
            · exact hx x h
            · rw [List.mem_singleton.1 h]; exact hv1
          have hn2 : ∀ n ∈ ns ++ [tx t], textB n = true ∧ n.size ≤ 8000000 := by
            intro n hn'
            rcases List.mem_append.1 hn' with h | h
            · exact hn n h
            · rw [List.mem_singleton.1 h]
              refine ⟨ha.txt, ?_⟩
              have := ha.vl
              show t.v.toArray.size ≤ _
              simp
              omega
          have hnd2 : (ns ++ [tx t]).Nodup := by
            rw [List.nodup_append]
            refine ⟨hnd, by simp, ?_⟩
            intro a ha' b hb
            rw [List.mem_singleton.1 hb]
            exact fun e => htw ((isin_iff _ _).2 (e ▸ ha'))
          by_cases hk : t5.k = 2
          · rw [if_pos hk]
            have := h11.1.pos (by omega)
            exact ⟨Nat.le_refl _, h10, by simp; omega, hx2, by simp [hns], hnd2, hn2⟩
          · rw [if_neg hk]
            by_cases hk6 : t5.k = 6
            · rw [if_pos hk6]
              have := h11.1.pos (by omega)
              refine (nt_good l p5 h10).bnd fun t6 p6 h12 h13 h14 => ?_
              exact obj_good hL hv g _ _ t6 p6 (by omega) h14.1 (by omega) (by simp; omega) hx2 (by simp [hns]) hnd2 hn2
            · rw [if_neg hk6]; exact refu_good h11.1 _
        · rw [if_neg hk5]; exact refu_good h3.1 _
    · rw [if_neg hk7]; exact refu_good ha _
theorem okV_of {k n : Int} {s : ByteArray} {l : List Vt} {ns : List ByteArray} (hk : 0 ≤ k ∧ k ≤ 5) (hn : -9223372036854775808 ≤ n ∧ n ≤ 9223372036854775807) (hs : s.size ≤ 8000000) (hl : l.length ≤ 8000000) (hns : ns.length ≤ 8000000) (h : ∀ m ∈ ns, m.size ≤ 8000000) : okV (.mk k n s l ns) :=
  ⟨⟨by show _ ≤ k; omega, by show k ≤ _; omega⟩, hn, by show s.size ≤ _; omega, by show l.length * 80 ≤ _; omega, by show ns.length * 16 ≤ _; omega, fun m hm => by have := h m hm; omega⟩
theorem val_good (hL : l.length ≤ 8000000) : ∀ (f : Nat) (t : Tk) (lv p : Nat), At l t p → Fu l f t p → lv ≤ 64 → Gd l.length (fun v _ => Gv (64 - (lv : Int)) v) p (val (nt l) f t lv p)
  | 0, _, _, _, ha, hf, _ => by have := ha.le; rcases hf with h | h <;> omega
  | f + 1, t, lv, p, ha, hf, hlv => by
    have hp := ha.le
    have sc : ∀ (k n : Int) (s : ByteArray), (0 ≤ k ∧ k ≤ 5) → (-9223372036854775808 ≤ n ∧ n ≤ 9223372036854775807) → s.size ≤ 8000000 → wi (.mk k n s [] []) (64 - (lv : Int)) = true → Gd l.length (fun v _ => Gv (64 - (lv : Int)) v) p (.ok (.mk k n s [] []) p) :=
      fun k n s hk hn hs hw => ⟨Nat.le_refl _, hp, .mk _ (okV_of hk hn hs (by simp) (by simp) (by simp)) (by intro x hx; cases hx), hw⟩
    rw [val]
    by_cases h11 : t.k = 11
    · rw [if_pos h11]; exact sc 0 0 _ (by omega) (by omega) (by decide) (by simp [wi, wiL, hdB, noneB, scal])
    rw [if_neg h11]
    by_cases h10 : t.k = 10
    · rw [if_pos h10]; exact sc 1 0 _ (by omega) (by omega) (by decide) (by simp [wi, wiL, hdB, noneB, scal])
    rw [if_neg h10]
    by_cases h9 : t.k = 9
    · rw [if_pos h9]; exact sc 1 1 _ (by omega) (by omega) (by decide) (by simp [wi, wiL, hdB, noneB, scal])
    rw [if_neg h9]
    by_cases h8 : t.k = 8
    · rw [if_pos h8]; exact sc 2 t.n _ (by omega) ⟨ha.lo, ha.hi⟩ (by decide) (by simp [wi, wiL, hdB, noneB, scal])
    rw [if_neg h8]
    by_cases h7 : t.k = 7
    · rw [if_pos h7]
      refine sc 3 0 _ (by omega) (by omega) ?_ (by simp [wi, wiL, hdB, scal, ha.txt])
      have := ha.vl
      show t.v.toArray.size ≤ _
      simp
      omega
    rw [if_neg h7]
    by_cases h3 : t.k = 3
    · rw [if_pos h3]
      have hf2 : l.length + 1 ≤ f + p := by rcases hf with h | h <;> omega
      by_cases h64 : lv = 64
      · rw [if_pos h64]; exact ⟨Nat.le_trans ha.o hp, by omega⟩
      · rw [if_neg h64, lst0]
        refine (nt_good l p hp).bnd fun t1 p1 q1 q2 q3 => ?_
        by_cases h4 : t1.k = 4
        · rw [if_pos h4]
          exact ⟨Nat.le_refl _, q2, .mk _ (okV_of (by omega) (by omega) (by decide) (by simp) (by simp) (by simp)) (by intro x hx; cases hx), by simp [wi, wiL, hdB, noneB]; omega⟩
        · rw [if_neg h4]
          refine (lst_good (d := 64 - ((lv + 1 : Nat) : Int)) (p0 := p) (fun t p' h0 h1 => val_good hL f t (lv + 1) p' h1 (Fu_next hf2 h1 h0) (by omega)) f [] t1 p1 q3.2 q3.1 (by omega) (by simp) (by intro x hx; cases hx)).bnd fun l' q r1 r2 r3 => ?_
          refine ⟨Nat.le_refl _, r2, .mk _ (okV_of (by omega) (by omega) (by decide) (by omega) (by simp) (by simp)) fun x hx => (r3.2 x hx).1, ?_⟩
          rw [wi, wiL_all]
          have e : l'.all (fun x => wi x (64 - (lv : Int) - 1)) = true := List.all_eq_true.2 fun x hx => by
            have := (r3.2 x hx).2
            rwa [show (64 : Int) - ((lv + 1 : Nat) : Int) = 64 - (lv : Int) - 1 by omega] at this
          rw [e]
          simp [hdB, noneB]
          omega
    rw [if_neg h3]
    by_cases h1 : t.k = 1
    · rw [if_pos h1]
      have hf2 : l.length + 1 ≤ f + p := by rcases hf with h | h <;> omega
      by_cases h64 : lv = 64
      · rw [if_pos h64]; exact ⟨Nat.le_trans ha.o hp, by omega⟩
      · rw [if_neg h64, obj0]
        refine (nt_good l p hp).bnd fun t1 p1 q1 q2 q3 => ?_
        by_cases h4 : t1.k = 2
        · rw [if_pos h4]
          exact ⟨Nat.le_refl _, q2, .mk _ (okV_of (by omega) (by omega) (by decide) (by simp) (by simp) (by simp)) (by intro x hx; cases hx), by simp [wi, wiL, hdB, noneB, nmB]; omega⟩
        · rw [if_neg h4]
          refine (obj_good (d := 64 - ((lv + 1 : Nat) : Int)) (p0 := p) hL (fun t p' h0 h1 => val_good hL f t (lv + 1) p' h1 (Fu_next hf2 h1 h0) (by omega)) f [] [] t1 p1 q3.2 q3.1 (by omega) (by simp) (by intro x hx; cases hx) rfl (by simp) (by intro x hx; cases hx)).bnd fun x q r1 r2 r3 => ?_
          obtain ⟨a1, a2, a3, a4, a5⟩ := r3
          refine ⟨Nat.le_refl _, r2, .mk _ (okV_of (by omega) (by omega) (by decide) (by omega) (by omega) fun m hm => (a5 m hm).2) fun y hy => (a2 y hy).1, ?_⟩
          rw [wi, wiL_all]
          have e : x.2.all (fun y => wi y (64 - (lv : Int) - 1)) = true := List.all_eq_true.2 fun y hy => by
            have := (a2 y hy).2
            rwa [show (64 : Int) - ((lv + 1 : Nat) : Int) = 64 - (lv : Int) - 1 by omega] at this
          have e2 : x.1.all textB = true := List.all_eq_true.2 fun y hy => (a5 y hy).1
          rw [e]
          simp [hdB, noneB, nmB, a3, e2, a4]
          omega
    rw [if_neg h1]
    exact refu_good ha _
theorem prs_good (F : Nat) (hL : l.length ≤ 8000000) (hF : l.length + 2 ≤ F) : Gd l.length (fun v _ => OkT v ∧ wi v 64 = true) 0 (prs F l) := by
  unfold prs
  refine (nt_good l 0 (Nat.zero_le _)).bnd fun t p h1 h2 h3 => (val_good hL F t 0 p h3.1 (.inl (by omega)) (by omega)).bnd fun v q r1 r2 r3 => (nt_good l q r2).bnd fun t2 q2 s1 s2 s3 => ?_
  by_cases hk : t2.k = 0
  · rw [if_pos hk]; exact ⟨Nat.le_refl _, s2, r3.1, by simpa [Gv] using r3.2⟩
  · rw [if_neg hk]; exact ⟨Nat.le_trans s3.1.o s2, by omega⟩
end

/-! ### blanks ahead -/
def shR {α : Type} (φ : α → α) (d : Nat) : Rs α → Rs α
  | .ok x p => .ok (φ x) (d + p)
  | .no o e => .no (d + o) e
theorem bnd_sh {α β : Type} {φ : α → α} {ψ : β → β} {d : Nat} {r : Rs α} {f f' : α → Nat → Rs β} (h : ∀ x p, f' (φ x) (d + p) = shR ψ d (f x p)) : bnd (shR φ d r) f' = shR ψ d (bnd r f) := by
  cases r with
  | ok x p => exact h x p
  | no o e => rfl
theorem refu_sh {α : Type} (φ : α → α) (d : Nat) (t : Tk) : refu (t.sh d) = shR φ d (refu t) := rfl
section
variable {T T' : Nat → Rs Tk} {d : Nat} (hT : ∀ p, T' (d + p) = shR (fun t => t.sh d) d (T p))
include hT
theorem lst_sh {vf vf' : Tk → Nat → Rs Vt} (hv : ∀ t p, vf' (t.sh d) (d + p) = shR id d (vf t p)) : ∀ (g : Nat) (acc : List Vt) (t : Tk) (p : Nat), lst T' vf' g acc (t.sh d) (d + p) = shR id d (lst T vf g acc t p)
  | 0, _, _, _ => rfl
  | g + 1, acc, t, p => by
    rw [lst, lst, hv]
    refine bnd_sh fun v p1 => ?_
    rw [hT]
    refine bnd_sh fun t2 p2 => ?_
    by_cases h4 : t2.k = 4
    · rw [if_pos h4, if_pos (show (t2.sh d).k = 4 from h4)]; rfl
    · rw [if_neg h4, if_neg (show ¬ (t2.sh d).k = 4 from h4)]
      by_cases h6 : t2.k = 6
      · rw [if_pos h6, if_pos (show (t2.sh d).k = 6 from h6), hT]
        exact bnd_sh fun t3 p3 => lst_sh hv g _ t3 p3
      · rw [if_neg h6, if_neg (show ¬ (t2.sh d).k = 6 from h6)]; rfl
theorem obj_sh {vf vf' : Tk → Nat → Rs Vt} (hv : ∀ t p, vf' (t.sh d) (d + p) = shR id d (vf t p)) : ∀ (g : Nat) (ns : List ByteArray) (acc : List Vt) (t : Tk) (p : Nat), obj T' vf' g ns acc (t.sh d) (d + p) = shR id d (obj T vf g ns acc t p)
  | 0, _, _, _, _ => rfl
  | g + 1, ns, acc, t, p => by
    rw [obj, obj]
    by_cases h7 : t.k = 7
    · rw [if_pos h7, if_pos (show (t.sh d).k = 7 from h7)]
      by_cases htw : isin ns (tx t) = true
      · rw [if_pos htw, if_pos (show isin ns (tx (t.sh d)) = true from htw)]; rfl
      · rw [if_neg htw, if_neg (show ¬ isin ns (tx (t.sh d)) = true from htw), hT]
        refine bnd_sh fun t2 p2 => ?_
        by_cases h5 : t2.k = 5
        · rw [if_pos h5, if_pos (show (t2.sh d).k = 5 from h5), hT]
          refine bnd_sh fun t3 p3 => ?_
          rw [hv]
          refine bnd_sh fun v p4 => ?_
          rw [hT]
          refine bnd_sh fun t5 p5 => ?_
          by_cases h2 : t5.k = 2
          · rw [if_pos h2, if_pos (show (t5.sh d).k = 2 from h2)]; rfl
          · rw [if_neg h2, if_neg (show ¬ (t5.sh d).k = 2 from h2)]
            by_cases h6 : t5.k = 6
            · rw [if_pos h6, if_pos (show (t5.sh d).k = 6 from h6), hT]
              exact bnd_sh fun t6 p6 => obj_sh hv g _ _ t6 p6
            · rw [if_neg h6, if_neg (show ¬ (t5.sh d).k = 6 from h6)]; rfl
        · rw [if_neg h5, if_neg (show ¬ (t2.sh d).k = 5 from h5)]; rfl
    · rw [if_neg h7, if_neg (show ¬ (t.sh d).k = 7 from h7)]; rfl
theorem val_sh : ∀ (f : Nat) (t : Tk) (lv p : Nat), val T' f (t.sh d) lv (d + p) = shR id d (val T f t lv p)
  | 0, _, _, _ => rfl
  | f + 1, t, lv, p => by
    rw [val, val]
    simp only [show (t.sh d).k = t.k from rfl, show (t.sh d).n = t.n from rfl, show tx (t.sh d) = tx t from rfl]
    repeat' split
    all_goals first
      | rfl
      | skip
    · rw [lst0, lst0, hT]
      refine bnd_sh fun t1 p1 => ?_
      by_cases h4 : t1.k = 4
      · rw [if_pos h4, if_pos (show (t1.sh d).k = 4 from h4)]; rfl
      · rw [if_neg h4, if_neg (show ¬ (t1.sh d).k = 4 from h4), lst_sh hT (fun t p => val_sh f t (lv + 1) p)]
        exact bnd_sh fun _ _ => rfl
    · rw [obj0, obj0, hT]
      refine bnd_sh fun t1 p1 => ?_
      by_cases h4 : t1.k = 2
      · rw [if_pos h4, if_pos (show (t1.sh d).k = 2 from h4)]; rfl
      · rw [if_neg h4, if_neg (show ¬ (t1.sh d).k = 2 from h4), obj_sh hT (fun t p => val_sh f t (lv + 1) p)]
        exact bnd_sh fun _ _ => rfl
end
theorem nt_pre (b l : List UInt8) (p : Nat) : nt (b ++ l) (b.length + p) = shR (fun t => t.sh b.length) b.length (nt l p) := by
  have e : (b ++ l).drop (b.length + p) = l.drop p := by rw [← List.drop_drop, List.drop_left' rfl]
  unfold nt
  rw [e]
  by_cases h : (nx (l.drop p)).1 = 0
  · rw [if_pos h, if_pos h]
    show Rs.ok _ _ = Rs.ok _ _
    congr 1
    · show Tk.sh _ _ = Tk.sh _ (Tk.sh _ _)
      unfold Tk.sh
      simp only [Nat.add_assoc]
    · omega
  · rw [if_neg h, if_neg h]
    show Rs.no _ _ = Rs.no _ _
    congr 1
    omega
theorem nt_first {b : List UInt8} (h : ∀ c ∈ b, bl c.toNat = true) (l : List UInt8) : nt (b ++ l) 0 = shR (fun t => t.sh b.length) b.length (nt l 0) := by
  have e := (nx_pre h l).1
  unfold nt
  rw [List.drop_zero, List.drop_zero, e]
  by_cases h : (nx l).1 = 0
  · rw [if_pos h, if_pos h]
    show Rs.ok _ _ = Rs.ok _ _
    congr 1
    · show Tk.sh _ (Tk.sh _ _) = Tk.sh _ (Tk.sh _ _)
      unfold Tk.sh
      simp only [Nat.zero_add]
    · show 0 + (b.length + (nx l).2.o) + (nx l).2.z = b.length + (0 + (nx l).2.o + (nx l).2.z)
      omega
  · rw [if_neg h, if_neg h]
    show Rs.no _ _ = Rs.no _ _
    congr 1
    show 0 + (b.length + (nx l).2.o) = b.length + (0 + (nx l).2.o)
    omega
/-- Blanks ahead shift the fault alone. -/
theorem prs_pre (F : Nat) {b : List UInt8} (h : ∀ c ∈ b, bl c.toNat = true) (l : List UInt8) : prs F (b ++ l) = shR id b.length (prs F l) := by
  unfold prs
  rw [nt_first h l]
  refine bnd_sh fun t p => ?_
  rw [val_sh (nt_pre b l)]
  refine bnd_sh fun v q => ?_
  show bnd (nt (b ++ l) (b.length + q)) _ = _
  rw [nt_pre]
  refine bnd_sh fun t2 q2 => ?_
  by_cases h0 : t2.k = 0
  · rw [if_pos h0, if_pos (show (t2.sh b.length).k = 0 from h0)]; rfl
  · rw [if_neg h0, if_neg (show ¬ (t2.sh b.length).k = 0 from h0)]; rfl
end Go.Proofs.YtbpofhlnnldceaaGreatDoor.Par

namespace Go.Proofs.YtbpofhlnnldceaaGreatDoor.Par
open Go.RowKit Go.Lib Go.Proofs.YtbpofhlnnldceaaGreatDoor.Byt Go.Proofs.YtbpofhlnnldceaaGreatDoor.Lx

/-- The panic that carries a fault. -/
def Fp (o e : Nat) : List PanicEntry := [{ v := .iface 41 (.agg #[.int .i64 (o : Int), .int .i64 (e : Int)]), recovered := false }]
/-- Of what was there only block b may have changed. -/
def Only (b : Nat) (W W' : World) : Prop := W.grownBy W' (some b)
section
variable {b : Nat} {w0 W W' W2 : World}
theorem Only.refl (b : Nat) (W : World) : Only b W W := ⟨rfl, rfl, rfl, Nat.le_refl _, fun _ _ _ => rfl⟩
theorem Only.at_ (h : Only b W W') {k : Nat} (hk : k < W.heap.size) (hne : k ≠ b) : W'.heap[k]? = W.heap[k]? := h.block k hk (by simpa using hne)
theorem Only.trans (h : Only b W W') (k : Only b W' W2) : Only b W W2 :=
  ⟨k.os.trans h.os, k.tape.trans h.tape, k.output.trans h.output, Nat.le_trans h.size k.size, fun j hj hne => (k.block j (Nat.lt_of_lt_of_le hj h.size) hne).trans (h.block j hj hne)⟩
theorem Only.of (h : Below W.heap.size W W') : Only b W W' := ⟨h.os, h.tape, h.output, h.size, fun k hk _ => h.block k hk⟩
theorem Only.next (h : Only b W W') (k : Below W'.heap.size W' W2) : Only b W W2 := h.trans (.of k)
theorem Only.put (h : Only b W W') (j : Nat) (u : Value) : Only b W (W'.setCell ⟨b, j, none⟩ u) :=
  h.trans ⟨rfl, rfl, rfl, by simp [World.setCell], fun k _ hne => Below.heap_setCell _ _ _ _ (by simpa using hne)⟩
theorem Only.low (h : Only b W W') {B : Nat} (hb : Below B w0 W) (hB : B ≤ b) (hs : B ≤ w0.heap.size) : Below B w0 W' :=
  hb.trans ⟨h.os, h.tape, h.output, h.size, fun k hk => h.at_ (by have := hb.size; omega) (by omega)⟩
end

/-- A reader of the call's own, at block b, that reads s from p on; w0 is the world in which the call began. -/
structure Pr (w0 : World) (b : Nat) (s : ByteArray) (p : Nat) (W : World) : Prop where
  lo : w0.heap.size ≤ b
  cells : W.heap[b]? = some (.cells #[.string s, .int .i64 (p : Int)] 43 (0, 0))
  bel : Below w0.heap.size w0 W
  env0 : Env w0
section
variable {w0 W W' : World} {b p : Nat} {s : ByteArray}
theorem Pr.env (h : Pr w0 b s p W) : Env W := h.env0.next h.bel
theorem Pr.lt (h : Pr w0 b s p W) : b < W.heap.size := by
  rcases Nat.lt_or_ge b W.heap.size with h' | h'
  · exact h'
  · have := h.cells; simp [Array.getElem?_eq_none h'] at this
theorem Pr.next (h : Pr w0 b s p W) (hb : Below W.heap.size W W') : Pr w0 b s p W' := ⟨h.lo, (hb.block b h.lt).trans h.cells, h.bel.trans (hb.mono h.bel.size), h.env0⟩
theorem Pr.drew (h : Pr w0 b s p W) : Pr w0 b s p W.drew := ⟨h.lo, h.cells, h.bel.drew, h.env0⟩
theorem Pr.alloc (h : Pr w0 b s p W) (o : Obj) : Pr w0 b s p (W.alloc o) := h.next ((Below.refl _ _).alloc (Nat.le_refl _) o)
theorem Pr.c0 (h : Pr w0 b s p W) : W.cell? ⟨b, 0, none⟩ = some (.string s) := by rw [Lib.cell_of_heap h.cells]; rfl
theorem Pr.c1 (h : Pr w0 b s p W) : W.cell? ⟨b, 1, none⟩ = some (.int .i64 (p : Int)) := by rw [Lib.cell_of_heap h.cells]; rfl
theorem Pr.free (h : Pr w0 b s p W) (j : Nat) : W.frozen? ⟨b, j, none⟩ = false := Lib.frozen_of_heap h.cells j
theorem Pr.put (h : Pr w0 b s p W) (q : Nat) : Pr w0 b s q (W.setCell ⟨b, 1, none⟩ (.int .i64 (q : Int))) :=
  ⟨h.lo, Go.heap_setCell_same W b 1 _ _ (.int .i64 (q : Int)) h.cells, h.bel.setCell (p := ⟨b, 1, none⟩) h.lo _, h.env0⟩
theorem Only.low2 {W2 : World} (h : Only b W W') (k : Below W.heap.size W' W2) : Only b W W2 :=
  ⟨k.os.trans h.os, k.tape.trans h.tape, k.output.trans h.output, Nat.le_trans h.size k.size, fun j hj hne => (k.block j hj).trans (h.block j hj hne)⟩
theorem Pr.low {W2 : World} {B : Nat} (h : Pr w0 b s p W') (k : Below B W' W2) (hb : b < B) (hw : w0.heap.size ≤ B) : Pr w0 b s p W2 := ⟨h.lo, (k.block b hb).trans h.cells, h.bel.trans (k.mono hw), h.env0⟩
/-- Only another block than b changed. -/
theorem Pr.beside (h : Pr w0 b s p W) (hb : Below w0.heap.size w0 W') (k : W'.heap[b]? = W.heap[b]?) : Pr w0 b s p W' := ⟨h.lo, k.trans h.cells, hb, h.env0⟩
end

/-- How a call ends that reads: with what was read, or with a panic that carries the fault. -/
def Out {α : Type} (w0 : World) (b : Nat) (s : ByteArray) (W : World) (V : World → α → Value → Prop) (r : Rs α) (e : Ending) (W' : World) : Prop :=
  Only b W W' ∧ match r with
  | .ok x q => Pr w0 b s q W' ∧ ∃ v, e = .returned v ∧ V W' x v
  | .no o er => Below w0.heap.size w0 W' ∧ e = .panicked (Fp o er)
theorem Out.ok {α : Type} {w0 : World} {b : Nat} {s : ByteArray} {W : World} {V : World → α → Value → Prop} {x : α} {q : Nat} {e : Ending} {W' : World} (h : Out w0 b s W V (.ok x q) e W') : Only b W W' ∧ Pr w0 b s q W' ∧ ∃ v, e = .returned v ∧ V W' x v := h
theorem Out.no {α : Type} {w0 : World} {b : Nat} {s : ByteArray} {W : World} {V : World → α → Value → Prop} {o er : Nat} {e : Ending} {W' : World} (h : Out (α := α) w0 b s W V (.no o er) e W') : Only b W W' ∧ Below w0.heap.size w0 W' ∧ e = .panicked (Fp o er) := h

/-- A reader, and what was there stays. -/
structure Nr (w0 : World) (b : Nat) (s : ByteArray) (p : Nat) (W1 W' : World) : Prop where
  pr : Pr w0 b s p W'
  be : Below W1.heap.size W1 W'
  lt : b < W1.heap.size
section
variable {w0 W1 W' W2 : World} {b p : Nat} {s : ByteArray}
theorem Nr.next (h : Nr w0 b s p W1 W') (k : Below W'.heap.size W' W2) : Nr w0 b s p W1 W2 := ⟨h.pr.next k, h.be.trans (k.mono h.be.size), h.lt⟩
theorem Nr.drew (h : Nr w0 b s p W1 W') : Nr w0 b s p W1 W'.drew := ⟨h.pr.drew, h.be.drew, h.lt⟩
theorem Nr.alloc (h : Nr w0 b s p W1 W') (o : Obj) : Nr w0 b s p W1 (W'.alloc o) := h.next ((Below.refl _ _).alloc (Nat.le_refl _) o)
theorem Nr.set (h : Nr w0 b s p W1 W') {g : Nat} (hg : W1.heap.size ≤ g) (j : Nat) (u : Value) : Nr w0 b s p W1 (W'.setCell ⟨g, j, none⟩ u) :=
  ⟨h.pr.beside ((h.pr.bel.trans ⟨rfl, rfl, rfl, by simp [World.setCell], fun k hk => Below.heap_setCell _ _ _ _ (by have := h.lt; have := h.pr.lo; show k ≠ g; omega)⟩)) (heap_setCell_other _ _ _ _ (by have := h.lt; show b ≠ g; omega)), h.be.setCell (p := ⟨g, j, none⟩) hg u, h.lt⟩
theorem Nr.sets (h : Nr w0 b s p W1 W') {g : Nat} (hg : W1.heap.size ≤ g) (u0 u1 u2 u3 u4 : Value) :
    Nr w0 b s p W1 (((((W'.setCell ⟨g, 0, none⟩ u0).setCell ⟨g, 1, none⟩ u1).setCell ⟨g, 2, none⟩ u2).setCell ⟨g, 3, none⟩ u3).setCell ⟨g, 4, none⟩ u4) := ((((h.set hg 0 u0).set hg 1 u1).set hg 2 u2).set hg 3 u3).set hg 4 u4
end
theorem keep_at {W w7 : World} {g : Nat} (hb : Below W.heap.size W w7) (hg : g < W.heap.size) {j : Nat} : w7.cell? ⟨g, j, none⟩ = W.cell? ⟨g, j, none⟩ := hb.cell (p := ⟨g, j, none⟩) hg
theorem keep_free {W w7 : World} {g : Nat} (hb : Below W.heap.size W w7) (hg : g < W.heap.size) {j : Nat} : w7.frozen? ⟨g, j, none⟩ = W.frozen? ⟨g, j, none⟩ := hb.frozen (p := ⟨g, j, none⟩) hg
/-- What a function hands back whose one result is a token in memory. -/
theorem results_one {fn : Func} {q : Tmp} (h : fn.results = #[.cell q 46]) (tmps : Array Value) (w : World) (g : Nat) (cs : Array Value)
    (hp : tmps.getD q undef = .pointer (some ⟨g, 0, none⟩)) (hk : Box w g cs) (h5 : cs.size = 5) : (results fn tmps).run Tryz.prog w = .ok (.agg cs) w :=
  results_cell_row h tmps w g _ cs _ _ hp hk Tryz.underlying46 rfl (by rw [info5, h5])
theorem box_other {w : World} {g b j : Nat} {cs : Array Value} (h : Box w g cs) (hne : g ≠ b) (u : Value) : Box (w.setCell ⟨b, j, none⟩ u) g cs := (heap_setCell_other w ⟨b, j, none⟩ g u hne).trans h
theorem box_sets {w : World} {g : Nat} {a0 a1 a2 a3 a4 : Value} (h : Box w g #[a0, a1, a2, a3, a4]) (u0 u1 u2 u3 u4 : Value) :
    Box (((((w.setCell ⟨g, 0, none⟩ u0).setCell ⟨g, 1, none⟩ u1).setCell ⟨g, 2, none⟩ u2).setCell ⟨g, 3, none⟩ u3).setCell ⟨g, 4, none⟩ u4) g #[u0, u1, u2, u3, u4] :=
  heap_setCell_same _ g 4 _ _ u4 (heap_setCell_same _ g 3 _ _ u3 (heap_setCell_same _ g 2 _ _ u2 (heap_setCell_same _ g 1 _ _ u1 (heap_setCell_same w g 0 _ _ u0 h))))
theorem nxA_at (s : ByteArray) (p : Nat) (hp : p ≤ s.size) : nxA s (p : Int) = atR p (nx (sf s p)) := by unfold nxA; rw [cl_in s p hp]
theorem nR_tk (p : Nat) (r : Nat × Tk) : nR (atR p r) = .tuple #[.agg #[.int .i64 ((r.2.sh p).k : Int), .int .i64 ((r.2.sh p).o : Int), .int .i64 ((r.2.sh p).z : Int), .string ⟨(r.2.sh p).v.toArray⟩, .int .i64 (r.2.sh p).n], .int .i64 (r.1 : Int)] := rfl
theorem nt_sf (s : ByteArray) (p : Nat) : nt s.data.toList p = if (nx (sf s p)).1 = 0 then .ok ((nx (sf s p)).2.sh p) (p + (nx (sf s p)).2.o + (nx (sf s p)).2.z) else .no (p + (nx (sf s p)).2.o) (nx (sf s p)).1 := rfl

set_option maxRecDepth 100000 in
set_option maxHeartbeats 2000000 in
theorem next_at (w0 : World) (b : Nat) (s : ByteArray) (p : Nat) (W : World) (h : Pr w0 b s p W) (hs : s.size ≤ 8000000) (hp : p ≤ s.size) :
    Calls Tryz.prog 18 #[.pointer (some ⟨b, 0, none⟩)] W (Out w0 b s W (fun _ t v => v = tkV t) (nt s.data.toList p)) := by
  have HN0 := fun W (hw : Pr w0 b s p W) => Lx.next_any s (p : Int) hs W hw.env (by omega) (by omega)
  rw [nxA_at s p hp, nR_tk] at HN0
  rw [nt_sf]
  have hg := nx_good (sf s p)
  rw [sf_len] at hg
  have hdr := h.drew
  have d0 := fun W (hw : Pr w0 b s p W) => hw.c0
  have d1 := fun W (hw : Pr w0 b s p W) => hw.c1
  have H := Lib.hid HN0
  clear HN0
  by_cases he : (nx (sf s p)).1 = 0
  · rw [if_pos he]
    obtain ⟨_, hle, _⟩ := hg he
    have hx1 : ((nx (sf s p)).2.sh p).o + ((nx (sf s p)).2.sh p).z ≤ s.size := by show p + (nx (sf s p)).2.o + (nx (sf s p)).2.z ≤ _; omega
    have hx2 : p + (nx (sf s p)).2.o + (nx (sf s p)).2.z = ((nx (sf s p)).2.sh p).o + ((nx (sf s p)).2.sh p).z := rfl
    rw [hx2]
    rw [he] at H
    clear hx2 hle hg he
    generalize (nx (sf s p)).2.sh p = X at *
    have e0 : Below W.heap.size W (W.alloc (.cells #[.int .i64 0, .int .i64 0, .int .i64 0, .string ⟨#[]⟩, .int .i64 0] 46)) := (Below.refl _ _).alloc (Nat.le_refl _) _
    have b0 : Box (W.alloc (.cells #[.int .i64 0, .int .i64 0, .int .i64 0, .string ⟨#[]⟩, .int .i64 0] 46)) W.heap.size _ := box_new _ _
    have h0 := h.next e0
    have hs0 : W.heap.size < (W.alloc (.cells #[.int .i64 0, .int .i64 0, .int .i64 0, .string ⟨#[]⟩, .int .i64 0] 46)).heap.size := by simp
    have hbl := h.lt
    go_enter Tryz.func18, Tryz.ntmps18
    go_wp2_with fail
    generalize W.alloc (.cells #[.int .i64 0, .int .i64 0, .int .i64 0, .string ⟨#[]⟩, .int .i64 0] 46) = W1 at *
    have hdr := (⟨h0, Below.refl _ _, by omega⟩ : Nr w0 b s p W1 W1).drew
    have d0 : ∀ W, Nr w0 b s p W1 W → W.cell? ⟨b, 0, none⟩ = some (.string s) := fun W hw => hw.pr.c0
    have d1 : ∀ W, Nr w0 b s p W1 W → W.cell? ⟨b, 1, none⟩ = some (.int .i64 (p : Int)) := fun W hw => hw.pr.c1
    go_region_held3 (Nr w0 b s p W1) (first | exact hdr | assumption | exact Nr.alloc (by assumption) _ | exact Nr.sets (by assumption) (Nat.le_refl _) _ _ _ _ _ | exact Nr.sets (by assumption) (by assumption) _ _ _ _ _)
      ((go_at_call 33; (with_reducible refine (H.out _ (Nr.pr (by assumption))).mono ?_); rintro e w1 ⟨rfl, hb1⟩; have nr1 := Nr.next (by assumption) hb1; have hle1 := nr1.be.size; have ck := fun h j => keep_at (g := W1.heap.size) hb1 h (j := j); have cz := fun h j => keep_free (g := W1.heap.size) hb1 h (j := j)))
    · have bx : Box (w1.alloc (.cells #[.int .i64 (X.k : Int), .int .i64 (X.o : Int), .int .i64 (X.z : Int), .string ⟨X.v.toArray⟩, .int .i64 X.n] 46)) w1.heap.size _ := box_new _ _
      have nr : Nr w0 b s p W1 (w1.alloc (.cells #[.int .i64 (X.k : Int), .int .i64 (X.o : Int), .int .i64 (X.z : Int), .string ⟨X.v.toArray⟩, .int .i64 X.n] 46)) := by assumption
      clear ck cz nr1 hb1
      generalize (w1.alloc (.cells #[.int .i64 (X.k : Int), .int .i64 (X.o : Int), .int .i64 (X.z : Int), .string ⟨X.v.toArray⟩, .int .i64 X.n] 46)) = w2 at *
      generalize w1.heap.size = g at *
      have r1 : w2.cell? ⟨g, 1, none⟩ = some (.int .i64 (X.o : Int)) := bx.cell 1
      have r2 : w2.cell? ⟨g, 2, none⟩ = some (.int .i64 (X.z : Int)) := bx.cell 2
      have f1 := nr.pr.free 1
      have hgb : g ≠ b := by have := nr.lt; omega
      have bx2 := box_other (j := 1) bx hgb (.int .i64 ((X.o + X.z : Nat) : Int))
      have b2 := box_other (j := 1) (b0.next nr.be hs0) (by omega : W.heap.size ≠ b) (.int .i64 ((X.o + X.z : Nat) : Int))
      have p2 := nr.pr.put (X.o + X.z)
      have o2 : Only b W (w2.setCell ⟨b, 1, none⟩ (.int .i64 ((X.o + X.z : Nat) : Int))) := Only.put ((Only.of e0).next nr.be) 1 _
      have hwr : IntKind.i64.wrap ((X.o : Int) + (X.z : Int)) = ((X.o + X.z : Nat) : Int) := by rw [IntKind.wrap_i64]; omega
      clear nr bx
      generalize hJ : X.o + X.z = J at *
      have HJ := Lib.hid hJ
      clear hJ
      have lw := Below.refl W.heap.size (w2.setCell ⟨b, 1, none⟩ (.int .i64 (J : Int)))
      go_wp2_with (first
        | (refine wpList_fetch _ rfl _ rfl g _ rfl bx2 rfl ?_)
        | (refine Lx.wpList_keep _ rfl _ _ rfl W.heap.size _ lw W.heap.size (Nat.le_refl _) _ _ _ _ _ _ rfl rfl b2 rfl ?_; intro w3 bx3 hb3 hk3))
      try simp only [Exit.inBlock, Exit.then]
      refine bodyPost_ret (results_one rfl _ _ _ _ rfl bx3 rfl) rfl ?_
      exact ⟨o2.low2 hb3, HJ.out ▸ p2.low hb3 hbl (by have := h.bel.size; omega), _, rfl, rfl⟩
    · have bx : Box (((((w1.setCell ⟨W1.heap.size, 0, none⟩ (.int .i64 (X.k : Int))).setCell ⟨W1.heap.size, 1, none⟩ (.int .i64 (X.o : Int))).setCell ⟨W1.heap.size, 2, none⟩ (.int .i64 (X.z : Int))).setCell ⟨W1.heap.size, 3, none⟩ (.string ⟨X.v.toArray⟩)).setCell ⟨W1.heap.size, 4, none⟩ (.int .i64 X.n)) W1.heap.size _ := box_sets (Box.next (show Box (W1.alloc (.cells #[.int .i64 0, .int .i64 0, .int .i64 0, .string ⟨#[]⟩, .int .i64 0] 46)).drew W1.heap.size _ from box_new W1 _) hb1 (by show _ < (W1.alloc _).heap.size; simp)) _ _ _ _ _
      have nr : Nr w0 b s p W1 (((((w1.setCell ⟨W1.heap.size, 0, none⟩ (.int .i64 (X.k : Int))).setCell ⟨W1.heap.size, 1, none⟩ (.int .i64 (X.o : Int))).setCell ⟨W1.heap.size, 2, none⟩ (.int .i64 (X.z : Int))).setCell ⟨W1.heap.size, 3, none⟩ (.string ⟨X.v.toArray⟩)).setCell ⟨W1.heap.size, 4, none⟩ (.int .i64 X.n)) := by assumption
      have hle2 : W1.heap.size ≤ W1.heap.size := Nat.le_refl _
      clear ck cz nr1 hb1 hle1
      generalize (((((w1.setCell ⟨W1.heap.size, 0, none⟩ (.int .i64 (X.k : Int))).setCell ⟨W1.heap.size, 1, none⟩ (.int .i64 (X.o : Int))).setCell ⟨W1.heap.size, 2, none⟩ (.int .i64 (X.z : Int))).setCell ⟨W1.heap.size, 3, none⟩ (.string ⟨X.v.toArray⟩)).setCell ⟨W1.heap.size, 4, none⟩ (.int .i64 X.n)) = w2 at *
      have r1 : w2.cell? ⟨W1.heap.size, 1, none⟩ = some (.int .i64 (X.o : Int)) := bx.cell 1
      have r2 : w2.cell? ⟨W1.heap.size, 2, none⟩ = some (.int .i64 (X.z : Int)) := bx.cell 2
      have f1 := nr.pr.free 1
      have hgb : W1.heap.size ≠ b := by have := nr.lt; omega
      have bx2 := box_other (j := 1) bx hgb (.int .i64 ((X.o + X.z : Nat) : Int))
      have b2 := box_other (j := 1) (b0.next nr.be hs0) (by omega : W.heap.size ≠ b) (.int .i64 ((X.o + X.z : Nat) : Int))
      have p2 := nr.pr.put (X.o + X.z)
      have o2 : Only b W (w2.setCell ⟨b, 1, none⟩ (.int .i64 ((X.o + X.z : Nat) : Int))) := Only.put ((Only.of e0).next nr.be) 1 _
      have hwr : IntKind.i64.wrap ((X.o : Int) + (X.z : Int)) = ((X.o + X.z : Nat) : Int) := by rw [IntKind.wrap_i64]; omega
      clear nr bx
      generalize hJ : X.o + X.z = J at *
      have HJ := Lib.hid hJ
      clear hJ
      have lw := Below.refl W.heap.size (w2.setCell ⟨b, 1, none⟩ (.int .i64 (J : Int)))
      go_wp2_with (first
        | (refine wpList_fetch _ rfl _ rfl W1.heap.size _ rfl bx2 rfl ?_)
        | (refine Lx.wpList_keep _ rfl _ _ rfl W.heap.size _ lw W.heap.size (Nat.le_refl _) _ _ _ _ _ _ rfl rfl b2 rfl ?_; intro w3 bx3 hb3 hk3))
      try simp only [Exit.inBlock, Exit.then]
      refine bodyPost_ret (results_one rfl _ _ _ _ rfl bx3 rfl) rfl ?_
      exact ⟨o2.low2 hb3, HJ.out ▸ p2.low hb3 hbl (by have := h.bel.size; omega), _, rfl, rfl⟩
  · rw [if_neg he]
    have hx2 : p + (nx (sf s p)).2.o = ((nx (sf s p)).2.sh p).o := rfl
    rw [hx2]
    have hne : (((nx (sf s p)).1 : Int) != 0) = true := by rw [bne_iff_ne]; omega
    clear hx2 hg he
    generalize (nx (sf s p)).2.sh p = X at *
    generalize (nx (sf s p)).1 = E at *
    have e0 : Below W.heap.size W (W.alloc (.cells #[.int .i64 0, .int .i64 0, .int .i64 0, .string ⟨#[]⟩, .int .i64 0] 46)) := (Below.refl _ _).alloc (Nat.le_refl _) _
    have b0 : Box (W.alloc (.cells #[.int .i64 0, .int .i64 0, .int .i64 0, .string ⟨#[]⟩, .int .i64 0] 46)) W.heap.size _ := box_new _ _
    have h0 := h.next e0
    have hs0 : W.heap.size < (W.alloc (.cells #[.int .i64 0, .int .i64 0, .int .i64 0, .string ⟨#[]⟩, .int .i64 0] 46)).heap.size := by simp
    have hbl := h.lt
    go_enter Tryz.func18, Tryz.ntmps18
    go_wp2_with fail
    generalize W.alloc (.cells #[.int .i64 0, .int .i64 0, .int .i64 0, .string ⟨#[]⟩, .int .i64 0] 46) = W1 at *
    have hdr := (⟨h0, Below.refl _ _, by omega⟩ : Nr w0 b s p W1 W1).drew
    have d0 : ∀ W, Nr w0 b s p W1 W → W.cell? ⟨b, 0, none⟩ = some (.string s) := fun W hw => hw.pr.c0
    have d1 : ∀ W, Nr w0 b s p W1 W → W.cell? ⟨b, 1, none⟩ = some (.int .i64 (p : Int)) := fun W hw => hw.pr.c1
    go_region_held3 (Nr w0 b s p W1) (first | exact hdr | assumption | exact Nr.alloc (by assumption) _ | exact Nr.sets (by assumption) (Nat.le_refl _) _ _ _ _ _ | exact Nr.sets (by assumption) (by assumption) _ _ _ _ _)
      ((go_at_call 33; (with_reducible refine (H.out _ (Nr.pr (by assumption))).mono ?_); rintro e w1 ⟨rfl, hb1⟩; have nr1 := Nr.next (by assumption) hb1; have hle1 := nr1.be.size; have ck := fun h j => keep_at (g := W1.heap.size) hb1 h (j := j); have cz := fun h j => keep_free (g := W1.heap.size) hb1 h (j := j)))
    · have bx : Box (w1.alloc (.cells #[.int .i64 (X.k : Int), .int .i64 (X.o : Int), .int .i64 (X.z : Int), .string ⟨X.v.toArray⟩, .int .i64 X.n] 46)) w1.heap.size _ := box_new _ _
      have nr : Nr w0 b s p W1 (w1.alloc (.cells #[.int .i64 (X.k : Int), .int .i64 (X.o : Int), .int .i64 (X.z : Int), .string ⟨X.v.toArray⟩, .int .i64 X.n] 46)) := by assumption
      clear ck cz nr1 hb1
      generalize (w1.alloc (.cells #[.int .i64 (X.k : Int), .int .i64 (X.o : Int), .int .i64 (X.z : Int), .string ⟨X.v.toArray⟩, .int .i64 X.n] 46)) = w2 at *
      generalize w1.heap.size = g at *
      have r1 : w2.cell? ⟨g, 1, none⟩ = some (.int .i64 (X.o : Int)) := bx.cell 1
      have o2 : Only b W w2 := (Only.of e0).next nr.be
      have p2 := nr.pr.bel
      clear nr bx
      go_wp2_with fail
      exact ⟨rfl, o2, p2, rfl⟩
    · have bx : Box (((((w1.setCell ⟨W1.heap.size, 0, none⟩ (.int .i64 (X.k : Int))).setCell ⟨W1.heap.size, 1, none⟩ (.int .i64 (X.o : Int))).setCell ⟨W1.heap.size, 2, none⟩ (.int .i64 (X.z : Int))).setCell ⟨W1.heap.size, 3, none⟩ (.string ⟨X.v.toArray⟩)).setCell ⟨W1.heap.size, 4, none⟩ (.int .i64 X.n)) W1.heap.size _ := box_sets (Box.next (show Box (W1.alloc (.cells #[.int .i64 0, .int .i64 0, .int .i64 0, .string ⟨#[]⟩, .int .i64 0] 46)).drew W1.heap.size _ from box_new W1 _) hb1 (by show _ < (W1.alloc _).heap.size; simp)) _ _ _ _ _
      have nr : Nr w0 b s p W1 (((((w1.setCell ⟨W1.heap.size, 0, none⟩ (.int .i64 (X.k : Int))).setCell ⟨W1.heap.size, 1, none⟩ (.int .i64 (X.o : Int))).setCell ⟨W1.heap.size, 2, none⟩ (.int .i64 (X.z : Int))).setCell ⟨W1.heap.size, 3, none⟩ (.string ⟨X.v.toArray⟩)).setCell ⟨W1.heap.size, 4, none⟩ (.int .i64 X.n)) := by assumption
      have hle2 : W1.heap.size ≤ W1.heap.size := Nat.le_refl _
      clear ck cz nr1 hb1 hle1
      generalize (((((w1.setCell ⟨W1.heap.size, 0, none⟩ (.int .i64 (X.k : Int))).setCell ⟨W1.heap.size, 1, none⟩ (.int .i64 (X.o : Int))).setCell ⟨W1.heap.size, 2, none⟩ (.int .i64 (X.z : Int))).setCell ⟨W1.heap.size, 3, none⟩ (.string ⟨X.v.toArray⟩)).setCell ⟨W1.heap.size, 4, none⟩ (.int .i64 X.n)) = w2 at *
      have r1 : w2.cell? ⟨W1.heap.size, 1, none⟩ = some (.int .i64 (X.o : Int)) := bx.cell 1
      have o2 : Only b W w2 := (Only.of e0).next nr.be
      have p2 := nr.pr.bel
      clear nr bx
      go_wp2_with fail
      exact ⟨rfl, o2, p2, rfl⟩
end Go.Proofs.YtbpofhlnnldceaaGreatDoor.Par

namespace Go.Proofs.YtbpofhlnnldceaaGreatDoor.Par
open Go.RowKit Go.Lib Go.Proofs.YtbpofhlnnldceaaGreatDoor.Byt Go.Proofs.YtbpofhlnnldceaaGreatDoor.Lx

theorem refusal_at (t : Tk) (w : World) :
    Calls Tryz.prog 32 #[tkV t] w fun e w' => e = .returned (.agg #[.int .i64 (t.o : Int), .int .i64 ((if t.k = 0 then 3 else 4 : Nat) : Int)]) ∧ Below w.heap.size w w' := by
  unfold tkV
  have h0 : Below w.heap.size w w := Below.refl _ _
  by_cases hk : t.k = 0
  · rw [if_pos hk]
    have hkb : ((t.k : Int) == 0) = true := by rw [hk]; rfl
    clear hk
    go_enter Tryz.func32, Tryz.ntmps32
    go_wp2_with fail
    go_returns
    exact ⟨rfl, ((h0.alloc (Nat.le_refl _) _).alloc (by simp) _)⟩
  · rw [if_neg hk]
    have hkb : ((t.k : Int) == 0) = false := by rw [beq_eq_false_iff_ne]; omega
    clear hk
    go_enter Tryz.func32, Tryz.ntmps32
    go_wp2_with fail
    go_returns
    exact ⟨rfl, ((h0.alloc (Nat.le_refl _) _).alloc (by simp) _)⟩
theorem require_yes (t : Tk) (k : Int) (hk : (t.k : Int) = k) (w : World) :
    Calls Tryz.prog 66 #[tkV t, .int .i64 k] w fun e w' => e = .returned (.tuple #[]) ∧ Below w.heap.size w w' := by
  unfold tkV
  have h0 : Below w.heap.size w w := Below.refl _ _
  have hkb : ((t.k : Int) != k) = false := by rw [hk]; simp
  clear hk
  go_enter Tryz.func66, Tryz.ntmps66
  go_wp2_with fail
  first | go_end0 | refine bodyPost_ret (results_none rfl _ _ _) rfl ?_
  exact ⟨rfl, h0.alloc (Nat.le_refl _) _⟩
theorem require_no (t : Tk) (k : Int) (hk : (t.k : Int) ≠ k) (w : World) :
    Calls Tryz.prog 66 #[tkV t, .int .i64 k] w fun e w' => e = .panicked (Fp t.o (if t.k = 0 then 3 else 4)) ∧ Below w.heap.size w w' := by
  have HR := Lib.hid (fun w => refusal_at t w)
  unfold tkV at *
  have h0 : Below w.heap.size w w := Below.refl _ _
  have hkb : ((t.k : Int) != k) = true := by rw [bne_iff_ne]; exact hk
  generalize (if t.k = 0 then 3 else 4 : Nat) = er at *
  clear hk
  go_enter Tryz.func66, Tryz.ntmps66
  go_wp2_with (go_at_call 32; (with_reducible refine (HR.out _).mono ?_); rintro e w1 ⟨rfl, hb1⟩)
  exact ⟨rfl, rfl, (h0.alloc (Nat.le_refl _) _).trans (hb1.mono (by simp))⟩
theorem deeper_yes (t : Tk) (lv : Nat) (hl : lv < 64) (w : World) :
    Calls Tryz.prog 30 #[tkV t, .int .i64 (lv : Int)] w fun e w' => e = .returned (.int .i64 ((lv + 1 : Nat) : Int)) ∧ Below w.heap.size w w' := by
  unfold tkV
  have h0 : Below w.heap.size w w := Below.refl _ _
  have hkb : ((lv : Int) == 64) = false := by rw [beq_eq_false_iff_ne]; omega
  go_enter Tryz.func30, Tryz.ntmps30
  go_wp2_with fail
  go_ret
  exact ⟨by go_num, h0.alloc (Nat.le_refl _) _⟩
theorem deeper_no (t : Tk) (w : World) :
    Calls Tryz.prog 30 #[tkV t, .int .i64 ((64 : Nat) : Int)] w fun e w' => e = .panicked (Fp t.o 10) ∧ Below w.heap.size w w' := by
  unfold tkV
  have h0 : Below w.heap.size w w := Below.refl _ _
  go_enter Tryz.func30, Tryz.ntmps30
  go_wp2_with fail
  exact ⟨rfl, rfl, h0.alloc (Nat.le_refl _) _⟩

/-! ### first -/
def fst (T : Nat → Rs Tk) (en p : Nat) : Rs (Tk × Bool) := bnd (T p) fun t q => .ok (t, decide (t.k ≠ en)) q
def fol (T : Nat → Rs Tk) (en p : Nat) : Rs (Tk × Bool) := bnd (T p) fun t q => if t.k = en then .ok (t, false) q else if t.k = 6 then bnd (T q) fun t2 q2 => .ok (t2, true) q2 else refu t
def tb (x : Tk × Bool) : Value := .tuple #[tkV x.1, .bool x.2]
theorem frozen_box {w : World} {g : Nat} {cs : Array Value} (h : Box w g cs) (j : Nat) : w.frozen? ⟨g, j, none⟩ = false := frozen_of_row w g j cs _ h
theorem sets_below (w : World) {B g : Nat} (hg : B ≤ g) (u0 u1 u2 u3 u4 : Value) : Below B w (((((w.setCell ⟨g, 0, none⟩ u0).setCell ⟨g, 1, none⟩ u1).setCell ⟨g, 2, none⟩ u2).setCell ⟨g, 3, none⟩ u3).setCell ⟨g, 4, none⟩ u4) :=
  ((((((Below.refl B w).setCell (p := ⟨g, 0, none⟩) hg u0).setCell (p := ⟨g, 1, none⟩) hg u1).setCell (p := ⟨g, 2, none⟩) hg u2).setCell (p := ⟨g, 3, none⟩) hg u3).setCell (p := ⟨g, 4, none⟩) hg u4)
theorem Only.box {b g : Nat} {W W' : World} {cs : Array Value} (h : Only b W W') (hb : Box W g cs) (hne : g ≠ b) : Box W' g cs := (h.at_ hb.lt hne).trans hb

set_option maxRecDepth 100000 in
set_option maxHeartbeats 2000000 in
theorem first_at (w0 : World) (b : Nat) (s : ByteArray) (p : Nat) (W : World) (h : Pr w0 b s p W) (hs : s.size ≤ 8000000) (hp : p ≤ s.size) (en : Nat) :
    Calls Tryz.prog 43 #[.pointer (some ⟨b, 0, none⟩), .int .i64 (en : Int)] W (Out w0 b s W (fun _ x v => v = tb x) (fst (nt s.data.toList) en p)) := by
  have HN0 := fun W (hw : Pr w0 b s p W) => next_at w0 b s p W hw hs hp
  have hbl := h.lt
  have ha := h.alloc (.cells #[.int .i64 0, .int .i64 0, .int .i64 0, .string ⟨#[]⟩, .int .i64 0] 46)
  have b0 : Box (W.alloc (.cells #[.int .i64 0, .int .i64 0, .int .i64 0, .string ⟨#[]⟩, .int .i64 0] 46)) W.heap.size _ := box_new _ _
  have o0 : Only b W (W.alloc (.cells #[.int .i64 0, .int .i64 0, .int .i64 0, .string ⟨#[]⟩, .int .i64 0] 46)) := Only.of ((Below.refl _ _).alloc (Nat.le_refl _) _)
  have l0 : W.heap.size < (W.alloc (.cells #[.int .i64 0, .int .i64 0, .int .i64 0, .string ⟨#[]⟩, .int .i64 0] 46)).heap.size := by simp
  unfold fst
  cases hr : nt s.data.toList p with
  | no o er =>
    rw [hr] at HN0
    have H := Lib.hid HN0
    clear HN0 hr
    go_enter Tryz.func43, Tryz.ntmps43
    go_wp2_with fail
    refine (H.out _ ha).mono ?_
    rintro e w1 ⟨hO1, hB1, rfl⟩
    go_wp2_with fail
    exact ⟨rfl, o0.trans hO1, hB1, rfl⟩
  | ok t q =>
    rw [hr] at HN0
    have H := Lib.hid HN0
    show Calls _ _ _ _ (Out w0 b s W (fun _ x v => v = tb x) (.ok (t, decide (t.k ≠ en)) q))
    unfold tb tkV at *
    have hd : ((t.k : Int) != (en : Int)) = decide (t.k ≠ en) := by
      by_cases hk : t.k = en
      · rw [hk]; simp
      · rw [decide_eq_true hk, bne_iff_ne]; omega
    clear HN0 hr
    generalize decide (t.k ≠ en) = d at *
    go_enter Tryz.func43, Tryz.ntmps43
    go_wp2_with fail
    refine (H.out _ ha).mono ?_
    rintro e w1 ⟨hO1, hP1, _, rfl, rfl⟩
    have bx := hO1.box b0 (by omega)
    have hlt : W.heap.size < w1.heap.size := Nat.lt_of_lt_of_le l0 hO1.size
    have o1 := o0.trans hO1
    generalize W.alloc (.cells #[.int .i64 0, .int .i64 0, .int .i64 0, .string ⟨#[]⟩, .int .i64 0] 46) = W1 at *
    have k0 : w1.cell? ⟨W.heap.size, 0, none⟩ = some (.int .i64 0) := bx.cell 0
    have k1 : w1.cell? ⟨W.heap.size, 1, none⟩ = some (.int .i64 0) := bx.cell 1
    have k2 : w1.cell? ⟨W.heap.size, 2, none⟩ = some (.int .i64 0) := bx.cell 2
    have k3 : w1.cell? ⟨W.heap.size, 3, none⟩ = some (.string ⟨#[]⟩) := bx.cell 3
    have k4 : w1.cell? ⟨W.heap.size, 4, none⟩ = some (.int .i64 0) := bx.cell 4
    have kf := fun j => frozen_box bx j
    have hne : ¬ W.heap.size = w1.heap.size := by omega
    have HB := Lib.hid (box_old (box_sets bx (.int .i64 (t.k : Int)) (.int .i64 (t.o : Int)) (.int .i64 (t.z : Int)) (.string ⟨t.v.toArray⟩) (.int .i64 t.n)) (.cells #[.int .i64 (t.k : Int), .int .i64 (t.o : Int), .int .i64 (t.z : Int), .string ⟨t.v.toArray⟩, .int .i64 t.n] 46))
    have HL := Lib.hid ((sets_below w1 (Nat.le_refl W.heap.size) (.int .i64 (t.k : Int)) (.int .i64 (t.o : Int)) (.int .i64 (t.z : Int)) (.string ⟨t.v.toArray⟩) (.int .i64 t.n)).alloc (by simp; omega) (.cells #[.int .i64 (t.k : Int), .int .i64 (t.o : Int), .int .i64 (t.z : Int), .string ⟨t.v.toArray⟩, .int .i64 t.n] 46)).drew
    clear ha b0 o0 l0 hO1 W1
    go_wp2_with fail
    go_region
    all_goals
      go_wp2_with fail
      refine bodyPost_ret (results_tok rfl _ _ _ _ rfl HB.out rfl) rfl ?_
      exact ⟨o1.low2 HL.out, hP1.low HL.out hbl (by have := h.bel.size; omega), _, rfl, rfl⟩
end Go.Proofs.YtbpofhlnnldceaaGreatDoor.Par

namespace Go.Proofs.YtbpofhlnnldceaaGreatDoor.Par
open Go.RowKit Go.Lib Go.Proofs.YtbpofhlnnldceaaGreatDoor.Byt Go.Proofs.YtbpofhlnnldceaaGreatDoor.Lx

/-! ### following -/
set_option maxRecDepth 100000 in
set_option maxHeartbeats 2000000 in
theorem following_at (w0 : World) (b : Nat) (s : ByteArray) (p : Nat) (W : World) (h : Pr w0 b s p W) (hs : s.size ≤ 8000000) (hp : p ≤ s.size) (en : Nat) :
    Calls Tryz.prog 44 #[.pointer (some ⟨b, 0, none⟩), .int .i64 (en : Int)] W (Out w0 b s W (fun _ x v => v = tb x) (fol (nt s.data.toList) en p)) := by
  have HN0 := fun W (hw : Pr w0 b s p W) => next_at w0 b s p W hw hs hp
  have hgd := nt_good s.data.toList p (by simpa using hp)
  have hbl := h.lt
  have hwz := h.bel.size
  have ha := h.alloc (.cells #[.int .i64 0, .int .i64 0, .int .i64 0, .string ⟨#[]⟩, .int .i64 0] 46)
  have b0 : Box (W.alloc (.cells #[.int .i64 0, .int .i64 0, .int .i64 0, .string ⟨#[]⟩, .int .i64 0] 46)) W.heap.size _ := box_new _ _
  have o0 : Only b W (W.alloc (.cells #[.int .i64 0, .int .i64 0, .int .i64 0, .string ⟨#[]⟩, .int .i64 0] 46)) := Only.of ((Below.refl _ _).alloc (Nat.le_refl _) _)
  have l0 : W.heap.size < (W.alloc (.cells #[.int .i64 0, .int .i64 0, .int .i64 0, .string ⟨#[]⟩, .int .i64 0] 46)).heap.size := by simp
  unfold fol
  cases hr : nt s.data.toList p with
  | no o er =>
    rw [hr] at HN0
    have H := Lib.hid HN0
    clear HN0 hr hgd
    go_enter Tryz.func44, Tryz.ntmps44
    go_wp2_with fail
    refine (H.out _ ha).mono ?_
    rintro e w1 ⟨hO1, hB1, rfl⟩
    go_wp2_with fail
    exact ⟨rfl, o0.trans hO1, hB1, rfl⟩
  | ok t q =>
    rw [hr] at HN0 hgd
    have hq : q ≤ s.size := by have := hgd.2.1; simpa using this
    have H := Lib.hid HN0
    show Calls _ _ _ _ (Out w0 b s W (fun _ x v => v = tb x) (if t.k = en then .ok (t, false) q else if t.k = 6 then bnd (nt s.data.toList q) fun t2 q2 => .ok (t2, true) q2 else refu t))
    have HQ := Lib.hid (fun W (hw : Pr w0 b s q W) => next_at w0 b s q W hw hs hq)
    have RY := Lib.hid (fun w h => require_yes t 6 h w)
    have RN := Lib.hid (fun w h => require_no t 6 h w)
    clear HN0 hr hgd
    have hstart : ∀ w1, Only b (W.alloc (.cells #[.int .i64 0, .int .i64 0, .int .i64 0, .string ⟨#[]⟩, .int .i64 0] 46)) w1 → Pr w0 b s q w1 →
        Box (w1.alloc (.cells #[.int .i64 (t.k : Int), .int .i64 (t.o : Int), .int .i64 (t.z : Int), .string ⟨t.v.toArray⟩, .int .i64 t.n] 46)) W.heap.size #[.int .i64 0, .int .i64 0, .int .i64 0, .string ⟨#[]⟩, .int .i64 0] ∧
        Only b W (w1.alloc (.cells #[.int .i64 (t.k : Int), .int .i64 (t.o : Int), .int .i64 (t.z : Int), .string ⟨t.v.toArray⟩, .int .i64 t.n] 46)) ∧
        Pr w0 b s q (w1.alloc (.cells #[.int .i64 (t.k : Int), .int .i64 (t.o : Int), .int .i64 (t.z : Int), .string ⟨t.v.toArray⟩, .int .i64 t.n] 46)) ∧ W.heap.size ≠ w1.heap.size := by
      intro w1 hO hP
      have := hO.size
      exact ⟨box_old (hO.box b0 (by omega)) _, (o0.trans hO).next ((Below.refl _ _).alloc (Nat.le_refl _) _), hP.alloc _, by omega⟩
    have HST := Lib.hid hstart
    clear hstart b0 l0 o0
    unfold tb tkV at *
    by_cases hk : t.k = en
    · rw [if_pos hk]
      have hkb : ((t.k : Int) == (en : Int)) = true := by rw [hk]; simp
      clear hk
      go_enter Tryz.func44, Tryz.ntmps44
      go_wp2_with fail
      refine (H.out _ ha).mono ?_
      rintro e w1 ⟨hO1, hP1, _, rfl, rfl⟩
      obtain ⟨b1, o1, p1, hne⟩ := HST.out w1 hO1 hP1
      have lw := Below.refl W.heap.size (w1.alloc (.cells #[.int .i64 (t.k : Int), .int .i64 (t.o : Int), .int .i64 (t.z : Int), .string ⟨t.v.toArray⟩, .int .i64 t.n] 46))
      clear hO1
      go_wp2_with (refine Lx.wpList_keep _ rfl _ _ rfl W.heap.size _ lw W.heap.size (Nat.le_refl _) _ _ _ _ _ _ rfl rfl b1 rfl ?_; intro w3 bx3 hb3 hk3)
      try simp only [Exit.inBlock, Exit.then]
      refine bodyPost_ret (results_tok rfl _ _ _ _ rfl bx3 rfl) rfl ?_
      exact ⟨o1.low2 hb3, p1.low hb3 hbl hwz, _, rfl, rfl⟩
    · rw [if_neg hk]
      have hkb : ((t.k : Int) == (en : Int)) = false := by rw [beq_eq_false_iff_ne]; omega
      clear hk
      by_cases h6 : t.k = 6
      · rw [if_pos h6]
        have h6i : (t.k : Int) = 6 := by omega
        have RY2 := Lib.hid (fun w => RY.out w h6i)
        clear h6 h6i RY RN
        cases hr2 : nt s.data.toList q with
        | no o er =>
          have HQ0 := HQ.out
          rw [hr2] at HQ0
          have HQ2 := Lib.hid HQ0
          clear HQ HQ0 hr2
          go_enter Tryz.func44, Tryz.ntmps44
          go_wp2_with fail
          refine (H.out _ ha).mono ?_
          rintro e w1 ⟨hO1, hP1, _, rfl, rfl⟩
          obtain ⟨b1, o1, p1, hne⟩ := HST.out w1 hO1 hP1
          clear hO1
          go_wp2_with fail
          refine (RY2.out _).mono ?_
          rintro e w2 ⟨rfl, hb2⟩
          have o2 := o1.next hb2
          have p2 := p1.next hb2
          clear hb2
          go_wp2_with fail
          refine (HQ2.out _ p2).mono ?_
          rintro e w3 ⟨hO3, hB3, rfl⟩
          go_wp2_with fail
          exact ⟨rfl, o2.trans hO3, hB3, rfl⟩
        | ok t2 q2 =>
          have HQ0 := HQ.out
          rw [hr2] at HQ0
          have HQ2 := Lib.hid HQ0
          clear HQ HQ0 hr2
          show Calls _ _ _ _ (Out w0 b s W _ (.ok (t2, true) q2))
          go_enter Tryz.func44, Tryz.ntmps44
          go_wp2_with fail
          refine (H.out _ ha).mono ?_
          rintro e w1 ⟨hO1, hP1, _, rfl, rfl⟩
          obtain ⟨b1, o1, p1, hne⟩ := HST.out w1 hO1 hP1
          clear hO1
          go_wp2_with fail
          refine (RY2.out _).mono ?_
          rintro e w2 ⟨rfl, hb2⟩
          have o2 := o1.next hb2
          have p2 := p1.next hb2
          have b2 := b1.next hb2 b1.lt
          clear hb2
          go_wp2_with fail
          refine (HQ2.out _ p2).mono ?_
          rintro e w3 ⟨hO3, hP3, _, rfl, rfl⟩
          have o3 := o2.trans hO3
          have b3 := hO3.box b2 (by omega)
          have lw := Below.refl W.heap.size w3
          go_wp2_with (refine Lx.wpList_keep _ rfl _ _ rfl W.heap.size _ lw W.heap.size (Nat.le_refl _) _ _ _ _ _ _ rfl rfl b3 rfl ?_; intro w4 bx4 hb4 hk4)
          try simp only [Exit.inBlock, Exit.then]
          refine bodyPost_ret (results_tok rfl _ _ _ _ rfl bx4 rfl) rfl ?_
          exact ⟨o3.low2 hb4, hP3.low hb4 hbl hwz, _, rfl, rfl⟩
      · rw [if_neg h6]
        have h6i : (t.k : Int) ≠ 6 := by omega
        have RN2 := Lib.hid (fun w => RN.out w h6i)
        unfold refu
        generalize (if t.k = 0 then 3 else 4) = er at *
        clear h6 h6i RY RN HQ
        go_enter Tryz.func44, Tryz.ntmps44
        go_wp2_with fail
        refine (H.out _ ha).mono ?_
        rintro e w1 ⟨hO1, hP1, _, rfl, rfl⟩
        obtain ⟨b1, o1, p1, hne⟩ := HST.out w1 hO1 hP1
        clear hO1
        go_wp2_with fail
        refine (RN2.out _).mono ?_
        rintro e w2 ⟨rfl, hb2⟩
        go_wp2_with fail
        exact ⟨rfl, o1.next hb2, (p1.next hb2).bel, rfl⟩
end Go.Proofs.YtbpofhlnnldceaaGreatDoor.Par
