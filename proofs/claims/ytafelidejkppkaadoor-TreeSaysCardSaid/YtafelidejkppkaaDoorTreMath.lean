/- Plain facts of trees of values: how many, how deep, which are right, the same, sorted; no program. Conditions: as each theorem states. -/
import Derived.Test.YtafelidejkppkaaDoorUtfMath
namespace Go.Proofs.YtafelidejkppkaaDoor.Tre
open Go.Lib Go.Proofs.YtafelidejkppkaaDoor.Utf

/-- A value: its kind, its number, its text, its items, its names. -/
inductive Vt where
  | mk (k n : Int) (s : ByteArray) (l : List Vt) (ns : List ByteArray)
def Vt.k : Vt → Int | .mk k _ _ _ _ => k
def Vt.n : Vt → Int | .mk _ n _ _ _ => n
def Vt.s : Vt → ByteArray | .mk _ _ s _ _ => s
def Vt.l : Vt → List Vt | .mk _ _ _ l _ => l
def Vt.ns : Vt → List ByteArray | .mk _ _ _ _ ns => ns
def V0 : Vt := .mk 0 0 ⟨#[]⟩ [] []
theorem Vt.eta (v : Vt) : v = .mk v.k v.n v.s v.l v.ns := by cases v; rfl

mutual
def cnt : Vt → Nat
  | .mk _ _ _ l _ => 1 + cntL l
def cntL : List Vt → Nat
  | [] => 0
  | x :: l => cnt x + cntL l
end
mutual
def dep : Vt → Nat
  | .mk k _ _ l _ => if k = 4 ∨ k = 5 then 1 + depL l else 0
def depL : List Vt → Nat
  | [] => 0
  | x :: l => max (dep x) (depL l)
end
def textB (s : ByteArray) : Bool := decide (badL s.data.toList = none)
/-- Are names texts, and none twice? -/
def nmB (ns : List ByteArray) : Bool := ns.all textB && decide ns.Nodup
def noneB (s : ByteArray) : Bool := decide (s = ⟨#[]⟩)
def scal (l : List Vt) (ns : List ByteArray) : Bool := l.isEmpty && ns.isEmpty
/-- What is asked of a value itself, its items aside. -/
def hdB (k n : Int) (s : ByteArray) (l : List Vt) (ns : List ByteArray) (m : Int) : Bool :=
  if k = 0 then decide (n = 0) && noneB s && scal l ns
  else if k = 1 then decide (n = 0 ∨ n = 1) && noneB s && scal l ns
  else if k = 2 then noneB s && scal l ns
  else if k = 3 then decide (n = 0) && textB s && scal l ns
  else if k = 4 then ns.isEmpty && decide (n = 0) && noneB s && decide (1 ≤ m)
  else if k = 5 then decide (ns.length = l.length) && nmB ns && decide (n = 0) && noneB s && decide (1 ≤ m)
  else false
mutual
/-- Is a value right, of at most m levels? -/
def wi : Vt → Int → Bool
  | .mk k n s l ns, m => hdB k n s l ns m && wiL l (m - 1)
def wiL : List Vt → Int → Bool
  | [], _ => true
  | x :: l, m => wi x m && wiL l m
end
mutual
def smB : Vt → Vt → Bool
  | .mk k n s l ns, .mk k' n' s' l' ns' => decide (k = k' ∧ n = n' ∧ s = s' ∧ ns = ns') && smL l l'
def smL : List Vt → List Vt → Bool
  | [], [] => true
  | x :: l, y :: l' => smB x y && smL l l'
  | _, _ => false
end
/-- The order of names. -/
def ltB (a b : ByteArray) : Bool := decide (a.data.toList < b.data.toList)
def ins (p : ByteArray × Vt) : List (ByteArray × Vt) → List (ByteArray × Vt)
  | [] => [p]
  | q :: l => if ltB q.1 p.1 = true then q :: ins p l else p :: q :: l
/-- Sorted by names; equal names keep their order. -/
def isort : List (ByteArray × Vt) → List (ByteArray × Vt)
  | [] => []
  | p :: l => ins p (isort l)
def mkO (k n : Int) (s : ByteArray) (l : List Vt) (ns : List ByteArray) : Vt :=
  if k = 5 ∧ ns.length = l.length then .mk k n s ((isort (ns.zip l)).map Prod.snd) ((isort (ns.zip l)).map Prod.fst) else .mk k n s l ns
mutual
def srt : Vt → Vt
  | .mk k n s l ns => mkO k n s (srtL l) ns
def srtL : List Vt → List Vt
  | [] => []
  | x :: l => srt x :: srtL l
end
def alB (a b : Vt) : Bool := wi a 64 && wi b 64 && smB (srt a) (srt b)
/-- What stands under a name. -/
def fnd : List ByteArray → List Vt → ByteArray → Option Vt
  | m :: ns, x :: l, s => if m = s then some x else fnd ns l s
  | _, _, _ => none
def find (v : Vt) (s : ByteArray) : Option Vt := if v.k = 5 then fnd v.ns v.l s else none

/-! ### by its parts -/
theorem cntL_mem {x : Vt} : ∀ {l : List Vt}, x ∈ l → cnt x ≤ cntL l
  | [], h => by cases h
  | y :: l, h => by
    rw [cntL]
    rcases List.mem_cons.1 h with rfl | h
    · omega
    · have := cntL_mem h; omega
theorem cnt_pos (v : Vt) : 1 ≤ cnt v := by cases v; rw [cnt]; omega
theorem part_lt {v x : Vt} (h : x ∈ v.l) : cnt x < cnt v := by
  cases v with
  | mk k n s l ns => have := cntL_mem (l := l) h; rw [cnt]; omega
/-- By its parts. -/
theorem vt_ind {p : Vt → Prop} (h : ∀ v, (∀ x ∈ v.l, p x) → p v) (v : Vt) : p v := by
  have key : ∀ n (v : Vt), cnt v < n → p v := by
    intro n
    induction n with
    | zero => intro v hv; omega
    | succ n ih => intro v hv; exact h v fun x hx => ih x (by have := part_lt hx; omega)
  exact key (cnt v + 1) v (by omega)
theorem srtL_map : ∀ l : List Vt, srtL l = l.map srt
  | [] => rfl
  | x :: l => by rw [srtL, srtL_map l]; rfl
theorem wiL_all (m : Int) : ∀ l : List Vt, wiL l m = l.all fun x => wi x m
  | [] => rfl
  | x :: l => by rw [wiL, wiL_all m l]; rfl
theorem cntL_sum : ∀ l : List Vt, cntL l = (l.map cnt).sum
  | [] => rfl
  | x :: l => by rw [cntL, cntL_sum l]; rfl
theorem cntL_len : ∀ l : List Vt, l.length ≤ cntL l
  | [] => Nat.le_refl _
  | x :: l => by rw [cntL, List.length_cons]; have := cntL_len l; have := cnt_pos x; omega

/-! ### the same -/
theorem smL_len : ∀ (l m : List Vt), smL l m = true → l.length = m.length
  | [], [], _ => rfl
  | [], _ :: _, h => by rw [smL] at h; cases h; all_goals simp
  | _ :: _, [], h => by rw [smL] at h; cases h; all_goals simp
  | x :: l, y :: m, h => by rw [smL, Bool.and_eq_true] at h; rw [List.length_cons, List.length_cons, smL_len l m h.2]
theorem sm_iff (v : Vt) : ∀ w, smB v w = true ↔ v = w := by
  refine vt_ind (p := fun v => ∀ w, smB v w = true ↔ v = w) ?_ v
  intro v ih w
  cases v with
  | mk k n s l ns =>
    cases w with
    | mk k' n' s' l' ns' =>
      have hl : ∀ (l l' : List Vt), (∀ x ∈ l, ∀ w, smB x w = true ↔ x = w) → (smL l l' = true ↔ l = l') := by
        intro l
        induction l with
        | nil => intro l' _; cases l' with
          | nil => simp [smL]
          | cons y m => simp [smL]
        | cons x l ihl =>
          intro l' h
          cases l' with
          | nil => simp [smL]
          | cons y m =>
            rw [smL, Bool.and_eq_true, h x List.mem_cons_self y, ihl m fun z hz => h z (List.mem_cons_of_mem _ hz)]
            simp
      rw [smB, Bool.and_eq_true, hl l l' ih]
      simp only [decide_eq_true_eq, Vt.mk.injEq]
      constructor
      · rintro ⟨⟨a, b, c, d⟩, e⟩; exact ⟨a, b, c, e, d⟩
      · rintro ⟨a, b, c, e, d⟩; exact ⟨⟨a, b, c, d⟩, e⟩
theorem sm_self (v : Vt) : smB v v = true := (sm_iff v v).2 rfl

/-! ### sorted -/
theorem ins_perm (p : ByteArray × Vt) : ∀ l, (ins p l).Perm (p :: l)
  | [] => List.Perm.refl _
  | q :: l => by
    rw [ins]
    split
    · exact ((ins_perm p l).cons q).trans (List.Perm.swap p q l)
    · exact List.Perm.refl _
theorem isort_perm : ∀ l, (isort l).Perm l
  | [] => List.Perm.refl _
  | p :: l => by rw [isort]; exact (ins_perm p _).trans ((isort_perm l).cons p)
theorem isort_len (l : List (ByteArray × Vt)) : (isort l).length = l.length := (isort_perm l).length_eq
/-- No name before a smaller one. -/
def Rise (l : List (ByteArray × Vt)) : Prop := l.Pairwise fun p q => ltB q.1 p.1 = false
theorem lt_trans {a b c : ByteArray} (h : ltB a b = true) (k : ltB b c = true) : ltB a c = true := by
  unfold ltB at *
  simp only [decide_eq_true_eq] at *
  exact List.lt_trans h k
theorem lt_irrefl (a : ByteArray) : ltB a a = false := by
  unfold ltB
  simp only [decide_eq_false_iff_not]
  exact List.lt_irrefl _
theorem lt_total {a b : ByteArray} (h : ltB a b = false) (k : ltB b a = false) : a = b := by
  unfold ltB at *
  simp only [decide_eq_false_iff_not] at *
  exact ByteArray.ext (Array.toList_inj.1 (List.le_antisymm (List.not_lt.1 k) (List.not_lt.1 h)))
theorem le_trans {a b c : ByteArray} (h : ltB b a = false) (k : ltB c b = false) : ltB c a = false := by
  unfold ltB at *
  simp only [decide_eq_false_iff_not] at *
  exact List.not_lt.2 (List.le_trans (List.not_lt.1 h) (List.not_lt.1 k))
theorem ins_rise (p : ByteArray × Vt) : ∀ l, Rise l → Rise (ins p l)
  | [], _ => List.pairwise_singleton _ _
  | q :: l, h => by
    obtain ⟨h1, h2⟩ := List.pairwise_cons.1 h
    rw [ins]
    by_cases hc : ltB q.1 p.1 = true
    · rw [if_pos hc]
      refine List.pairwise_cons.2 ⟨fun r hr => ?_, ins_rise p l h2⟩
      rcases List.mem_cons.1 ((ins_perm p l).mem_iff.1 hr) with rfl | hr
      · cases hx : ltB r.1 q.1 with
        | false => rfl
        | true => have := lt_trans hx hc; rw [lt_irrefl] at this; cases this
      · exact h1 r hr
    · rw [if_neg hc]
      have hc2 : ltB q.1 p.1 = false := by simpa using hc
      refine List.pairwise_cons.2 ⟨fun r hr => ?_, h⟩
      rcases List.mem_cons.1 hr with rfl | hr
      · exact hc2
      · exact le_trans hc2 (h1 r hr)
theorem isort_rise : ∀ l, Rise (isort l)
  | [] => List.Pairwise.nil
  | p :: l => ins_rise p _ (isort_rise l)
theorem isort_id : ∀ l, Rise l → isort l = l
  | [], _ => rfl
  | p :: l, h => by
    obtain ⟨h1, h2⟩ := List.pairwise_cons.1 h
    rw [isort, isort_id l h2]
    cases l with
    | nil => rfl
    | cons q l => rw [ins, if_neg (by rw [h1 q List.mem_cons_self]; simp)]
/-- With names that differ, a row that rises is the only one. -/
theorem rise_one : ∀ (l m : List (ByteArray × Vt)), Rise l → Rise m → (l.map Prod.fst).Nodup → l.Perm m → l = m
  | [], m, _, _, _, hp => (List.perm_nil.1 hp.symm).symm
  | p :: l, m, hl, hm, hn, hp => by
    obtain ⟨l1, l2⟩ := List.pairwise_cons.1 hl
    have hpm : p ∈ m := hp.mem_iff.1 List.mem_cons_self
    cases m with
    | nil => cases hpm
    | cons q m =>
      obtain ⟨m1, m2⟩ := List.pairwise_cons.1 hm
      have hqp : q = p := by
        rcases List.mem_cons.1 hpm with h | h
        · exact h.symm
        · have hq : q ∈ p :: l := hp.mem_iff.2 List.mem_cons_self
          rcases List.mem_cons.1 hq with h2 | h2
          · exact h2
          · have e : q.1 = p.1 := lt_total (l1 q h2) (m1 p h) |>.symm ▸ rfl
            rw [List.map_cons, List.nodup_cons] at hn
            exact absurd (e ▸ List.mem_map_of_mem (f := Prod.fst) h2) hn.1
      subst hqp
      rw [List.map_cons, List.nodup_cons] at hn
      rw [rise_one l m l2 m2 hn.2 (List.Perm.cons_inv hp)]

/-! ### what sorting keeps -/
theorem cntL_perm {l m : List Vt} (h : l.Perm m) : cntL l = cntL m := by rw [cntL_sum, cntL_sum]; exact (h.map cnt).sum_nat
theorem depL_le : ∀ {l : List Vt} {d : Nat}, depL l ≤ d ↔ ∀ x ∈ l, dep x ≤ d
  | [], d => by simp [depL]
  | x :: l, d => by
    rw [depL, Nat.max_le, depL_le]
    simp
theorem depL_perm {l m : List Vt} (h : l.Perm m) : depL l = depL m := by
  have h1 : depL l ≤ depL m := depL_le.2 fun x hx => depL_le.1 (Nat.le_refl (depL m)) x (h.mem_iff.1 hx)
  have h2 : depL m ≤ depL l := depL_le.2 fun x hx => depL_le.1 (Nat.le_refl (depL l)) x (h.mem_iff.2 hx)
  omega
theorem wiL_perm {l m : List Vt} (h : l.Perm m) (d : Int) : wiL l d = wiL m d := by
  rw [wiL_all, wiL_all, Bool.eq_iff_iff, List.all_eq_true, List.all_eq_true]
  exact ⟨fun a x hx => a x (h.mem_iff.2 hx), fun a x hx => a x (h.mem_iff.1 hx)⟩
theorem nmB_perm {l m : List ByteArray} (h : l.Perm m) : nmB l = nmB m := by
  unfold nmB
  have h1 : l.all textB = m.all textB := by
    rw [Bool.eq_iff_iff, List.all_eq_true, List.all_eq_true]
    exact ⟨fun a x hx => a x (h.mem_iff.2 hx), fun a x hx => a x (h.mem_iff.1 hx)⟩
  rw [h1]
  congr 1
  rw [decide_eq_decide]
  exact h.nodup_iff
theorem zip_snd {l : List ByteArray} {m : List Vt} (h : l.length = m.length) : (l.zip m).map Prod.snd = m := List.map_snd_zip (by omega)
theorem zip_fst {l : List ByteArray} {m : List Vt} (h : l.length = m.length) : (l.zip m).map Prod.fst = l := List.map_fst_zip (by omega)
theorem items_perm {l : List ByteArray} {m : List Vt} (h : l.length = m.length) : ((isort (l.zip m)).map Prod.snd).Perm m := by
  have := (isort_perm (l.zip m)).map Prod.snd
  rwa [zip_snd h] at this
theorem names_perm {l : List ByteArray} {m : List Vt} (h : l.length = m.length) : ((isort (l.zip m)).map Prod.fst).Perm l := by
  have := (isort_perm (l.zip m)).map Prod.fst
  rwa [zip_fst h] at this
theorem cnt_mkO (k n : Int) (s : ByteArray) (l : List Vt) (ns : List ByteArray) : cnt (mkO k n s l ns) = 1 + cntL l := by
  unfold mkO
  split
  · rename_i h; rw [cnt, cntL_perm (items_perm h.2)]
  · rw [cnt]
theorem dep_mkO (k n : Int) (s : ByteArray) (l : List Vt) (ns : List ByteArray) : dep (mkO k n s l ns) = if k = 4 ∨ k = 5 then 1 + depL l else 0 := by
  unfold mkO
  split
  · rename_i h; rw [dep, depL_perm (items_perm h.2)]
  · rw [dep]
theorem hdB_perm (k n : Int) (s : ByteArray) {l l' : List Vt} {ns ns' : List ByteArray} (m : Int) (hl : l.length = l'.length) (hn : ns.Perm ns') : hdB k n s l ns m = hdB k n s l' ns' m := by
  have e1 : l.isEmpty = l'.isEmpty := by
    rw [Bool.eq_iff_iff, List.isEmpty_iff_length_eq_zero, List.isEmpty_iff_length_eq_zero, hl]
  have e2 : ns.isEmpty = ns'.isEmpty := by
    rw [Bool.eq_iff_iff, List.isEmpty_iff_length_eq_zero, List.isEmpty_iff_length_eq_zero, hn.length_eq]
  unfold hdB scal
  rw [e1, e2, nmB_perm hn, hn.length_eq, hl]
theorem wi_mkO (k n : Int) (s : ByteArray) (l : List Vt) (ns : List ByteArray) (m : Int) : wi (mkO k n s l ns) m = (hdB k n s l ns m && wiL l (m - 1)) := by
  unfold mkO
  split
  · rename_i h
    have h1 := items_perm h.2
    have h2 := names_perm h.2
    rw [wi, wiL_perm h1, hdB_perm k n s m h1.length_eq h2]
  · rw [wi]
theorem cnt_srt (v : Vt) : cnt (srt v) = cnt v := by
  refine vt_ind (p := fun v => cnt (srt v) = cnt v) ?_ v
  intro v ih
  cases v with
  | mk k n s l ns =>
    rw [srt, cnt_mkO, cnt, cntL_sum, cntL_sum, srtL_map, List.map_map]
    congr 2
    exact List.map_congr_left fun x hx => ih x hx
theorem depL_congr : ∀ (l : List Vt) (f : Vt → Vt), (∀ x ∈ l, dep (f x) = dep x) → depL (l.map f) = depL l
  | [], _, _ => rfl
  | x :: l, f, h => by rw [List.map_cons, depL, depL, h x List.mem_cons_self, depL_congr l f fun y hy => h y (List.mem_cons_of_mem _ hy)]
theorem dep_srt (v : Vt) : dep (srt v) = dep v := by
  refine vt_ind (p := fun v => dep (srt v) = dep v) ?_ v
  intro v ih
  cases v with
  | mk k n s l ns => rw [srt, dep_mkO, dep, srtL_map, depL_congr l srt fun x hx => ih x hx]
theorem srtL_len (l : List Vt) : (srtL l).length = l.length := by rw [srtL_map, List.length_map]
theorem wi_srt (v : Vt) : ∀ m, wi (srt v) m = wi v m := by
  refine vt_ind (p := fun v => ∀ m, wi (srt v) m = wi v m) ?_ v
  intro v ih m
  cases v with
  | mk k n s l ns =>
    have e : wiL (srtL l) (m - 1) = wiL l (m - 1) := by
      rw [wiL_all, wiL_all, srtL_map, List.all_map]
      have : ∀ (l : List Vt), (∀ x ∈ l, ∀ m, wi (srt x) m = wi x m) → l.all ((fun x => wi x (m - 1)) ∘ srt) = l.all fun x => wi x (m - 1) := by
        intro l
        induction l with
        | nil => intro _; rfl
        | cons x l ihl => intro h; rw [List.all_cons, List.all_cons, ihl fun y hy => h y (List.mem_cons_of_mem _ hy)]; simp [h x List.mem_cons_self]
      exact this l ih
    rw [srt, wi_mkO, wi, e, hdB_perm k n s m (srtL_len l) (List.Perm.refl ns)]
/-- What is sorted stays. -/
theorem srt_srt (v : Vt) : srt (srt v) = srt v := by
  refine vt_ind (p := fun v => srt (srt v) = srt v) ?_ v
  intro v ih
  cases v with
  | mk k n s l ns =>
    have hm : ∀ m : List Vt, m.Perm (srtL l) → srtL m = m := by
      intro m hp
      rw [srtL_map]
      conv => rhs; rw [← List.map_id m]
      refine List.map_congr_left fun x hx => ?_
      rw [srtL_map] at hp
      obtain ⟨y, hy, rfl⟩ := List.mem_map.1 (hp.mem_iff.1 hx)
      exact ih y hy
    rw [srt]
    unfold mkO
    by_cases h : k = 5 ∧ ns.length = (srtL l).length
    · rw [if_pos h, srt, hm _ (items_perm h.2)]
      unfold mkO
      have hl1 : ((isort (ns.zip (srtL l))).map Prod.fst).length = ((isort (ns.zip (srtL l))).map Prod.snd).length := by simp
      rw [if_pos ⟨h.1, hl1⟩]
      have hz : ((isort (ns.zip (srtL l))).map Prod.fst).zip ((isort (ns.zip (srtL l))).map Prod.snd) = isort (ns.zip (srtL l)) := by
        have : ∀ z : List (ByteArray × Vt), (z.map Prod.fst).zip (z.map Prod.snd) = z := by
          intro z
          induction z with
          | nil => rfl
          | cons p z ih => rw [List.map_cons, List.map_cons, List.zip_cons_cons, ih]
        exact this _
      rw [hz, isort_id _ (isort_rise _)]
    · rw [if_neg h, srt, hm _ (List.Perm.refl _)]
      unfold mkO
      rw [if_neg h]
/-! ### right objects -/
theorem right_parts {v : Vt} {m : Int} (h : wi v m = true) : (v.k = 5 → v.ns.length = v.l.length ∧ v.ns.Nodup ∧ v.n = 0 ∧ v.s = ⟨#[]⟩ ∧ 1 ≤ m ∧ wiL v.l (m - 1) = true ∧ v.ns.all textB = true) ∧ (v.k ≠ 5 → v.ns = []) := by
  cases v with
  | mk k n s l ns =>
    rw [wi, Bool.and_eq_true] at h
    obtain ⟨h1, h2⟩ := h
    show (k = 5 → _) ∧ (k ≠ 5 → ns = [])
    constructor
    · intro hk
      subst hk
      unfold hdB nmB noneB at h1
      rw [if_neg (by decide), if_neg (by decide), if_neg (by decide), if_neg (by decide), if_neg (by decide), if_pos rfl] at h1
      simp only [Bool.and_eq_true, decide_eq_true_eq] at h1
      obtain ⟨⟨⟨⟨a, b, c⟩, d⟩, e⟩, f⟩ := h1
      exact ⟨a, c, d, e, f, h2, b⟩
    · intro hk
      unfold hdB scal at h1
      repeat' split at h1
      all_goals simp_all
theorem rise_strict {l : List (ByteArray × Vt)} (h : Rise l) (hn : (l.map Prod.fst).Nodup) : (l.map Prod.fst).Pairwise fun a b => ltB a b = true := by
  induction l with
  | nil => exact List.Pairwise.nil
  | cons p l ih =>
    obtain ⟨h1, h2⟩ := List.pairwise_cons.1 h
    rw [List.map_cons, List.nodup_cons] at hn
    rw [List.map_cons]
    refine List.pairwise_cons.2 ⟨fun a ha => ?_, ih h2 hn.2⟩
    obtain ⟨q, hq, rfl⟩ := List.mem_map.1 ha
    cases hx : ltB p.1 q.1 with
    | true => rfl
    | false => exact absurd (lt_total hx (h1 q hq) ▸ ha) hn.1
/-- The names of a right value rise, sorted. -/
theorem names_rise {v : Vt} {m : Int} (h : wi v m = true) : (srt v).ns.Pairwise fun a b => ltB a b = true := by
  obtain ⟨h5, hno⟩ := right_parts h
  cases v with
  | mk k n s l ns =>
    rw [srt]
    unfold mkO
    by_cases hk : k = 5
    · obtain ⟨a, b, _⟩ := h5 hk
      have hl : ns.length = (srtL l).length := by rw [srtL_len]; exact a
      rw [if_pos ⟨hk, hl⟩]
      show ((isort (ns.zip (srtL l))).map Prod.fst).Pairwise _
      exact rise_strict (isort_rise _) ((names_perm hl).nodup_iff.2 b)
    · rw [if_neg fun h => hk h.1]
      have : ns = [] := hno hk
      subst this
      exact List.Pairwise.nil

/-! ### turned about -/
def rot {α : Type} (l : List α) (i : Nat) : List α := l.drop i ++ l.take i
theorem rot_perm {α : Type} (l : List α) (i : Nat) : (rot l i).Perm l := by
  unfold rot
  have := List.perm_append_comm (l₁ := l.drop i) (l₂ := l.take i)
  rwa [List.take_append_drop] at this
theorem rot_zip {α β : Type} (a : List α) (b : List β) (i : Nat) (h : a.length = b.length) : (rot a i).zip (rot b i) = rot (a.zip b) i := by
  unfold rot
  rw [List.zip_append (by simp [h])]
  simp only [List.zip, List.drop_zipWith, List.take_zipWith]
theorem rot_map {α β : Type} (f : α → β) (l : List α) (i : Nat) : (rot l i).map f = rot (l.map f) i := by unfold rot; simp
theorem rot_len {α : Type} (l : List α) (i : Nat) : (rot l i).length = l.length := (rot_perm l i).length_eq
/-- What turned members are sorted to. -/
theorem srt_turn (l : List Vt) (ns : List ByteArray) (i : Nat) (hl : ns.length = l.length) (hn : ns.Nodup) : srt (.mk 5 0 ⟨#[]⟩ (rot l i) (rot ns i)) = srt (.mk 5 0 ⟨#[]⟩ l ns) := by
  rw [srt, srt]
  unfold mkO
  have h1 : ns.length = (srtL l).length := by rw [srtL_len]; exact hl
  have e : srtL (rot l i) = rot (srtL l) i := by rw [srtL_map, srtL_map, rot_map]
  have h2 : (rot ns i).length = (rot (srtL l) i).length := by rw [rot_len, rot_len, h1]
  rw [e, if_pos ⟨rfl, h2⟩, if_pos ⟨rfl, h1⟩, rot_zip _ _ _ h1]
  have hz : isort (rot (ns.zip (srtL l)) i) = isort (ns.zip (srtL l)) := by
    refine rise_one _ _ (isort_rise _) (isort_rise _) ?_ ?_
    · rw [← rot_zip _ _ _ h1]
      exact (names_perm h2).nodup_iff.2 ((rot_perm ns i).nodup_iff.2 hn)
    · exact ((isort_perm _).trans (rot_perm _ i)).trans (isort_perm _).symm
  rw [hz]
theorem wi_turn (l : List Vt) (ns : List ByteArray) (i : Nat) (m : Int) (_hl : ns.length = l.length) : wi (.mk 5 0 ⟨#[]⟩ (rot l i) (rot ns i)) m = wi (.mk 5 0 ⟨#[]⟩ l ns) m := by
  rw [wi, wi, wiL_perm (rot_perm l i), hdB_perm 5 0 ⟨#[]⟩ m (rot_len l i) (rot_perm ns i)]
theorem fnd_at : ∀ (ns : List ByteArray) (l : List Vt) (j : Nat), ns.length = l.length → ns.Nodup → (h : j < ns.length) → fnd ns l ns[j] = l[j]?
  | [], _, j, _, _, h => by simp at h
  | m :: ns, [], _, h, _, _ => by simp at h
  | m :: ns, x :: l, 0, _, _, _ => by rw [fnd]; simp
  | m :: ns, x :: l, j + 1, hl, hn, h => by
    rw [List.nodup_cons] at hn
    have hne : m ≠ ns[j]'(by simpa using h) := fun e => hn.1 (e ▸ List.getElem_mem _)
    rw [List.getElem_cons_succ, fnd, if_neg hne, List.getElem?_cons_succ]
    exact fnd_at ns l j (by simpa using hl) hn.2 (by simpa using h)
theorem fnd_perm {ns ns' : List ByteArray} {l l' : List Vt} (hl : ns.length = l.length) (hl' : ns'.length = l'.length) (hn : ns.Nodup) (hp : (ns'.zip l').Perm (ns.zip l)) (j : Nat) (hj : j < ns.length) : fnd ns' l' ns[j] = l[j]? := by
  have hn' : ns'.Nodup := by
    have h1 := hp.map Prod.fst
    rw [zip_fst hl, zip_fst hl'] at h1
    exact h1.nodup_iff.2 hn
  have hm : (ns[j], l[j]'(by omega)) ∈ ns.zip l := by
    have : (ns.zip l)[j]'(by simp; omega) = (ns[j], l[j]'(by omega)) := List.getElem_zip
    rw [← this]
    exact List.getElem_mem _
  obtain ⟨i, hi, he⟩ := List.getElem_of_mem (hp.mem_iff.2 hm)
  rw [List.getElem_zip] at he
  have hi1 : i < ns'.length := by simp at hi; omega
  obtain ⟨e1, e2⟩ := Prod.mk.injEq .. ▸ he
  rw [← e1, fnd_at ns' l' i hl' hn' hi1, List.getElem?_eq_getElem (by omega), e2, List.getElem?_eq_getElem (by omega)]
theorem rot_same {l : List ByteArray} (hn : l.Nodup) {i : Nat} (hi : i < l.length) (h : rot l i = l) : i = 0 := by
  rcases Nat.eq_zero_or_pos i with h0 | h0
  · exact h0
  · exfalso
    have e : (rot l i)[0]? = l[i]? := by
      unfold rot
      rw [List.getElem?_append_left (by simp; omega), List.getElem?_drop]
      rfl
    rw [h, List.getElem?_eq_getElem (by omega), List.getElem?_eq_getElem hi] at e
    have := (List.getElem_inj hn).1 (Option.some.inj e)
    omega
theorem rot_zero {α : Type} (l : List α) : rot l 0 = l := by unfold rot; simp
end Go.Proofs.YtafelidejkppkaaDoor.Tre
