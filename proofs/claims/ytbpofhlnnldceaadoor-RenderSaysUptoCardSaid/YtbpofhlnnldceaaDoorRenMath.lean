/- Plain facts of values' texts: what is written, how long it is, and that it is read as it was; no program. Conditions: as each theorem states. -/
import Derived.Test.YtbpofhlnnldceaaDoorParG1
import Derived.Test.YtbpofhlnnldceaaDoorPlainA
namespace Go.Proofs.YtbpofhlnnldceaaDoor.Ren
open Go.Lib Go.Proofs.YtbpofhlnnldceaaDoor.Utf Go.Proofs.YtbpofhlnnldceaaDoor.Quo Go.Proofs.YtbpofhlnnldceaaDoor.Lx Go.Proofs.YtbpofhlnnldceaaDoor.Par
open Go.Proofs.YtbpofhlnnldceaaDoor.Tre (Vt V0 wi wiL wiL_all hdB textB nmB noneB scal dep depL cnt cntL cntL_mem cntL_len cnt_pos vt_ind)

/-! ### what is written -/
def nmT (co : List UInt8) (ob : Bool) (s : ByteArray) : List UInt8 := if ob = true then qQ s.data.toList ++ co else []
mutual
/-- A value's text, on a line that began with ln. -/
def tv (st co : List UInt8) : Vt → List UInt8 → List UInt8
  | .mk k n s l ns, ln =>
    if k = 0 then [110, 117, 108, 108] else if k = 1 then (if n = 1 then [116, 114, 117, 101] else [102, 97, 108, 115, 101]) else if k = 2 then nL2 n else if k = 3 then qQ s.data.toList
    else if k = 4 then 91 :: (tl st co l false ns [] (ln ++ st) ++ (if l.isEmpty then [] else ln) ++ [93])
    else if k = 5 then 123 :: (tl st co l true ns [] (ln ++ st) ++ (if l.isEmpty then [] else ln) ++ [125]) else []
/-- The items' texts, each behind what parts it from the one ahead. -/
def tl (st co : List UInt8) : List Vt → Bool → List ByteArray → List UInt8 → List UInt8 → List UInt8
  | [], _, _, _, _ => []
  | x :: l, ob, ns, cm, ln => cm ++ ln ++ nmT co ob (ns.headD ⟨#[]⟩) ++ tv st co x ln ++ tl st co l ob ns.tail [44] ln
end

/-! ### how long it is -/
mutual
/-- The bytes of a value's texts and names. -/
def wg : Vt → Nat
  | .mk _ _ s l ns => s.size + (ns.map ByteArray.size).sum + wgL l
def wgL : List Vt → Nat
  | [] => 0
  | x :: l => wg x + wgL l
end
theorem wgL_mem {x : Vt} : ∀ {l : List Vt}, x ∈ l → wg x ≤ wgL l
  | [], h => by cases h
  | y :: l, h => by
    rw [wgL]
    rcases List.mem_cons.1 h with rfl | h
    · omega
    · have := wgL_mem h; omega
theorem sum_mem {x : ByteArray} : ∀ {l : List ByteArray}, x ∈ l → x.size ≤ (l.map ByteArray.size).sum
  | [], h => by cases h
  | y :: l, h => by
    rw [List.map_cons, List.sum_cons]
    rcases List.mem_cons.1 h with rfl | h
    · omega
    · have := sum_mem h; omega
theorem nmT_len (co : List UInt8) (ob : Bool) (s : ByteArray) : (nmT co ob s).length ≤ 6 * s.size + 2 + co.length := by
  have := qQ_len s.data.toList
  have e : s.data.toList.length = s.size := by simp
  unfold nmT
  split
  · rw [List.length_append]; omega
  · simp
theorem depL_mem {x : Vt} : ∀ {l : List Vt}, x ∈ l → dep x ≤ depL l
  | [], h => by cases h
  | y :: l, h => by
    rw [depL]
    rcases List.mem_cons.1 h with rfl | h
    · omega
    · have := depL_mem h; omega
theorem tl_len {st co : List UInt8} {C M : Nat} (hC : 2 * M + co.length + 30 = C) (ln : List UInt8) (hln : ln.length ≤ M) : ∀ (l : List Vt) (ob : Bool) (ns : List ByteArray) (cm : List UInt8), cm.length ≤ 1 →
    (∀ x ∈ l, (tv st co x ln).length + (3 + co.length + M) ≤ 6 * wg x + C * cnt x) → (tl st co l ob ns cm ln).length ≤ 6 * wgL l + 6 * (ns.map ByteArray.size).sum + C * cntL l
  | [], _, _, _, _, _ => by rw [tl]; simp
  | x :: l, ob, ns, cm, hcm, h => by
    have h1 := h x List.mem_cons_self
    have h2 := tl_len hC ln hln l ob ns.tail [44] (by simp) fun y hy => h y (List.mem_cons_of_mem _ hy)
    have h3 := nmT_len co ob (ns.headD ⟨#[]⟩)
    have h4 : (ns.headD ⟨#[]⟩).size + (ns.tail.map ByteArray.size).sum = (ns.map ByteArray.size).sum := by
      cases ns with
      | nil => rfl
      | cons a b => rfl
    rw [tl, wgL, cntL, Nat.mul_add C]
    simp only [List.length_append]
    omega
theorem tv_len (st co : List UInt8) (M C : Nat) (hC : 2 * M + co.length + 30 = C) (v : Vt) : ∀ ln : List UInt8, ln.length + st.length * dep v ≤ M → (tv st co v ln).length + (3 + co.length + M) ≤ 6 * wg v + C * cnt v := by
  refine vt_ind (p := fun v => ∀ ln : List UInt8, ln.length + st.length * dep v ≤ M → (tv st co v ln).length + (3 + co.length + M) ≤ 6 * wg v + C * cnt v) ?_ v
  intro v ih ln hln
  cases v with
  | mk k n s l ns =>
    have hc : C ≤ C * cnt (.mk k n s l ns) := by
      have := cnt_pos (.mk k n s l ns)
      exact Nat.le_mul_of_pos_right _ this
    have hs : s.data.toList.length = s.size := by simp
    have hbr : (k = 4 ∨ k = 5) → ∀ ob, (tl st co l ob ns [] (ln ++ st)).length ≤ 6 * wgL l + 6 * (ns.map ByteArray.size).sum + C * cntL l := by
      intro hk ob
      have hd : ln.length + st.length * (1 + depL l) ≤ M := by
        have : dep (.mk k n s l ns) = 1 + depL l := by rw [dep, if_pos hk]
        rwa [this] at hln
      rw [Nat.mul_add, Nat.mul_one] at hd
      refine tl_len hC (ln ++ st) (by rw [List.length_append]; omega) l ob ns [] (by simp) fun x hx => ih x hx (ln ++ st) ?_
      have h1 : st.length * dep x ≤ st.length * depL l := Nat.mul_le_mul_left _ (depL_mem hx)
      rw [List.length_append]
      omega
    have hcl : (if l.isEmpty = true then ([] : List UInt8) else ln).length ≤ M := by
      split
      · simp
      · omega
    have hw : C * cnt (.mk k n s l ns) = C + C * cntL l := by rw [cnt, Nat.mul_add, Nat.mul_one]
    have hg : wg (.mk k n s l ns) = s.size + (ns.map ByteArray.size).sum + wgL l := by rw [wg]
    rw [tv]
    by_cases h0 : k = 0
    · rw [if_pos h0]; simp; omega
    rw [if_neg h0]
    by_cases h1 : k = 1
    · rw [if_pos h1]; split <;> simp <;> omega
    rw [if_neg h1]
    by_cases h2 : k = 2
    · rw [if_pos h2]; have := nL2_len n; omega
    rw [if_neg h2]
    by_cases h3 : k = 3
    · rw [if_pos h3]; have := qQ_len s.data.toList; omega
    rw [if_neg h3]
    by_cases h4 : k = 4
    · rw [if_pos h4]
      have := hbr (.inl h4) false
      simp only [List.length_cons, List.length_append, List.length_nil]
      omega
    rw [if_neg h4]
    by_cases h5 : k = 5
    · rw [if_pos h5]
      have := hbr (.inr h5) true
      simp only [List.length_cons, List.length_append, List.length_nil]
      omega
    rw [if_neg h5]
    simp
    omega

/-! ### tokens with something behind -/
/-- What may follow a number. -/
def Stp (r : List UInt8) : Prop := Lx.dg (hd r) = false ∧ mk (hd r) = false
theorem Stp.nil : Stp [] := ⟨rfl, rfl⟩
theorem Stp.sign {c : UInt8} (r : List UInt8) (h : sg c.toNat ≠ 0) : Stp (c :: r) := by
  have e : hd (c :: r) = c.toNat := rfl
  unfold Stp
  rw [e]
  unfold sg at h
  unfold Lx.dg mk
  simp only [decide_eq_false_iff_not]
  repeat' split at h
  all_goals first | (constructor <;> omega) | (exact absurd rfl h)
theorem Stp.blank {B : List UInt8} (hB : ∀ c ∈ B, bl c.toNat = true) {r : List UInt8} (hr : Stp r) : Stp (B ++ r) := by
  cases B with
  | nil => exact hr
  | cons c B => exact bl_dg c.toNat (hB c List.mem_cons_self)
theorem tok_sign (c : UInt8) (r : List UInt8) (h : sg c.toNat ≠ 0) : tok (c :: r) = (0, ⟨sg c.toNat, 0, 1, [], 0⟩) := by
  unfold tok
  rw [if_neg (by simp), if_pos (show sg (hd (c :: r)) ≠ 0 from h)]
  rfl
theorem tok_null (r : List UInt8) : tok ([110, 117, 108, 108] ++ r) = (0, ⟨11, 0, 4, [], 0⟩) := by
  have e : hd ([110, 117, 108, 108] ++ r) = 110 := rfl
  unfold tok
  rw [if_neg (by simp), e, if_neg (by decide), if_neg (by decide), if_neg (by decide)]
  unfold wrd
  simp
theorem tok_true (r : List UInt8) : tok ([116, 114, 117, 101] ++ r) = (0, ⟨9, 0, 4, [], 0⟩) := by
  have e : hd ([116, 114, 117, 101] ++ r) = 116 := rfl
  unfold tok
  rw [if_neg (by simp), e, if_neg (by decide), if_neg (by decide), if_neg (by decide)]
  unfold wrd
  simp
theorem tok_false (r : List UInt8) : tok ([102, 97, 108, 115, 101] ++ r) = (0, ⟨10, 0, 5, [], 0⟩) := by
  have e : hd ([102, 97, 108, 115, 101] ++ r) = 102 := rfl
  unfold tok
  rw [if_neg (by simp), e, if_neg (by decide), if_neg (by decide), if_neg (by decide)]
  unfold wrd
  simp
theorem qQ_hd (l r : List UInt8) : hd (qQ l ++ r) = 34 := rfl
theorem tok_text {l : List UInt8} (h : badL l = none) (r : List UInt8) : tok (qQ l ++ r) = (0, ⟨7, 0, (qQ l).length, l, 0⟩) := by
  obtain ⟨e, t⟩ := tkQ_qQ r l h
  have hne : qQ l ++ r ≠ [] := by rw [e]; simp
  have hd1 : (qQ l ++ r).drop 1 = qL l ++ 34 :: r := by rw [e]; rfl
  have hq : 1 ≤ (qQ l).length := by unfold qQ; simp
  unfold tok
  rw [if_neg hne, qQ_hd, if_neg (by decide), if_pos rfl]
  unfold txt
  rw [hd1, t, if_pos rfl]
  show (0, Tk.mk 7 0 ((qQ l).length - 1 + 1) l 0) = _
  rw [Nat.sub_add_cancel hq]
theorem dgs_app {l r : List UInt8} (ha : allD l) (hr : Lx.dg (hd r) = false) : dgs (l ++ r) = l.length := by
  induction l with
  | nil =>
    rw [List.nil_append]
    cases r with
    | nil => rfl
    | cons c r => rw [dgs, if_neg (by rw [show Lx.dg c.toNat = false from hr]; simp)]; rfl
  | cons c l ih =>
    rw [List.cons_append, dgs, if_pos (ha c List.mem_cons_self), ih fun d hd => ha d (List.mem_cons_of_mem _ hd)]
    rfl
theorem tok_num (n : Int) (h1 : -9223372036854775808 ≤ n) (h2 : n ≤ 9223372036854775807) {r : List UInt8} (hr : Stp r) : tok (nL2 n ++ r) = (0, ⟨8, 0, (nL2 n).length, [], n⟩) := by
  obtain ⟨f1, f2, f3, f4⟩ := dcL_facts n.natAbs (by omega)
  have hz : hd (dcL n.natAbs) = 48 → (dcL n.natAbs).length = 1 := fun e => by rw [f4 e]; rfl
  have hs : sv (sL n) (dcL n.natAbs) = n := by rw [sv_num, f3]; split <;> omega
  have hpre := sL_two n
  unfold nL2
  generalize sL n = pre at *
  generalize dcL n.natAbs = l at *
  clear f3 f4
  have hlp := List.length_pos_iff.2 f1
  have hdl : Lx.dg (hd l) = true := by
    cases l with
    | nil => exact absurd rfl f1
    | cons c l => exact f2 c List.mem_cons_self
  have hdl2 : 48 ≤ hd l ∧ hd l ≤ 57 := by unfold Lx.dg at hdl; simpa using hdl
  have hlr : hd (l ++ r) = hd l := hd_left _ _ f1
  have hgc : dgc (l ++ r) = l.length := by
    unfold dgc
    rw [hlr]
    by_cases h : hd l = 48
    · rw [if_pos h, hz h]
    · rw [if_neg h, dgs_app f2 hr.1]
  rw [List.append_assoc]
  have key : sgn (pre ++ (l ++ r)) = pre.length ∧ (hd (pre ++ (l ++ r)) = 45 ∨ Lx.dg (hd (pre ++ (l ++ r))) = true) ∧ sg (hd (pre ++ (l ++ r))) = 0 ∧ hd (pre ++ (l ++ r)) ≠ 34 ∧ (sgn (pre ++ (l ++ r)) = 1 ↔ pre ≠ []) := by
    rcases hpre with rfl | rfl
    · rw [List.nil_append, hlr]
      have : sgn (l ++ r) = 0 := by unfold sgn; rw [hlr, if_neg (by omega)]
      refine ⟨this, .inr hdl, ?_, by omega, by rw [this]; simp⟩
      unfold sg
      rw [if_neg (by omega), if_neg (by omega), if_neg (by omega), if_neg (by omega), if_neg (by omega), if_neg (by omega)]
    · have e : hd ([45] ++ (l ++ r)) = 45 := rfl
      have : sgn ([45] ++ (l ++ r)) = 1 := by unfold sgn; rw [if_pos e]
      refine ⟨this, .inl e, by rw [e]; decide, by rw [e]; decide, by rw [this]; simp⟩
  obtain ⟨k1, k2, k4, k5, k6⟩ := key
  have hne : pre ++ (l ++ r) ≠ [] := by simp [f1]
  have hdr : (pre ++ (l ++ r)).drop (sgn (pre ++ (l ++ r))) = l ++ r := by rw [k1, List.drop_left]
  have hdc : dc (pre ++ (l ++ r)) = l.length := by unfold dc; rw [hdr, hgc]
  have hvz : vz (pre ++ (l ++ r)) = vl l := by unfold vz; rw [hdc, hdr, List.take_left]
  have hvi : vi (pre ++ (l ++ r)) = sv pre l := by
    unfold vi sv
    rw [hvz]
    by_cases h : pre = []
    · rw [if_pos h, if_neg]; rw [k6]; simp [h]
    · rw [if_neg h, if_pos (k6.2 h)]
  have hend : mk ((pre ++ (l ++ r)).getD (sgn (pre ++ (l ++ r)) + dc (pre ++ (l ++ r))) 0).toNat = false := by
    have e : (pre ++ (l ++ r)).getD (pre.length + l.length) 0 = r.getD 0 0 := by
      rw [List.getD_eq_getElem?_getD, List.getElem?_append_right (by omega), List.getElem?_append_right (by omega), List.getD_eq_getElem?_getD]
      congr 2
      omega
    rw [k1, hdc, e]
    exact hr.2
  have e : tok (pre ++ (l ++ r)) = num (pre ++ (l ++ r)) := by
    unfold tok
    rw [if_neg hne, if_neg (by rw [k4]; simp), if_neg k5, if_pos k2]
  rw [e]
  unfold num vo
  rw [hend, hdc, hvi, k1, if_neg (by omega), if_neg (by simp), hs, if_pos (by simpa using ⟨h1, h2⟩), List.length_append]

/-! ### places told by what follows -/
/-- Where r begins, at the end of S. -/
def pl (S r : List UInt8) : Nat := S.length - r.length
theorem drop_pl {S r : List UInt8} (h : r <:+ S) : S.drop (pl S r) = r := (List.suffix_iff_eq_drop.1 h).symm
theorem suf {S a b : List UInt8} (h : a ++ b <:+ S) : b <:+ S := (List.suffix_append a b).trans h
theorem nt_tok {S B x r v : List UInt8} {k : Nat} {n : Int} (h : B ++ (x ++ r) <:+ S) (hB : ∀ c ∈ B, bl c.toNat = true) (hx : bl (hd (x ++ r)) = false) (ht : tok (x ++ r) = (0, ⟨k, 0, x.length, v, n⟩)) :
    nt S (pl S (B ++ (x ++ r))) = .ok ⟨k, pl S (x ++ r), x.length, v, n⟩ (pl S r) := by
  have hl := h.length_le
  have e := (nx_pre hB (x ++ r)).1
  have e2 : nx (x ++ r) = (0, ⟨k, 0, x.length, v, n⟩) := by
    unfold nx
    rw [skp_none hx, List.drop_zero, ht]
    rfl
  unfold nt
  rw [drop_pl h, e, e2, if_pos rfl]
  simp only [List.length_append] at hl
  unfold pl Tk.sh
  simp only [List.length_append]
  congr 1
  · congr 1
    omega
  · omega
/-- Behind the last byte there is the end. -/
theorem nt_end {S B : List UInt8} (h : B <:+ S) (hB : ∀ c ∈ B, bl c.toNat = true) : nt S (pl S B) = .ok ⟨0, S.length, 0, [], 0⟩ S.length := by
  have hl := h.length_le
  have e := (nx_pre hB []).1
  have e2 : nx [] = (0, ⟨0, 0, 0, [], 0⟩) := rfl
  rw [List.append_nil] at e
  unfold nt
  rw [drop_pl h, e, e2, if_pos rfl]
  unfold pl Tk.sh
  congr 1
  · congr 1
    show S.length - B.length + (B.length + 0) = _
    omega
  · show S.length - B.length + (B.length + 0) + 0 = _
    omega
end Go.Proofs.YtbpofhlnnldceaaDoor.Ren
