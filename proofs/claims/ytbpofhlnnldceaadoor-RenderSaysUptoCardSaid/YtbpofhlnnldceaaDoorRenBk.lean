/- Plain facts: what is written is read as it was. Conditions: as each theorem states. -/
import Derived.Test.YtbpofhlnnldceaaDoorRenMath
namespace Go.Proofs.YtbpofhlnnldceaaDoor.Ren
open Go.Lib Go.Proofs.YtbpofhlnnldceaaDoor.Utf Go.Proofs.YtbpofhlnnldceaaDoor.Quo Go.Proofs.YtbpofhlnnldceaaDoor.Lx Go.Proofs.YtbpofhlnnldceaaDoor.Par
open Go.Proofs.YtbpofhlnnldceaaDoor.Tre (Vt V0 wi wiL wiL_all hdB textB nmB noneB scal dep depL cnt cntL cntL_mem cntL_len cnt_pos vt_ind OkT okV)

section
variable {S st co cb : List UInt8}
theorem bnd_ok {α β : Type} (x : α) (p : Nat) (f : α → Nat → Rs β) : bnd (.ok x p) f = f x p := rfl
/-- A value is read as it was, at a place of S, on such a line, behind so many brackets. -/
def Rv (S st co : List UInt8) (f lv : Nat) (ln : List UInt8) (v : Vt) : Prop := ∀ B r : List UInt8, (∀ c ∈ B, bl c.toNat = true) → Stp r → B ++ (tv st co v ln ++ r) <:+ S →
  ∃ t q, nt S (pl S (B ++ (tv st co v ln ++ r))) = .ok t q ∧ t.k ≠ 0 ∧ t.k ≠ 2 ∧ t.k ≠ 4 ∧ val (nt S) f t lv q = .ok v (pl S r)
theorem sign_at {B r : List UInt8} (c : UInt8) (hB : ∀ c ∈ B, bl c.toNat = true) (hc : sg c.toNat ≠ 0) (hb : bl c.toNat = false) (h : B ++ c :: r <:+ S) :
    nt S (pl S (B ++ c :: r)) = .ok ⟨sg c.toNat, pl S (c :: r), 1, [], 0⟩ (pl S r) :=
  nt_tok (x := [c]) (r := r) h hB hb (tok_sign c r hc)
theorem ne_k {k o z : Nat} {v : List UInt8} {n : Int} {m : Nat} (h : k ≠ m) : (Tk.mk k o z v n).k ≠ m := h
theorem lst_back {f lv : Nat} {ln ln1 r : List UInt8} (hln : ∀ c ∈ ln, bl c.toNat = true) (hln1 : ∀ c ∈ ln1, bl c.toNat = true) : ∀ (l : List Vt) (x : Vt) (acc : List Vt) (ns : List ByteArray) (g : Nat), (∀ y ∈ x :: l, Rv S st co f lv ln1 y) → l.length + 1 ≤ g →
    ln1 ++ (tv st co x ln1 ++ (tl st co l false ns [44] ln1 ++ (ln ++ 93 :: r))) <:+ S →
    ∃ t q, nt S (pl S (ln1 ++ (tv st co x ln1 ++ (tl st co l false ns [44] ln1 ++ (ln ++ 93 :: r))))) = .ok t q ∧ t.k ≠ 4 ∧ lst (nt S) (fun t p => val (nt S) f t lv p) g acc t q = .ok (acc ++ x :: l) (pl S r)
  | [], x, acc, ns, g, hy, hg, h => by
    obtain ⟨g, rfl⟩ : ∃ k, g = k + 1 := ⟨g - 1, by omega⟩
    rw [tl, List.nil_append] at h ⊢
    obtain ⟨t, q, h1, h2, h3, h4, h5⟩ := hy x List.mem_cons_self ln1 (ln ++ 93 :: r) hln1 (.blank hln (.sign r (by decide))) h
    refine ⟨t, q, h1, h4, ?_⟩
    rw [lst, h5]
    show bnd (nt S (pl S (ln ++ 93 :: r))) _ = _
    rw [sign_at 93 hln (by decide) (by decide) (suf (suf h))]
    rfl
  | y :: l, x, acc, ns, g, hy, hg, h => by
    obtain ⟨g, rfl⟩ : ∃ k, g = k + 1 := ⟨g - 1, by omega⟩
    have e : tl st co (y :: l) false ns [44] ln1 ++ (ln ++ 93 :: r) = 44 :: (ln1 ++ (tv st co y ln1 ++ (tl st co l false ns.tail [44] ln1 ++ (ln ++ 93 :: r)))) := by
      rw [tl]; simp [nmT]
    rw [e] at h ⊢
    obtain ⟨t, q, h1, h2, h3, h4, h5⟩ := hy x List.mem_cons_self ln1 _ hln1 (.sign _ (by decide)) h
    refine ⟨t, q, h1, h4, ?_⟩
    have hc : (([] : List UInt8) ++ 44 :: (ln1 ++ (tv st co y ln1 ++ (tl st co l false ns.tail [44] ln1 ++ (ln ++ 93 :: r))))) <:+ S := suf (suf h)
    obtain ⟨t3, q3, k1, k2, k3⟩ := lst_back hln hln1 l y (acc ++ [x]) ns.tail g (fun z hz => hy z (List.mem_cons_of_mem _ hz)) (by simp at hg; omega) (suf (a := [44]) hc)
    have := sign_at (B := []) 44 (fun c hc => by cases hc) (by decide) (by decide) hc
    rw [List.nil_append] at this
    rw [lst, h5]
    simp only [bnd_ok, this]
    rw [if_neg (by decide), if_pos (by decide), k1]
    simp only [bnd_ok]
    rw [k3, List.append_assoc]
    rfl
theorem name_at {B r : List UInt8} {n : ByteArray} (hn : textB n = true) (hB : ∀ c ∈ B, bl c.toNat = true) (h : B ++ (qQ n.data.toList ++ r) <:+ S) :
    nt S (pl S (B ++ (qQ n.data.toList ++ r))) = .ok ⟨7, pl S (qQ n.data.toList ++ r), (qQ n.data.toList).length, n.data.toList, 0⟩ (pl S r) := by
  unfold textB at hn
  rw [decide_eq_true_eq] at hn
  exact nt_tok h hB (by rw [qQ_hd]; decide) (tok_text hn r)
theorem tx_list (n : ByteArray) (k o z : Nat) (m : Int) : tx ⟨k, o, z, n.data.toList, m⟩ = n := by
  unfold tx
  cases n
  simp
theorem obj_back {f lv : Nat} {ln ln1 r : List UInt8} (hco : co = 58 :: cb) (hcb : ∀ c ∈ cb, bl c.toNat = true) (hln : ∀ c ∈ ln, bl c.toNat = true) (hln1 : ∀ c ∈ ln1, bl c.toNat = true) :
    ∀ (l : List Vt) (x : Vt) (n : ByteArray) (ns NS : List ByteArray) (acc : List Vt) (g : Nat), (∀ y ∈ x :: l, Rv S st co f lv ln1 y) → l.length + 1 ≤ g → ns.length = l.length → (NS ++ n :: ns).Nodup → (∀ m ∈ n :: ns, textB m = true) →
    ln1 ++ (qQ n.data.toList ++ (co ++ (tv st co x ln1 ++ (tl st co l true ns [44] ln1 ++ (ln ++ 125 :: r))))) <:+ S →
    ∃ t q, nt S (pl S (ln1 ++ (qQ n.data.toList ++ (co ++ (tv st co x ln1 ++ (tl st co l true ns [44] ln1 ++ (ln ++ 125 :: r))))))) = .ok t q ∧ t.k ≠ 2 ∧ obj (nt S) (fun t p => val (nt S) f t lv p) g NS acc t q = .ok (NS ++ n :: ns, acc ++ x :: l) (pl S r) := by
  intro l
  induction l with
  | nil =>
    intro x n ns NS acc g hy hg hns hnd htx h
    obtain rfl : ns = [] := List.eq_nil_of_length_eq_zero hns
    obtain ⟨g, rfl⟩ : ∃ k, g = k + 1 := ⟨g - 1, by omega⟩
    have h0 := name_at (htx n List.mem_cons_self) hln1 h
    refine ⟨_, _, h0, ne_k (by decide), ?_⟩
    have hin : isin NS n = false := by
      cases hi : isin NS n with
      | false => rfl
      | true => exact absurd rfl ((List.nodup_append.1 hnd).2.2 n ((isin_iff NS n).1 hi) n List.mem_cons_self)
    have hc0 := suf (suf h)
    have hc : ([] : List UInt8) ++ 58 :: (cb ++ (tv st (58 :: cb) x ln1 ++ (tl st (58 :: cb) [] true [] [44] ln1 ++ (ln ++ 125 :: r)))) <:+ S := by rw [hco] at hc0; exact hc0
    rw [hco]
    have hc1 := sign_at (B := []) (S := S) 58 (fun c hc => by cases hc) (by decide) (by decide) hc
    rw [List.nil_append] at hc1
    have hc2 : cb ++ (tv st (58 :: cb) x ln1 ++ (tl st (58 :: cb) [] true [] [44] ln1 ++ (ln ++ 125 :: r))) <:+ S := suf (a := [58]) hc
    rw [hco] at hy
    have hst : Stp (tl st (58 :: cb) [] true [] [44] ln1 ++ (ln ++ 125 :: r)) := by rw [tl, List.nil_append]; exact .blank hln (.sign r (by decide))
    obtain ⟨t3, q3, k1, k2, k3, k4, k5⟩ := hy x List.mem_cons_self cb _ hcb hst hc2
    have he : tl st (58 :: cb) [] true [] [44] ln1 ++ (ln ++ 125 :: r) = ln ++ 125 :: r := by rw [tl, List.nil_append]
    rw [he] at k1 k5 hc2 hc1
    have hc5 := sign_at 125 hln (by decide) (by decide) (suf (suf hc2))
    rw [obj, tx_list, hin, he]
    rw [if_pos rfl, if_neg (by decide)]
    simp only [List.cons_append, hc1, bnd_ok]
    rw [if_pos (by decide), k1]
    simp only [bnd_ok, k5, hc5]
    rfl
  | cons y l ih =>
    intro x n ns NS acc g hy hg hns hnd htx h
    obtain ⟨m, ns, rfl⟩ : ∃ m ns', ns = m :: ns' := by cases ns with | nil => simp at hns | cons m ns => exact ⟨m, ns, rfl⟩
    obtain ⟨g, rfl⟩ : ∃ k, g = k + 1 := ⟨g - 1, by omega⟩
    have h0 := name_at (htx n List.mem_cons_self) hln1 h
    refine ⟨_, _, h0, ne_k (by decide), ?_⟩
    have hin : isin NS n = false := by
      cases hi : isin NS n with
      | false => rfl
      | true => exact absurd rfl ((List.nodup_append.1 hnd).2.2 n ((isin_iff NS n).1 hi) n List.mem_cons_self)
    have e : tl st co (y :: l) true (m :: ns) [44] ln1 ++ (ln ++ 125 :: r) = 44 :: (ln1 ++ (qQ m.data.toList ++ (co ++ (tv st co y ln1 ++ (tl st co l true ns [44] ln1 ++ (ln ++ 125 :: r)))))) := by
      rw [tl]; simp [nmT]
    rw [e] at h ⊢
    have hc := suf (suf h)
    have h6 : 44 :: (ln1 ++ (qQ m.data.toList ++ (co ++ (tv st co y ln1 ++ (tl st co l true ns [44] ln1 ++ (ln ++ 125 :: r)))))) <:+ S := suf (suf hc)
    obtain ⟨t6, q6, m1, m2, m3⟩ := ih y m ns (NS ++ [n]) (acc ++ [x]) g (fun z hz => hy z (List.mem_cons_of_mem _ hz)) (by simp at hg; omega) (by simpa using hns) (by simpa using hnd) (fun z hz => htx z (List.mem_cons_of_mem _ hz)) (suf (a := [44]) h6)
    have h61 := sign_at (B := []) (S := S) 44 (fun c hc => by cases hc) (by decide) (by decide) h6
    rw [List.nil_append] at h61
    generalize ln1 ++ (qQ m.data.toList ++ (co ++ (tv st co y ln1 ++ (tl st co l true ns [44] ln1 ++ (ln ++ 125 :: r))))) = R at *
    have hc' : ([] : List UInt8) ++ 58 :: (cb ++ (tv st co x ln1 ++ 44 :: R)) <:+ S := by rw [hco] at hc ⊢; exact hc
    have hc1 := sign_at (B := []) (S := S) 58 (fun c hc => by cases hc) (by decide) (by decide) hc'
    rw [List.nil_append] at hc1
    obtain ⟨t3, q3, k1, k2, k3, k4, k5⟩ := hy x List.mem_cons_self cb (44 :: R) hcb (.sign _ (by decide)) (suf (a := [58]) hc')
    have hcs : ∀ X : List UInt8, co ++ X = 58 :: (cb ++ X) := fun X => by rw [hco]; rfl
    rw [obj, tx_list, hin, hcs]
    rw [if_pos rfl, if_neg (by decide)]
    simp only [hc1, bnd_ok]
    rw [if_pos (by decide), k1]
    simp only [bnd_ok, k5, h61]
    rw [if_neg (by decide), if_pos (by decide), m1]
    simp only [bnd_ok, m3]
    simp
theorem co_wi {k n : Int} {s : ByteArray} {l : List Vt} {ns : List ByteArray} {m : Int} (h : wi (.mk k n s l ns) m = true) : hdB k n s l ns m = true ∧ ∀ x ∈ l, wi x (m - 1) = true := by
  rw [wi, Bool.and_eq_true, wiL_all, List.all_eq_true] at h
  exact h
/-- WHAT IS WRITTEN IS READ AS IT WAS. -/
theorem back (hst : ∀ c ∈ st, bl c.toNat = true) (hco : co = 58 :: cb) (hcb : ∀ c ∈ cb, bl c.toNat = true) (v : Vt) : OkT v → ∀ (f lv : Nat) (ln : List UInt8), (∀ c ∈ ln, bl c.toNat = true) → cnt v ≤ f → wi v (64 - (lv : Int)) = true → lv ≤ 64 → Rv S st co f lv ln v := by
  refine vt_ind (p := fun v => OkT v → ∀ (f lv : Nat) (ln : List UInt8), (∀ c ∈ ln, bl c.toNat = true) → cnt v ≤ f → wi v (64 - (lv : Int)) = true → lv ≤ 64 → Rv S st co f lv ln v) ?_ v
  intro v ih hok f lv ln hln hf hw hlv B r hB hr h
  obtain ⟨_, hok1, hok2⟩ := hok
  cases v with
  | mk k n s l ns =>
    obtain ⟨hd0, hw2⟩ := co_wi hw
    have hcp := cnt_pos (.mk k n s l ns)
    obtain ⟨f, rfl⟩ : ∃ k, f = k + 1 := ⟨f - 1, by omega⟩
    have hcl : cntL l ≤ f := by rw [cnt] at hf; omega
    unfold hdB at hd0
    rw [tv] at h ⊢
    by_cases h0 : k = 0
    · rw [if_pos h0] at h hd0 ⊢
      simp only [scal, noneB, Bool.and_eq_true, decide_eq_true_eq, List.isEmpty_iff] at hd0
      obtain ⟨⟨rfl, rfl⟩, rfl, rfl⟩ := hd0
      subst h0
      exact ⟨_, _, nt_tok h hB rfl (tok_null r), ne_k (by decide), ne_k (by decide), ne_k (by decide), rfl⟩
    rw [if_neg h0] at h hd0 ⊢
    by_cases h1 : k = 1
    · rw [if_pos h1] at h hd0 ⊢
      simp only [scal, noneB, Bool.and_eq_true, decide_eq_true_eq, List.isEmpty_iff] at hd0
      obtain ⟨⟨hn, rfl⟩, rfl, rfl⟩ := hd0
      subst h1
      rcases hn with rfl | rfl
      · rw [if_neg (by decide)] at h ⊢
        exact ⟨_, _, nt_tok h hB rfl (tok_false r), ne_k (by decide), ne_k (by decide), ne_k (by decide), rfl⟩
      · rw [if_pos rfl] at h ⊢
        exact ⟨_, _, nt_tok h hB rfl (tok_true r), ne_k (by decide), ne_k (by decide), ne_k (by decide), rfl⟩
    rw [if_neg h1] at h hd0 ⊢
    by_cases h2 : k = 2
    · rw [if_pos h2] at h hd0 ⊢
      simp only [scal, noneB, Bool.and_eq_true, decide_eq_true_eq, List.isEmpty_iff] at hd0
      obtain ⟨rfl, rfl, rfl⟩ := hd0
      subst h2
      have hnb := hok1.2.1
      have ht := tok_num n hnb.1 hnb.2 hr
      have hbl : bl (hd (nL2 n ++ r)) = false := by
        have hne : nL2 n ≠ [] := by
          unfold nL2
          have := (dcL_facts n.natAbs (by have : -9223372036854775808 ≤ n ∧ n ≤ 9223372036854775807 := hnb; omega)).1
          simp [this]
        have hx : skp (nL2 n) = 0 := by
          have := (number_is n hnb.1 hnb.2)
          unfold nx at this
          rw [Prod.mk.injEq] at this
          have h2 := congrArg Tk.o this.2
          have h3 := (tok_good ((nL2 n).drop (skp (nL2 n))) (by rw [this.1])).1
          show skp (nL2 n) = 0
          have h4 : skp (nL2 n) + (tok ((nL2 n).drop (skp (nL2 n)))).2.o = 0 := h2
          omega
        rw [hd_left _ _ hne]
        have := skp_head (nL2 n)
        rwa [hx, List.drop_zero] at this
      exact ⟨_, _, nt_tok h hB hbl ht, ne_k (by decide), ne_k (by decide), ne_k (by decide), rfl⟩
    rw [if_neg h2] at h hd0 ⊢
    by_cases h3 : k = 3
    · rw [if_pos h3] at h hd0 ⊢
      simp only [scal, Bool.and_eq_true, decide_eq_true_eq, List.isEmpty_iff] at hd0
      obtain ⟨⟨rfl, ht⟩, rfl, rfl⟩ := hd0
      subst h3
      refine ⟨_, _, name_at ht hB h, ne_k (by decide), ne_k (by decide), ne_k (by decide), ?_⟩
      rw [val]
      rw [tx_list]
      rfl
    rw [if_neg h3] at h hd0 ⊢
    by_cases h4 : k = 4
    · rw [if_pos h4] at h hd0 ⊢
      simp only [noneB, Bool.and_eq_true, decide_eq_true_eq, List.isEmpty_iff] at hd0
      obtain ⟨⟨⟨rfl, rfl⟩, rfl⟩, hlv1⟩ := hd0
      subst h4
      have hn64 : ¬ lv = 64 := by omega
      cases l with
      | nil =>
        have e : 91 :: (tl st co [] false [] [] (ln ++ st) ++ (if ([] : List Vt).isEmpty = true then [] else ln) ++ [93]) ++ r = 91 :: (93 :: r) := by rw [tl]; rfl
        rw [e] at h ⊢
        have h93 : ([] : List UInt8) ++ 93 :: r <:+ S := suf (a := [91]) (suf h)
        refine ⟨_, _, sign_at 91 hB (by decide) (by decide) h, ne_k (by decide), ne_k (by decide), ne_k (by decide), ?_⟩
        have hs := sign_at 93 (fun c hc => by cases hc) (by decide) (by decide) h93
        rw [List.nil_append] at hs
        rw [val]
        show (if lv = 64 then _ else lst0 _ _ _ _) = _
        rw [if_neg hn64, lst0, hs]
        rfl
      | cons x l =>
        have e : 91 :: (tl st co (x :: l) false [] [] (ln ++ st) ++ (if (x :: l).isEmpty = true then [] else ln) ++ [93]) ++ r = 91 :: ((ln ++ st) ++ (tv st co x (ln ++ st) ++ (tl st co l false [] [44] (ln ++ st) ++ (ln ++ 93 :: r)))) := by
          rw [tl]; simp [nmT]
        rw [e] at h ⊢
        have hl1 : ∀ c ∈ ln ++ st, bl c.toNat = true := by
          intro c hc
          rcases List.mem_append.1 hc with q | q
          · exact hln c q
          · exact hst c q
        have hy : ∀ y ∈ x :: l, Rv S st co f (lv + 1) (ln ++ st) y := fun y hy => ih y hy (hok2 y hy) f (lv + 1) (ln ++ st) hl1 (Nat.le_trans (cntL_mem hy) hcl)
          (by have := hw2 y hy; rwa [show (64 : Int) - ((lv + 1 : Nat) : Int) = 64 - (lv : Int) - 1 by omega]) (by omega)
        obtain ⟨t, q, a1, a2, a3⟩ := lst_back (S := S) (st := st) (co := co) (f := f) (lv := lv + 1) (r := r) hln hl1 l x [] [] f hy (by have := cntL_len (x :: l); simp at this; omega) (suf (a := [91]) (suf h))
        refine ⟨_, _, sign_at 91 hB (by decide) (by decide) h, ne_k (by decide), ne_k (by decide), ne_k (by decide), ?_⟩
        rw [val]
        show (if lv = 64 then _ else lst0 _ _ _ _) = _
        rw [if_neg hn64, lst0, a1]
        show (if t.k = 4 then _ else bnd (lst _ _ _ _ _ _) _) = _
        rw [if_neg a2, a3]
        rfl
    rw [if_neg h4] at h hd0 ⊢
    by_cases h5 : k = 5
    · rw [if_pos h5] at h hd0 ⊢
      simp only [noneB, nmB, Bool.and_eq_true, decide_eq_true_eq, List.all_eq_true] at hd0
      obtain ⟨⟨⟨⟨hns, htx, hnd⟩, rfl⟩, rfl⟩, hlv1⟩ := hd0
      subst h5
      have hn64 : ¬ lv = 64 := by omega
      cases l with
      | nil =>
        obtain rfl : ns = [] := List.eq_nil_of_length_eq_zero hns
        have e : 123 :: (tl st co [] true [] [] (ln ++ st) ++ (if ([] : List Vt).isEmpty = true then [] else ln) ++ [125]) ++ r = 123 :: (125 :: r) := by rw [tl]; rfl
        rw [e] at h ⊢
        have h93 : ([] : List UInt8) ++ 125 :: r <:+ S := suf (a := [123]) (suf h)
        refine ⟨_, _, sign_at 123 hB (by decide) (by decide) h, ne_k (by decide), ne_k (by decide), ne_k (by decide), ?_⟩
        have hs := sign_at 125 (fun c hc => by cases hc) (by decide) (by decide) h93
        rw [List.nil_append] at hs
        rw [val]
        show (if lv = 64 then _ else obj0 _ _ _ _) = _
        rw [if_neg hn64, obj0, hs]
        rfl
      | cons x l =>
        obtain ⟨m, ns, rfl⟩ : ∃ m ns', ns = m :: ns' := by cases ns with | nil => simp at hns | cons m ns => exact ⟨m, ns, rfl⟩
        have e : 123 :: (tl st co (x :: l) true (m :: ns) [] (ln ++ st) ++ (if (x :: l).isEmpty = true then [] else ln) ++ [125]) ++ r = 123 :: ((ln ++ st) ++ (qQ m.data.toList ++ (co ++ (tv st co x (ln ++ st) ++ (tl st co l true ns [44] (ln ++ st) ++ (ln ++ 125 :: r)))))) := by
          rw [tl]; simp [nmT]
        rw [e] at h ⊢
        have hl1 : ∀ c ∈ ln ++ st, bl c.toNat = true := by
          intro c hc
          rcases List.mem_append.1 hc with q | q
          · exact hln c q
          · exact hst c q
        have hy : ∀ y ∈ x :: l, Rv S st co f (lv + 1) (ln ++ st) y := fun y hy => ih y hy (hok2 y hy) f (lv + 1) (ln ++ st) hl1 (Nat.le_trans (cntL_mem hy) hcl)
          (by have := hw2 y hy; rwa [show (64 : Int) - ((lv + 1 : Nat) : Int) = 64 - (lv : Int) - 1 by omega]) (by omega)
        obtain ⟨t, q, a1, a2, a3⟩ := obj_back (S := S) (st := st) (co := co) (f := f) (lv := lv + 1) (r := r) hco hcb hln hl1 l x m ns [] [] f hy (by have := cntL_len (x :: l); simp at this; omega) (by simpa using hns) hnd htx (suf (a := [123]) (suf h))
        refine ⟨_, _, sign_at 123 hB (by decide) (by decide) h, ne_k (by decide), ne_k (by decide), ne_k (by decide), ?_⟩
        rw [val]
        show (if lv = 64 then _ else obj0 _ _ _ _) = _
        rw [if_neg hn64, obj0, a1]
        show (if t.k = 2 then _ else bnd (obj _ _ _ _ _ _ _) _) = _
        rw [if_neg a2, a3]
        rfl
    rw [if_neg h5] at hd0
    cases hd0
end
/-- The whole text. -/
theorem prs_back {st co cb ln : List UInt8} (hst : ∀ c ∈ st, bl c.toNat = true) (hco : co = 58 :: cb) (hcb : ∀ c ∈ cb, bl c.toNat = true) (hln : ∀ c ∈ ln, bl c.toNat = true) (v : Vt) (hok : OkT v) (hw : wi v 64 = true) (F : Nat) (hF : cnt v ≤ F) :
    prs F (tv st co v ln ++ ln) = .ok v (tv st co v ln ++ ln).length := by
  have hr : Stp ln := by have := Stp.blank hln Stp.nil; rwa [List.append_nil] at this
  have hs : ([] : List UInt8) ++ (tv st co v ln ++ ln) <:+ tv st co v ln ++ ln := List.suffix_refl _
  obtain ⟨t, q, h1, h2, _, _, h5⟩ := back (S := tv st co v ln ++ ln) hst hco hcb v hok F 0 ln hln hF (by simpa using hw) (by omega) [] ln (fun c hc => by cases hc) hr hs
  have h6 := nt_end (suf (suf hs)) hln
  have e : pl (tv st co v ln ++ ln) ([] ++ (tv st co v ln ++ ln)) = 0 := by unfold pl; simp
  rw [e] at h1
  unfold prs
  rw [h1]
  show bnd (val _ _ _ _ _) _ = _
  rw [h5]
  show bnd (nt _ _) _ = _
  rw [h6]
  rfl
end Go.Proofs.YtbpofhlnnldceaaDoor.Ren
