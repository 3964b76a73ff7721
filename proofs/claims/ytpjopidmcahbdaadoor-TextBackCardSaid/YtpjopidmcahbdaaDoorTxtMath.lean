/- Plain facts of texts behind their lengths, and of lists of them. No program. -/
import Derived.Test.YtpjopidmcahbdaaDoorVarC
import Derived.Test.YtpjopidmcahbdaaDoorUtfMath
import Derived.Test.YtpjopidmcahbdaaDoorByt
namespace Go.Proofs.YtpjopidmcahbdaaDoor.Txt
open Go.RowKit Go.Lib Go.Proofs.YtpjopidmcahbdaaDoor.Byt Go.Proofs.YtpjopidmcahbdaaDoor.Var Go.Proofs.YtpjopidmcahbdaaDoor.Utf

/-- Put's error, and its bytes. -/
def tE (s : ByteArray) (m : Int) : Nat := if max m 0 < (s.size : Int) then 5 else if badL s.data.toList = none then 0 else 8
def tB (s : ByteArray) : List UInt8 := putV s.size ++ s.data.toList
def tS (s : ByteArray) (m : Int) : ByteArray := if tE s m = 0 then ⟨(tB s).toArray⟩ else ⟨#[]⟩
/-- Take's error, text and offset. -/
def gE (s : ByteArray) (a m : Int) : Nat := if tkC s a ≠ 0 then tkC s a else if max m 0 < (tkN s a : Int) then 5 else if s.size < tkE s a + tkN s a then 3 else if badL (cutB s (tkE s a) (tkN s a)).data.toList = none then 0 else 8
def gS (s : ByteArray) (a m : Int) : ByteArray := if gE s a m = 0 then cutB s (tkE s a) (tkN s a) else ⟨#[]⟩
def gO (s : ByteArray) (a m : Int) : Nat := if gE s a m = 0 then tkE s a + tkN s a else 0
/-- PutAll's error and bytes. -/
def paE (m : Int) : List ByteArray → Nat
  | [] => 0
  | x :: r => if tE x m = 0 then paE m r else tE x m
def lB (l : List ByteArray) : List UInt8 := l.flatMap tB
def paB (l : List ByteArray) : List UInt8 := putV l.length ++ lB l
def paS (l : List ByteArray) (m : Int) : ByteArray := if paE m l = 0 then ⟨(paB l).toArray⟩ else ⟨#[]⟩
/-- The error, the texts and the offset of n texts from p on. -/
def taF (s : ByteArray) (m : Int) : Nat → Nat → Nat × List ByteArray × Nat
  | 0, p => (0, [], p)
  | n + 1, p => if gE s p m = 0 then (if (taF s m n (gO s p m)).1 = 0 then (0, gS s p m :: (taF s m n (gO s p m)).2.1, (taF s m n (gO s p m)).2.2) else ((taF s m n (gO s p m)).1, [], 0)) else (gE s p m, [], 0)
theorem taF_zero (s : ByteArray) (m : Int) (p : Nat) : taF s m 0 p = (0, [], p) := rfl
theorem taF_no {s : ByteArray} {m : Int} {p : Nat} (n : Nat) (h : gE s p m ≠ 0) : taF s m (n + 1) p = (gE s p m, [], 0) := by rw [taF, if_neg h]
theorem taF_yes {s : ByteArray} {m : Int} {p : Nat} (n : Nat) (h : gE s p m = 0) : taF s m (n + 1) p = if (taF s m n (gO s p m)).1 = 0 then (0, gS s p m :: (taF s m n (gO s p m)).2.1, (taF s m n (gO s p m)).2.2) else ((taF s m n (gO s p m)).1, [], 0) := by rw [taF, if_pos h]
/-- Texts that were taken ahead of a result. -/
def glue (acc : List ByteArray) (r : Nat × List ByteArray × Nat) : Nat × List ByteArray × Nat := if r.1 = 0 then (0, acc ++ r.2.1, r.2.2) else (r.1, [], 0)
theorem taF_err (s : ByteArray) (m : Int) : ∀ n p, (taF s m n p).1 ≠ 0 → taF s m n p = ((taF s m n p).1, [], 0)
  | 0, p, h => by rw [taF_zero] at h; exact absurd rfl h
  | n + 1, p, h => by
    by_cases h0 : gE s p m = 0
    · rw [taF_yes n h0] at h ⊢
      split at h
      · exact absurd rfl h
      · rename_i h1; rw [if_neg h1]
    · rw [taF_no n h0]
theorem glue_nil {s : ByteArray} {m : Int} (n p : Nat) : glue [] (taF s m n p) = taF s m n p := by
  unfold glue
  by_cases h : (taF s m n p).1 = 0
  · rw [if_pos h, List.nil_append, ← h]
  · rw [if_neg h]; exact (taF_err s m n p h).symm
theorem glue_step {s : ByteArray} {m : Int} {p : Nat} (n : Nat) (acc : List ByteArray) (h : gE s p m = 0) : glue acc (taF s m (n + 1) p) = glue (acc ++ [gS s p m]) (taF s m n (gO s p m)) := by
  rw [taF_yes n h]
  unfold glue
  by_cases h1 : (taF s m n (gO s p m)).1 = 0
  · rw [if_pos h1, if_pos rfl, if_pos h1]; simp
  · rw [if_neg h1, if_neg h1, if_neg h1]
theorem glue_stop {s : ByteArray} {m : Int} {p : Nat} (n : Nat) (acc : List ByteArray) (h : gE s p m ≠ 0) : glue acc (taF s m (n + 1) p) = (gE s p m, [], 0) := by
  rw [taF_no n h]; unfold glue; rw [if_neg h]
theorem glue_end {s : ByteArray} {m : Int} (p : Nat) (acc : List ByteArray) : glue acc (taF s m 0 p) = (0, acc, p) := by
  rw [taF_zero]; unfold glue; rw [if_pos rfl]; simp
attribute [irreducible] taF

/-- TakeAll's. -/
def taR (s : ByteArray) (a m : Int) : Nat × List ByteArray × Nat := if nmC s a 4611686018427387904 = 0 then taF s m (nmN s a 4611686018427387904) (nmE s a 4611686018427387904) else (nmC s a 4611686018427387904, [], 0)

/-! ### what stands at a place -/
theorem tk_at (s : ByteArray) (p : Nat) (h : tkC s p = 0) : p < tkE s p ∧ tkE s p ≤ s.size ∧ putV (tkN s p) = (s.data.toList.drop p).take (tkE s p - p) := by
  have h0 := tkE_le s p
  have hc : ¬ ((p : Int) < 0 ∨ (s.size : Int) < (p : Int)) := by
    intro q
    unfold tkC tk at h
    rw [if_pos q] at h
    cases h
  have e : tk s p = tkR 0 0 (s.data.toList.drop p) := by unfold tk; rw [if_neg hc]; rfl
  have h2 : (tkR 0 0 (s.data.toList.drop p)).2.2 = 0 := by rw [← e]; exact h
  have h3 : tkR 0 0 (s.data.toList.drop p) = ((tkR 0 0 (s.data.toList.drop p)).1, (tkR 0 0 (s.data.toList.drop p)).2.1, 0) := Prod.ext rfl (Prod.ext rfl h2)
  obtain ⟨x, h4, h5, h6, h7, _⟩ := tkR_back _ 0 0 _ _ h3
  have hN : tkN s p = x := by unfold tkN; rw [e, h4]; omega
  have hE : tkE s p = p + (tkR 0 0 (s.data.toList.drop p)).2.1 := by unfold tkE; rw [show (tk s p).2.2 = 0 from h, if_pos rfl, e]; simp
  refine ⟨by omega, h0, ?_⟩
  rw [hN, h7, hE]
  congr 1; omega
theorem tk_put (s : ByteArray) (p n : Nat) (rest : List UInt8) (hp : p ≤ s.size) (hn : n < 18446744073709551616) (h : s.data.toList.drop p = putV n ++ rest) : tkC s p = 0 ∧ tkN s p = n ∧ tkE s p = p + (putV n).length := by
  have hc : ¬ ((p : Int) < 0 ∨ (s.size : Int) < (p : Int)) := by omega
  have e : tk s p = (n, (putV n).length, 0) := by
    unfold tk; rw [if_neg hc]
    show tkR 0 0 (s.data.toList.drop p) = _
    rw [h, tkR_put n 0 0 rest (by omega) (by omega) (by simpa using hn)]
    simp
  refine ⟨by unfold tkC; rw [e], by unfold tkN; rw [e], ?_⟩
  unfold tkE; rw [e]; simp

theorem nm_at (s : ByteArray) (a z : Int) (h : nmC s a z = 0) : tkC s a = 0 ∧ nmN s a z = tkN s a ∧ nmE s a z = tkE s a ∧ (tkN s a : Int) ≤ max z 0 := by
  unfold nmC at h
  by_cases h1 : tkC s a = 0
  · rw [if_pos h1] at h
    have hy : nmY s a z = true := by
      cases q : nmY s a z with
      | true => rfl
      | false => rw [q] at h; cases h
    refine ⟨h1, by unfold nmN; rw [hy]; rfl, by unfold nmE; rw [hy]; rfl, ?_⟩
    unfold nmY at hy
    simp only [decide_eq_true_eq] at hy
    exact hy.2
  · rw [if_neg h1] at h; exact absurd h h1
theorem nm_put (s : ByteArray) (a z : Int) (h : tkC s a = 0) (h2 : (tkN s a : Int) ≤ max z 0) : nmC s a z = 0 ∧ nmN s a z = tkN s a ∧ nmE s a z = tkE s a := by
  have hy : nmY s a z = true := decide_eq_true ⟨h, h2⟩
  refine ⟨by unfold nmC; rw [if_pos h, hy]; rfl, by unfold nmN; rw [hy]; rfl, by unfold nmE; rw [hy]; rfl⟩

theorem tE_zero {s : ByteArray} {m : Int} : tE s m = 0 ↔ (s.size : Int) ≤ max m 0 ∧ badL s.data.toList = none := by
  unfold tE
  constructor
  · intro h
    split at h
    · cases h
    · split at h
      · exact ⟨by omega, by assumption⟩
      · cases h
  · rintro ⟨h1, h2⟩
    rw [if_neg (by omega), if_pos h2]
theorem gE_zero {s : ByteArray} {a m : Int} : gE s a m = 0 ↔ tkC s a = 0 ∧ (tkN s a : Int) ≤ max m 0 ∧ tkE s a + tkN s a ≤ s.size ∧ badL (cutB s (tkE s a) (tkN s a)).data.toList = none := by
  unfold gE
  constructor
  · intro h
    split at h
    · rename_i q; exact absurd h q
    rename_i h0
    split at h
    · cases h
    split at h
    · cases h
    split at h
    · exact ⟨by omega, by omega, by omega, by assumption⟩
    · cases h
  · rintro ⟨h1, h2, h3, h4⟩
    rw [if_neg (by omega), if_neg (by omega), if_neg (by omega), if_pos h4]
theorem gE_le (s : ByteArray) (a m : Int) : gE s a m ≤ 8 := by
  have := tkC_le s a
  unfold gE
  split
  · omega
  · split
    · omega
    · split
      · omega
      · split <;> omega
theorem cut_data (s : ByteArray) (i n : Nat) : (cutB s i n).data.toList = (s.data.toList.drop i).take n := by simp [cutB]
theorem of_list (s : ByteArray) : (⟨s.data.toList.toArray⟩ : ByteArray) = s := by cases s; simp
theorem eq_of_list {s t : ByteArray} (h : s.data.toList = t.data.toList) : s = t := by rw [← of_list s, h, of_list]
theorem size_list (s : ByteArray) : s.data.toList.length = s.size := by simp
theorem tB_len (s : ByteArray) : (tB s).length = (putV s.size).length + s.size := by unfold tB; rw [List.length_append, size_list]
theorem tB_pos (s : ByteArray) : s.size < (tB s).length := by have := putV_pos s.size; rw [tB_len]; omega

/-- What is taken stands there. -/
theorem g_at {s : ByteArray} {p : Nat} {m : Int} (h : gE s p m = 0) : tE (gS s p m) m = 0 ∧ p < gO s p m ∧ gO s p m ≤ s.size ∧ tB (gS s p m) = (s.data.toList.drop p).take (gO s p m - p) := by
  obtain ⟨h1, h2, h3, h4⟩ := gE_zero.1 h
  obtain ⟨k1, k2, k3⟩ := tk_at s p h1
  have eS : gS s p m = cutB s (tkE s p) (tkN s p) := by unfold gS; rw [if_pos h]
  have eO : gO s p m = tkE s p + tkN s p := by unfold gO; rw [if_pos h]
  have ez : (cutB s (tkE s p) (tkN s p)).size = tkN s p := cutB_size _ _ _ h3
  rw [eS, eO]
  refine ⟨tE_zero.2 ⟨by rw [ez]; exact h2, h4⟩, by omega, h3, ?_⟩
  unfold tB
  rw [ez, k3, cut_data]
  have : s.data.toList.drop (tkE s p) = (s.data.toList.drop p).drop (tkE s p - p) := by rw [List.drop_drop]; congr 1; omega
  rw [this, ← List.take_add]
  congr 1; omega
/-- What is put is taken. -/
theorem g_put {s : ByteArray} {p : Nat} {m : Int} {x : ByteArray} (rest : List UInt8) (hp : p ≤ s.size) (hm : m ≤ 9223372036854775807) (hx : tE x m = 0) (h : s.data.toList.drop p = tB x ++ rest) : gE s p m = 0 ∧ gS s p m = x ∧ gO s p m = p + (tB x).length := by
  obtain ⟨x1, x2⟩ := tE_zero.1 hx
  unfold tB at h
  rw [List.append_assoc] at h
  obtain ⟨k1, k2, k3⟩ := tk_put s p x.size _ hp (by omega) h
  have hl : (s.data.toList.drop p).length = s.size - p := by simp
  rw [h, List.length_append, List.length_append, size_list] at hl
  have hd : s.data.toList.drop (p + (putV x.size).length) = x.data.toList ++ rest := by rw [← List.drop_drop, h, List.drop_left]
  have hc : cutB s (tkE s p) (tkN s p) = x := by
    apply eq_of_list
    rw [cut_data, k2, k3, hd, ← size_list x, List.take_left]
  have hg : gE s p m = 0 := gE_zero.2 ⟨k1, by rw [k2]; exact x1, by rw [k2, k3]; omega, by rw [hc]; exact x2⟩
  refine ⟨hg, by unfold gS; rw [if_pos hg, hc], ?_⟩
  unfold gO; rw [if_pos hg, k2, k3, tB_len]; omega

theorem lB_cons (x : ByteArray) (l : List ByteArray) : lB (x :: l) = tB x ++ lB l := by simp [lB]
theorem lB_nil : lB [] = [] := rfl
theorem lB_app (k l : List ByteArray) : lB (k ++ l) = lB k ++ lB l := by simp [lB]
theorem paE_zero {m : Int} : ∀ {l : List ByteArray}, paE m l = 0 ↔ ∀ x ∈ l, tE x m = 0
  | [] => ⟨fun _ x h => (by cases h), fun _ => rfl⟩
  | x :: r => by
    rw [paE]
    by_cases h : tE x m = 0
    · rw [if_pos h, paE_zero (l := r)]
      constructor
      · intro q y hy
        rcases List.mem_cons.1 hy with rfl | hy
        · exact h
        · exact q y hy
      · exact fun q y hy => q y (List.mem_cons_of_mem _ hy)
    · rw [if_neg h]
      exact ⟨fun q => absurd q h, fun q => absurd (q x List.mem_cons_self) h⟩

/-- n texts that are taken stand there. -/
theorem taF_at (s : ByteArray) (m : Int) : ∀ (n p : Nat), p ≤ s.size → (taF s m n p).1 = 0 → (taF s m n p).2.1.length = n ∧ p + n ≤ (taF s m n p).2.2 ∧ (taF s m n p).2.2 ≤ s.size ∧ paE m (taF s m n p).2.1 = 0 ∧ lB (taF s m n p).2.1 = (s.data.toList.drop p).take ((taF s m n p).2.2 - p)
  | 0, p, hp, _ => by rw [taF_zero]; exact ⟨rfl, by simp, hp, rfl, by simp [lB]⟩
  | n + 1, p, hp, h => by
    by_cases h0 : gE s p m = 0
    · obtain ⟨g1, g2, g3, g4⟩ := g_at h0
      rw [taF_yes n h0] at h ⊢
      split at h
      · rename_i h1
        obtain ⟨i1, i2, i3, i4, i5⟩ := taF_at s m n (gO s p m) g3 h1
        rw [if_pos h1]
        refine ⟨by rw [List.length_cons, i1], by show _ ≤ (taF s m n (gO s p m)).2.2; omega, i3, ?_, ?_⟩
        · show paE m (_ :: _) = 0
          rw [paE, if_pos g1]; exact i4
        · show lB (_ :: _) = _
          rw [lB_cons, i5, g4]
          have : s.data.toList.drop (gO s p m) = (s.data.toList.drop p).drop (gO s p m - p) := by rw [List.drop_drop]; congr 1; omega
          rw [this, ← List.take_add]
          congr 1
          show gO s p m - p + ((taF s m n (gO s p m)).2.2 - gO s p m) = (taF s m n (gO s p m)).2.2 - p
          omega
      · rename_i h1; exact absurd h h1
    · rw [taF_no n h0] at h; exact absurd h h0
/-- Texts that are put are taken. -/
theorem taF_put (s : ByteArray) (m : Int) (hm : m ≤ 9223372036854775807) : ∀ (l : List ByteArray) (p : Nat) (rest : List UInt8), p ≤ s.size → paE m l = 0 → s.data.toList.drop p = lB l ++ rest → taF s m l.length p = (0, l, p + (lB l).length)
  | [], p, rest, _, _, _ => by rw [List.length_nil, taF_zero]; simp [lB]
  | x :: l, p, rest, hp, he, h => by
    have hx := paE_zero.1 he x List.mem_cons_self
    have hr : paE m l = 0 := paE_zero.2 fun y hy => paE_zero.1 he y (List.mem_cons_of_mem _ hy)
    rw [lB_cons, List.append_assoc] at h
    obtain ⟨g1, g2, g3⟩ := g_put (lB l ++ rest) hp hm hx h
    have hl : (s.data.toList.drop p).length = s.size - p := by simp
    rw [h, List.length_append] at hl
    have hd : s.data.toList.drop (p + (tB x).length) = lB l ++ rest := by rw [← List.drop_drop, h, List.drop_left]
    have hpos := tB_pos x
    have ih := taF_put s m hm l (p + (tB x).length) rest (by omega) hr hd
    rw [List.length_cons, taF_yes _ g1, g3, ih, if_pos rfl, g2, lB_cons, List.length_append]
    simp only [Prod.mk.injEq, true_and]
    omega

/-- What TakeAll takes stands there. -/
theorem ta_at {s : ByteArray} {p : Nat} {m : Int} (h : (taR s p m).1 = 0) : p < (taR s p m).2.2 ∧ (taR s p m).2.2 ≤ s.size ∧ (taR s p m).2.1.length ≤ s.size ∧ paE m (taR s p m).2.1 = 0 ∧ paB (taR s p m).2.1 = (s.data.toList.drop p).take ((taR s p m).2.2 - p) := by
  unfold taR at h ⊢
  split at h
  · rename_i h0
    rw [if_pos h0]
    obtain ⟨h1, h2, h3, h4⟩ := nm_at s p _ h0
    obtain ⟨k1, k2, k3⟩ := tk_at s p h1
    rw [h2, h3] at h ⊢
    obtain ⟨i1, i2, i3, i4, i5⟩ := taF_at s m (tkN s p) (tkE s p) k2 h
    refine ⟨by omega, i3, by rw [i1]; omega, i4, ?_⟩
    unfold paB
    rw [i1, i5, k3]
    have : s.data.toList.drop (tkE s p) = (s.data.toList.drop p).drop (tkE s p - p) := by rw [List.drop_drop]; congr 1; omega
    rw [this, ← List.take_add]
    congr 1; omega
  · rename_i h0; exact absurd h h0
/-- What PutAll put is taken. -/
theorem ta_put {s : ByteArray} {p : Nat} {m : Int} {l : List ByteArray} (rest : List UInt8) (hp : p ≤ s.size) (hm : m ≤ 9223372036854775807) (hl : l.length ≤ 4611686018427387904) (he : paE m l = 0) (h : s.data.toList.drop p = paB l ++ rest) : taR s p m = (0, l, p + (paB l).length) := by
  unfold paB at h
  rw [List.append_assoc] at h
  obtain ⟨k1, k2, k3⟩ := tk_put s p l.length _ hp (by omega) h
  obtain ⟨n1, n2, n3⟩ := nm_put s p 4611686018427387904 k1 (by rw [k2]; omega)
  have hz : (s.data.toList.drop p).length = s.size - p := by simp
  rw [h, List.length_append] at hz
  have hpos := putV_pos l.length
  have hd : s.data.toList.drop (p + (putV l.length).length) = lB l ++ rest := by rw [← List.drop_drop, h, List.drop_left]
  unfold taR
  rw [if_pos n1, n2, n3, k2, k3, taF_put s m hm l _ rest (by omega) he hd]
  unfold paB
  rw [List.length_append, Nat.add_assoc]
theorem ta_err {s : ByteArray} {a m : Int} (h : (taR s a m).1 ≠ 0) : (taR s a m).2.1 = [] ∧ (taR s a m).2.2 = 0 := by
  unfold taR at h ⊢
  split
  · rename_i h0
    rw [if_pos h0] at h
    rw [taF_err _ _ _ _ h]
    exact ⟨rfl, rfl⟩
  · exact ⟨rfl, rfl⟩
theorem lB_take_len (l : List ByteArray) (k : Nat) : (lB (l.take k)).length ≤ (lB l).length := by
  conv => rhs; rw [← List.take_append_drop k l]
  rw [lB_app, List.length_append]; omega
end Go.Proofs.YtpjopidmcahbdaaDoor.Txt
