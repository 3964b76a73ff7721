/- Plain facts: what is read as a value is JSON by the machine of the grammar, of as many levels; what is none is no JSON, but for numbers without room and names that stand twice. Conditions: as each theorem states. -/
import Derived.Test.YtbpofhlnnldceaaGreatDoorParG1
import Derived.Test.YtbpofhlnnldceaaGreatDoorGraG0
namespace Go.Proofs.YtbpofhlnnldceaaGreatDoor.Par
open Go.Lib Go.Proofs.YtbpofhlnnldceaaGreatDoor.Utf Go.Proofs.YtbpofhlnnldceaaGreatDoor.Quo Go.Proofs.YtbpofhlnnldceaaGreatDoor.Lx
open Go.Proofs.YtbpofhlnnldceaaGreatDoor.Tre (Vt V0 dep depL)
open Go.Proofs.YtbpofhlnnldceaaGreatDoor.Gr (St run vStep eStep cStep nStep orE qn jn wn sn kn opened run_skp run_at run_bad run_end)

/-- What stands at a place, behind blanks. -/
def xs (l : List UInt8) (p : Nat) : List UInt8 := (l.drop p).drop (skp (l.drop p))
theorem xs_bl (l : List UInt8) (p : Nat) : bl (hd (xs l p)) = false := skp_head _
theorem run_xs (s : St) (l : List UInt8) (p : Nat) : run s (l.drop p) = run s (xs l p) := (run_skp s _).symm
theorem nt_ok {l : List UInt8} {p q : Nat} {t : Tk} (h : nt l p = .ok t q) : (tok (xs l p)).1 = 0 ∧ t.k = (tok (xs l p)).2.k ∧ (xs l p).drop (tok (xs l p)).2.z = l.drop q := by
  unfold nt at h
  by_cases h0 : (nx (l.drop p)).1 = 0
  · rw [if_pos h0] at h
    injection h with h1 h2
    have hg := nx_good _ h0
    refine ⟨h0, by rw [← h1]; rfl, ?_⟩
    rw [← h2, hg.1]
    show List.drop _ (List.drop _ (List.drop _ _)) = _
    rw [List.drop_drop, List.drop_drop, Nat.add_assoc]
    rfl
  · rw [if_neg h0] at h; cases h
theorem nt_no {l : List UInt8} {p o e : Nat} (h : nt l p = .no o e) : (tok (xs l p)).1 = e ∧ e ≠ 0 := by
  unfold nt at h
  by_cases h0 : (nx (l.drop p)).1 = 0
  · rw [if_pos h0] at h; cases h
  · rw [if_neg h0] at h
    injection h with h1 h2
    exact ⟨h2, by rw [← h2]; exact h0⟩

/-! ### what stands at the head -/
theorem sg_hd {c k : Nat} (h : sg c = k) (hk : k ≠ 0) : (k = 1 ∧ c = 123) ∨ (k = 2 ∧ c = 125) ∨ (k = 3 ∧ c = 91) ∨ (k = 4 ∧ c = 93) ∨ (k = 5 ∧ c = 58) ∨ (k = 6 ∧ c = 44) := by
  unfold sg at h
  repeat' split at h
  all_goals omega
theorem qn_none' {x : List UInt8} (h : hd x ≠ 34) : qn x = 0 := if_neg fun q => h q.1
theorem sn_struct {x : List UInt8} (h : sg (hd x) ≠ 0) : sn x = 0 := by
  by_cases q : sn x = 0
  · exact q
  · have := Gr.sn_hd q
    have := sg_hd rfl h
    omega
/-- Of a token that was read. -/
theorem tk_kind {x : List UInt8} (h : (tok x).1 = 0) (hx : x ≠ []) :
    ((tok x).2.k = sg (hd x) ∧ sg (hd x) ≠ 0 ∧ (tok x).2.z = 1) ∨ ((tok x).2.k = 7 ∧ hd x = 34 ∧ qn x = (tok x).2.z ∧ sn x = (tok x).2.z ∧ (tok x).2.z ≠ 0) ∨
    (8 ≤ (tok x).2.k ∧ (tok x).2.k ≤ 11 ∧ sg (hd x) = 0 ∧ hd x ≠ 34 ∧ sn x = (tok x).2.z ∧ (tok x).2.z ≠ 0) := by
  unfold tok at h ⊢
  rw [if_neg hx] at h ⊢
  by_cases h1 : sg (hd x) ≠ 0
  · rw [if_pos h1]; exact .inl ⟨rfl, h1, rfl⟩
  · rw [if_neg h1] at h ⊢
    have hs0 : sg (hd x) = 0 := by omega
    by_cases h2 : hd x = 34
    · rw [if_pos h2] at h ⊢
      unfold txt at h ⊢
      by_cases h3 : (tkQ (x.drop 1)).1 = 0
      · rw [if_pos h3]
        have hq : qn x = (tkQ (x.drop 1)).2.1 + 1 := if_pos ⟨h2, h3⟩
        have hs : sn x = qn x := if_pos (by omega)
        exact .inr (.inl ⟨rfl, h2, hq, by rw [hs, hq], by simp⟩)
      · rw [if_neg h3] at h; exact absurd h h3
    · rw [if_neg h2] at h ⊢
      have hq := qn_none' h2
      by_cases h3 : hd x = 45 ∨ Lx.dg (hd x) = true
      · rw [if_pos h3] at h ⊢
        obtain ⟨e, h4, _⟩ := num_good x h
        rw [e]
        have hj : jn x = sgn x + dc x := if_neg (by omega)
        have hs : sn x = jn x := by unfold sn; rw [hq, if_neg (by simp), if_pos (by omega)]
        exact .inr (.inr ⟨by show 8 ≤ 8; omega, by show 8 ≤ 11; omega, hs0, h2, by rw [hs, hj], by show sgn x + dc x ≠ 0; omega⟩)
      · rw [if_neg h3] at h ⊢
        have hj : jn x = 0 := by
          by_cases q : jn x = 0
          · exact q
          · exact absurd (Gr.jn_hd q) h3
        have hs : sn x = wn x := by unfold sn; rw [hq, hj, if_neg (by simp), if_neg (by simp)]
        rcases wrd_cases x with ⟨e, _, h4⟩ | ⟨e, _, h4⟩ | ⟨e, _, h4⟩ | ⟨e, _⟩
        · rw [e]
          have h5 : wn x = 4 := by unfold wn; rw [h4]; rfl
          exact .inr (.inr ⟨by show 8 ≤ 9; omega, by show 9 ≤ 11; omega, hs0, h2, by rw [hs, h5], by show 4 ≠ 0; omega⟩)
        · rw [e]
          have n1 : x.take 4 ≠ [110, 117, 108, 108] := fun q => by have := Gr.hd_take q; have := Gr.hd_take h4; simp [hd] at *; omega
          have n2 : x.take 4 ≠ [116, 114, 117, 101] := fun q => by have := Gr.hd_take q; have := Gr.hd_take h4; simp [hd] at *; omega
          have h5 : wn x = 5 := by unfold wn; rw [if_neg n1, if_neg n2, if_pos h4]
          exact .inr (.inr ⟨by show 8 ≤ 10; omega, by show 10 ≤ 11; omega, hs0, h2, by rw [hs, h5], by show 5 ≠ 0; omega⟩)
        · rw [e]
          have h5 : wn x = 4 := by unfold wn; rw [if_pos h4]
          exact .inr (.inr ⟨by show 8 ≤ 11; omega, by show 11 ≤ 11; omega, hs0, h2, by rw [hs, h5], by show 4 ≠ 0; omega⟩)
        · rw [e] at h; cases h
/-- Of what is no token. -/
theorem tk_none {x : List UInt8} (h : (tok x).1 ≠ 0) : x ≠ [] ∧ sg (hd x) = 0 ∧ qn x = 0 ∧ (sn x = 0 ∨ (tok x).1 = 6 ∨ (x.drop (sn x) ≠ [] ∧ mk (hd (x.drop (sn x))) = true)) := by
  obtain ⟨_, hx⟩ := tok_bad x h
  refine ⟨hx, ?_⟩
  unfold tok at h ⊢
  rw [if_neg hx] at h ⊢
  by_cases h1 : sg (hd x) ≠ 0
  · rw [if_pos h1] at h; exact absurd rfl h
  · rw [if_neg h1] at h ⊢
    have hs0 : sg (hd x) = 0 := by omega
    refine ⟨hs0, ?_⟩
    by_cases h2 : hd x = 34
    · rw [if_pos h2] at h
      unfold txt at h
      by_cases h3 : (tkQ (x.drop 1)).1 = 0
      · rw [if_pos h3] at h; exact absurd rfl h
      · have hq : qn x = 0 := if_neg fun q => h3 q.2
        have hj : jn x = 0 := Gr.jn_none (by omega) (by rw [h2]; rfl)
        have hw : wn x = 0 := by
          by_cases q : wn x = 0
          · exact q
          · have := Gr.wn_hd q; omega
        exact ⟨hq, .inl (by unfold sn; rw [hq, hj, hw]; rfl)⟩
    · rw [if_neg h2] at h ⊢
      have hq := qn_none' h2
      refine ⟨hq, ?_⟩
      by_cases h3 : hd x = 45 ∨ Lx.dg (hd x) = true
      · rw [if_pos h3] at h ⊢
        unfold num at h ⊢
        by_cases h4 : dc x = 0
        · have hj : jn x = 0 := if_pos h4
          have hw : wn x = 0 := by
            by_cases q : wn x = 0
            · exact q
            · have := Gr.wn_hd q; rw [Gr.dg_iff] at h3; omega
          exact .inl (by unfold sn; rw [hq, hj, hw]; rfl)
        · rw [if_neg h4] at h ⊢
          have hj : jn x = sgn x + dc x := if_neg h4
          have hs : sn x = jn x := by unfold sn; rw [hq, if_neg (by simp), if_pos (by omega)]
          by_cases h5 : mk (x.getD (sgn x + dc x) 0).toNat = true
          · refine .inr (.inr ?_)
            rw [hs, hj]
            have e : hd (x.drop (sgn x + dc x)) = (x.getD (sgn x + dc x) 0).toNat := by
              unfold hd
              rw [List.getD_eq_getElem?_getD, List.getD_eq_getElem?_getD, List.getElem?_drop, Nat.add_zero]
            rw [e]
            exact ⟨fun q => by rw [q] at e; rw [← e] at h5; exact absurd h5 (by decide), h5⟩
          · rw [if_neg h5] at h ⊢
            by_cases h6 : vo x = true
            · rw [if_pos h6] at h; exact absurd rfl h
            · rw [if_neg h6]; exact .inr (.inl rfl)
      · rw [if_neg h3] at h
        have hj : jn x = 0 := by
          by_cases q : jn x = 0
          · exact q
          · exact absurd (Gr.jn_hd q) h3
        rcases wrd_cases x with ⟨e, _⟩ | ⟨e, _⟩ | ⟨e, _⟩ | ⟨_, h4, h5, h6⟩
        · rw [e] at h; exact absurd rfl h
        · rw [e] at h; exact absurd rfl h
        · rw [e] at h; exact absurd rfl h
        · have hw : wn x = 0 := by unfold wn; rw [if_neg h6, if_neg h4, if_neg h5]
          exact .inl (by unfold sn; rw [hq, hj, hw]; rfl)

/-! ### steps -/
/-- What closes is a closing bracket. -/
def Cl (E : List UInt8) : Prop := ∀ c ∈ E, c = 93 ∨ c = 125
theorem Cl.hd {E : List UInt8} (h : Cl E) (h0 : E ≠ []) : hd E = 93 ∨ hd E = 125 := by
  cases E with
  | nil => exact absurd rfl h0
  | cons c E => rcases h c List.mem_cons_self with rfl | rfl <;> simp [Lx.hd]
theorem bad_at {s : St} {x : List UInt8} (hb : bl (hd x) = false) (h : x ≠ []) (h2 : Gr.step s x = none) : run s x = -1 :=
  run_bad (by rw [skp_none hb]; exact h) (by rw [skp_none hb]; exact h2)
theorem end_at {s : St} (h : s.ex ≠ 4) : run s [] = -1 := by
  rw [run_end rfl]; exact if_neg fun q => h q.1
theorem four_bad {s : St} {x : List UInt8} (h4 : s.ex = 4) (hb : bl (hd x) = false) (hx : x ≠ []) (h : s.E = [] ∨ (hd x ≠ 44 ∧ hd x ≠ hd s.E)) : run s x = -1 := by
  refine bad_at hb hx ?_
  unfold Gr.step
  rw [if_neg (by omega), if_neg (by omega), if_neg (by omega), if_neg (by omega)]
  unfold cStep eStep
  rw [if_neg fun q => ?_, if_neg fun q => ?_]; rfl
  · rcases h with h | h
    · exact q.1 h
    · exact h.2 q.2
  · rcases h with h | h
    · exact q.1 h
    · exact h.1 q.2
/-- A state that expects a value (or, at a list's beginning, its end). -/
def Vs (s : St) (x : List UInt8) : Prop := s.ex = 0 ∨ (s.ex = 1 ∧ ∃ E', s.E = 93 :: E') ∧ hd x ≠ 93
theorem step_v {s : St} {x : List UInt8} (h : Vs s x) : Gr.step s x = vStep s x := by
  unfold Gr.step
  rcases h with h | ⟨⟨h, E', hE⟩, h2⟩
  · rw [if_pos h]
  · rw [if_neg (by omega), if_pos h]
    unfold eStep
    rw [if_neg fun q => h2 (by rw [q.2, hE]; rfl)]; rfl
theorem Vs.ne4 {s : St} {x : List UInt8} (h : Vs s x) : s.ex ≠ 4 := by
  rcases h with h | ⟨⟨h, _⟩, _⟩ <;> omega
/-- What begins no value. -/
theorem v_bad {s : St} {x : List UInt8} (hV : Vs s x) (hb : bl (hd x) = false) (h1 : hd x ≠ 91) (h2 : hd x ≠ 123) (h3 : sn x = 0) : run s x = -1 := by
  by_cases hx : x = []
  · rw [hx]; exact end_at hV.ne4
  · refine bad_at hb hx ?_
    rw [step_v hV]
    unfold vStep
    rw [if_neg h1, if_neg h2, if_neg (by omega)]
theorem v_good {s : St} {x : List UInt8} (hV : Vs s x) (hb : bl (hd x) = false) (h1 : hd x ≠ 91) (h2 : hd x ≠ 123) (h3 : sn x ≠ 0) : run s x = run ⟨4, s.E, s.lv⟩ (x.drop (sn x)) := by
  have hx : x ≠ [] := by rintro rfl; exact h3 rfl
  refine run_at hx hb (p := (⟨4, s.E, s.lv⟩, sn x)) ?_
  rw [step_v hV]
  unfold vStep
  rw [if_neg h1, if_neg h2, if_pos h3]
/-- A token that is none, where a value is expected. -/
theorem v_none {s : St} {x : List UInt8} (hV : Vs s x) (hE : Cl s.E) (hb : bl (hd x) = false) (h : (tok x).1 ≠ 0) : run s x = -1 ∨ (tok x).1 = 6 := by
  obtain ⟨hx, hs, hq, h3⟩ := tk_none h
  have h1 : hd x ≠ 91 := fun q => by rw [q] at hs; exact absurd hs (by decide)
  have h2 : hd x ≠ 123 := fun q => by rw [q] at hs; exact absurd hs (by decide)
  rcases h3 with h3 | h3 | ⟨h3, h4⟩
  · exact .inl (v_bad hV hb h1 h2 h3)
  · exact .inr h3
  · by_cases h0 : sn x = 0
    · exact .inl (v_bad hV hb h1 h2 h0)
    · left
      rw [v_good hV hb h1 h2 h0]
      have h5 : hd (x.drop (sn x)) = 46 ∨ hd (x.drop (sn x)) = 101 ∨ hd (x.drop (sn x)) = 69 := by unfold mk at h4; simpa using h4
      refine four_bad rfl ?_ h3 ?_
      · rcases h5 with h5 | h5 | h5 <;> rw [h5] <;> rfl
      · by_cases h6 : s.E = []
        · exact .inl h6
        · have := hE.hd h6
          right
          show _ ∧ _ ≠ hd s.E
          omega
/-- Where a name is expected. -/
theorem n_bad {s : St} {x : List UInt8} (hV : s.ex = 3 ∨ (s.ex = 2 ∧ (∃ E', s.E = 125 :: E') ∧ hd x ≠ 125)) (hb : bl (hd x) = false) (h : qn x = 0 ∨ hd (x.drop (kn x)) ≠ 58) : run s x = -1 := by
  have hn : nStep s x = none := if_neg fun q => by rcases h with h | h; exact q.1 h; exact h q.2
  by_cases hx : x = []
  · rw [hx]; exact end_at (by rcases hV with h | h <;> omega)
  · refine bad_at hb hx ?_
    unfold Gr.step
    rcases hV with h | ⟨h, ⟨E', hE⟩, h2⟩
    · rw [if_neg (by omega), if_neg (by omega), if_neg (by omega), if_pos h, hn]
    · rw [if_neg (by omega), if_neg (by omega), if_pos h, hn]
      unfold eStep
      rw [if_neg fun q => h2 (by rw [q.2, hE]; rfl)]; rfl
theorem n_good {s : St} {x : List UInt8} (hV : s.ex = 3 ∨ (s.ex = 2 ∧ (∃ E', s.E = 125 :: E') ∧ hd x ≠ 125)) (hb : bl (hd x) = false) (h : qn x ≠ 0) (h5 : hd (x.drop (kn x)) = 58) : run s x = run ⟨0, s.E, s.lv⟩ (x.drop (kn x + 1)) := by
  have hx : x ≠ [] := by rintro rfl; exact h rfl
  have hn : nStep s x = some (⟨0, s.E, s.lv⟩, kn x + 1) := if_pos ⟨h, h5⟩
  refine run_at hx hb (p := (⟨0, s.E, s.lv⟩, kn x + 1)) ?_
  unfold Gr.step
  rcases hV with h | ⟨h, ⟨E', hE⟩, h2⟩
  · rw [if_neg (by omega), if_neg (by omega), if_neg (by omega), if_pos h, hn]
  · rw [if_neg (by omega), if_neg (by omega), if_pos h, hn]
    unfold eStep
    rw [if_neg fun q => h2 (by rw [q.2, hE]; rfl)]; rfl
/-- The bracket that closes, at a list's or an object's beginning or behind a value. -/
theorem e_good {s : St} {x : List UInt8} {c : UInt8} {E' : List UInt8} (hx : s.ex = 1 ∨ s.ex = 2 ∨ s.ex = 4) (hE : s.E = c :: E') (hc : c = 93 ∨ c = 125) (hb : bl (hd x) = false) (h : hd x = c.toNat) : run s x = run ⟨4, E', s.lv⟩ (x.drop 1) := by
  have h0 : x ≠ [] := by rintro rfl; rcases hc with rfl | rfl <;> exact absurd h (by decide)
  have he : eStep s x = some (⟨4, E', s.lv⟩, 1) := by
    unfold eStep
    rw [hE, if_pos ⟨by simp, h⟩]; rfl
  refine run_at h0 hb (p := (⟨4, E', s.lv⟩, 1)) ?_
  unfold Gr.step
  rcases hx with h1 | h1 | h1
  · rw [if_neg (by omega), if_pos h1, he]; rfl
  · rw [if_neg (by omega), if_neg (by omega), if_pos h1, he]; rfl
  · rw [if_neg (by omega), if_neg (by omega), if_neg (by omega), if_neg (by omega), he]
    unfold cStep
    rw [if_neg fun q => ?_]; rfl
    rcases hc with rfl | rfl
    · rw [q.2] at h; exact absurd h (by decide)
    · rw [q.2] at h; exact absurd h (by decide)
theorem c_good {s : St} {x : List UInt8} (hx : s.ex = 4) (hE : s.E ≠ []) (h : hd x = 44) : run s x = run ⟨if hd s.E = 125 then 3 else 0, s.E, s.lv⟩ (x.drop 1) := by
  have h0 : x ≠ [] := by rintro rfl; exact absurd h (by decide)
  refine run_at h0 (by rw [h]; rfl) (p := (⟨if hd s.E = 125 then 3 else 0, s.E, s.lv⟩, 1)) ?_
  unfold Gr.step
  rw [if_neg (by omega), if_neg (by omega), if_neg (by omega), if_neg (by omega)]
  unfold cStep
  rw [if_pos ⟨hE, h⟩]; rfl

/-! ### what is read, and the machine -/
/-- A fault that the machine sees too, but for two kinds. -/
def Flt (l : List UInt8) (z : Int) (e : Nat) : Prop := z = -1 ∨ e = 6 ∨ e = 11 ∨ 64 ≤ l.length
/-- What follows a value, within a bracket. -/
theorem tail_at {l : List UInt8} {p : Nat} {s : St} {c : UInt8} {E' : List UInt8} (h4 : s.ex = 4) (hE : s.E = c :: E') (hC : Cl s.E) :
    (∀ o e, nt l p = .no o e → run s (l.drop p) = -1) ∧ (∀ t q, nt l p = .ok t q → t.k ≠ sg c.toNat → t.k ≠ 6 → run s (l.drop p) = -1) ∧
    (∀ t q, nt l p = .ok t q → t.k = sg c.toNat → run s (l.drop p) = run ⟨4, E', s.lv⟩ (l.drop q)) ∧ (∀ t q, nt l p = .ok t q → t.k = 6 → run s (l.drop p) = run ⟨if c = 125 then 3 else 0, s.E, s.lv⟩ (l.drop q)) := by
  have hc : c = 93 ∨ c = 125 := hC c (by rw [hE]; exact List.mem_cons_self)
  have hhd : hd s.E = c.toNat := by rw [hE]; rfl
  have hcs : sg c.toNat = 4 ∧ c.toNat = 93 ∨ sg c.toNat = 2 ∧ c.toNat = 125 := by rcases hc with rfl | rfl <;> decide
  have hb := xs_bl l p
  refine ⟨fun o e h => ?_, fun t q h n1 n2 => ?_, fun t q h k1 => ?_, fun t q h k6 => ?_⟩
  all_goals rw [run_xs]
  · obtain ⟨h1, h2⟩ := nt_no h
    obtain ⟨hx, hs, _⟩ := tk_none (x := xs l p) (by omega)
    refine four_bad h4 hb hx (.inr ?_)
    rw [hhd]
    refine ⟨fun q => by rw [q] at hs; exact absurd hs (by decide), fun q => ?_⟩
    rw [q] at hs
    omega
  · obtain ⟨h1, h2, h3⟩ := nt_ok h
    by_cases hx : xs l p = []
    · rw [hx, run_end rfl]; exact if_neg fun q => by rw [hE] at q; cases q.2
    · refine four_bad h4 hb hx (.inr ?_)
      rw [hhd]
      rcases tk_kind h1 hx with ⟨k1, k2, _⟩ | ⟨_, k2, _⟩ | ⟨_, _, k2, _⟩
      · rw [← h2] at k1
        refine ⟨fun q => n2 (by rw [k1, q]; rfl), fun q => n1 (by rw [k1, q])⟩
      · omega
      · refine ⟨fun q => by rw [q] at k2; exact absurd k2 (by decide), fun q => ?_⟩
        rw [q] at k2
        omega
  · obtain ⟨h1, h2, h3⟩ := nt_ok h
    have hx : xs l p ≠ [] := fun q => by
      have := (tok_good _ h1).2.1.2 q
      omega
    rcases tk_kind h1 hx with ⟨k2, k3, k4⟩ | ⟨k2, _⟩ | ⟨k2, _⟩
    · rw [← h3, k4]
      refine e_good (.inr (.inr h4)) hE hc hb ?_
      have := sg_hd (c := hd (xs l p)) rfl k3
      omega
    · omega
    · omega
  · obtain ⟨h1, h2, h3⟩ := nt_ok h
    have hx : xs l p ≠ [] := fun q => by
      have := (tok_good _ h1).2.1.2 q
      omega
    rcases tk_kind h1 hx with ⟨k2, k3, k4⟩ | ⟨k2, _⟩ | ⟨k2, _⟩
    · have h44 : hd (xs l p) = 44 := by
        have := sg_hd (c := hd (xs l p)) rfl k3
        omega
      rw [← h3, k4, c_good h4 (by rw [hE]; simp) h44, hhd]
      rcases hc with rfl | rfl <;> rfl
    · omega
    · omega
theorem depL_snoc (l : List Vt) (v : Vt) : depL (l ++ [v]) = max (depL l) (dep v) := by
  induction l with
  | nil => simp [depL]
  | cons x l ih => rw [List.cons_append, depL, ih, depL, Nat.max_assoc]
/-- The value of a token: as the machine says. -/
def Vm (l : List UInt8) (s : St) (z : Int) : Rs Vt → Prop
  | .ok v q => z = run ⟨4, s.E, max s.lv (s.E.length + dep v)⟩ (l.drop q)
  | .no _ e => Flt l z e
def Hv (l : List UInt8) (vf : Tk → Nat → Rs Vt) (lv p : Nat) : Prop :=
  ∀ (t : Tk) (q p0 : Nat) (s : St), nt l p0 = .ok t q → p ≤ p0 → p0 ≤ l.length → s.E.length = lv → lv ≤ p0 → lv ≤ s.lv → Cl s.E → Vs s (xs l p0) → Vm l s (run s (l.drop p0)) (vf t q)
/-- What is read of a list's items, or of an object's members, from a state on: as the machine says. -/
def Lm (l : List UInt8) (z : Int) (E' : List UInt8) (lv sl : Nat) (acc : List Vt) : Rs (List Vt) → Prop
  | .ok l' q' => z = run ⟨4, E', max sl (lv + depL l')⟩ (l.drop q') ∧ depL acc ≤ depL l'
  | .no _ e => Flt l z e
def Om (l : List UInt8) (z : Int) (E' : List UInt8) (lv sl : Nat) (acc : List Vt) : Rs (List ByteArray × List Vt) → Prop
  | .ok x q' => z = run ⟨4, E', max sl (lv + depL x.2)⟩ (l.drop q') ∧ depL acc ≤ depL x.2
  | .no _ e => Flt l z e
def Pm (l : List UInt8) (z : Int) : Rs Vt → Prop
  | .ok v _ => z = (dep v : Int)
  | .no _ e => Flt l z e
theorem Flt.low {l : List UInt8} {z : Int} {e : Nat} (h : z = -1) : Flt l z e := .inl h
section
variable {l : List UInt8}
theorem lst_run {vf : Tk → Nat → Rs Vt} {lv p1 : Nat} (hv : Hv l vf lv p1) (hg1 : ∀ t p, p1 ≤ t.o → At l t p → Gd l.length (fun _ _ => True) p (vf t p)) {E' : List UInt8} (hE' : Cl E') (hlv : E'.length + 1 = lv) :
    ∀ (g : Nat) (acc : List Vt) (t : Tk) (q p0 : Nat) (s : St), nt l p0 = .ok t q → p1 ≤ p0 → p0 ≤ l.length → lv ≤ p0 → s.E = 93 :: E' → Vs s (xs l p0) → lv + depL acc ≤ s.lv → l.length + 1 ≤ g + q →
      Lm l (run s (l.drop p0)) E' lv s.lv acc (lst (nt l) vf g acc t q)
  | 0, _, t, q, p0, _, hn, _, h0, _, _, _, _, hg => by
    have := (nt_good l p0 h0)
    rw [hn] at this
    have := this.2.1
    omega
  | g + 1, acc, t, q, p0, s, hn, hp1, h0, hlp, hE, hV, hac, hg => by
    have hC : Cl s.E := by rw [hE]; intro c hc; rcases List.mem_cons.1 hc with rfl | hc; exact .inl rfl; exact hE' c hc
    have hSL : s.E.length = lv := by rw [hE]; simpa using hlv
    have h1 := hv t q p0 s hn hp1 h0 hSL hlp (by omega) hC hV
    have hgd := nt_good l p0 h0
    rw [hn] at hgd
    have h2 := hg1 t q (by have := hgd.2.2.2; omega) hgd.2.2.1
    rw [lst]
    cases hvf : vf t q with
    | no o e => rw [hvf] at h1; exact h1
    | ok v q1 =>
      rw [hvf] at h1 h2
      have h1' : run s (l.drop p0) = run ⟨4, s.E, max s.lv (lv + dep v)⟩ (l.drop q1) := by rw [← hSL]; exact h1
      rw [h1']
      obtain ⟨a1, a2, a3, a4⟩ := tail_at (l := l) (p := q1) (s := ⟨4, s.E, max s.lv (lv + dep v)⟩) rfl hE hC
      have hgd1 := nt_good l q1 h2.2.1
      show Lm _ _ _ _ _ _ (bnd (nt l q1) _)
      cases hn1 : nt l q1 with
      | no o e => exact .inl (a1 o e hn1)
      | ok t2 p2 =>
        rw [hn1] at hgd1
        show Lm _ _ _ _ _ _ (if t2.k = 4 then _ else _)
        by_cases h4 : t2.k = 4
        · rw [if_pos h4]
          show run _ _ = run _ _ ∧ _
          rw [a3 t2 p2 hn1 h4, depL_snoc, show max s.lv (lv + max (depL acc) (dep v)) = max s.lv (lv + dep v) by omega]
          exact ⟨rfl, by omega⟩
        · rw [if_neg h4]
          by_cases h6 : t2.k = 6
          · rw [if_pos h6]
            have hpos := hgd1.2.2.1.pos (by omega)
            have hpo2 := hgd1.2.2.2
            have hst := a4 t2 p2 hn1 h6
            rw [hst]
            have hgd2 := nt_good l p2 hgd1.2.1
            show Lm _ _ _ _ _ _ (bnd (nt l p2) _)
            cases hn2 : nt l p2 with
            | no o e =>
              show Flt l _ e
              obtain ⟨b1, b2⟩ := nt_no hn2
              rw [run_xs]
              rcases v_none (s := ⟨if (93 : UInt8) = 125 then 3 else 0, s.E, max s.lv (lv + dep v)⟩) (x := xs l p2) (.inl rfl) hC (xs_bl l p2) (by omega) with h | h
              · exact .inl h
              · exact .inr (.inl (by omega))
            | ok t3 p3 =>
              rw [hn2] at hgd2
              have hq1 := hgd2.1
              have ho := hgd2.2.2.2
              have h01 := hgd1.1
              have h00 := h2.1
              have hgq := hgd.1
              have ih := lst_run hv hg1 hE' hlv g (acc ++ [v]) t3 p3 p2 ⟨if (93 : UInt8) = 125 then 3 else 0, s.E, max s.lv (lv + dep v)⟩ hn2 (by omega) hgd1.2.1 (by omega) hE (.inl rfl) (by rw [depL_snoc]; simp only; omega) (by omega)
              show Lm _ _ _ _ _ _ (lst (nt l) vf g (acc ++ [v]) t3 p3)
              cases hl : lst (nt l) vf g (acc ++ [v]) t3 p3 with
              | no o e => rw [hl] at ih; exact ih
              | ok l' q' =>
                rw [hl] at ih
                obtain ⟨ih1, ih2⟩ := ih
                rw [depL_snoc] at ih2
                show run _ _ = run _ _ ∧ _
                rw [ih1, show max s.lv (lv + depL l') = max (max s.lv (lv + dep v)) (lv + depL l') by omega]
                exact ⟨rfl, by omega⟩
          · rw [if_neg h6]
            exact .inl (a2 t2 p2 hn1 h4 h6)
theorem kn_at {p q : Nat} {t : Tk} (h : nt l p = .ok t q) (h7 : t.k = 7) : qn (xs l p) ≠ 0 ∧ (xs l p).drop (kn (xs l p)) = xs l q := by
  obtain ⟨h1, h2, h3⟩ := nt_ok h
  have hx : xs l p ≠ [] := fun q => by
    have := (tok_good _ h1).2.1.2 q
    omega
  rcases tk_kind h1 hx with ⟨k2, k3, _⟩ | ⟨_, _, k2, _, k4⟩ | ⟨k2, _⟩
  · have := sg_le (hd (xs l p)); omega
  · refine ⟨by omega, ?_⟩
    unfold kn
    rw [← List.drop_drop, k2, h3]
    rfl
  · omega
theorem qn_at {p q : Nat} {t : Tk} (h : nt l p = .ok t q) (h7 : t.k ≠ 7) : qn (xs l p) = 0 := by
  obtain ⟨h1, h2, h3⟩ := nt_ok h
  by_cases hx : xs l p = []
  · rw [hx]; rfl
  rcases tk_kind h1 hx with ⟨k2, k3, _⟩ | ⟨k2, _⟩ | ⟨_, _, _, k2, _⟩
  · exact qn_none' fun q => by rw [q] at k3; exact absurd k3 (by decide)
  · omega
  · exact qn_none' k2
theorem colon_at {p q : Nat} {t : Tk} (h : nt l p = .ok t q) : (t.k = 5 → hd (xs l p) = 58 ∧ (xs l p).drop 1 = l.drop q) ∧ (t.k ≠ 5 → hd (xs l p) ≠ 58) := by
  obtain ⟨h1, h2, h3⟩ := nt_ok h
  by_cases hx : xs l p = []
  · have := (tok_good _ h1).2.1.2 hx
    exact ⟨fun q => by omega, fun _ => by rw [hx]; decide⟩
  rcases tk_kind h1 hx with ⟨k2, k3, k4⟩ | ⟨k2, k3, _⟩ | ⟨k2, _, k3, _⟩
  · refine ⟨fun q => ⟨?_, by rw [← h3, k4]⟩, fun q r => q ?_⟩
    · have := sg_hd (c := hd (xs l p)) rfl k3; omega
    · rw [h2, k2, r]; rfl
  · exact ⟨fun q => by omega, fun _ => by omega⟩
  · exact ⟨fun q => by omega, fun _ q => by rw [q] at k3; exact absurd k3 (by decide)⟩
/-- A state that expects a name. -/
def Ns (s : St) (x : List UInt8) : Prop := s.ex = 3 ∨ (s.ex = 2 ∧ (∃ E', s.E = 125 :: E') ∧ hd x ≠ 125)
theorem obj_run {vf : Tk → Nat → Rs Vt} {lv p1 : Nat} (hv : Hv l vf lv p1) (hg1 : ∀ t p, p1 ≤ t.o → At l t p → Gd l.length (fun _ _ => True) p (vf t p)) {E' : List UInt8} (hE' : Cl E') (hlv : E'.length + 1 = lv) :
    ∀ (g : Nat) (ns : List ByteArray) (acc : List Vt) (t : Tk) (q p0 : Nat) (s : St), nt l p0 = .ok t q → p1 ≤ p0 → p0 ≤ l.length → lv ≤ p0 → s.E = 125 :: E' → Ns s (xs l p0) → lv + depL acc ≤ s.lv → l.length + 1 ≤ g + q →
      Om l (run s (l.drop p0)) E' lv s.lv acc (obj (nt l) vf g ns acc t q)
  | 0, _, _, t, q, p0, _, hn, _, h0, _, _, _, _, hg => by
    have := (nt_good l p0 h0)
    rw [hn] at this
    have := this.2.1
    omega
  | g + 1, ns, acc, t, q, p0, s, hn, hp1, h0, hlp, hE, hV, hac, hg => by
    have hC : Cl s.E := by rw [hE]; intro c hc; rcases List.mem_cons.1 hc with rfl | hc; exact .inr rfl; exact hE' c hc
    have hSL : s.E.length = lv := by rw [hE]; simpa using hlv
    have hgd := nt_good l p0 h0
    rw [hn] at hgd
    have hb := xs_bl l p0
    rw [obj]
    by_cases h7 : t.k = 7
    · obtain ⟨kq, kd⟩ := kn_at hn h7
      rw [if_pos h7]
      by_cases hi : isin ns (tx t) = true
      · rw [if_pos hi]; exact .inr (.inr (.inl rfl))
      rw [if_neg hi]
      have hgd1 := nt_good l q hgd.2.1
      show Om _ _ _ _ _ _ (bnd (nt l q) _)
      cases hn1 : nt l q with
      | no o e =>
        obtain ⟨b1, b2⟩ := nt_no hn1
        obtain ⟨_, b3, _⟩ := tk_none (x := xs l q) (by omega)
        refine .inl ?_
        rw [run_xs]
        exact n_bad hV hb (.inr (by rw [kd]; intro q; rw [q] at b3; exact absurd b3 (by decide)))
      | ok t2 p2 =>
        rw [hn1] at hgd1
        obtain ⟨c1, c2⟩ := colon_at hn1
        show Om _ _ _ _ _ _ (if t2.k = 5 then _ else _)
        by_cases h5 : t2.k = 5
        · rw [if_pos h5]
          obtain ⟨c3, c4⟩ := c1 h5
          have hst : run s (l.drop p0) = run ⟨0, s.E, s.lv⟩ (l.drop p2) := by
            rw [run_xs, n_good hV hb kq (by rw [kd]; exact c3), ← List.drop_drop, kd, c4]
          rw [hst]
          have hgd2 := nt_good l p2 hgd1.2.1
          have hq2 := hgd1.1
          have hq3 := hgd.1
          show Om _ _ _ _ _ _ (bnd (nt l p2) _)
          cases hn2 : nt l p2 with
          | no o e =>
            show Flt l _ e
            obtain ⟨b1, b2⟩ := nt_no hn2
            rw [run_xs]
            rcases v_none (s := ⟨0, s.E, s.lv⟩) (x := xs l p2) (.inl rfl) hC (xs_bl l p2) (by omega) with h | h
            · exact .inl h
            · exact .inr (.inl (by omega))
          | ok t3 p3 =>
            rw [hn2] at hgd2
            have h1 := hv t3 p3 p2 ⟨0, s.E, s.lv⟩ hn2 (by omega) hgd1.2.1 hSL (by omega) (by simp only; omega) hC (.inl rfl)
            have h2 := hg1 t3 p3 (by have := hgd2.2.2.2; omega) hgd2.2.2.1
            show Om _ _ _ _ _ _ (bnd (vf t3 p3) _)
            cases hvf : vf t3 p3 with
            | no o e => rw [hvf] at h1; exact h1
            | ok v q1 =>
              rw [hvf] at h1 h2
              have h1' : run ⟨0, s.E, s.lv⟩ (l.drop p2) = run ⟨4, s.E, max s.lv (lv + dep v)⟩ (l.drop q1) := by rw [← hSL]; exact h1
              rw [h1']
              obtain ⟨a1, a2, a3, a4⟩ := tail_at (l := l) (p := q1) (s := ⟨4, s.E, max s.lv (lv + dep v)⟩) rfl hE hC
              have hgd3 := nt_good l q1 h2.2.1
              have h01 := h2.1
              have h02 := hgd2.1
              show Om _ _ _ _ _ _ (bnd (nt l q1) _)
              cases hn3 : nt l q1 with
              | no o e => exact .inl (a1 o e hn3)
              | ok t5 p5 =>
                rw [hn3] at hgd3
                have h03 := hgd3.1
                show Om _ _ _ _ _ _ (if t5.k = 2 then _ else _)
                by_cases h4 : t5.k = 2
                · rw [if_pos h4]
                  show run _ _ = run _ _ ∧ _
                  rw [a3 t5 p5 hn3 h4]
                  show run _ _ = run ⟨4, E', max s.lv (lv + depL (acc ++ [v]))⟩ _ ∧ _ ≤ depL (acc ++ [v])
                  rw [depL_snoc, show max s.lv (lv + max (depL acc) (dep v)) = max s.lv (lv + dep v) by omega]
                  exact ⟨rfl, by omega⟩
                · rw [if_neg h4]
                  by_cases h6 : t5.k = 6
                  · rw [if_pos h6]
                    have hpos := hgd3.2.2.1.pos (by omega)
                    have hpo2 := hgd3.2.2.2
                    have hst := a4 t5 p5 hn3 h6
                    rw [hst]
                    have hgd4 := nt_good l p5 hgd3.2.1
                    show Om _ _ _ _ _ _ (bnd (nt l p5) _)
                    cases hn4 : nt l p5 with
                    | no o e =>
                      show Flt l _ e
                      obtain ⟨b1, b2⟩ := nt_no hn4
                      obtain ⟨_, _, b3, _⟩ := tk_none (x := xs l p5) (by omega)
                      refine .inl ?_
                      rw [run_xs]
                      exact n_bad (s := ⟨if (125 : UInt8) = 125 then 3 else 0, s.E, max s.lv (lv + dep v)⟩) (.inl rfl) (xs_bl l p5) (.inl b3)
                    | ok t6 p6 =>
                      rw [hn4] at hgd4
                      have ho := hgd4.1
                      have ih := obj_run hv hg1 hE' hlv g (ns ++ [tx t]) (acc ++ [v]) t6 p6 p5 ⟨if (125 : UInt8) = 125 then 3 else 0, s.E, max s.lv (lv + dep v)⟩ hn4 (by omega) hgd3.2.1 (by omega) hE (.inl rfl) (by rw [depL_snoc]; simp only; omega) (by omega)
                      show Om _ _ _ _ _ _ (obj (nt l) vf g (ns ++ [tx t]) (acc ++ [v]) t6 p6)
                      cases hl : obj (nt l) vf g (ns ++ [tx t]) (acc ++ [v]) t6 p6 with
                      | no o e => rw [hl] at ih; exact ih
                      | ok x q' =>
                        rw [hl] at ih
                        obtain ⟨ih1, ih2⟩ := ih
                        rw [depL_snoc] at ih2
                        show run _ _ = run _ _ ∧ _
                        rw [ih1, show max s.lv (lv + depL x.2) = max (max s.lv (lv + dep v)) (lv + depL x.2) by omega]
                        exact ⟨rfl, by omega⟩
                  · rw [if_neg h6]
                    exact .inl (a2 t5 p5 hn3 h4 h6)
        · rw [if_neg h5]
          refine .inl ?_
          rw [run_xs]
          exact n_bad hV hb (.inr (by rw [kd]; exact c2 h5))
    · rw [if_neg h7]
      refine .inl ?_
      rw [run_xs]
      exact n_bad hV hb (.inl (qn_at hn h7))
theorem Gd.any {α : Type} {L p : Nat} {P : α → Nat → Prop} {r : Rs α} (h : Gd L P p r) : Gd L (fun _ _ => True) p r := by
  cases r with
  | ok x q => exact ⟨h.1, h.2.1, trivial⟩
  | no o e => exact h
/-- A bracket that opens. -/
theorem open_run {s : St} {p q : Nat} {t : Tk} (hV : Vs s (xs l p)) (hn : nt l p = .ok t q) (h : t.k = 3 ∨ t.k = 1) : run s (l.drop p) = run (if t.k = 3 then opened s 1 93 else opened s 2 125) (l.drop q) := by
  obtain ⟨h1, h2, h3⟩ := nt_ok hn
  have hx : xs l p ≠ [] := fun q => by
    have := (tok_good _ h1).2.1.2 q
    omega
  rw [run_xs]
  rcases tk_kind h1 hx with ⟨k2, k3, k4⟩ | ⟨k2, _⟩ | ⟨k2, _⟩
  · rw [← h3, k4]
    have := sg_hd (c := hd (xs l p)) rfl k3
    rcases h with h | h
    · rw [if_pos h]
      refine run_at hx (xs_bl l p) (p := (opened s 1 93, 1)) ?_
      rw [step_v hV]
      unfold vStep
      rw [if_pos (by omega)]
    · rw [if_neg (by omega)]
      refine run_at hx (xs_bl l p) (p := (opened s 2 125, 1)) ?_
      rw [step_v hV]
      unfold vStep
      rw [if_neg (by omega), if_pos (by omega)]
  · omega
  · omega
theorem val_run (hL : l.length ≤ 8000000) : ∀ (f lv p1 : Nat), l.length + 1 ≤ f + p1 → lv ≤ 64 → Hv l (fun t p => val (nt l) f t lv p) lv p1
  | 0, lv, p1, hf, hlv => fun t q p0 s hn hp1 h0 hSL hlp hsl hC hV => by omega
  | f + 1, lv, p1, hf, hlv => fun t q p0 s hn hp1 h0 hSL hlp hsl hC hV => by
    have hgd := nt_good l p0 h0
    rw [hn] at hgd
    obtain ⟨hpq, hq, hat, ho⟩ := hgd
    have hb := xs_bl l p0
    obtain ⟨h1, h2, h3⟩ := nt_ok hn
    have sc : t.k ≥ 7 → ∀ (k n : Int) (x : ByteArray), dep (.mk k n x [] []) = 0 → Vm l s (run s (l.drop p0)) (.ok (.mk k n x [] []) q) := by
      intro hk k n x hd0
      show run s _ = run ⟨4, s.E, max s.lv (s.E.length + dep _)⟩ _
      rw [hd0, show max s.lv (s.E.length + 0) = s.lv by omega, run_xs]
      have hx : xs l p0 ≠ [] := fun q => by
        have := (tok_good _ h1).2.1.2 q
        omega
      rcases tk_kind h1 hx with ⟨k2, k3, k4⟩ | ⟨k2, k3, _, k4, k5⟩ | ⟨k2, _, k3, _, k4, k5⟩
      · have := sg_le (hd (xs l p0)); omega
      · rw [v_good hV hb (by omega) (by omega) (by omega), k4, h3]
      · rw [v_good hV hb (fun q => by rw [q] at k3; exact absurd k3 (by decide)) (fun q => by rw [q] at k3; exact absurd k3 (by decide)) (by omega), k4, h3]
    show Vm l s _ (val (nt l) (f + 1) t lv q)
    rw [val]
    by_cases h11 : t.k = 11
    · rw [if_pos h11]; exact sc (by omega) _ _ _ (by simp [dep])
    rw [if_neg h11]
    by_cases h10 : t.k = 10
    · rw [if_pos h10]; exact sc (by omega) _ _ _ (by simp [dep])
    rw [if_neg h10]
    by_cases h9 : t.k = 9
    · rw [if_pos h9]; exact sc (by omega) _ _ _ (by simp [dep])
    rw [if_neg h9]
    by_cases h8 : t.k = 8
    · rw [if_pos h8]; exact sc (by omega) _ _ _ (by simp [dep])
    rw [if_neg h8]
    by_cases h7 : t.k = 7
    · rw [if_pos h7]; exact sc (by omega) _ _ _ (by simp [dep])
    rw [if_neg h7]
    by_cases hk3 : t.k = 3
    · rw [if_pos hk3]
      by_cases h64 : lv = 64
      · rw [if_pos h64]; exact .inr (.inr (.inr (by omega)))
      rw [if_neg h64, open_run hV hn (.inl hk3), if_pos hk3, lst0]
      have hpos := hat.pos (by omega)
      have hC2 : Cl (opened s 1 93).E := by intro c hc; rcases List.mem_cons.1 hc with rfl | hc; exact .inl rfl; exact hC c hc
      have hgd1 := nt_good l q hq
      cases hn1 : nt l q with
      | no o e =>
        show Flt l _ e
        obtain ⟨b1, b2⟩ := nt_no hn1
        obtain ⟨_, b3, _⟩ := tk_none (x := xs l q) (by omega)
        rw [run_xs]
        rcases v_none (s := opened s 1 93) (x := xs l q) (.inr ⟨⟨rfl, _, rfl⟩, fun q => by rw [q] at b3; exact absurd b3 (by decide)⟩) hC2 (xs_bl l q) (by omega) with h | h
        · exact .inl h
        · exact .inr (.inl (by omega))
      | ok t1 q1 =>
        rw [hn1] at hgd1
        obtain ⟨g1, g2, g3⟩ := nt_ok hn1
        show Vm l s _ (if t1.k = 4 then _ else _)
        by_cases h4 : t1.k = 4
        · rw [if_pos h4]
          have hx : xs l q ≠ [] := fun q => by
            have := (tok_good _ g1).2.1.2 q
            omega
          rcases tk_kind g1 hx with ⟨k2, k3, k4⟩ | ⟨k2, _⟩ | ⟨k2, _⟩
          · have := sg_hd (c := hd (xs l q)) rfl k3
            show run _ _ = run ⟨4, s.E, max s.lv (s.E.length + dep _)⟩ _
            rw [run_xs, e_good (s := opened s 1 93) (c := 93) (E' := s.E) (.inl rfl) rfl (.inl rfl) (xs_bl l q) (by show _ = 93; omega), ← g3, k4]
            congr 2
          · omega
          · omega
        · rw [if_neg h4]
          have h93 : hd (xs l q) ≠ 93 := fun r => by
            by_cases hx : xs l q = []
            · rw [hx] at r; exact absurd r (by decide)
            rcases tk_kind g1 hx with ⟨k2, k3, k4⟩ | ⟨k2, k3, _⟩ | ⟨k2, _, k3, _⟩
            · rw [← g2, r] at k2; exact h4 k2
            · omega
            · rw [r] at k3; exact absurd k3 (by decide)
          have h00 := hgd1.1
          have hr := lst_run (lv := lv + 1) (p1 := q) (val_run hL f (lv + 1) q (by omega) (by omega)) (fun t p h0 h1 => (val_good hL f t (lv + 1) p h1 (Fu_next (p := q) (by omega) h1 h0) (by omega)).any) hC (by omega) f [] t1 q1 q (opened s 1 93) hn1 (Nat.le_refl _) hq (by omega) rfl
            (.inr ⟨⟨rfl, _, rfl⟩, h93⟩) (by show lv + 1 + 0 ≤ max s.lv (s.E.length + 1); omega) (by omega)
          show Vm l s _ (bnd (lst (nt l) (fun t p => val (nt l) f t (lv + 1) p) f [] t1 q1) _)
          cases hl : lst (nt l) (fun t p => val (nt l) f t (lv + 1) p) f [] t1 q1 with
          | no o e => rw [hl] at hr; exact hr
          | ok l' q' =>
            rw [hl] at hr
            show run _ _ = run ⟨4, s.E, max s.lv (s.E.length + dep _)⟩ _
            rw [hr.1]
            congr 2
            show max (max s.lv (s.E.length + 1)) (lv + 1 + depL l') = max s.lv (s.E.length + (1 + depL l'))
            omega
    rw [if_neg hk3]
    by_cases hk1 : t.k = 1
    · rw [if_pos hk1]
      by_cases h64 : lv = 64
      · rw [if_pos h64]; exact .inr (.inr (.inr (by omega)))
      rw [if_neg h64, open_run hV hn (.inr hk1), if_neg hk3, obj0]
      have hpos := hat.pos (by omega)
      have hC2 : Cl (opened s 2 125).E := by intro c hc; rcases List.mem_cons.1 hc with rfl | hc; exact .inr rfl; exact hC c hc
      have hgd1 := nt_good l q hq
      cases hn1 : nt l q with
      | no o e =>
        show Flt l _ e
        obtain ⟨b1, b2⟩ := nt_no hn1
        obtain ⟨_, b3, b4, _⟩ := tk_none (x := xs l q) (by omega)
        refine .inl ?_
        rw [run_xs]
        exact n_bad (s := opened s 2 125) (.inr ⟨rfl, ⟨_, rfl⟩, fun q => by rw [q] at b3; exact absurd b3 (by decide)⟩) (xs_bl l q) (.inl b4)
      | ok t1 q1 =>
        rw [hn1] at hgd1
        obtain ⟨g1, g2, g3⟩ := nt_ok hn1
        show Vm l s _ (if t1.k = 2 then _ else _)
        by_cases h4 : t1.k = 2
        · rw [if_pos h4]
          have hx : xs l q ≠ [] := fun q => by
            have := (tok_good _ g1).2.1.2 q
            omega
          rcases tk_kind g1 hx with ⟨k2, k3, k4⟩ | ⟨k2, _⟩ | ⟨k2, _⟩
          · have := sg_hd (c := hd (xs l q)) rfl k3
            show run _ _ = run ⟨4, s.E, max s.lv (s.E.length + dep _)⟩ _
            rw [run_xs, e_good (s := opened s 2 125) (c := 125) (E' := s.E) (.inr (.inl rfl)) rfl (.inr rfl) (xs_bl l q) (by show _ = 125; omega), ← g3, k4]
            congr 2
          · omega
          · omega
        · rw [if_neg h4]
          have h93 : hd (xs l q) ≠ 125 := fun r => by
            by_cases hx : xs l q = []
            · rw [hx] at r; exact absurd r (by decide)
            rcases tk_kind g1 hx with ⟨k2, k3, k4⟩ | ⟨k2, k3, _⟩ | ⟨k2, _, k3, _⟩
            · rw [← g2, r] at k2; exact h4 k2
            · omega
            · rw [r] at k3; exact absurd k3 (by decide)
          have h00 := hgd1.1
          have hr := obj_run (lv := lv + 1) (p1 := q) (val_run hL f (lv + 1) q (by omega) (by omega)) (fun t p h0 h1 => (val_good hL f t (lv + 1) p h1 (Fu_next (p := q) (by omega) h1 h0) (by omega)).any) hC (by omega) f [] [] t1 q1 q (opened s 2 125) hn1 (Nat.le_refl _) hq (by omega) rfl
            (.inr ⟨rfl, ⟨_, rfl⟩, h93⟩) (by show lv + 1 + 0 ≤ max s.lv (s.E.length + 1); omega) (by omega)
          show Vm l s _ (bnd (obj (nt l) (fun t p => val (nt l) f t (lv + 1) p) f [] [] t1 q1) _)
          cases hl : obj (nt l) (fun t p => val (nt l) f t (lv + 1) p) f [] [] t1 q1 with
          | no o e => rw [hl] at hr; exact hr
          | ok x q' =>
            rw [hl] at hr
            show run _ _ = run ⟨4, s.E, max s.lv (s.E.length + dep _)⟩ _
            rw [hr.1]
            congr 2
            show max (max s.lv (s.E.length + 1)) (lv + 1 + depL x.2) = max s.lv (s.E.length + (1 + depL x.2))
            omega
    rw [if_neg hk1]
    refine .inl ?_
    rw [run_xs]
    by_cases hx : xs l p0 = []
    · rw [hx]; exact end_at hV.ne4
    · have := hat.k
      rcases tk_kind h1 hx with ⟨k2, k3, k4⟩ | ⟨k2, _⟩ | ⟨k2, k3, _⟩
      · have h9 := sg_hd (c := hd (xs l p0)) rfl k3
        exact v_bad hV hb (by omega) (by omega) (sn_struct k3)
      · omega
      · omega
/-- WHAT IS READ IS JSON, of as many levels; what is none is no JSON, but for two faults. -/
theorem prs_run (F : Nat) (hL : l.length ≤ 8000000) (hF : l.length + 2 ≤ F) : Pm l (Gr.lvl l) (prs F l) := by
  have e0 : Gr.lvl l = run ⟨0, [], 0⟩ (l.drop 0) := rfl
  have hgd := nt_good l 0 (Nat.zero_le _)
  have hCn : Cl [] := fun c hc => by cases hc
  unfold prs
  rw [e0]
  cases hn : nt l 0 with
  | no o e =>
    show Flt l _ e
    obtain ⟨b1, b2⟩ := nt_no hn
    rw [run_xs]
    rcases v_none (s := ⟨0, [], 0⟩) (x := xs l 0) (.inl rfl) hCn (xs_bl l 0) (by omega) with h | h
    · exact .inl h
    · exact .inr (.inl (by omega))
  | ok t p =>
    rw [hn] at hgd
    have h1 := val_run hL F 0 0 (by omega) (by omega) t p 0 ⟨0, [], 0⟩ hn (Nat.le_refl _) (Nat.zero_le _) rfl (Nat.le_refl _) (Nat.le_refl _) hCn (.inl rfl)
    have h2 := val_good hL F t 0 p hgd.2.2.1 (.inl (by omega)) (by omega)
    show Pm _ _ (bnd (val (nt l) F t 0 p) _)
    cases hv : val (nt l) F t 0 p with
    | no o e => simp only [hv] at h1; exact h1
    | ok v q =>
      simp only [hv] at h1
      rw [hv] at h2
      have h1' : run ⟨0, [], 0⟩ (l.drop 0) = run ⟨4, [], dep v⟩ (l.drop q) := by
        have : run ⟨0, [], 0⟩ (l.drop 0) = run ⟨4, [], max 0 (0 + dep v)⟩ (l.drop q) := h1
        rwa [show max 0 (0 + dep v) = dep v by omega] at this
      rw [h1']
      have hgd1 := nt_good l q h2.2.1
      show Pm _ _ (bnd (nt l q) _)
      cases hn1 : nt l q with
      | no o e =>
        obtain ⟨b1, b2⟩ := nt_no hn1
        obtain ⟨hx, _⟩ := tk_none (x := xs l q) (by omega)
        refine .inl ?_
        rw [run_xs]
        exact four_bad (s := ⟨4, [], dep v⟩) rfl (xs_bl l q) hx (.inl rfl)
      | ok t2 q2 =>
        rw [hn1] at hgd1
        obtain ⟨g1, g2, g3⟩ := nt_ok hn1
        show Pm _ _ (if t2.k = 0 then _ else _)
        by_cases h0 : t2.k = 0
        · rw [if_pos h0]
          have hx : xs l q = [] := (tok_good _ g1).2.1.1 (by omega)
          show run _ _ = _
          rw [run_xs, hx, run_end rfl]
          exact if_pos ⟨rfl, rfl⟩
        · rw [if_neg h0]
          have hx : xs l q ≠ [] := fun q => h0 (by have := (tok_good _ g1).2.1.2 q; omega)
          refine .inl ?_
          rw [run_xs]
          exact four_bad (s := ⟨4, [], dep v⟩) rfl (xs_bl l q) hx (.inl rfl)
end
end Go.Proofs.YtbpofhlnnldceaaGreatDoor.Par
