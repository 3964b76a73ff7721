/- rule's laws: RuleCanon. Conditions: the tables read as the program lays them. -/
import Derived.Test.YtaiafhepeleefaaDoorRulH
namespace Go.Proofs.YtaiafhepeleefaaDoor.Rul
open Go.RowKit Go.Lib

theorem can_form {r : Ru} (h : Rt r) : ∃ ra pe co fa wa pb, can r = ⟨r.id, r.no, r.ro, r.pr, r.ki, ra, pe, r.bu, co, r.mx, fa, wa, pb⟩ ∧ ra * r.pe = r.ra * pe ∧ (r.ki = 1 → 1 ≤ co) ∧ (r.ki = 3 → 1 ≤ pb) ∧ 0 ≤ ra * r.pe ∧ ra * r.pe ≤ 86400000000000 := by
  obtain ⟨k1, k2, k3, k4, k5, k6, k7, k8, k9, k10⟩ := can_keeps h
  have hr := can_right h
  have hb : 0 ≤ (can r).ra ∧ (can r).ra ≤ 1000000 := by rcases hr.ki with q | q | q <;> omega
  have hp : 0 ≤ r.pe ∧ r.pe ≤ 86400000 := by rcases h.ki with q | q | q <;> omega
  generalize can r = c at *
  obtain ⟨id, no, ro, pr, ki, ra, pe, bu, co, mx, fa, wa, pb⟩ := c
  dsimp only at *
  subst k1; subst k2; subst k3; subst k4; subst k5; subst k6; subst k7
  refine ⟨ra, pe, co, fa, wa, pb, rfl, k8, k9, k10, Int.mul_nonneg hb.1 hp.1, ?_⟩
  have := Int.mul_le_mul hb.2 hp.2 hp.1 (by decide)
  omega

set_option maxHeartbeats 8000000 in
set_option maxRecDepth 100000 in
theorem canon_law_no (r : Ru) (w : World) (hT : Tab w) (hU : Utf.Tabs w) (hl : lgt r = true) (he : (chk r).2 ≠ 0) :
    Calls Tryd.prog 4 #[.agg (ruC r)] w fun e w' => e = .returned (.bool true) ∧ Below w.heap.size w w' := by
  obtain ⟨l1, l2, l3⟩ := lgt_yes hl
  have HL := Lib.hid fun W => light_any r W (by omega) (by omega) (by omega)
  rw [hl] at HL
  have HAW := Lib.hid awake_any
  have hA : ∀ o, Below w.heap.size w (w.alloc o) := fun o => (Below.refl _ _).alloc (Nat.le_refl _) o
  have hA := Lib.hid hA
  have HT := Lib.hid hT; have HU := Lib.hid hU
  have HC1 := Lib.hid fun W hT hU => chk_any r W hT hU (by omega) (by omega) (by omega)
  have HN1 := Lib.hid fun W hT hU => canon_any r W hT hU (by omega) (by omega) (by omega)
  rw [cn_no he] at HN1
  have hn := chk_name he
  clear hl l1 l2 l3 hT hU
  generalize chk r = x at *
  obtain ⟨p, E⟩ := x
  dsimp only at he hn
  have q1 : (p.toList == p.toList) = true := beq_self_eq_true _
  have q2 : p.toList.isEmpty = false := by
    cases hp : p.toList with
    | nil =>
      rw [Byt.toList_data] at hp
      exact absurd (ByteArray.ext (Array.toList_inj.1 hp)) hn
    | cons _ _ => rfl
  have q3 : (E != 0) = true := by simpa using he
  clear he hn
  obtain ⟨id, no, ro, pr, ki, ra, pe, bu, co, mx, fa, wa, pb⟩ := r
  dsimp only [ruC, zero] at HL HC1 HN1 ⊢
  go_enter Tryd.func4, Tryd.ntmps4
  go_wp2_with (first
    | (refine wpList_fetch _ rfl _ rfl _ _ rfl Z3.out rfl ?_)
    | (refine wpList_fetch _ rfl _ rfl _ _ rfl (X2.out _) rfl ?_)
    | (refine wpList_fetch _ rfl _ rfl _ _ rfl X1.out rfl ?_)
    | (go_at_call 6; (with_reducible refine (HL.out _).mono ?_); rintro e w1 ⟨rfl, hb1⟩; have B1 := Lib.hid ((hA.out _).trans (hb1.mono (by simp))); have X1 := Lib.hid (box_stay hb1); clear hb1)
    | (go_at_call 10; (with_reducible refine (HN1.out _ (HT.out.next B1.out) (Utf.Tabs.next HU.out B1.out)).mono ?_); rintro e w2 ⟨rfl, hb2⟩; have B2 := Lib.hid (B1.out.trans (hb2.mono B1.out.size)); have X2 := Lib.hid (bx_old (X1.out.next hb2 X1.out.lt)); clear hb2)
    | (go_at_call 8; (with_reducible refine (HC1.out _ (HT.out.next (B2.out.alloc B2.out.size _)) (Utf.Tabs.next HU.out (B2.out.alloc B2.out.size _))).mono ?_); rintro e w3 ⟨rfl, hb3⟩; have B3 := Lib.hid ((B2.out.alloc B2.out.size _).trans (hb3.mono (by have := B2.out.size; simp; omega))); have Z3 := Lib.hid (box_stay hb3); clear hb3)
    | (go_at_call 7; (with_reducible refine (HAW.out _ (HT.out.next B3.out) (Utf.Tabs.next HU.out B3.out)).mono ?_); rintro e w4 ⟨rfl, hb4⟩))
  go_ret
  exact ⟨rfl, B3.out.trans (hb4.mono B3.out.size)⟩

set_option maxHeartbeats 8000000 in
set_option maxRecDepth 100000 in
theorem canon_law_ok (r : Ru) (w : World) (hT : Tab w) (hU : Utf.Tabs w) (hl : lgt r = true) (he : Rt r) :
    Calls Tryd.prog 4 #[.agg (ruC r)] w fun e w' => e = .returned (.bool true) ∧ Below w.heap.size w w' := by
  obtain ⟨l1, l2, l3⟩ := lgt_yes hl
  have HL := Lib.hid fun W => light_any r W (by omega) (by omega) (by omega)
  rw [hl] at HL
  have HAW := Lib.hid awake_any
  have hA : ∀ o, Below w.heap.size w (w.alloc o) := fun o => (Below.refl _ _).alloc (Nat.le_refl _) o
  have hA := Lib.hid hA
  have HT := Lib.hid hT; have HU := Lib.hid hU
  have hc := chk_ok he
  have HC1 := Lib.hid fun W hT hU => chk_any r W hT hU (by omega) (by omega) (by omega)
  have HN1 := Lib.hid fun W hT hU => canon_any r W hT hU (by omega) (by omega) (by omega)
  obtain ⟨k1, k2, k3, -⟩ := can_keeps he
  have HN2 := Lib.hid fun W hT hU => canon_any (can r) W hT hU (by rw [k1]; omega) (by rw [k2]; omega) (by rw [k3]; omega)
  rw [cn_ok (by rw [hc])] at HN1
  rw [hc] at HC1 HN1
  rw [cn_ok (by rw [chk_ok (can_right he)]), can_can he, chk_ok (can_right he)] at HN2
  have hkk : r.ki = 1 ∨ r.ki = 2 ∨ r.ki = 3 := by rcases he.ki with q | q | q <;> omega
  obtain ⟨ra', pe', co', fa', wa', pb', hcan, m1, m2, m3, m4, m5⟩ := can_form he
  rw [hcan] at HN1 HN2
  clear hl l1 l2 l3 hT hU hc hcan k1 k2 k3 he
  obtain ⟨id, no, ro, pr, ki, ra, pe, bu, co, mx, fa, wa, pb⟩ := r
  dsimp only at hkk m1 m2 m3 m4 m5
  dsimp only [ruC] at HL HC1 HN1 HN2 ⊢
  have q1 : (id.toList == id.toList) = true := beq_self_eq_true _
  have q2 : (no.toList == no.toList) = true := beq_self_eq_true _
  have q3 : (ro.toList == ro.toList) = true := beq_self_eq_true _
  have m6 : 0 ≤ ra * pe' ∧ ra * pe' ≤ 86400000000000 := by rw [← m1]; exact ⟨m4, m5⟩
  obtain ⟨m6, m7⟩ := m6
  have m8 : (ra' * pe == ra * pe') = true := by rw [m1]; exact beq_self_eq_true _
  clear m1
  generalize hX : ra' * pe = X at *
  generalize hY : ra * pe' = Y at *
  have HX := Lib.hid hX; have HY := Lib.hid hY
  rcases hkk with rfl | rfl | rfl
  all_goals
    try replace m2 := m2 rfl
    try replace m3 := m3 rfl
    go_enter Tryd.func4, Tryd.ntmps4
    go_wp2_with (first
      | (refine wpList_fetch _ rfl _ rfl _ _ rfl Z3.out rfl ?_)
      | (refine wpList_fetch _ rfl _ rfl _ _ rfl (X2.out _) rfl ?_)
      | (refine wpList_fetch _ rfl _ rfl _ _ rfl X1.out rfl ?_)
      | (go_at_call 6; (with_reducible refine (HL.out _).mono ?_); rintro e w1 ⟨rfl, hb1⟩; have B1 := Lib.hid ((hA.out _).trans (hb1.mono (by simp))); have X1 := Lib.hid (box_stay hb1); clear hb1)
      | (go_at_call 10; first
        | ((with_reducible refine (HN1.out _ (HT.out.next B1.out) (Utf.Tabs.next HU.out B1.out)).mono ?_); rintro e w2 ⟨rfl, hb2⟩; have B2 := Lib.hid (B1.out.trans (hb2.mono B1.out.size)); have X2 := Lib.hid (bx_old (X1.out.next hb2 X1.out.lt)); clear hb2)
        | ((with_reducible refine (HN2.out _ (HT.out.next B3.out) (Utf.Tabs.next HU.out B3.out)).mono ?_); rintro e w4 ⟨rfl, hb4⟩; have B4 := Lib.hid (B3.out.trans (hb4.mono B3.out.size)); have a0 : ∀ o, (w4.alloc o).cell? ⟨w2.heap.size, 0, none⟩ = some (.string id) := fun o => (bx_old (Z3.out.next hb4 Z3.out.lt) o).cell 0; have a1 : ∀ o, (w4.alloc o).cell? ⟨w2.heap.size, 1, none⟩ = some (.string no) := fun o => (bx_old (Z3.out.next hb4 Z3.out.lt) o).cell 1; have a2 : ∀ o, (w4.alloc o).cell? ⟨w2.heap.size, 2, none⟩ = some (.string ro) := fun o => (bx_old (Z3.out.next hb4 Z3.out.lt) o).cell 2; have a3 : ∀ o, (w4.alloc o).cell? ⟨w2.heap.size, 3, none⟩ = some (.int .i64 pr) := fun o => (bx_old (Z3.out.next hb4 Z3.out.lt) o).cell 3; have a4 : ∀ o, (w4.alloc o).cell? ⟨w2.heap.size, 4, none⟩ = some (.int .i64 _) := fun o => (bx_old (Z3.out.next hb4 Z3.out.lt) o).cell 4; have a5 : ∀ o, (w4.alloc o).cell? ⟨w2.heap.size, 5, none⟩ = some (.int .i64 ra') := fun o => (bx_old (Z3.out.next hb4 Z3.out.lt) o).cell 5; have a6 : ∀ o, (w4.alloc o).cell? ⟨w2.heap.size, 6, none⟩ = some (.int .i64 pe') := fun o => (bx_old (Z3.out.next hb4 Z3.out.lt) o).cell 6; have a7 : ∀ o, (w4.alloc o).cell? ⟨w2.heap.size, 7, none⟩ = some (.int .i64 bu) := fun o => (bx_old (Z3.out.next hb4 Z3.out.lt) o).cell 7; have a8 : ∀ o, (w4.alloc o).cell? ⟨w2.heap.size, 8, none⟩ = some (.int .i64 co') := fun o => (bx_old (Z3.out.next hb4 Z3.out.lt) o).cell 8; have a9 : ∀ o, (w4.alloc o).cell? ⟨w2.heap.size, 9, none⟩ = some (.int .i64 mx) := fun o => (bx_old (Z3.out.next hb4 Z3.out.lt) o).cell 9; have a10 : ∀ o, (w4.alloc o).cell? ⟨w2.heap.size, 10, none⟩ = some (.int .i64 fa') := fun o => (bx_old (Z3.out.next hb4 Z3.out.lt) o).cell 10; have a11 : ∀ o, (w4.alloc o).cell? ⟨w2.heap.size, 11, none⟩ = some (.int .i64 wa') := fun o => (bx_old (Z3.out.next hb4 Z3.out.lt) o).cell 11; have a12 : ∀ o, (w4.alloc o).cell? ⟨w2.heap.size, 12, none⟩ = some (.int .i64 pb') := fun o => (bx_old (Z3.out.next hb4 Z3.out.lt) o).cell 12; have r0 : ∀ o, (w4.alloc o).cell? ⟨w.heap.size, 0, none⟩ = some (.string id) := fun o => (bx_old (X3.out.next hb4 X3.out.lt) o).cell 0; have r1 : ∀ o, (w4.alloc o).cell? ⟨w.heap.size, 1, none⟩ = some (.string no) := fun o => (bx_old (X3.out.next hb4 X3.out.lt) o).cell 1; have r2 : ∀ o, (w4.alloc o).cell? ⟨w.heap.size, 2, none⟩ = some (.string ro) := fun o => (bx_old (X3.out.next hb4 X3.out.lt) o).cell 2; have r3 : ∀ o, (w4.alloc o).cell? ⟨w.heap.size, 3, none⟩ = some (.int .i64 pr) := fun o => (bx_old (X3.out.next hb4 X3.out.lt) o).cell 3; have r4 : ∀ o, (w4.alloc o).cell? ⟨w.heap.size, 4, none⟩ = some (.int .i64 _) := fun o => (bx_old (X3.out.next hb4 X3.out.lt) o).cell 4; have r5 : ∀ o, (w4.alloc o).cell? ⟨w.heap.size, 5, none⟩ = some (.int .i64 ra) := fun o => (bx_old (X3.out.next hb4 X3.out.lt) o).cell 5; have r6 : ∀ o, (w4.alloc o).cell? ⟨w.heap.size, 6, none⟩ = some (.int .i64 pe) := fun o => (bx_old (X3.out.next hb4 X3.out.lt) o).cell 6; have r7 : ∀ o, (w4.alloc o).cell? ⟨w.heap.size, 7, none⟩ = some (.int .i64 bu) := fun o => (bx_old (X3.out.next hb4 X3.out.lt) o).cell 7; have r9 : ∀ o, (w4.alloc o).cell? ⟨w.heap.size, 9, none⟩ = some (.int .i64 mx) := fun o => (bx_old (X3.out.next hb4 X3.out.lt) o).cell 9; clear hb4))
      | (go_at_call 8; (with_reducible refine (HC1.out _ (HT.out.next (B2.out.alloc B2.out.size _)) (Utf.Tabs.next HU.out (B2.out.alloc B2.out.size _))).mono ?_); rintro e w3 ⟨rfl, hb3⟩; have B3 := Lib.hid ((B2.out.alloc B2.out.size _).trans (hb3.mono (by have := B2.out.size; simp; omega))); have Z3 := Lib.hid (box_stay hb3); have X3 := Lib.hid ((X2.out _).next hb3 (X2.out _).lt); clear hb3)
      | (go_at_call 7; (with_reducible refine (HAW.out _ (HT.out.next (B4.out.alloc B4.out.size _)) (Utf.Tabs.next HU.out (B4.out.alloc B4.out.size _))).mono ?_); rintro e w5 ⟨rfl, hb5⟩))
    go_ret
    exact ⟨rfl, (B4.out.alloc B4.out.size _).trans (hb5.mono (by have := B4.out.size; simp; omega))⟩

set_option maxRecDepth 100000 in
theorem canon_law_any (r : Ru) (w : World) (hT : Tab w) (hU : Utf.Tabs w) (s1 : r.id.size ≤ 9223372036854775807) (s2 : r.no.size ≤ 9223372036854775807) (s3 : r.ro.size ≤ 9223372036854775807) :
    Calls Tryd.prog 4 #[.agg (ruC r)] w fun e w' => e = .returned (.bool true) ∧ Below w.heap.size w w' := by
  cases hl : lgt r with
  | true =>
    by_cases he : (chk r).2 = 0
    · exact canon_law_ok r w hT hU hl ((chk_zero r).1 he)
    · exact canon_law_no r w hT hU hl he
  | false =>
    have HL := Lib.hid fun W => light_any r W s1 s2 s3
    have HAW := Lib.hid awake_any
    have hA : ∀ o, Below w.heap.size w (w.alloc o) := fun o => (Below.refl _ _).alloc (Nat.le_refl _) o
    have hA := Lib.hid hA
    have HT := Lib.hid hT; have HU := Lib.hid hU
    clear hT hU
    rw [hl] at HL
    clear hl
    obtain ⟨id, no, ro, pr, ki, ra, pe, bu, co, mx, fa, wa, pb⟩ := r
    dsimp only [ruC] at HL ⊢
    go_enter Tryd.func4, Tryd.ntmps4
    go_wp2_with (first
      | (go_at_call 6; (with_reducible refine (HL.out _).mono ?_); rintro e w1 ⟨rfl, hb1⟩; have B1 := Lib.hid ((hA.out _).trans (hb1.mono (by simp))))
      | (go_at_call 7; (with_reducible refine (HAW.out _ (HT.out.next B1.out) (Utf.Tabs.next HU.out B1.out)).mono ?_); rintro e w2 ⟨rfl, hb2⟩))
    go_ret
    exact ⟨rfl, B1.out.trans (hb2.mono B1.out.size)⟩
end Go.Proofs.YtaiafhepeleefaaDoor.Rul
