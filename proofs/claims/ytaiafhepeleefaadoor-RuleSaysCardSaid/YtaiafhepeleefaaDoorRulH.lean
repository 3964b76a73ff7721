/- rule's laws: light, awake. Conditions: the tables read as the program lays them. -/
import Derived.Test.YtaiafhepeleefaaDoorRulF
namespace Go.Proofs.YtaiafhepeleefaaDoor.Rul
open Go.RowKit Go.Lib

def lgt (r : Ru) : Bool := decide (r.id.size ≤ 400) && decide (r.no.size ≤ 400) && decide (r.ro.size ≤ 400)
theorem lgt_yes {r : Ru} (h : lgt r = true) : r.id.size ≤ 400 ∧ r.no.size ≤ 400 ∧ r.ro.size ≤ 400 := by
  unfold lgt at h
  rw [Bool.and_eq_true, Bool.and_eq_true, decide_eq_true_eq, decide_eq_true_eq, decide_eq_true_eq] at h
  exact ⟨h.1.1, h.1.2, h.2⟩
set_option maxRecDepth 100000 in
theorem light_any (r : Ru) (w : World) (s1 : r.id.size ≤ 9223372036854775807) (s2 : r.no.size ≤ 9223372036854775807) (s3 : r.ro.size ≤ 9223372036854775807) :
    Calls Tryd.prog 6 #[.agg (ruC r)] w fun e w' => e = .returned (.bool (lgt r)) ∧ Below w.heap.size w w' := by
  unfold lgt
  obtain ⟨id, no, ro, pr, ki, ra, pe, bu, co, mx, fa, wa, pb⟩ := r
  dsimp only [ruC] at *
  by_cases g1 : id.size ≤ 400
  all_goals by_cases g2 : no.size ≤ 400
  all_goals by_cases g3 : ro.size ≤ 400
  all_goals
    go_enter Tryd.func6, Tryd.ntmps6
    go_wp2
    go_ret
    refine ⟨?_, (Below.refl _ _).alloc (Nat.le_refl _) _⟩
    simp [g1, g2, g3] <;> omega

/-! ### awake -/
def A1 : Ru := ⟨⟨#[97]⟩, ⟨#[]⟩, ⟨#[47]⟩, 0, 1, 10, 1000, 5, 0, 0, 0, 0, 0⟩
def A2 : Ru := ⟨⟨#[97]⟩, ⟨#[]⟩, ⟨#[47]⟩, 0, 2, 0, 0, 1, 0, 1, 0, 0, 0⟩
theorem a1_chk : chk A1 = (⟨#[]⟩, 0) := by decide +kernel
theorem a1_can : cn A1 = ⟨⟨#[97]⟩, ⟨#[]⟩, ⟨#[47]⟩, 0, 1, 1, 100, 5, 1, 0, 0, 0, 0⟩ := by
  rw [cn_ok (by rw [a1_chk]), can_one rfl]
  show Ru.mk ⟨#[97]⟩ ⟨#[]⟩ ⟨#[47]⟩ 0 1 (10 / Sat.gd 10 1000) (1000 / Sat.gd 10 1000) 5 (max 0 1) 0 0 0 0 = _
  rw [show Sat.gd 10 1000 = 10 by decide +kernel]
  rfl
theorem a2_chk : chk A2 = (f3, 17) := by decide +kernel
theorem canon_at (r : Ru) (c : Ru) (p : ByteArray) (e : Int) (hc : cn r = c) (hp : chk r = (p, e)) (h1 : r.id.size ≤ 140737488355328) (h2 : r.no.size ≤ 140737488355328) (h3 : r.ro.size ≤ 140737488355328) (w : World) (hT : Tab w) (hU : Utf.Tabs w) :
    Calls Tryd.prog 10 #[.agg (ruC r)] w fun x w' => x = .returned (.tuple #[.agg (ruC c), .string p, .int .i64 e]) ∧ Below w.heap.size w w' := by
  have := canon_any r w hT hU h1 h2 h3
  rw [hc, hp] at this
  exact this
theorem chk_at (r : Ru) (p : ByteArray) (e : Int) (hp : chk r = (p, e)) (h1 : r.id.size ≤ 140737488355328) (h2 : r.no.size ≤ 140737488355328) (h3 : r.ro.size ≤ 140737488355328) (w : World) (hT : Tab w) (hU : Utf.Tabs w) :
    Calls Tryd.prog 8 #[.agg (ruC r)] w fun x w' => x = .returned (.tuple #[.string p, .int .i64 e]) ∧ Below w.heap.size w w' := by
  have := chk_any r w hT hU h1 h2 h3
  rw [hp] at this
  exact this
theorem kind_at (k : Int) (s : ByteArray) (hs : kB k = s) (w : World) (hT : Tab w) : Calls Tryd.prog 12 #[.int .i64 k] w fun e w' => e = .returned (.string s) ∧ w = w' := by
  subst hs; exact kind_any k w hT
theorem kindof_at (s : ByteArray) (k : Int) (hk : kO s = k) (w : World) (hT : Tab w) : Calls Tryd.prog 14 #[.string s] w fun e w' => e = .returned (.int .i64 k) ∧ w = w' := by
  subst hk; exact kindof_any s w hT

set_option maxHeartbeats 4000000 in
set_option maxRecDepth 100000 in
theorem awake_any (w : World) (hT : Tab w) (hU : Utf.Tabs w) : Calls Tryd.prog 7 #[] w fun e w' => e = .returned (.bool true) ∧ Below w.heap.size w w' := by
  have HC := Lib.hid (canon_at A1 _ _ _ a1_can a1_chk (by decide) (by decide) (by decide))
  have HK := Lib.hid (chk_at A2 _ _ a2_chk (by decide) (by decide) (by decide))
  have K1 := Lib.hid (kind_at 2 ⟨#[99, 97, 112]⟩ rfl)
  have K2 := Lib.hid (kindof_at ⟨#[98, 114, 101, 97, 107, 101, 114]⟩ 3 (by decide))
  have q1 : (([99, 97, 112] : List UInt8) == [99, 97, 112]) = true := rfl
  have q2 : (([47, 98, 117, 114, 115, 116] : List UInt8) == [47, 98, 117, 114, 115, 116]) = true := rfl
  dsimp only [ruC, A1, A2, f3] at HC HK
  have hA : ∀ o, Below w.heap.size w (w.alloc o) := fun o => (Below.refl _ _).alloc (Nat.le_refl _) o
  have hA := Lib.hid hA
  have HT := Lib.hid hT; have HU := Lib.hid hU
  clear hT hU
  go_enter Tryd.func7, Tryd.ntmps7
  go_wp2_with (first
    | (go_at_call 10; (with_reducible refine (HC.out _ (HT.out.next (hA.out _)) (Utf.Tabs.next HU.out (hA.out _))).mono ?_); rintro e w1 ⟨rfl, hb1⟩; have B1 := Lib.hid ((hA.out _).trans (hb1.mono (by simp))))
    | (go_at_call 8; (with_reducible refine (HK.out _ (HT.out.next (B1.out.alloc B1.out.size _)) (Utf.Tabs.next HU.out (B1.out.alloc B1.out.size _))).mono ?_); rintro e w2 ⟨rfl, hb2⟩; have k5 : w2.cell? ⟨w1.heap.size, 5, none⟩ = some (.int .i64 1) := (box_stay hb2).cell 5; have k6 : w2.cell? ⟨w1.heap.size, 6, none⟩ = some (.int .i64 100) := (box_stay hb2).cell 6; have k8 : w2.cell? ⟨w1.heap.size, 8, none⟩ = some (.int .i64 1) := (box_stay hb2).cell 8; have HT2 := Lib.hid ((HT.out.next (B1.out.alloc B1.out.size _)).next hb2))
    | (go_at_call 12; (with_reducible refine (K1.out _ HT2.out).mono ?_); rintro e w3 ⟨rfl, rfl⟩)
    | (go_at_call 14; (with_reducible refine (K2.out _ HT2.out).mono ?_); rintro e w3 ⟨rfl, rfl⟩))
  go_ret
  exact ⟨rfl, (B1.out.alloc B1.out.size _).trans (hb2.mono (by have := B1.out.size; simp; omega))⟩
end Go.Proofs.YtaiafhepeleefaaDoor.Rul
