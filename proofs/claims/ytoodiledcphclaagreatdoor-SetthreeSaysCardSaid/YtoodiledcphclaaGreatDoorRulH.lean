/- rule's laws: light, awake. Conditions: the tables read as the program lays them. -/
import Derived.Test.YtoodiledcphclaaGreatDoorRulP2
namespace Go.Proofs.YtoodiledcphclaaGreatDoor.Rul
open Go.RowKit Go.Lib

def lgt (r : Ru) : Bool := decide (r.id.size ≤ 400) && decide (r.no.size ≤ 400) && decide (r.ro.size ≤ 400)
theorem lgt_yes {r : Ru} (h : lgt r = true) : r.id.size ≤ 400 ∧ r.no.size ≤ 400 ∧ r.ro.size ≤ 400 := by
  unfold lgt at h
  rw [Bool.and_eq_true, Bool.and_eq_true, decide_eq_true_eq, decide_eq_true_eq, decide_eq_true_eq] at h
  exact ⟨h.1.1, h.1.2, h.2⟩
/-! ### awake -/
def A1 : Ru := ⟨⟨#[97]⟩, ⟨#[]⟩, ⟨#[47]⟩, 0, 1, 10, 1000, 5, 0, 0, 0, 0, 0⟩
def A2 : Ru := ⟨⟨#[97]⟩, ⟨#[]⟩, ⟨#[47]⟩, 0, 2, 0, 0, 1, 0, 1, 0, 0, 0⟩
theorem a1_chk : chk A1 = (⟨#[]⟩, 0) := by decide +kernel
theorem a1_can : cn A1 = ⟨⟨#[97]⟩, ⟨#[]⟩, ⟨#[47]⟩, 0, 1, 1, 100, 5, 1, 0, 0, 0, 0⟩ := by
  rw [cn_ok (by rw [a1_chk]), can_one rfl]
  show Ru.mk ⟨#[97]⟩ ⟨#[]⟩ ⟨#[47]⟩ 0 1 (10 / Sat.gd 10 1000) (1000 / Sat.gd 10 1000) 5 (max 0 1) 0 0 0 0 = _
  rw [show Sat.gd 10 1000 = 10 by decide +kernel]
  rfl
theorem a2_chk : chk A2 = (f3, 17) := by decide +kernel
theorem canon_at (r : Ru) (c : Ru) (p : ByteArray) (e : Int) (hc : cn r = c) (hp : chk r = (p, e)) (h1 : r.id.size ≤ 140737488355328) (h2 : r.no.size ≤ 140737488355328) (h3 : r.ro.size ≤ 140737488355328) (w : World) (hT : Tab w) (hU : Utf.Tabs w) :
    Calls Tryz.prog 19 #[.agg (ruC r)] w fun x w' => x = .returned (.tuple #[.agg (ruC c), .string p, .int .i64 e]) ∧ Below w.heap.size w w' := by
  have := canon_any r w hT hU h1 h2 h3
  rw [hc, hp] at this
  exact this
theorem chk_at (r : Ru) (p : ByteArray) (e : Int) (hp : chk r = (p, e)) (h1 : r.id.size ≤ 140737488355328) (h2 : r.no.size ≤ 140737488355328) (h3 : r.ro.size ≤ 140737488355328) (w : World) (hT : Tab w) (hU : Utf.Tabs w) :
    Calls Tryz.prog 15 #[.agg (ruC r)] w fun x w' => x = .returned (.tuple #[.string p, .int .i64 e]) ∧ Below w.heap.size w w' := by
  have := chk_any r w hT hU h1 h2 h3
  rw [hp] at this
  exact this
theorem kind_at (k : Int) (s : ByteArray) (hs : kB k = s) (w : World) (hT : Tab w) : Calls Tryz.prog 44 #[.int .i64 k] w fun e w' => e = .returned (.string s) ∧ w = w' := by
  subst hs; exact kind_any k w hT
end Go.Proofs.YtoodiledcphclaaGreatDoor.Rul
