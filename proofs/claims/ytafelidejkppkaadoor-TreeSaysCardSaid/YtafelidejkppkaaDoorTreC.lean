/- The contract of the document's scalar; plain facts of its names. Conditions: as each theorem states. -/
import Derived.Test.YtafelidejkppkaaDoorTreA
namespace Go.Proofs.YtafelidejkppkaaDoor.Tre
open Go.RowKit Go.Lib Go.Proofs.YtafelidejkppkaaDoor.Byt Go.Proofs.YtafelidejkppkaaDoor.Utf

theorem rscalar_any (v : Vt) (cs : List Value) (w : World) (h : InV w v cs) :
    Calls Tryd.prog 34 #[.agg cs.toArray] w fun e w' => e = .returned (.bool (scal v.l v.ns)) ∧ Below w.heap.size w w' := by
  obtain ⟨a, cap, c4, rfl, _, hr⟩ := (InV_iff w v cs).1 h
  obtain ⟨a2, cap2, rfl, _⟩ := hr.open_
  have e1 : scal v.l v.ns = ((v.l.length : Int) == 0 && (v.ns.length : Int) == 0) := by
    unfold scal
    rw [Bool.eq_iff_iff]
    simp only [Bool.and_eq_true, List.isEmpty_iff_length_eq_zero, beq_iff_eq]
    omega
  rw [e1]
  clear e1 h hr
  generalize v.l.length = x at *
  generalize v.ns.length = y at *
  have hxy : (x = 0 ∧ ((x : Int) == 0) = true) ∨ (x ≠ 0 ∧ ((x : Int) == 0) = false) := by
    by_cases h : x = 0
    · exact .inl ⟨h, by rw [beq_iff_eq]; omega⟩
    · exact .inr ⟨h, by rw [beq_eq_false_iff_ne]; omega⟩
  rcases hxy with ⟨_, h1⟩ | ⟨_, h1⟩
  all_goals
    rw [h1]
    go_enter Tryd.func34, Tryd.ntmps34
    go_wp2_with fail
    go_ret
    exact ⟨by simp, (Below.refl _ _).alloc (Nat.le_refl _) _⟩

/-! ### names -/
theorem nm_take (ns : List ByteArray) (i : Nat) (h : i < ns.length) : nmB (ns.take (i + 1)) = (nmB (ns.take i) && textB (ns.getD i ⟨#[]⟩) && decide (∀ x ∈ ns.take i, x ≠ ns.getD i ⟨#[]⟩)) := by
  rw [List.take_add_one, List.getElem?_eq_getElem h, Option.toList_some, List.getD_eq_getElem?_getD, List.getElem?_eq_getElem h]
  unfold nmB
  rw [Bool.eq_iff_iff]
  simp only [List.all_append, List.all_cons, List.all_nil, Bool.and_true, Bool.and_eq_true, decide_eq_true_eq, Option.getD_some, List.nodup_append, List.nodup_cons, List.not_mem_nil, not_false_eq_true, List.nodup_nil, true_and, and_true, List.mem_singleton, forall_eq]
  constructor
  · rintro ⟨⟨a, b⟩, c, d⟩; exact ⟨⟨⟨a, c⟩, b⟩, d⟩
  · rintro ⟨⟨⟨a, c⟩, b⟩, d⟩; exact ⟨⟨a, b⟩, c, d⟩
theorem nm_whole (ns : List ByteArray) (i : Nat) (h : nmB (ns.take i) = false) : nmB ns = false := by
  cases hn : nmB ns with
  | false => rfl
  | true =>
    unfold nmB at hn h
    rw [Bool.and_eq_true, decide_eq_true_eq, List.all_eq_true] at hn
    rw [Bool.and_eq_false_iff, decide_eq_false_iff_not] at h
    rcases h with h | h
    · rw [List.all_eq_false] at h
      obtain ⟨x, hx, hb⟩ := h
      exact absurd (hn.1 x (List.mem_of_mem_take hx)) hb
    · exact absurd (hn.2.sublist (List.take_sublist _ _)) h
end Go.Proofs.YtafelidejkppkaaDoor.Tre
