/- Contracts of fieldsRight. Conditions: as each theorem states. -/
import Derived.Test.YtafelidejkppkaaDoorTreN
namespace Go.Proofs.YtafelidejkppkaaDoor.Tre
open Go.RowKit Go.Lib Go.Proofs.YtafelidejkppkaaDoor.Byt Go.Proofs.YtafelidejkppkaaDoor.Utf

def hdF (k : Int) (bz b1 bs bi bn tx eq nm : Bool) : Bool :=
  if k = 0 then bz && bs && (bi && bn)
  else if k = 1 then (bz || b1) && bs && (bi && bn)
  else if k = 2 then bs && (bi && bn)
  else if k = 3 then bz && tx && (bi && bn)
  else if k = 4 then bn && bz && bs && true
  else if k = 5 then eq && nm && bz && bs && true
  else false
theorem hdF_is (k n : Int) (s : ByteArray) (l : List Vt) (ns : List ByteArray) : hdB k n s l ns 1 = hdF k (n == 0) (n == 1) (s.toList == []) ((l.length : Int) == 0) ((ns.length : Int) == 0) (textB s) ((ns.length : Int) == (l.length : Int)) (nmB ns) := by
  have e1 : decide (n = 0) = (n == 0) := by rw [Bool.eq_iff_iff, decide_eq_true_eq, beq_iff_eq]
  have e2 : decide (n = 0 ∨ n = 1) = (n == 0 || n == 1) := by rw [Bool.eq_iff_iff, decide_eq_true_eq, Bool.or_eq_true, beq_iff_eq, beq_iff_eq]
  have e3 : noneB s = (s.toList == []) := by
    unfold noneB
    rw [Bool.eq_iff_iff, decide_eq_true_eq, beq_iff_eq, Byt.toList_data]
    constructor
    · rintro rfl; rfl
    · intro q; exact ByteArray.ext (Array.toList_inj.1 q)
  have e4 : ∀ {α : Type} (l : List α), l.isEmpty = ((l.length : Int) == 0) := by
    intro α l
    rw [Bool.eq_iff_iff, List.isEmpty_iff_length_eq_zero, beq_iff_eq]
    omega
  have e5 : decide (ns.length = l.length) = ((ns.length : Int) == (l.length : Int)) := by rw [Bool.eq_iff_iff, decide_eq_true_eq, beq_iff_eq]; omega
  unfold hdB hdF scal
  rw [e1, e2, e3, e4, e4, e5]
  rfl

set_option maxHeartbeats 8000000 in
set_option maxRecDepth 100000 in
theorem fields_any (v : Vt) (cs : List Value) (w : World) (h : InV w v cs) (hT : Tabs w) (hv : okV v) :
    Calls Tryd.prog 33 #[.agg cs.toArray] w fun e w' => e = .returned (.bool (hdB v.k v.n v.s v.l v.ns 1)) ∧ Below w.heap.size w w' := by
  obtain ⟨a, cap, c4, rfl, _, hr⟩ := (InV_iff w v cs).1 h
  rw [hdF_is]
  have HNM := Lib.hid fun (W : World) (hb : Below w.heap.size w W) => names_any v.ns c4 W (hr.next hb) (hT.next hb) hv.2.2.2.2.1 hv.2.2.2.2.2
  have HTX := Lib.hid fun (W : World) (hb : Below w.heap.size w W) => istext_any v.s W (hT.next hb) hv.2.2.1
  obtain ⟨a2, cap2, rfl, _⟩ := hr.open_
  clear h hr hT hv
  generalize v.l.length = ll at *
  generalize v.ns.length = nl at *
  generalize textB v.s = tx at *
  generalize nmB v.ns = nm at *
  generalize v.k = k at *
  generalize v.n = n at *
  generalize v.s = s at *
  generalize h1 : (n == 0) = bz
  generalize h2 : (n == 1) = b1
  generalize h3 : (s.toList == []) = bs
  generalize h4 : ((ll : Int) == 0) = bi
  generalize h5 : ((nl : Int) == 0) = bn
  generalize h6 : ((nl : Int) == (ll : Int)) = eq
  have hb0 : ∀ o, Below w.heap.size w (w.alloc o) := fun o => (Below.refl _ _).alloc (Nat.le_refl _) o
  have HB0 := Lib.hid hb0
  clear hb0
  by_cases k0 : k = 0
  · subst k0
    cases bi <;> cases bz <;> cases bs
    all_goals
      clear HNM HTX
      go_enter Tryd.func33, Tryd.ntmps33
      go_wp2_with fail
      go_ret
      exact ⟨rfl, HB0.out _⟩
  by_cases k1 : k = 1
  · subst k1
    cases bi <;> cases bz <;> cases b1 <;> cases bs
    all_goals
      clear HNM HTX
      go_enter Tryd.func33, Tryd.ntmps33
      go_wp2_with fail
      go_ret
      exact ⟨rfl, HB0.out _⟩
  by_cases k2 : k = 2
  · subst k2
    cases bi <;> cases bs
    all_goals
      clear HNM HTX
      go_enter Tryd.func33, Tryd.ntmps33
      go_wp2_with fail
      go_ret
      exact ⟨rfl, HB0.out _⟩
  by_cases k3 : k = 3
  · subst k3
    cases bi <;> cases bz <;> cases tx
    all_goals
      clear HNM
      go_enter Tryd.func33, Tryd.ntmps33
      go_wp2_with (go_at_call 42; refine (HTX.out _ (HB0.out _)).mono ?_; rintro e w1 ⟨rfl, hb1⟩)
      go_ret
      first | exact ⟨rfl, HB0.out _⟩ | exact ⟨rfl, (HB0.out _).trans (hb1.mono (HB0.out _).size)⟩
  by_cases k4 : k = 4
  · subst k4
    cases bi <;> cases bz <;> cases bs <;> cases bn
    all_goals
      clear HNM HTX
      go_enter Tryd.func33, Tryd.ntmps33
      go_wp2_with fail
      go_ret
      exact ⟨rfl, HB0.out _⟩
  by_cases k5 : k = 5
  · subst k5
    cases bi <;> cases bz <;> cases bs <;> cases eq
    all_goals
      clear HTX
      go_enter Tryd.func33, Tryd.ntmps33
      go_wp2_with (go_at_call 43; refine (HNM.out _ (HB0.out _)).mono ?_; rintro e w1 ⟨rfl, hb1⟩)
      go_ret
      first | exact ⟨by simp [hdF], HB0.out _⟩ | exact ⟨by simp [hdF], (HB0.out _).trans (hb1.mono (HB0.out _).size)⟩
  have f0 : (k == 0) = false := beq_eq_false_iff_ne.2 k0
  have f1 : (k == 1) = false := beq_eq_false_iff_ne.2 k1
  have f2 : (k == 2) = false := beq_eq_false_iff_ne.2 k2
  have f3 : (k == 3) = false := beq_eq_false_iff_ne.2 k3
  have f4 : (k == 4) = false := beq_eq_false_iff_ne.2 k4
  have f5 : (k == 5) = false := beq_eq_false_iff_ne.2 k5
  rw [show hdF k bz b1 bs bi bn tx eq nm = false by unfold hdF; rw [if_neg k0, if_neg k1, if_neg k2, if_neg k3, if_neg k4, if_neg k5]]
  clear k0 k1 k2 k3 k4 k5
  cases bi
  all_goals
    clear HNM HTX
    go_enter Tryd.func33, Tryd.ntmps33
    go_wp2_with fail
    go_ret
    exact ⟨rfl, HB0.out _⟩
end Go.Proofs.YtafelidejkppkaaDoor.Tre
