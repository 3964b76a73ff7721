/- Contracts of the document's Count and Depth. Conditions: as each theorem states. -/
import Derived.Test.YtafelidejkppkaaDoorTreIn
namespace Go.Proofs.YtafelidejkppkaaDoor.Tre
open Go.RowKit Go.Lib Go.Proofs.YtafelidejkppkaaDoor.Byt

theorem infoV : (Tryd.prog.info? 25).map (·.size) = some 5 := by kernel_rfl
/-- A value read from a row. -/
theorem wpList_take {ops : Array Oper} {rest : List Oper} {o : Oper} {a : Act} {Q : Exit → Act → World → Prop} (W : World) (hgd : o.guard = none) (x : Operand) (ho : o.op = .load 25 x) (b f : Nat) (cs : List Value)
    (hx : a.eval x = .pointer (some ⟨b, f, none⟩)) (hc : W.rangeAt b f cs) (h5 : cs.length = 5)
    (h : wpList Tryd.prog ops Q rest (a.put o.dst (.agg cs.toArray)) W) : wpList Tryd.prog ops Q (o :: rest) a W :=
  wpList_load_mid hgd _ x ho b f hx cs _ hc Tryd.underlying25 rfl (by rw [infoV, h5]) h
theorem InV_five {w : World} {v : Vt} {cs : List Value} (h : InV w v cs) : cs.length = 5 := by
  obtain ⟨a, cap, c4, rfl, _⟩ := (InV_iff w v cs).1 h
  rfl
theorem next {a b c : World} (h : Below a.heap.size a b) (k : Below b.heap.size b c) : Below a.heap.size a c := h.trans (k.mono h.size)
theorem cntL_take (l : List Vt) (i : Nat) (h : i < l.length) : cntL (l.take (i + 1)) = cntL (l.take i) + cnt (l.getD i V0) := by
  rw [List.take_add_one, List.getElem?_eq_getElem h, Option.toList_some, List.getD_eq_getElem?_getD, List.getElem?_eq_getElem h, cntL_sum, cntL_sum, List.map_append, List.sum_append]
  simp
def wr64 (n : Int) : Int := IntKind.i64.wrap n
theorem wr_add (a b : Int) : IntKind.i64.wrap (wr64 a + wr64 b) = wr64 (a + b) := by
  unfold wr64
  rw [IntKind.wrap_i64, IntKind.wrap_i64, IntKind.wrap_i64, IntKind.wrap_i64]
  omega
theorem wr_bd (a : Int) : -9223372036854775808 ≤ wr64 a ∧ wr64 a ≤ 9223372036854775807 := by
  unfold wr64
  rw [IntKind.wrap_i64]
  omega
attribute [irreducible] wr64
theorem mem_get {l : List Vt} {i : Nat} (h : i < l.length) : l.getD i V0 ∈ l := by
  rw [List.getD_eq_getElem?_getD, List.getElem?_eq_getElem h]
  exact List.getElem_mem h

set_option maxRecDepth 100000 in
theorem rcount_any (v : Vt) : ∀ (cs : List Value) (w : World), InV w v cs → v.l.length ≤ maxLen →
    (∀ x ∈ v.l, ∀ cs w, InV w x cs → Calls Tryd.prog 6 #[.agg cs.toArray] w fun e w' => e = .returned (.int .i64 (wr64 (cnt x : Int))) ∧ Below w.heap.size w w') →
    Calls Tryd.prog 6 #[.agg cs.toArray] w fun e w' => e = .returned (.int .i64 (wr64 (cnt v : Int))) ∧ Below w.heap.size w w' := by
  intro cs w h hmax ih
  obtain ⟨a, cap, c4, rfl, hit, _⟩ := (InV_iff w v cs).1 h
  have HIT := Lib.hid hit
  have HIH := Lib.hid ih
  have hcnt : cnt v = 1 + cntL v.l := by cases v; rw [cnt]; rfl
  have HCN := Lib.hid hcnt
  clear hit ih h hcnt
  generalize v.l = l at *
  generalize cnt v = C at *
  generalize v.k = k at *
  generalize v.n = n at *
  generalize v.s = s at *
  have hmx : l.length ≤ 9223372036854775807 := by unfold maxLen at hmax; omega
  clear hmax
  go_enter Tryd.func6, Tryd.ntmps6
  go_wp2_with fail
  go_loopw [3, 8] (fun y x wr => ∃ (i : Nat) (z : Int), x = .int .i64 (i : Int) ∧ y = .int .i64 z ∧ i ≤ l.length ∧ wr.heap[w.heap.size]? = some (.cells #[.int .i64 k, .int .i64 n, .string s, .slice a l.length cap, c4] 25 (0, 0)) ∧ Below w.heap.size w wr ∧ Hid (z = wr64 ((1 + cntL (l.take i) : Nat) : Int)))
    (fun _ x _ => l.length - (RowKit.intOf x).toNat)
  case atStart => exact ⟨0, 1, by go_num, rfl, by omega, heap_alloc_new _ _, (Below.refl _ _).alloc (Nat.le_refl _) _, Lib.hid (by rw [List.take_zero, cntL]; unfold wr64; rw [IntKind.wrap_i64]; decide)⟩
  case round =>
    obtain ⟨i, z, rfl, rfl, hi, hbx, hb, hz⟩ := hrel
    have hsz := hb.size
    have hlt0 : w.heap.size < wr.heap.size := by
      rcases Nat.lt_or_ge w.heap.size wr.heap.size with h' | h'
      · exact h'
      · simp [Array.getElem?_eq_none h'] at hbx
    by_cases hlt : i < l.length
    · obtain ⟨b, off, rfl, ds, hrg, hin⟩ := HIT.out i hlt
      have hx3 : wr.cell? ⟨w.heap.size, 3, none⟩ = some (.slice (some ⟨b, off, none⟩) l.length cap) := by simp [World.cell?, hbx]
      have hrg2 := range_next hrg hb
      rw [Nat.mul_comm 5 i] at hrg2
      have hin2 := InV_next hb _ ds hin
      have hC := Lib.hid (HIH.out _ (mem_get hlt) ds wr hin2)
      have h5 := InV_five hin
      have hst := cntL_take l i hlt
      generalize l.getD i V0 = X at *
      have hbd := wr_bd (cnt X : Int)
      have hw : IntKind.i64.wrap (z + wr64 (cnt X : Int)) = wr64 ((1 + cntL (l.take (i + 1)) : Nat) : Int) := by
        rw [hz.out, wr_add, hst]
        congr 1
        omega
      have HW := Lib.hid hw
      obtain ⟨z2, hz2⟩ : ∃ z2, z2 = wr64 ((1 + cntL (l.take (i + 1)) : Nat) : Int) := ⟨_, rfl⟩
      rw [← hz2] at hw
      have HZ2 := Lib.hid hz2
      clear hst HIT HIH hz2 HW hz
      go_wp2_with (first
        | (refine wpList_take _ rfl _ rfl b (off + i * 5) ds rfl hrg2 h5 ?_)
        | (go_at_call 6; refine hC.out.mono ?_; rintro e w2 ⟨rfl, hb2⟩))
      go_roundw
      case rel => exact ⟨i + 1, z2, by go_num, rfl, by omega, (hb2.block _ hlt0).trans hbx, hb.trans (hb2.mono hsz), HZ2⟩
      case measure => simp [RowKit.intOf]; omega
    · obtain rfl : i = l.length := by omega
      have hzz := hz.out
      rw [List.take_length] at hzz
      have HZZ := Lib.hid hzz
      clear hz hzz
      go_wp2_with fail
      go_ret
      exact ⟨by rw [HCN.out, ← HZZ.out]; rfl, hb⟩
theorem rcount (v : Vt) (hv : OkT v) : ∀ (cs : List Value) (w : World), InV w v cs → Calls Tryd.prog 6 #[.agg cs.toArray] w fun e w' => e = .returned (.int .i64 (wr64 (cnt v : Int))) ∧ Below w.heap.size w w' := by
  revert hv
  refine vt_ind (p := fun v => OkT v → ∀ (cs : List Value) (w : World), InV w v cs → Calls Tryd.prog 6 #[.agg cs.toArray] w fun e w' => e = .returned (.int .i64 (wr64 (cnt v : Int))) ∧ Below w.heap.size w w') ?_ v
  intro v ih hv cs w h
  obtain ⟨_, h1, h2⟩ := hv
  exact rcount_any v cs w h (by have := h1.2.2.2.1; unfold maxLen; omega) fun x hx => ih x hx (h2 x hx)
end Go.Proofs.YtafelidejkppkaaDoor.Tre
