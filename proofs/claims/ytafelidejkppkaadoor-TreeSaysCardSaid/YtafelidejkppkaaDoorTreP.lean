/- Contracts of Count. Conditions: as each theorem states. -/
import Derived.Test.YtafelidejkppkaaDoorTreS
namespace Go.Proofs.YtafelidejkppkaaDoor.Tre
open Go.RowKit Go.Lib Go.Proofs.YtafelidejkppkaaDoor.Byt

theorem size_toArray {α : Type} (l : List α) {n : Nat} (h : l.length = n) : l.toArray.size = n := by simpa using h
set_option maxRecDepth 100000 in
theorem pcount_any (v : Vt) : ∀ (cs : List Value) (w : World), InV w v cs → v.l.length ≤ maxLen →
    (∀ x ∈ v.l, ∀ cs w, InV w x cs → Calls Tryd.prog 14 #[.agg cs.toArray] w fun e w' => e = .returned (.int .i64 (wr64 (cnt x : Int))) ∧ Below w.heap.size w w') →
    Calls Tryd.prog 14 #[.agg cs.toArray] w fun e w' => e = .returned (.int .i64 (wr64 (cnt v : Int))) ∧ Below w.heap.size w w' := by
  intro cs w h hmax ih
  obtain ⟨a, cap, c4, rfl, hit, _⟩ := (InV_iff w v cs).1 h
  have HIT := Lib.hid hit
  have HIH := Lib.hid ih
  have hcnt : cnt v = 1 + cntL v.l := by cases v; rw [cnt]; rfl
  have HCN := Lib.hid hcnt
  clear hit ih h hcnt
  generalize v.l = l at *
  generalize cnt v = C at *
  generalize v.k = k at *
  generalize v.n = n at *
  generalize v.s = s at *
  have hmx : l.length ≤ 9223372036854775807 := by unfold maxLen at hmax; omega
  clear hmax
  go_enter Tryd.func14, Tryd.ntmps14
  go_wp2_with fail
  go_loopw [3, 9] (fun y x wr => ∃ (i : Nat) (z : Int), x = .int .i64 (i : Int) ∧ y = .int .i64 z ∧ i ≤ l.length ∧ Below w.heap.size w wr ∧ Hid (z = wr64 ((1 + cntL (l.take i) : Nat) : Int)))
    (fun _ x _ => l.length - (RowKit.intOf x).toNat)
  case atStart => exact ⟨0, 1, by go_num, rfl, by omega, (Below.refl _ _).alloc (Nat.le_refl _) _, Lib.hid (by rw [List.take_zero, cntL]; unfold wr64; rw [IntKind.wrap_i64]; decide)⟩
  case round =>
    obtain ⟨i, z, rfl, rfl, hi, hb, hz⟩ := hrel
    have hsz := hb.size
    by_cases hlt : i < l.length
    · obtain ⟨b, off, rfl, ds, hrg, hin⟩ := HIT.out i hlt
      have hrg2 := range_next hrg hb
      rw [Nat.mul_comm 5 i] at hrg2
      have hin2 := InV_next hb _ ds hin
      have HX := Lib.hid fun w2 (hb2 : Below wr.heap.size wr w2) => HIH.out _ (mem_get hlt) ds w2 (InV_next hb2 _ ds hin2)
      have h5 := InV_five hin
      have h5' := size_toArray ds h5
      have h1 := InS_one hin
      have hst := cntL_take l i hlt
      generalize l.getD i V0 = X at *
      have hw : IntKind.i64.wrap (z + wr64 (cnt X : Int)) = wr64 ((1 + cntL (l.take (i + 1)) : Nat) : Int) := by
        rw [hz.out, wr_add, hst]
        congr 1
        omega
      obtain ⟨z2, hz2⟩ : ∃ z2, z2 = wr64 ((1 + cntL (l.take (i + 1)) : Nat) : Int) := ⟨_, rfl⟩
      rw [← hz2] at hw
      have HZ2 := Lib.hid hz2
      clear hst HIT HIH hz2 hz hin hin2
      go_wp2_with (first
        | (refine wpList_take _ rfl _ rfl b (off + i * 5) ds rfl hrg2 h5 ?_)
        | (refine wpList_keep _ rfl _ _ rfl wr.heap.size wr ((Below.refl _ wr).alloc (Nat.le_refl _) _) wr.heap.size (Nat.le_refl _) ds.toArray _ rfl rfl (box_new _ _) rfl h5' (by simpa using h1) ?_; intro w2 bx2 hb2 _ _)
        | (refine wpList_fetch _ rfl _ rfl wr.heap.size ds.toArray rfl bx2 h5' ?_)
        | (go_at_call 14; refine (HX.out _ hb2).mono ?_; rintro e w3 ⟨rfl, hb3⟩))
      go_roundw
      case rel => exact ⟨i + 1, z2, by go_num, rfl, by omega, hb.trans ((next hb2 hb3).mono hsz), HZ2⟩
      case measure => simp [RowKit.intOf]; omega
    · obtain rfl : i = l.length := by omega
      have hzz := hz.out
      rw [List.take_length] at hzz
      have HZZ := Lib.hid hzz
      clear hz hzz
      go_wp2_with fail
      go_ret
      exact ⟨by rw [HCN.out, ← HZZ.out]; rfl, hb⟩
theorem pcount (v : Vt) (hv : OkT v) : ∀ (cs : List Value) (w : World), InV w v cs → Calls Tryd.prog 14 #[.agg cs.toArray] w fun e w' => e = .returned (.int .i64 (wr64 (cnt v : Int))) ∧ Below w.heap.size w w' := by
  revert hv
  refine vt_ind (p := fun v => OkT v → ∀ (cs : List Value) (w : World), InV w v cs → Calls Tryd.prog 14 #[.agg cs.toArray] w fun e w' => e = .returned (.int .i64 (wr64 (cnt v : Int))) ∧ Below w.heap.size w w') ?_ v
  intro v ih hv cs w h
  obtain ⟨_, h1, h2⟩ := hv
  exact pcount_any v cs w h (by have := h1.2.2.2.1; unfold maxLen; omega) fun x hx => ih x hx (h2 x hx)
end Go.Proofs.YtafelidejkppkaaDoor.Tre
