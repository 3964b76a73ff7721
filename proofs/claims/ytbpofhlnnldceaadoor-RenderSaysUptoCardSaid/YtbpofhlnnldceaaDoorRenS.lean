/- The document's Put and Pretty; the law RenderSays. Conditions: the two tables of unicode/utf8 and the table of powers are as the library's text lays them; as each theorem states. -/
import Derived.Test.YtbpofhlnnldceaaDoorRenL
import Derived.Test.YtbpofhlnnldceaaDoorRenH
namespace Go.Proofs.YtbpofhlnnldceaaDoor.Ren
open Go.RowKit Go.Lib Go.Proofs.YtbpofhlnnldceaaDoor.Byt Go.Proofs.YtbpofhlnnldceaaDoor.Utf Go.Proofs.YtbpofhlnnldceaaDoor.Quo
open Go.Proofs.YtbpofhlnnldceaaDoor.Tre (Vt V0 wi hdB textB nmB noneB scal dep cnt OkT okV InV InV_iff InV_next InV_cells Box Box.lt Box.cell Box.next box_new box_after wpList_fetch wpList_fetch_g range_next mem_get vt_ind wr64 rcount rright)

theorem wide_all (v : Vt) : OkT v → ∀ m : Int, wi v m = true → wg v ≤ 1100000 → cnt v ≤ 2000 → PD v := by
  refine vt_ind (p := fun v => OkT v → ∀ m : Int, wi v m = true → wg v ≤ 1100000 → cnt v ≤ 2000 → PD v) ?_ v
  intro v ih hv m hw hg hc
  have hv' := hv
  obtain ⟨_, h1, h2⟩ := hv
  have hps : PS v := short_all v hv' m hw (by omega) (by
    have := tv_len [] [58] 0 31 (by decide) v [] (by simp)
    omega)
  by_cases h0 : v.l = []
  · exact wide_none v h0 hps
  cases v with
  | mk k n s l ns =>
    replace h0 : l ≠ [] := h0
    obtain ⟨hd, hl⟩ := co_wi hw
    have hmx : l.length ≤ 9223372036854775807 := by have := h1.2.2.2.1; have h2 : (Vt.mk k n s l ns).l = l := rfl; rw [h2] at this; omega
    have hle : l.isEmpty = false := by simpa using h0
    have ihl : ∀ u ∈ l, PD u := fun u hu => ih u hu (h2 u hu) (m - 1) (hl u hu) (Nat.le_trans (wg_part (v := .mk k n s l ns) hu) hg) (by
      have h3 := Tre.cntL_mem hu
      rw [cnt] at hc
      omega)
    by_cases h4 : k = 4
    · subst h4
      exact wide_in 4 n s l ns false 91 93 (.inl rfl) hmx h0 (fun ln => by rw [tv_list, hle]; simp) (bra_list n s) (fun cs w W h hb j hj => name_in [58, 32] n s l ns ⟨#[58, 32]⟩ rfl (by decide) 4 false (.inl ⟨rfl, rfl⟩) (fun q => by cases q) (fun q => by cases q) cs w W h hb j hj) ihl
    · by_cases h5 : k = 5
      · subst h5
        obtain ⟨hns, htx⟩ := names_of hd
        have hnz := names_small (Nat.le_trans hg (by omega))
        exact wide_in 5 n s l ns true 123 125 (.inr rfl) hmx h0 (fun ln => by rw [tv_obj, hle]; simp) (bra_obj n s) (fun cs w W h hb j hj => name_in [58, 32] n s l ns ⟨#[58, 32]⟩ rfl (by decide) 5 true (.inr ⟨rfl, rfl⟩) (fun _ => hns) (fun _ u hu => ⟨htx u hu, hnz u hu⟩) cs w W h hb j hj) ihl
      · exfalso
        unfold hdB at hd
        simp only [if_neg h4, if_neg h5] at hd
        have key : l = [] := by
          split at hd
          · simp only [scal, Bool.and_eq_true, List.isEmpty_iff] at hd; exact hd.2.1
          · split at hd
            · simp only [scal, Bool.and_eq_true, List.isEmpty_iff] at hd; exact hd.2.1
            · split at hd
              · simp only [scal, Bool.and_eq_true, List.isEmpty_iff] at hd; exact hd.2.1
              · split at hd
                · simp only [scal, Bool.and_eq_true, List.isEmpty_iff] at hd; exact hd.2.1
                · cases hd
        exact h0 key
section
variable (v : Vt) (h : Small v) (cs : List Value) (W : World) (hi : InV W v cs)
include h hi
theorem rput_yes (hw : wi v 64 = true) : Calls Tryd.prog 8 #[.agg cs.toArray] W fun e w' => e = .returned (.tuple #[.string ⟨(putL v).toArray⟩, .int .i64 0]) ∧ Below W.heap.size W w' := by
  have HR := Lib.hid fun (W' : World) (hb : Below W.heap.size W W') => rright v h.ok cs W' (InV_next hb v cs hi)
  rw [hw] at HR
  have hl := put_len h
  have e : putL v = tv [] [58] v [] := by unfold putL; rw [List.append_nil]
  rw [e] at hl
  have HS := Lib.hid fun (W' : World) (hb : Below W.heap.size W W') => short_all v h.ok 64 hw (by have := h.wg; omega) (by omega) cs W' (InV_next hb v cs hi)
  rw [e]
  have B0 := Lib.hid fun o : Obj => (Below.refl W.heap.size W).alloc (Nat.le_refl _) o
  obtain ⟨a, cap, c4, rfl, _, _⟩ := (InV_iff W v cs).1 hi
  clear h hi hw hl e
  generalize (⟨(tv [] [58] v []).toArray⟩ : ByteArray) = T at *
  generalize v.k = k at *
  generalize v.n = n at *
  generalize v.s = s at *
  generalize v.l.length = l at *
  go_enter Tryd.func8, Tryd.ntmps8
  go_wp2_with (first
    | (refine wpList_fetch _ rfl _ rfl W.heap.size _ rfl (box_new _ _) rfl ?_)
    | (go_at_call 11; (with_reducible refine (HR.out _ (B0.out _)).mono ?_); rintro e w2 ⟨rfl, hb2⟩; have bx2 := (box_after hb2).1; have hb3 := (box_after hb2).2)
    | (refine wpList_fetch _ rfl _ rfl W.heap.size _ rfl bx2 rfl ?_)
    | (go_at_call 14; (with_reducible refine (HS.out _ hb3).mono ?_); rintro e w4 ⟨rfl, hb4⟩))
  go_ret2
  exact ⟨rfl, hb3.trans (hb4.mono hb3.size)⟩
theorem rput_no (hw : wi v 64 = false) : Calls Tryd.prog 8 #[.agg cs.toArray] W fun e w' => e = .returned (.tuple #[.string ⟨#[]⟩, .int .i64 1]) ∧ Below W.heap.size W w' := by
  have HR := Lib.hid fun (W' : World) (hb : Below W.heap.size W W') => rright v h.ok cs W' (InV_next hb v cs hi)
  rw [hw] at HR
  have B0 := Lib.hid fun o : Obj => (Below.refl W.heap.size W).alloc (Nat.le_refl _) o
  obtain ⟨a, cap, c4, rfl, _, _⟩ := (InV_iff W v cs).1 hi
  clear h hi hw
  generalize v.k = k at *
  generalize v.n = n at *
  generalize v.s = s at *
  generalize v.l.length = l at *
  go_enter Tryd.func8, Tryd.ntmps8
  go_wp2_with (first
    | (refine wpList_fetch _ rfl _ rfl W.heap.size _ rfl (box_new _ _) rfl ?_)
    | (go_at_call 11; (with_reducible refine (HR.out _ (B0.out _)).mono ?_); rintro e w2 ⟨rfl, hb2⟩; have hb3 := (box_after hb2).2))
  go_ret2
  exact ⟨rfl, hb3⟩
theorem rpre_yes (hw : wi v 64 = true) : Calls Tryd.prog 10 #[.agg cs.toArray] W fun e w' => e = .returned (.tuple #[.string ⟨(preL v).toArray⟩, .int .i64 0]) ∧ Below W.heap.size W w' := by
  have HR := Lib.hid fun (W' : World) (hb : Below W.heap.size W W') => rright v h.ok cs W' (InV_next hb v cs hi)
  rw [hw] at HR
  have hl := pre_len h hw
  have hd := wi_dep v 64 (by omega) hw
  unfold preL at hl
  rw [List.length_append, List.length_singleton] at hl
  have HS := Lib.hid fun (W' : World) (hb : Below W.heap.size W W') => wide_all v h.ok 64 hw h.wg h.cnt ⟨#[]⟩ cs W' (InV_next hb v cs hi) (by show 0 + 2 * dep v ≤ 1000; omega) (by show (tv [32, 32] [58, 32] v [10]).length ≤ _; omega)
  have HE : (⟨(preL v).toArray⟩ : ByteArray) = ⟨(tv [32, 32] [58, 32] v (10 :: (⟨#[]⟩ : ByteArray).data.toList)).toArray⟩ ++ ⟨#[10]⟩ := by
    unfold preL
    exact (lists_cat (tv [32, 32] [58, 32] v [10]) [10]).symm
  have hz : (⟨(tv [32, 32] [58, 32] v (10 :: (⟨#[]⟩ : ByteArray).data.toList)).toArray⟩ : ByteArray).size ≤ 8000000 := by rw [size_list]; show (tv [32, 32] [58, 32] v [10]).length ≤ _; omega
  rw [HE]
  have B0 := Lib.hid fun o : Obj => (Below.refl W.heap.size W).alloc (Nat.le_refl _) o
  obtain ⟨a, cap, c4, rfl, _, _⟩ := (InV_iff W v cs).1 hi
  have z10 : (⟨#[10]⟩ : ByteArray).size = 1 := rfl
  clear h hi hw hl hd HE
  generalize (⟨(tv [32, 32] [58, 32] v (10 :: (⟨#[]⟩ : ByteArray).data.toList)).toArray⟩ : ByteArray) = T at *
  have pA := add_run T ⟨#[10]⟩ _ rfl (by rw [ByteArray.size_append]; omega)
  generalize v.k = k at *
  generalize v.n = n at *
  generalize v.s = s at *
  generalize v.l.length = l at *
  go_enter Tryd.func10, Tryd.ntmps10
  go_wp2_with (first
    | (refine wpList_fetch _ rfl _ rfl W.heap.size _ rfl (box_new _ _) rfl ?_)
    | (go_at_call 11; (with_reducible refine (HR.out _ (B0.out _)).mono ?_); rintro e w2 ⟨rfl, hb2⟩; have bx2 := (box_after hb2).1; have hb3 := (box_after hb2).2)
    | (refine wpList_fetch _ rfl _ rfl W.heap.size _ rfl bx2 rfl ?_)
    | (go_at_call 15; (with_reducible refine (HS.out _ hb3).mono ?_); rintro e w4 ⟨rfl, hb4⟩))
  go_ret2
  exact ⟨rfl, hb3.trans (hb4.mono hb3.size)⟩
theorem rpre_no (hw : wi v 64 = false) : Calls Tryd.prog 10 #[.agg cs.toArray] W fun e w' => e = .returned (.tuple #[.string ⟨#[]⟩, .int .i64 1]) ∧ Below W.heap.size W w' := by
  have HR := Lib.hid fun (W' : World) (hb : Below W.heap.size W W') => rright v h.ok cs W' (InV_next hb v cs hi)
  rw [hw] at HR
  have B0 := Lib.hid fun o : Obj => (Below.refl W.heap.size W).alloc (Nat.le_refl _) o
  obtain ⟨a, cap, c4, rfl, _, _⟩ := (InV_iff W v cs).1 hi
  clear h hi hw
  generalize v.k = k at *
  generalize v.n = n at *
  generalize v.s = s at *
  generalize v.l.length = l at *
  go_enter Tryd.func10, Tryd.ntmps10
  go_wp2_with (first
    | (refine wpList_fetch _ rfl _ rfl W.heap.size _ rfl (box_new _ _) rfl ?_)
    | (go_at_call 11; (with_reducible refine (HR.out _ (B0.out _)).mono ?_); rintro e w2 ⟨rfl, hb2⟩; have hb3 := (box_after hb2).2))
  go_ret2
  exact ⟨rfl, hb3⟩
end
end Go.Proofs.YtbpofhlnnldceaaDoor.Ren
