/- Contracts of pointer's last and clone. Conditions: as each theorem states. -/
import Derived.Test.YtfefbfohenmajaaDoorPtrC
import Derived.Test.YtfefbfohenmajaaDoorTreWs
import Derived.Test.YtfefbfohenmajaaDoorTreSc
import Derived.Test.YtfefbfohenmajaaDoorTreRc
namespace Go.Proofs.YtfefbfohenmajaaDoor.Ptr
open Go.RowKit Go.Lib Go.Proofs.YtfefbfohenmajaaDoor.Byt
open Go.Proofs.YtfefbfohenmajaaDoor.Tre (Vt V0 find cnt OkT okV OkT_iff InV InV_iff InV_next InV_five InV_zero InS InS_in InS_five InS_one InS_upd InS_zero Box box_new OwnR wpList_keep wpList_fetch wpList_take zeroC results_val results_val2 size_toArray two_boxes box_after TB run_vpush own_in pfindS)

theorem five_of {c : List Value} (h : c.length = 5) : ∃ c0 c1 c2 c3 c4, c = [c0, c1, c2, c3, c4] := by
  match c, h with
  | [a, b, c, d, e], _ => exact ⟨a, b, c, d, e, rfl⟩
set_option maxHeartbeats 2000000 in
set_option maxRecDepth 100000 in
theorem last_any (v : Value) (D : List (List Value)) (c : List Value) (B : Nat) (w : World) (h : OwnR w B v (D ++ [c])) (hs : Tre.Shp c) (hl : D.length ≤ 1000000) :
    Calls Tryd.prog 24 #[v] w fun e w' => e = .returned (.agg c.toArray) ∧ Below w.heap.size w w' := by
  obtain ⟨a, cap, rfl, ho⟩ := h.open_
  have h5 : c.length = 5 := h.1 c (by simp)
  have hn : (D ++ [c]).length = D.length + 1 := by simp
  obtain ⟨g, rfl, hB, hg, hrg, _⟩ := ho D.length (by omega)
  have hgd : (D ++ [c]).getD D.length [] = c := by
    rw [List.getD_eq_getElem?_getD, List.getElem?_append_right (Nat.le_refl _), Nat.sub_self]; rfl
  rw [hgd] at hrg
  rw [hn]
  clear ho hgd hn h hB
  have hr2 : ∀ W, Below w.heap.size w W → W.rangeAt g (D.length * 5) c := fun W hb => Tre.range_next hrg hb
  have H2 := Lib.hid hr2
  have HB := Lib.hid ((Below.refl w.heap.size w).alloc (Nat.le_refl _) (.cells zeroC.toArray 25))
  have HX := Lib.hid (box_new w zeroC.toArray)
  generalize D.length = n at *
  obtain ⟨k, m, s, a3, l3, p3, a4, l4, p4, rfl⟩ := hs
  clear hr2 hrg
  go_enter Tryd.func24, Tryd.ntmps24
  go_wp2_with (first
    | (refine wpList_take _ rfl _ rfl g (n * 5) _ rfl (H2.out _ HB.out) h5 ?_))
  refine bodyPost_ret (results_val rfl _ _ _ _ rfl (box_new w _) rfl) rfl ?_
  exact ⟨rfl, (Below.refl _ _).alloc (Nat.le_refl _) _⟩

/-- A value as the one member of an object. -/
def wrp (x : Vt) : Vt := .mk 5 0 ⟨#[]⟩ [x] [⟨#[]⟩]
theorem find_wrp (x : Vt) : find (wrp x) ⟨#[]⟩ = some x := by
  unfold find wrp
  rw [if_pos (by rfl)]
  show Tre.fnd [⟨#[]⟩] [x] ⟨#[]⟩ = _
  rw [Tre.fnd, if_pos rfl]
theorem ok_wrp {x : Vt} (h : OkT x) : OkT (wrp x) := by
  refine (OkT_iff _).2 ⟨?_, fun y hy => ?_⟩
  · unfold okV wrp
    refine ⟨⟨(by decide : (-9223372036854775808 : Int) ≤ 5), (by decide : (5 : Int) ≤ _)⟩, ⟨(by decide : (-9223372036854775808 : Int) ≤ 0), (by decide : (0 : Int) ≤ _)⟩, (by decide : (⟨#[]⟩ : ByteArray).size ≤ _), (by decide : 1 * 80 ≤ _), (by decide : 1 * 16 ≤ _), ?_⟩
    intro m hm
    have : m = ⟨#[]⟩ := by simpa [Vt.ns] using hm
    subst this
    decide
  · have : y = x := by simpa [wrp, Vt.l] using hy
    rw [this]; exact h
theorem in_wrp {W : World} {x : Vt} {cs : List Value} {b b2 : Nat} {fr : Nat × Nat} (h : InV W x cs) (hb : Box W b cs.toArray) (hn : W.heap[b2]? = some (.cells #[.string ⟨#[]⟩] 9 fr)) :
    InV W (wrp x) [.int .i64 5, .int .i64 0, .string ⟨#[]⟩, .slice (some ⟨b, 0, none⟩) 1 1, .slice (some ⟨b2, 0, none⟩) 1 1] := by
  refine (InV_iff W _ _).2 ⟨some ⟨b, 0, none⟩, 1, .slice (some ⟨b2, 0, none⟩) 1 1, rfl, fun j hj => ?_, .inr ⟨b2, 0, 1, rfl, fun j hj => ?_⟩⟩
  · have : j = 0 := by simpa [wrp, Vt.l] using hj
    subst this
    refine ⟨b, 0, rfl, cs, fun i u hu => ?_, h⟩
    rw [Nat.mul_zero, Nat.add_zero, Nat.zero_add, hb.cell]
    simpa using hu
  · have : j = 0 := by simpa [wrp, Vt.ns] using hj
    subst this
    rw [Lib.cell_of_heap hn]
    rfl
theorem four_at (w : World) (o1 o2 o3 o4 : Obj) : (((((w.alloc o1).alloc o2).alloc o3).alloc o4).heap[w.heap.size]? = some o1) ∧ (((((w.alloc o1).alloc o2).alloc o3).alloc o4).heap[w.heap.size + 1]? = some o2) ∧ (((((w.alloc o1).alloc o2).alloc o3).alloc o4).heap[w.heap.size + 2]? = some o3) ∧ (((((w.alloc o1).alloc o2).alloc o3).alloc o4).heap[w.heap.size + 3]? = some o4) ∧ Below w.heap.size w ((((w.alloc o1).alloc o2).alloc o3).alloc o4) ∧ ((((w.alloc o1).alloc o2).alloc o3).alloc o4).heap.size = w.heap.size + 4 := by
  have s1 : (w.alloc o1).heap.size = w.heap.size + 1 := by simp
  have s2 : ((w.alloc o1).alloc o2).heap.size = w.heap.size + 2 := by simp
  have s3 : (((w.alloc o1).alloc o2).alloc o3).heap.size = w.heap.size + 3 := by simp
  have s4 : ((((w.alloc o1).alloc o2).alloc o3).alloc o4).heap.size = w.heap.size + 4 := by simp
  have e2 := heap_alloc_new (w.alloc o1) o2
  have e3 := heap_alloc_new ((w.alloc o1).alloc o2) o3
  have e4 := heap_alloc_new (((w.alloc o1).alloc o2).alloc o3) o4
  rw [s1] at e2
  rw [s2] at e3
  rw [s3] at e4
  refine ⟨?_, ?_, ?_, e4, ((((Below.refl _ _).alloc (Nat.le_refl _) _).alloc (by omega) _).alloc (by omega) _).alloc (by omega) _, s4⟩
  · exact (Below.heap_alloc _ _ _ (by omega)).trans ((Below.heap_alloc _ _ _ (by omega)).trans ((Below.heap_alloc _ _ _ (by omega)).trans (heap_alloc_new w o1)))
  · exact (Below.heap_alloc _ _ _ (by omega)).trans ((Below.heap_alloc _ _ _ (by omega)).trans e2)
  · exact (Below.heap_alloc _ _ _ (by omega)).trans e3
theorem four_next {w w2 : World} {o1 o2 o3 o4 : Obj} (hb : Below ((((w.alloc o1).alloc o2).alloc o3).alloc o4).heap.size ((((w.alloc o1).alloc o2).alloc o3).alloc o4) w2) :
    w2.heap[w.heap.size + 1]? = some o2 ∧ Below w.heap.size w w2 ∧ w.heap.size + 4 ≤ w2.heap.size := by
  obtain ⟨_, h2, _, _, h5, h6⟩ := four_at w o1 o2 o3 o4
  have hs := hb.size
  rw [h6] at hb hs
  exact ⟨(hb.block _ (by omega)).trans h2, h5.trans (hb.mono (by omega)), hs⟩
set_option maxHeartbeats 4000000 in
set_option maxRecDepth 100000 in
theorem pcopy_any (x : Vt) (hx : OkT x) (cs : List Value) (w : World) (h : InV w x cs) :
    Calls Tryd.prog 26 #[.agg cs.toArray] w fun e w' => ∃ ds : List Value, e = .returned (.agg ds.toArray) ∧ InS (fun b => w.heap.size ≤ b) w' x ds ∧ Below w.heap.size w w' := by
  have HF := Lib.hid fun cs (W : World) (hi : InV W (wrp x) cs) => pfindS (wrp x) (ok_wrp hx) ⟨#[]⟩ cs W hi
  rw [find_wrp] at HF
  have HW := Lib.hid fun (W : World) (b b2 : Nat) (hi : InV W x cs) (hb : Box W b cs.toArray) (hn : W.heap[b2]? = some (.cells #[.string ⟨#[]⟩] 9 (0, 0))) => in_wrp hi hb hn
  have HI := Lib.hid fun (W : World) (hb : Below w.heap.size w W) => InV_next hb x cs h
  have F4 := Lib.hid (four_at w)
  have c5 := Tre.InV_shp h
  obtain ⟨k0, m0, s0, a5, l5, p5, a6, l6, p6, rfl⟩ := c5
  clear h hx
  go_enter Tryd.func26, Tryd.ntmps26
  go_wp2_with (first
    | (refine wpList_fetch _ rfl _ rfl w.heap.size _ rfl (F4.out _ _ _ _).1 rfl ?_)
    | (go_at_call 41; refine (HF.out _ _ (HW.out _ _ _ (HI.out _ (F4.out _ _ _ _).2.2.2.2.1) (F4.out _ _ _ _).2.2.1 (F4.out _ _ _ _).2.2.2.1)).mono ?_; rintro e w2 ⟨ds, rfl, hS2, hb2⟩; obtain ⟨k, m, s, a3, l3, p3, a4, l4, p4, rfl⟩ := Tre.InV_shp (InS_in _ _ hS2); obtain ⟨bz, hw2, hz2⟩ := four_next hb2; have e1 := Lib.hid (InS_one (InS_in _ _ hS2)); have HS2 := Lib.hid (InS_upd (S' := fun b => w.heap.size + 4 ≤ b) (w' := w2) (fun b hb _ => ⟨rfl, by rw [(F4.out _ _ _ _).2.2.2.2.2] at hb; exact hb⟩) _ _ hS2); clear hS2 hb2)
    | (refine wpList_keep _ rfl _ _ rfl w.heap.size w (hw2.alloc (by omega) _) (w.heap.size + 1) (by omega) _ _ rfl rfl ((Below.heap_alloc _ _ _ (by omega)).trans bz) rfl rfl (by simpa using e1.out) ?_; intro w9 bx9 hb9 hk9 hs9; clear hs9))
  refine bodyPost_ret (results_val rfl _ _ _ _ rfl bx9 rfl) rfl ?_
  refine ⟨_, rfl, InS_upd (fun b hb hl => ⟨?_, by omega⟩) _ _ HS2.out, hb9⟩
  exact (hk9 b (by omega)).trans (Below.heap_alloc _ _ _ hl)
end Go.Proofs.YtfefbfohenmajaaDoor.Ptr
