/- Contracts of route's cut and Split. Conditions: as each theorem states. -/
import Derived.Test.YtmlpgfjopkobbaaRouC
namespace Go.Proofs.Ytmlpgfjopkobbaa.Rou
open Go.RowKit Go.Lib Go.Proofs.Ytmlpgfjopkobbaa.Byt

/-- Block g holds the 32 strings l. -/
def Sa (w : World) (g : Nat) (l : List ByteArray) : Prop := w.heap[g]? = some (.cells (l.map Value.string).toArray 37 (0, 0))
section
variable {w w' : World} {g : Nat} {l : List ByteArray}
theorem Sa.lt (h : Sa w g l) : g < w.heap.size := by
  rcases Nat.lt_or_ge g w.heap.size with h' | h'
  · exact h'
  · unfold Sa at h; simp [Array.getElem?_eq_none h'] at h
theorem Sa.next (h : Sa w g l) (hb : Below w.heap.size w w') : Sa w' g l := (hb.block g h.lt).trans h
theorem Sa.drewN (h : Sa w g l) (n : Nat) : Sa (w.drewN n) g l := h
theorem Sa.cell (h : Sa w g l) {j : Nat} (hj : j < l.length) : w.cell? ⟨g, j, none⟩ = some (.string (l.getD j ⟨#[]⟩)) := by
  rw [Lib.cell_of_heap h]
  simp [hj]
theorem Sa.free (h : Sa w g l) (j : Nat) : w.frozen? ⟨g, j, none⟩ = false := Lib.frozen_of_heap h j
theorem Sa.set (h : Sa w g l) (j : Nat) (x : ByteArray) : Sa (w.setCell ⟨g, j, none⟩ (.string x)) g (l.set j x) := by
  have := heap_setCell_same w g j _ _ (.string x) h
  unfold Sa
  rw [this, List.setIfInBounds_toArray, List.map_set]
theorem Sa.row (h : Sa w g l) (k cap : Nat) (hk : k ≤ l.length) : Strs.Row w (.slice (some ⟨g, 0, none⟩) k cap) (l.take k) := by
  have hl : (l.take k).length = k := by rw [List.length_take]; omega
  refine .inr ⟨g, 0, cap, by rw [hl], fun j hj => ?_⟩
  rw [Nat.zero_add, h.cell (by omega)]
  have : (l.take k).getD j ⟨#[]⟩ = l.getD j ⟨#[]⟩ := by
    rw [List.getD_eq_getElem?_getD, List.getD_eq_getElem?_getD, List.getElem?_take_of_lt (by omega)]
  rw [this]
end
/-- The parts, as texts. -/
def psB (l : List UInt8) : List ByteArray := (ps l).map mk
def prB (s : ByteArray) : List ByteArray := (prt s.data.toList).map mk
theorem psB_len (l : List UInt8) : (psB l).length = l.count 47 + 1 := by unfold psB; rw [List.length_map, ps_len]
theorem psB_one {l : List UInt8} (h : (47 : UInt8) ∉ l) : psB l = [mk l] := by unfold psB; rw [ps_one l h]; rfl
theorem psB_cut {a b : List UInt8} (h : (47 : UInt8) ∉ a) : psB (a ++ 47 :: b) = mk a :: psB b := by unfold psB; rw [ps_cut a b h]; rfl
/-- The first k of the parts, and room for the rest. -/
def hf (L : List ByteArray) (k : Nat) : List ByteArray := L.take k ++ List.replicate (32 - k) ⟨#[]⟩
theorem hf_len {L : List ByteArray} {k : Nat} (h : k ≤ L.length) (h2 : k ≤ 32) : (hf L k).length = 32 := by
  unfold hf; rw [List.length_append, List.length_take, List.length_replicate]; omega
theorem hf_set {L : List ByteArray} {k : Nat} {x : ByteArray} {r : List ByteArray} (h : L.drop k = x :: r) (h2 : k < 32) : (hf L k).set k x = hf L (k + 1) := by
  have hk : k < L.length := by
    rcases Nat.lt_or_ge k L.length with q | q
    · exact q
    · rw [List.drop_eq_nil_of_le q] at h; cases h
  have hx : L[k]? = some x := by
    have := congrArg (fun l => l[0]?) h
    simpa using this
  have hl : (L.take k).length = k := by rw [List.length_take]; omega
  unfold hf
  rw [show 32 - k = (32 - (k + 1)) + 1 by omega, List.replicate_succ, List.set_append_right _ _ (by omega), hl, Nat.sub_self, List.set_cons_zero, List.take_add_one, hx]
  simp
theorem hf_zero (L : List ByteArray) : hf L 0 = List.replicate 32 ⟨#[]⟩ := rfl
theorem hf_take {L : List ByteArray} {k : Nat} (h : k ≤ L.length) : (hf L k).take k = L.take k := by
  unfold hf
  rw [List.take_append_of_le_length (by rw [List.length_take]; omega), List.take_take, Nat.min_self]
theorem sa_new (w : World) (W : World) (h : W = w.alloc (.cells (List.replicate 32 (Value.string ⟨#[]⟩)).toArray 37)) : Sa W w.heap.size (List.replicate 32 ⟨#[]⟩) := by
  subst h
  unfold Sa
  rw [heap_alloc_new, List.map_replicate]
/-- 'room[:n:n]'. -/
theorem slice_room (g n : Nat) (h : n ≤ 32) (W : World) : (Instr.sliceAt 37 (.pointer (some ⟨g, 0, none⟩)) none (some (.int .i64 (n : Int))) (some (.int .i64 (n : Int)))).run Try.prog W = .ok (.slice (some ⟨g, 0, none⟩) n n) W := by
  have hal : Try.prog.arrayLen 37 = 32 := by kernel_rfl
  have hel : Try.prog.elem 37 = 9 := by kernel_rfl
  obtain ⟨i0, hi, _, hz1, _⟩ := info_parts Strs.info16
  rw [run_sliceAt_array_hm W 37 ⟨g, 0, none⟩ (by kernel_rfl) .i64 .i64 (n : Int) (n : Int) (by omega) (by omega) (by rw [hal]; omega), hel]
  have hs : (sizeOf 9).run Try.prog W = .ok 1 W := by simp [sizeOf, typeInfo, hi, hz1]
  rw [hs]
  simp only [Result.andThen, slicedAt, Nat.zero_mul, Int.toNat_natCast, Nat.sub_zero]
  rw [add_at g 0]
  split <;> rfl
set_option maxRecDepth 100000 in
set_option maxHeartbeats 2000000 in
theorem cut_any (s : ByteArray) (w : World) (hrow : rowB s = true) :
    Calls Try.prog 19 #[.string s] w fun e w' => ∃ v, e = .returned v ∧ Strs.Row w' v (prB s) ∧ Cp v ∧ Below w.heap.size w w' := by
  obtain ⟨l, hl, hl2, hl3⟩ := row_iff.1 hrow
  have hsz : s.size = l.length + 1 := by rw [← len_dt, hl]; rfl
  have c1 : ∀ w, (Instr.slice 9 (.string s) (some (.int .i64 1)) none none).run Try.prog w = .ok (.string (cutB s 1 l.length)) w := sl_from s 1 l.length (by omega)
  have e1 : cutB s 1 l.length = mk l := by unfold cutB mk; rw [hl]; simp
  rw [e1] at c1
  have hb0 : Below w.heap.size w (w.alloc (.cells (List.replicate 32 (Value.string ⟨#[]⟩)).toArray 37)) := (Below.refl _ _).alloc (Nat.le_refl _) _
  have HB0 := Lib.hid hb0
  clear hb0
  obtain ⟨L, hL⟩ : ∃ L, prB s = L := ⟨_, rfl⟩
  have hL32 : L.length ≤ 32 := by rw [← hL]; unfold prB; rw [List.length_map]; exact prt_len hrow
  by_cases h0 : l = []
  · subst h0
    obtain rfl : s = ⟨#[47]⟩ := by rw [← mk_data s, hl]; rfl
    obtain rfl : L = [] := by rw [← hL]; rfl
    rw [hL]
    have hsl : ∀ W, (Instr.sliceAt 37 (.pointer (some ⟨w.heap.size, 0, none⟩)) none (some (.int .i64 0)) (some (.int .i64 0))).run Try.prog W = .ok (.slice (some ⟨w.heap.size, 0, none⟩) 0 0) W := fun W => slice_room w.heap.size 0 (by decide) W
    clear hrow hl hl2 hl3 hsz e1 hL hL32
    go_enter Try.func19, Try.ntmps19
    go_wp2_with fail
    go_loopw [4, 5, 6] (fun a b c wr => a = .int .i64 0 ∧ (∃ r, b = .string r) ∧ c = .bool false ∧ Hid (Below w.heap.size w wr)) (fun _ _ _ _ => 0)
    case atStart => exact ⟨rfl, ⟨_, rfl⟩, rfl, HB0⟩
    case round =>
      obtain ⟨rfl, ⟨r, rfl⟩, rfl, HB⟩ := hrel
      go_wp2_with fail
      go_ret
      exact ⟨_, rfl, .inl ⟨rfl, _, _, rfl⟩, ⟨_, _, _, rfl, Nat.le_refl _⟩, HB.out⟩
  · have hLp : L = psB l := by rw [← hL]; unfold prB psB; rw [hl, prt_cons _ h0]
    have hne : s ≠ ⟨#[47]⟩ := by
      rintro rfl
      have : ([47] : List UInt8) = 47 :: l := hl
      exact h0 ((List.cons_inj_right _).1 this).symm
    have hn := Byt.str_neq hne
    rw [Byt.toList_data ⟨#[47]⟩] at hn
    change (s.toList == [47]) = false at hn
    have hx : l.length < 255 := by omega
    rw [hL]
    have HS := Lib.hid (show psB l = L.drop 0 by rw [hLp]; rfl)
    clear hrow hl hl2 hl3 hsz e1 hL hLp hne
    go_enter Try.func19, Try.ntmps19
    go_wp2_with fail
    go_loopw [4, 5, 6] (fun a b c wr => ∃ (k : Nat) (r : List UInt8) (m : Bool), a = .int .i64 (k : Int) ∧ b = .string (mk r) ∧ c = .bool m ∧ k ≤ L.length ∧ r.length < 256 ∧ Hid (if m = true then psB r = L.drop k else k = L.length) ∧ Hid (Sa wr w.heap.size (hf L k)) ∧ Hid (Below w.heap.size w wr)) (fun a _ _ _ => L.length - (RowKit.intOf a).toNat)
    case atStart => exact ⟨0, l, true, rfl, rfl, rfl, Nat.zero_le _, by omega, HS, Lib.hid (sa_new w _ rfl), HB0⟩
    case round =>
      obtain ⟨k, r, m, rfl, rfl, rfl, hk, hr, HM, HA, HB⟩ := hrel
      cases m with
      | false =>
        have hke : k = L.length := HM.out
        subst hke
        have HR := Lib.hid (HA.out.row L.length L.length (by rw [hf_len (Nat.le_refl _) hL32]; omega))
        rw [hf_take (Nat.le_refl _), List.take_length] at HR
        clear HM HA hn HS c1
        have hsl := fun W => slice_room w.heap.size L.length hL32 W
        go_wp2_with fail
        go_ret
        exact ⟨_, rfl, HR.out, ⟨_, _, _, rfl, Nat.le_refl _⟩, HB.out⟩
      | true =>
        have hm : psB r = L.drop k := HM.out
        have hlt : k < L.length := by
          have := congrArg List.length hm
          rw [psB_len, List.length_drop] at this
          omega
        have cl := HA.out.cell (j := k) (by rw [hf_len hk (by omega)]; omega)
        have fr := HA.out.free k
        have d1 : ∀ n, (wr.drewN n).cell? ⟨w.heap.size, k, none⟩ = some (.string ((hf L k).getD k ⟨#[]⟩)) := fun n => cl
        have d2 : ∀ n, (wr.drewN n).frozen? ⟨w.heap.size, k, none⟩ = false := fun n => fr
        clear cl fr
        generalize (hf L k).getD k ⟨#[]⟩ = old at *
        by_cases h47 : (47 : UInt8) ∈ r
        · obtain ⟨a, b, rfl, ha⟩ := parted r h47
          have hsz2 : (mk (a ++ 47 :: b)).size ≤ 281474976710656 := by rw [sz_mk]; omega
          have HC := Lib.hid fun W => scut_yes (mk (a ++ 47 :: b)) hsz2 a b (dt_mk _) ha W
          rw [psB_cut ha] at hm
          have HT := Lib.hid (hf_set hm.symm (by omega))
          have HD := Lib.hid (show psB b = L.drop (k + 1) by
            have := congrArg (List.drop 1) hm
            rw [List.drop_drop] at this
            simpa [Nat.add_comm] using this)
          have hbl : b.length < 256 := by rw [List.length_append, List.length_cons] at hr; omega
          clear hm hr h47 hsz2 HM HS c1 hn
          generalize mk (a ++ 47 :: b) = t at *
          go_wp2_with (go_at_call 30; (with_reducible refine (HC.out _).mono ?_); rintro e w2 ⟨rfl, n2, rfl⟩)
          go_roundw
          case rel => exact ⟨k + 1, b, true, by go_num, rfl, rfl, by omega, hbl, Lib.hid (by rw [if_pos rfl]; exact HD.out), Lib.hid (by rw [← HT.out]; exact (HA.out.drewN n2).set k (mk a)), Lib.hid (below_set (below_drewN HB.out) (Nat.le_refl _) k _)⟩
          case measure => simp [RowKit.intOf]; omega
        · have HC := Lib.hid fun W => scut_no (mk r) (by rw [dt_mk]; exact h47) W
          rw [psB_one h47] at hm
          have HT := Lib.hid (hf_set hm.symm (by omega))
          have hke : k + 1 = L.length := by
            have := congrArg List.length hm
            rw [List.length_drop] at this
            simp only [List.length_cons, List.length_nil] at this
            omega
          have HKE := Lib.hid hke
          clear hm hr h47 hke HM HS c1 hn
          generalize mk r = t at *
          go_wp2_with (go_at_call 30; (with_reducible refine (HC.out _).mono ?_); rintro e w2 ⟨rfl, n2, rfl⟩)
          go_roundw
          case rel => exact ⟨k + 1, [], false, by go_num, rfl, rfl, by omega, by simp, Lib.hid (by rw [if_neg (by decide)]; exact HKE.out), Lib.hid (by rw [← HT.out]; exact (HA.out.drewN n2).set k t), Lib.hid (below_set (below_drewN HB.out) (Nat.le_refl _) k _)⟩
          case measure => simp [RowKit.intOf]; omega

/-! ### Split, Is, Pattern, Prefix -/
theorem rowB_size {s : ByteArray} (h : rowB s = true) : s.size ≤ 255 := by
  obtain ⟨l, hl, hl2, _⟩ := row_iff.1 h
  rw [← len_dt, hl, List.length_cons]; omega
theorem prB_len {s : ByteArray} (h : rowB s = true) : (prB s).length ≤ 32 := by unfold prB; rw [List.length_map]; exact prt_len h
theorem prB_size {s : ByteArray} (h : rowB s = true) : ∀ x ∈ prB s, x.size ≤ 255 := by
  obtain ⟨l, hl, hl2, _⟩ := row_iff.1 h
  intro x hx
  unfold prB at hx
  obtain ⟨p, hp, rfl⟩ := List.mem_map.1 hx
  rw [sz_mk]
  rw [hl] at hp
  by_cases h0 : l = []
  · subst h0; cases hp
  · rw [prt_cons _ h0] at hp
    have := ps_size l p hp
    omega
/-- The parts of a row; none of another text. -/
def spB (s : ByteArray) : List ByteArray := if rowB s = true then prB s else []
theorem split_any (s : ByteArray) (w : World) (hs : s.size ≤ 140737488355328) :
    Calls Try.prog 7 #[.string s] w fun e w' => ∃ v, e = .returned (.tuple #[v, .bool (rowB s)]) ∧ Strs.Row w' v (spB s) ∧ Cp v ∧ Below w.heap.size w w' := by
  have HW := Lib.hid fun W => row_any s W hs
  cases hr : rowB s with
  | false =>
    have hq : spB s = [] := by unfold spB; rw [hr]; rfl
    rw [hr] at HW
    rw [hq]
    clear hr hq
    go_enter Try.func7, Try.ntmps7
    go_wp2_with (go_at_call 18; (with_reducible refine (HW.out _).mono ?_); rintro e w1 ⟨rfl, rfl⟩)
    go_ret2
    exact ⟨_, rfl, Strs.Row.nil _, ⟨_, _, _, rfl, Nat.le_refl _⟩, Below.refl _ _⟩
  | true =>
    have hq : spB s = prB s := by unfold spB; rw [if_pos hr]
    have HCL := Lib.hid fun W => clone_str s W (by omega)
    have HC := Lib.hid fun W => cut_any s W hr
    rw [hr] at HW
    rw [hq]
    generalize prB s = L at *
    clear hr hq
    go_enter Try.func7, Try.ntmps7
    go_wp2_with (first
      | (go_at_call 18; (with_reducible refine (HW.out _).mono ?_); rintro e w1 ⟨rfl, rfl⟩)
      | (go_at_call 20; (with_reducible refine (HCL.out _).mono ?_); rintro e w2 ⟨rfl, hb2⟩)
      | (go_at_call 19; (with_reducible refine (HC.out _).mono ?_); rintro e w3 ⟨v, rfl, hrw, hcp, hb3⟩))
    go_ret2
    exact ⟨_, rfl, hrw, hcp, hb2.trans (hb3.mono hb2.size)⟩

theorem map_inj : ∀ (a b : List (List UInt8)), (a.map mk = b.map mk) ↔ a = b := fun a b => ⟨fun h => by
  have := congrArg (List.map fun x : ByteArray => x.data.toList) h
  rw [List.map_map, List.map_map] at this
  rw [← List.map_id a, ← List.map_id b]
  exact (List.map_congr_left fun x _ => (dt_mk x).symm).trans (this.trans (List.map_congr_left fun x _ => dt_mk x)), fun h => by rw [h]⟩
theorem all_mk (f : List UInt8 → Bool) (g : ByteArray → Bool) (h : ∀ p, g (mk p) = f p) (l : List (List UInt8)) : (l.map mk).all g = l.all f := by
  rw [List.all_map]
  exact congrArg (List.all l) (funext h)
theorem wdB_mk (p : List UInt8) : wdB (mk p) = wd p := by unfold wdB; rw [dt_mk]
theorem mk_eq {p q : List UInt8} : mk p = mk q ↔ p = q := ⟨fun h => by have := congrArg (fun x : ByteArray => x.data.toList) h; simpa [dt_mk] using this, fun h => by rw [h]⟩
theorem sgB_mk (p : List UInt8) : sgB (mk p) = sg p := by
  unfold sgB sg
  rw [wdB_mk]
  have : decide (mk p = ⟨#[42]⟩) = decide (p = [42]) := by
    rw [Bool.eq_iff_iff, decide_eq_true_eq, decide_eq_true_eq]
    exact mk_eq (q := [42])
  rw [this]
theorem innB_mk (l : List (List UInt8)) : innB (l.map mk) = (inn l).map mk := by
  unfold innB inn
  rw [List.getLast?_map]
  by_cases h : l.getLast? = some [42, 42]
  · rw [if_pos h, h, if_pos (show Option.map mk (some [42, 42]) = some ⟨#[42, 42]⟩ from rfl), List.map_dropLast]
  · rw [if_neg h, if_neg]
    intro q
    obtain ⟨p, hp, hp2⟩ := Option.map_eq_some_iff.1 q
    exact h (by rw [hp]; exact congrArg some (mk_eq (q := [42, 42]).1 hp2))
def isB (s : ByteArray) : Bool := isR s.data.toList
def patB (s : ByteArray) : Bool := patR s.data.toList
def preB (p s : ByteArray) : Bool := preR p.data.toList s.data.toList
theorem isB_is (s : ByteArray) : isB s = (rowB s && (prB s).all wdB) := by
  unfold prB
  rw [all_mk wd wdB wdB_mk]; rfl
theorem patB_is (s : ByteArray) : patB s = (rowB s && (innB (prB s)).all sgB) := by
  unfold prB
  rw [innB_mk, all_mk sg sgB sgB_mk]; rfl
theorem innB_len (l : List ByteArray) : (innB l).length ≤ l.length := by
  unfold innB
  split
  · rw [List.length_dropLast]; omega
  · exact Nat.le_refl _
theorem innB_mem (l : List ByteArray) : ∀ x ∈ innB l, x ∈ l := by
  unfold innB
  intro x hx
  split at hx
  · exact List.dropLast_subset _ hx
  · exact hx
theorem pre_is (a b : List (List UInt8)) : a.isPrefixOf b = (decide (a.length ≤ b.length) && decide (a.map mk = (b.map mk).take a.length)) := by
  rw [Bool.eq_iff_iff, Bool.and_eq_true, decide_eq_true_eq, decide_eq_true_eq, List.isPrefixOf_iff_prefix, ← List.map_take, map_inj]
  constructor
  · intro h; exact ⟨h.length_le, List.prefix_iff_eq_take.1 h⟩
  · intro h; exact List.prefix_iff_eq_take.2 h.2
theorem preB_is (p s : ByteArray) : preB p s = (rowB p && rowB s && (decide ((prB p).length ≤ (prB s).length) && decide (prB p = (prB s).take (prB p).length))) := by
  unfold preB preR
  rw [pre_is]
  have e : ∀ x : ByteArray, (prt x.data.toList).length = (prB x).length := fun x => by unfold prB; rw [List.length_map]
  rw [e, e]; rfl

theorem is_any (s : ByteArray) (w : World) (hs : s.size ≤ 140737488355328) :
    Calls Try.prog 10 #[.string s] w fun e w' => e = .returned (.bool (isB s)) ∧ Below w.heap.size w w' := by
  rw [isB_is]
  have HW := Lib.hid fun W => row_any s W hs
  cases hr : rowB s with
  | false =>
    rw [hr] at HW
    rw [Bool.false_and]
    clear hr
    go_enter Try.func10, Try.ntmps10
    go_wp2_with (go_at_call 18; (with_reducible refine (HW.out _).mono ?_); rintro e w1 ⟨rfl, rfl⟩)
    go_ret
    exact ⟨rfl, Below.refl _ _⟩
  | true =>
    have HC := Lib.hid fun W => cut_any s W hr
    have HA := Lib.hid fun (W : World) (v : Value) (h : Strs.Row W v (prB s)) => all_word (prB s) v W h (by have := prB_len hr; omega) (fun x hx => by have := prB_size hr x hx; omega)
    rw [hr] at HW
    rw [Bool.true_and]
    generalize (prB s).all wdB = R at *
    generalize prB s = L at *
    clear hr
    go_enter Try.func10, Try.ntmps10
    go_wp2_with (first
      | (go_at_call 18; (with_reducible refine (HW.out _).mono ?_); rintro e w1 ⟨rfl, rfl⟩)
      | (go_at_call 19; (with_reducible refine (HC.out _).mono ?_); rintro e w3 ⟨v, rfl, hrw, hcp, hb3⟩)
      | (go_at_call 21; (with_reducible refine (HA.out _ _ hrw).mono ?_); rintro e w1 ⟨rfl, rfl⟩))
    go_ret
    exact ⟨rfl, hb3⟩
theorem pat_any (s : ByteArray) (w : World) (hs : s.size ≤ 140737488355328) :
    Calls Try.prog 12 #[.string s] w fun e w' => e = .returned (.bool (patB s)) ∧ Below w.heap.size w w' := by
  rw [patB_is]
  have HW := Lib.hid fun W => row_any s W hs
  cases hr : rowB s with
  | false =>
    rw [hr] at HW
    rw [Bool.false_and]
    clear hr
    go_enter Try.func12, Try.ntmps12
    go_wp2_with (go_at_call 18; (with_reducible refine (HW.out _).mono ?_); rintro e w1 ⟨rfl, rfl⟩)
    go_ret
    exact ⟨rfl, Below.refl _ _⟩
  | true =>
    have HC := Lib.hid fun W => cut_any s W hr
    have hn := prB_len hr
    have HI := Lib.hid fun (W : World) (v : Value) (h : Strs.Row W v (prB s)) (hc : Cp v) => inner_any (prB s) v W h hc (by omega)
    have HA := Lib.hid fun (W : World) (v : Value) (h : Strs.Row W v (innB (prB s))) => all_single (innB (prB s)) v W h (by have := innB_len (prB s); omega) (fun x hx => by have := prB_size hr x (innB_mem _ x hx); omega)
    rw [hr] at HW
    rw [Bool.true_and]
    generalize (innB (prB s)).all sgB = R at *
    generalize innB (prB s) = L2 at *
    generalize prB s = L at *
    clear hr hn
    go_enter Try.func12, Try.ntmps12
    go_wp2_with (first
      | (go_at_call 18; (with_reducible refine (HW.out _).mono ?_); rintro e w1 ⟨rfl, rfl⟩)
      | (go_at_call 19; (with_reducible refine (HC.out _).mono ?_); rintro e w3 ⟨v, rfl, hrw, hcp, hb3⟩)
      | (go_at_call 24; (with_reducible refine (HI.out _ _ hrw hcp).mono ?_); rintro e w4 ⟨u, rfl, hru, hcu, rfl⟩)
      | (go_at_call 21; (with_reducible refine (HA.out _ _ hru).mono ?_); rintro e w1 ⟨rfl, rfl⟩))
    go_ret
    exact ⟨rfl, hb3⟩
end Go.Proofs.Ytmlpgfjopkobbaa.Rou
