/- Texts of my own, packed: TreG3. Conditions: as each theorem states. -/
import Derived.Test.YtehkiojohldlgaaGreatDoorK07
namespace Go.Proofs.YtehkiojohldlgaaGreatDoor.Tre
open Go.RowKit Go.Lib Go.Proofs.YtehkiojohldlgaaGreatDoor.Byt Go.Proofs.YtehkiojohldlgaaGreatDoor.Utf

def hdF (k : Int) (bz b1 bs bi bn tx eq nm : Bool) : Bool :=
  if k = 0 then bz && bs && (bi && bn)
  else if k = 1 then (bz || b1) && bs && (bi && bn)
  else if k = 2 then bs && (bi && bn)
  else if k = 3 then bz && tx && (bi && bn)
  else if k = 4 then bn && bz && bs && true
  else if k = 5 then eq && nm && bz && bs && true
  else false
theorem hdF_is (k n : Int) (s : ByteArray) (l : List Vt) (ns : List ByteArray) : hdB k n s l ns 1 = hdF k (n == 0) (n == 1) (s.toList == []) ((l.length : Int) == 0) ((ns.length : Int) == 0) (textB s) ((ns.length : Int) == (l.length : Int)) (nmB ns) := by
  have e1 : decide (n = 0) = (n == 0) := by rw [Bool.eq_iff_iff, decide_eq_true_eq, beq_iff_eq]
  have e2 : decide (n = 0 ∨ n = 1) = (n == 0 || n == 1) := by rw [Bool.eq_iff_iff, decide_eq_true_eq, Bool.or_eq_true, beq_iff_eq, beq_iff_eq]
  have e3 : noneB s = (s.toList == []) := by
    unfold noneB
    rw [Bool.eq_iff_iff, decide_eq_true_eq, beq_iff_eq, Byt.toList_data]
    constructor
    · rintro rfl; rfl
    · intro q; exact ByteArray.ext (Array.toList_inj.1 q)
  have e4 : ∀ {α : Type} (l : List α), l.isEmpty = ((l.length : Int) == 0) := by
    intro α l
    rw [Bool.eq_iff_iff, List.isEmpty_iff_length_eq_zero, beq_iff_eq]
    omega
  have e5 : decide (ns.length = l.length) = ((ns.length : Int) == (l.length : Int)) := by rw [Bool.eq_iff_iff, decide_eq_true_eq, beq_iff_eq]; omega
  unfold hdB hdF scal
  rw [e1, e2, e3, e4, e4, e5]
  rfl

set_option maxHeartbeats 8000000 in
set_option maxRecDepth 100000 in
theorem fields_any (v : Vt) (cs : List Value) (w : World) (h : InV w v cs) (hT : Tabs w) (hv : okV v) :
    Calls Tryz.prog 92 #[.agg cs.toArray] w fun e w' => e = .returned (.bool (hdB v.k v.n v.s v.l v.ns 1)) ∧ Below w.heap.size w w' := by
  obtain ⟨a, cap, c4, rfl, _, hr⟩ := (InV_iff w v cs).1 h
  rw [hdF_is]
  have HNM := Lib.hid fun (W : World) (hb : Below w.heap.size w W) => names_any v.ns c4 W (hr.next hb) (hT.next hb) hv.2.2.2.2.1 hv.2.2.2.2.2
  have HTX := Lib.hid fun (W : World) (hb : Below w.heap.size w W) => istext_any v.s W (hT.next hb) hv.2.2.1
  obtain ⟨a2, cap2, rfl, _⟩ := hr.open_
  clear h hr hT hv
  generalize v.l.length = ll at *
  generalize v.ns.length = nl at *
  generalize textB v.s = tx at *
  generalize nmB v.ns = nm at *
  generalize v.k = k at *
  generalize v.n = n at *
  generalize v.s = s at *
  generalize h1 : (n == 0) = bz
  generalize h2 : (n == 1) = b1
  generalize h3 : (s.toList == []) = bs
  generalize h4 : ((ll : Int) == 0) = bi
  generalize h5 : ((nl : Int) == 0) = bn
  generalize h6 : ((nl : Int) == (ll : Int)) = eq
  have hb0 : ∀ o, Below w.heap.size w (w.alloc o) := fun o => (Below.refl _ _).alloc (Nat.le_refl _) o
  have HB0 := Lib.hid hb0
  clear hb0
  by_cases k0 : k = 0
  · subst k0
    cases bi <;> cases bz <;> cases bs
    all_goals
      clear HNM HTX
      go_enter Tryz.func92, Tryz.ntmps92
      go_wp2_with fail
      go_ret
      exact ⟨rfl, HB0.out _⟩
  by_cases k1 : k = 1
  · subst k1
    cases bi <;> cases bz <;> cases b1 <;> cases bs
    all_goals
      clear HNM HTX
      go_enter Tryz.func92, Tryz.ntmps92
      go_wp2_with fail
      go_ret
      exact ⟨rfl, HB0.out _⟩
  by_cases k2 : k = 2
  · subst k2
    cases bi <;> cases bs
    all_goals
      clear HNM HTX
      go_enter Tryz.func92, Tryz.ntmps92
      go_wp2_with fail
      go_ret
      exact ⟨rfl, HB0.out _⟩
  by_cases k3 : k = 3
  · subst k3
    cases bi <;> cases bz <;> cases tx
    all_goals
      clear HNM
      go_enter Tryz.func92, Tryz.ntmps92
      go_wp2_with (go_at_call 121; refine (HTX.out _ (HB0.out _)).mono ?_; rintro e w1 ⟨rfl, hb1⟩)
      go_ret
      first | exact ⟨rfl, HB0.out _⟩ | exact ⟨rfl, (HB0.out _).trans (hb1.mono (HB0.out _).size)⟩
  by_cases k4 : k = 4
  · subst k4
    cases bi <;> cases bz <;> cases bs <;> cases bn
    all_goals
      clear HNM HTX
      go_enter Tryz.func92, Tryz.ntmps92
      go_wp2_with fail
      go_ret
      exact ⟨rfl, HB0.out _⟩
  by_cases k5 : k = 5
  · subst k5
    cases bi <;> cases bz <;> cases bs <;> cases eq
    all_goals
      clear HTX
      go_enter Tryz.func92, Tryz.ntmps92
      go_wp2_with (go_at_call 122; refine (HNM.out _ (HB0.out _)).mono ?_; rintro e w1 ⟨rfl, hb1⟩)
      go_ret
      first | exact ⟨by simp [hdF], HB0.out _⟩ | exact ⟨by simp [hdF], (HB0.out _).trans (hb1.mono (HB0.out _).size)⟩
  have f0 : (k == 0) = false := beq_eq_false_iff_ne.2 k0
  have f1 : (k == 1) = false := beq_eq_false_iff_ne.2 k1
  have f2 : (k == 2) = false := beq_eq_false_iff_ne.2 k2
  have f3 : (k == 3) = false := beq_eq_false_iff_ne.2 k3
  have f4 : (k == 4) = false := beq_eq_false_iff_ne.2 k4
  have f5 : (k == 5) = false := beq_eq_false_iff_ne.2 k5
  rw [show hdF k bz b1 bs bi bn tx eq nm = false by unfold hdF; rw [if_neg k0, if_neg k1, if_neg k2, if_neg k3, if_neg k4, if_neg k5]]
  clear k0 k1 k2 k3 k4 k5
  cases bi
  all_goals
    clear HNM HTX
    go_enter Tryz.func92, Tryz.ntmps92
    go_wp2_with fail
    go_ret
    exact ⟨rfl, HB0.out _⟩
end Go.Proofs.YtehkiojohldlgaaGreatDoor.Tre

namespace Go.Proofs.YtehkiojohldlgaaGreatDoor.Tre
open Go.RowKit Go.Lib Go.Proofs.YtehkiojohldlgaaGreatDoor.Byt Go.Proofs.YtehkiojohldlgaaGreatDoor.Utf

theorem wi_parts (v : Vt) (m : Int) : wi v m = (hdB v.k v.n v.s v.l v.ns m && wiL v.l (m - 1)) := by cases v; rw [wi]; rfl
theorem hd_m (k n : Int) (s : ByteArray) (l : List Vt) (ns : List ByteArray) (m : Int) : hdB k n s l ns m = (hdB k n s l ns 1 && (!decide (k = 4 ∨ k = 5) || decide (1 ≤ m))) := by
  unfold hdB
  by_cases k0 : k = 0
  · subst k0; simp
  by_cases k1 : k = 1
  · subst k1; simp
  by_cases k2 : k = 2
  · subst k2; simp
  by_cases k3 : k = 3
  · subst k3; simp
  by_cases k4 : k = 4
  · subst k4; simp
  by_cases k5 : k = 5
  · subst k5; simp
  simp [k0, k1, k2, k3, k4, k5]
theorem hd_leaf {k n : Int} {s : ByteArray} {l : List Vt} {ns : List ByteArray} (h : hdB k n s l ns 1 = true) (hk : ¬ (k = 4 ∨ k = 5)) : l = [] := by
  unfold hdB scal at h
  have k4 : ¬ k = 4 := fun q => hk (.inl q)
  have k5 : ¬ k = 5 := fun q => hk (.inr q)
  simp only [if_neg k4, if_neg k5] at h
  have key : l.isEmpty = true := by
    split at h
    · simp only [Bool.and_eq_true] at h; exact h.2.1
    · split at h
      · simp only [Bool.and_eq_true] at h; exact h.2.1
      · split at h
        · simp only [Bool.and_eq_true] at h; exact h.2.1
        · split at h
          · simp only [Bool.and_eq_true] at h; exact h.2.1
          · cases h
  exact List.isEmpty_iff.1 key
theorem wiL_at (l : List Vt) (m : Int) : wiL l m = true ↔ ∀ i, i < l.length → wi (l.getD i V0) m = true := by
  rw [wiL_all, List.all_eq_true]
  constructor
  · intro h i hi; exact h _ (mem_get hi)
  · intro h x hx
    obtain ⟨i, hi, rfl⟩ := List.getElem_of_mem hx
    have := h i hi
    rwa [List.getD_eq_getElem?_getD, List.getElem?_eq_getElem hi] at this
theorem wiL_stop {l : List Vt} {m : Int} {i : Nat} (hi : i < l.length) (hf : wi (l.getD i V0) m = false) : wiL l m = false := by
  cases hs : wiL l m with
  | false => rfl
  | true => rw [(wiL_at l m).1 hs i hi] at hf; cases hf

/-- The same under a guard that lets it by. -/
theorem wpList_fetch_g {ops : Array Oper} {rest : List Oper} {o : Oper} {a : Act} {Q : Exit → Act → World → Prop} (W : World) (hw : Region.wanted o (yielded ops a.tmps) = true) (x : Operand) (ho : o.op = .load 26 x) (g : Nat) (cs : Array Value)
    (hx : a.eval x = .pointer (some ⟨g, 0, none⟩)) (hk : Box W g cs) (h5 : cs.size = 5)
    (h : wpList Tryz.prog ops Q rest (a.put o.dst (.agg cs)) W) : wpList Tryz.prog ops Q (o :: rest) a W :=
  wpList_step fun _ hK => by
    rw [if_pos hw]
    exact wp_load_row _ x ho g hx _ cs _ _ hk Tryz.underlying26 rfl (by rw [infoV, h5]) (hK _ _ h)
set_option maxHeartbeats 2000000 in
set_option maxRecDepth 100000 in
theorem pwithin_any (v : Vt) (m : Int) (hm : 0 ≤ m ∧ m ≤ 64) (cs : List Value) (w : World) (h : InV w v cs) (hT : Tabs w) (hv : okV v)
    (ih : ∀ x ∈ v.l, ∀ m : Int, 0 ≤ m ∧ m ≤ 64 → ∀ cs w, InV w x cs → Tabs w → Calls Tryz.prog 51 #[.agg cs.toArray, .int .i64 m] w fun e w' => e = .returned (.bool (wi x m)) ∧ Below w.heap.size w w') :
    Calls Tryz.prog 51 #[.agg cs.toArray, .int .i64 m] w fun e w' => e = .returned (.bool (wi v m)) ∧ Below w.heap.size w w' := by
  have HFR := Lib.hid fun (W : World) (hb : Below w.heap.size w W) => fields_any v cs W (InV_next hb v cs h) (hT.next hb) hv
  have HNS := Lib.hid fun (W : World) (hb : Below w.heap.size w W) => nests_any v cs W (InV_next hb v cs h)
  obtain ⟨a, cap, c4, rfl, hit, _⟩ := (InV_iff w v cs).1 h
  have HIT := Lib.hid hit
  have HIH := Lib.hid ih
  have HT := Lib.hid hT
  have hC := wi_parts v m
  rw [hd_m] at hC
  have hleaf := hd_leaf (k := v.k) (n := v.n) (s := v.s) (l := v.l) (ns := v.ns)
  have hmx : v.l.length ≤ 9223372036854775807 := by have := hv.2.2.2.1; omega
  clear hit ih h hT hv
  generalize hdB v.k v.n v.s v.l v.ns 1 = F at *
  have hN : decide (v.k = 4 ∨ v.k = 5) = false → ¬ (v.k = 4 ∨ v.k = 5) := fun q => of_decide_eq_false q
  generalize decide (v.k = 4 ∨ v.k = 5) = N at *
  generalize v.l = l at *
  generalize wi v m = C at *
  generalize v.k = k at *
  generalize v.n = n at *
  generalize v.s = s at *
  have B0 := Lib.hid fun o : Obj => (Below.refl w.heap.size w).alloc (Nat.le_refl _) o
  cases F with
  | false =>
    rw [Bool.false_and, Bool.false_and] at hC
    subst hC
    clear HNS HIT HIH HT hleaf hN
    go_enter Tryz.func51, Tryz.ntmps51
    go_wp2_with (first
      | (refine wpList_fetch _ rfl _ rfl w.heap.size _ rfl (box_new _ _) rfl ?_)
      | (go_at_call 92; refine (HFR.out _ (B0.out _)).mono ?_; rintro e w2 ⟨rfl, hb2⟩))
    go_ret
    exact ⟨rfl, (box_after hb2).2⟩
  | true =>
    rw [Bool.true_and] at hC
    by_cases hz : N = true ∧ m = 0
    · obtain ⟨rfl, rfl⟩ := hz
      have : C = false := by rw [hC]; simp
      subst this
      clear hC HIT HIH HT hleaf hN
      go_enter Tryz.func51, Tryz.ntmps51
      go_wp2_with (first
        | (refine wpList_fetch _ rfl _ rfl w.heap.size _ rfl (box_new _ _) rfl ?_)
        | (go_at_call 92; refine (HFR.out _ (B0.out _)).mono ?_; rintro e w2 ⟨rfl, hb2⟩; have bx2 := (box_after hb2).1; have hb3 := (box_after hb2).2)
        | (refine wpList_fetch_g _ (by rfl) _ rfl w.heap.size _ rfl bx2 rfl ?_)
        | (go_at_call 93; refine (HNS.out _ hb3).mono ?_; rintro e w4 ⟨rfl, hb4⟩))
      go_ret
      exact ⟨rfl, next hb3 hb4⟩
    · have hP : ∀ i, i < l.length → 1 ≤ m := by
        intro i hi
        cases N with
        | true => have : ¬ m = 0 := fun q => hz ⟨rfl, q⟩; omega
        | false => rw [hleaf rfl (hN rfl)] at hi; simp at hi
      have hC2 : C = wiL l (m - 1) := by
        rw [hC]
        cases N with
        | true => have : ¬ m = 0 := fun q => hz ⟨rfl, q⟩; simp; intro; omega
        | false => simp
      have HP := Lib.hid hP
      have HC := Lib.hid hC2
      have hN0 : (N = true ∧ (m == 0) = false) ∨ N = false := by
        cases N with
        | true => exact .inl ⟨rfl, by rw [beq_eq_false_iff_ne]; exact fun q => hz ⟨rfl, q⟩⟩
        | false => exact .inr rfl
      clear hC hleaf hN hz hP hC2
      rcases hN0 with ⟨rfl, m0⟩ | rfl
      all_goals
        go_enter Tryz.func51, Tryz.ntmps51
        go_wp2_with (first
          | (refine wpList_fetch _ rfl _ rfl w.heap.size _ rfl (box_new _ _) rfl ?_)
          | (go_at_call 92; refine (HFR.out _ (B0.out _)).mono ?_; rintro e w2 ⟨rfl, hb2⟩; have bx2 := (box_after hb2).1; have hb3 := (box_after hb2).2)
          | (refine wpList_fetch_g _ (by rfl) _ rfl w.heap.size _ rfl bx2 rfl ?_)
          | (go_at_call 93; refine (HNS.out _ hb3).mono ?_; rintro e w4 ⟨rfl, hb4⟩; have bx4 := Box.next bx2 hb4 (Box.lt bx2); have y4 := Box.cell bx4 3; simp at y4))
        have hb5 := next hb3 hb4
        go_loopw [21] (fun x wr => ∃ i : Nat, x = .int .i64 (i : Int) ∧ i ≤ l.length ∧ Below w.heap.size w wr ∧ Hid (∀ j, j < i → wi (l.getD j V0) (m - 1) = true))
          (fun x _ => l.length - (RowKit.intOf x).toNat)
        case atStart => exact ⟨0, by go_num, by omega, hb5, Lib.hid fun j hj => absurd hj (Nat.not_lt_zero _)⟩
        case round =>
          clear hb2 hb3 hb4 hb5 bx2 bx4 y4
          obtain ⟨i, rfl, hi, hb, hzz⟩ := hrel
          have hsz := hb.size
          by_cases hlt : i < l.length
          · obtain ⟨b, off, rfl, ds, hrg, hin⟩ := HIT.out i hlt
            have hrg2 := range_next hrg hb
            rw [Nat.mul_comm 5 i] at hrg2
            have hin2 := InV_next hb _ ds hin
            have m1 := HP.out i hlt
            have HX := Lib.hid fun w2 (hb2 : Below wr.heap.size wr w2) => HIH.out _ (mem_get hlt) (m - 1) (by omega) ds w2 (InV_next hb2 _ ds hin2) ((HT.out.next hb).next hb2)
            have h5 := InV_five hin
            have h5' := size_toArray ds h5
            have h1 := InS_one hin
            have hstep : wi (l.getD i V0) (m - 1) = true → ∀ j, j < i + 1 → wi (l.getD j V0) (m - 1) = true := by
              intro q j hj
              by_cases hji : j < i
              · exact hzz.out j hji
              · obtain rfl : j = i := by omega
                exact q
            have HST := Lib.hid hstep
            have HSP := Lib.hid (wiL_stop (m := m - 1) hlt)
            clear hstep hin hin2 hrg HIT HIH hzz HFR HNS
            cases hs : wi (l.getD i V0) (m - 1)
            all_goals
              rw [hs] at HX
              have HS := Lib.hid hs
              clear hs
              go_wp2_with (first
                | (refine wpList_take _ rfl _ rfl b (off + i * 5) ds rfl hrg2 h5 ?_)
                | (refine wpList_keep _ rfl _ _ rfl wr.heap.size wr ((Below.refl _ wr).alloc (Nat.le_refl _) _) wr.heap.size (Nat.le_refl _) ds.toArray _ rfl rfl (box_new _ _) rfl h5' (by simpa using h1) ?_; intro w2 bx2 hb2 _ hs2; clear hs2)
                | (refine wpList_fetch _ rfl _ rfl wr.heap.size ds.toArray rfl bx2 h5' ?_)
                | (go_at_call 51; refine (HX.out _ hb2).mono ?_; rintro e w3 ⟨rfl, hb3⟩))
            · go_ret
              exact ⟨by rw [HC.out, HSP.out HS.out]; rfl, hb.trans ((next hb2 hb3).mono hsz)⟩
            · go_roundw
              case rel => exact ⟨i + 1, by go_num, by omega, hb.trans ((next hb2 hb3).mono hsz), Lib.hid (HST.out HS.out)⟩
              case measure => simp [RowKit.intOf]; omega
          · obtain rfl : i = l.length := by omega
            have HZZ := Lib.hid ((wiL_at l (m - 1)).2 hzz.out)
            clear hzz
            go_wp2_with fail
            go_ret
            exact ⟨by rw [HC.out, HZZ.out]; rfl, hb⟩
theorem pwithin (v : Vt) (hv : OkT v) : ∀ (m : Int), 0 ≤ m ∧ m ≤ 64 → ∀ (cs : List Value) (w : World), InV w v cs → Tabs w → Calls Tryz.prog 51 #[.agg cs.toArray, .int .i64 m] w fun e w' => e = .returned (.bool (wi v m)) ∧ Below w.heap.size w w' := by
  revert hv
  refine vt_ind (p := fun v => OkT v → ∀ (m : Int), 0 ≤ m ∧ m ≤ 64 → ∀ (cs : List Value) (w : World), InV w v cs → Tabs w → Calls Tryz.prog 51 #[.agg cs.toArray, .int .i64 m] w fun e w' => e = .returned (.bool (wi v m)) ∧ Below w.heap.size w w') ?_ v
  intro v ih hv m hm cs w h hT
  obtain ⟨_, h1, h2⟩ := hv
  exact pwithin_any v m hm cs w h hT h1 fun x hx => ih x hx (h2 x hx)
theorem pright (v : Vt) (hv : OkT v) (cs : List Value) (w : World) (h : InV w v cs) (hT : Tabs w) :
    Calls Tryz.prog 25 #[.agg cs.toArray] w fun e w' => e = .returned (.bool (wi v 64)) ∧ Below w.heap.size w w' := by
  have HW := Lib.hid fun (W : World) (hb : Below w.heap.size w W) => pwithin v hv 64 (by omega) cs W (InV_next hb v cs h) (hT.next hb)
  have B0 := Lib.hid fun o : Obj => (Below.refl w.heap.size w).alloc (Nat.le_refl _) o
  obtain ⟨a, cap, c4, rfl, _⟩ := (InV_iff w v cs).1 h
  clear h hT hv
  generalize wi v 64 = C at *
  generalize v.l.length = l at *
  generalize v.k = k at *
  generalize v.n = n at *
  generalize v.s = s at *
  go_enter Tryz.func25, Tryz.ntmps25
  go_wp2_with (first
    | (refine wpList_fetch _ rfl _ rfl w.heap.size _ rfl (box_new _ _) rfl ?_)
    | (go_at_call 51; refine (HW.out _ (B0.out _)).mono ?_; rintro e w2 ⟨rfl, hb2⟩))
  go_ret
  exact ⟨rfl, (box_after hb2).2⟩
end Go.Proofs.YtehkiojohldlgaaGreatDoor.Tre
