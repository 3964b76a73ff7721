/- rule's laws: RuleSpoilt. Conditions: the tables read as the program lays them. -/
import Derived.Test.YtaiafhepeleefaaDoorRulH
namespace Go.Proofs.YtaiafhepeleefaaDoor.Rul
open Go.RowKit Go.Lib

def rV (id no ro : ByteArray) (pr ki ra pe bu co mx fa wa pb : Int) : Array Value := ruC ⟨id, no, ro, pr, ki, ra, pe, bu, co, mx, fa, wa, pb⟩
theorem set_id {W : World} {g : Nat} {id no ro : ByteArray} {pr ki ra pe bu co mx fa wa pb : Int} (h : Bx W g (ruC ⟨id, no, ro, pr, ki, ra, pe, bu, co, mx, fa, wa, pb⟩)) (v : ByteArray) :
    Bx (W.setCell ⟨g, 0, none⟩ (.string v)) g (ruC ⟨v, no, ro, pr, ki, ra, pe, bu, co, mx, fa, wa, pb⟩) := h.set 0 (.string v)
theorem set_no {W : World} {g : Nat} {id no ro : ByteArray} {pr ki ra pe bu co mx fa wa pb : Int} (h : Bx W g (ruC ⟨id, no, ro, pr, ki, ra, pe, bu, co, mx, fa, wa, pb⟩)) (v : ByteArray) :
    Bx (W.setCell ⟨g, 1, none⟩ (.string v)) g (ruC ⟨id, v, ro, pr, ki, ra, pe, bu, co, mx, fa, wa, pb⟩) := h.set 1 (.string v)
theorem set_ro {W : World} {g : Nat} {id no ro : ByteArray} {pr ki ra pe bu co mx fa wa pb : Int} (h : Bx W g (ruC ⟨id, no, ro, pr, ki, ra, pe, bu, co, mx, fa, wa, pb⟩)) (v : ByteArray) :
    Bx (W.setCell ⟨g, 2, none⟩ (.string v)) g (ruC ⟨id, no, v, pr, ki, ra, pe, bu, co, mx, fa, wa, pb⟩) := h.set 2 (.string v)
theorem set_pr {W : World} {g : Nat} {id no ro : ByteArray} {pr ki ra pe bu co mx fa wa pb : Int} (h : Bx W g (ruC ⟨id, no, ro, pr, ki, ra, pe, bu, co, mx, fa, wa, pb⟩)) (v : Int) :
    Bx (W.setCell ⟨g, 3, none⟩ (.int .i64 v)) g (ruC ⟨id, no, ro, v, ki, ra, pe, bu, co, mx, fa, wa, pb⟩) := h.set 3 (.int .i64 v)
theorem set_ki {W : World} {g : Nat} {id no ro : ByteArray} {pr ki ra pe bu co mx fa wa pb : Int} (h : Bx W g (ruC ⟨id, no, ro, pr, ki, ra, pe, bu, co, mx, fa, wa, pb⟩)) (v : Int) :
    Bx (W.setCell ⟨g, 4, none⟩ (.int .i64 v)) g (ruC ⟨id, no, ro, pr, v, ra, pe, bu, co, mx, fa, wa, pb⟩) := h.set 4 (.int .i64 v)
theorem below_put {W V : World} (h : Below V.heap.size V W) (j : Nat) (v : Value) : Below V.heap.size V (W.setCell ⟨V.heap.size, j, none⟩ v) := h.setCell (p := ⟨V.heap.size, j, none⟩) (Nat.le_refl _) v

/-! ### what is spoilt -/
theorem cat_id (id : ByteArray) : (⟨#[65]⟩ : ByteArray) ++ id = ⟨(65 :: id.data.toList).toArray⟩ := by
  refine ByteArray.ext (Array.toList_inj.1 ?_)
  rw [ByteArray.data_append]
  simp
theorem cat_ro (ro : ByteArray) : ro ++ (⟨#[47, 47]⟩ : ByteArray) = ⟨(ro.data.toList ++ [47, 47]).toArray⟩ := by
  refine ByteArray.ext (Array.toList_inj.1 ?_)
  rw [ByteArray.data_append]
  simp
theorem pa_some {s : ByteArray} (h : isPa s = true) : s.data.toList ≠ [] := by
  intro e
  unfold isPa at h
  rw [e] at h
  exact absurd h (by decide)
set_option maxHeartbeats 8000000 in
set_option maxRecDepth 100000 in
theorem spoilt_id (id no ro : ByteArray) (pr ki ra pe bu co mx fa wa pb wh n : Int) (w : World) (hT : Tab w) (hU : Utf.Tabs w) (hl : lgt ⟨id, no, ro, pr, ki, ra, pe, bu, co, mx, fa, wa, pb⟩ = true) (he : Rt ⟨id, no, ro, pr, ki, ra, pe, bu, co, mx, fa, wa, pb⟩) (w0 : 0 ≤ wh) (w1 : wh ≤ 255) (hk : wh % 5 = 0) :
    Calls Tryd.prog 5 #[.agg (ruC ⟨id, no, ro, pr, ki, ra, pe, bu, co, mx, fa, wa, pb⟩), .int .u8 wh, .int .i64 n] w fun e w' => e = .returned (.bool true) ∧ Below w.heap.size w w' := by
  obtain ⟨l1, l2, l3⟩ := lgt_yes hl
  dsimp only at l1 l2 l3
  have HL := Lib.hid fun W => light_any ⟨id, no, ro, pr, ki, ra, pe, bu, co, mx, fa, wa, pb⟩ W (show id.size ≤ _ by omega) (show no.size ≤ _ by omega) (show ro.size ≤ _ by omega)
  rw [hl] at HL
  have HAW := Lib.hid awake_any
  have hA : ∀ o, Below w.heap.size w (w.alloc o) := fun o => (Below.refl _ _).alloc (Nat.le_refl _) o
  have hA := Lib.hid hA
  have HT := Lib.hid hT; have HU := Lib.hid hU
  have HC1 := Lib.hid (chk_at _ _ _ (chk_ok he) (show id.size ≤ _ by omega) (show no.size ≤ _ by omega) (show ro.size ≤ _ by omega))
  have HC2 := Lib.hid (chk_at ⟨(⟨#[65]⟩ ++ id), no, ro, pr, ki, ra, pe, bu, co, mx, fa, wa, pb⟩ p1 13 (chk_id (show isId (⟨#[65]⟩ ++ id) = false by rw [cat_id]; exact id_spoilt _)) (show (⟨#[65]⟩ ++ id).size ≤ _ by rw [ByteArray.size_append]; show 1 + id.size ≤ _; omega) (show no.size ≤ _ by omega) (show ro.size ≤ _ by omega))
  unfold p1 at HC2
  have hsz : id.size ≤ 400 := l1
  clear hl l1 l2 l3 hT hU he
  dsimp only [ruC] at HL HC1 ⊢
  go_enter Tryd.func5, Tryd.ntmps5
  go_wp2_with (first
    | (refine wpList_fetch _ rfl _ rfl _ _ rfl X3.out rfl ?_)
    | (refine wpList_fetch _ rfl _ rfl _ _ rfl X1.out rfl ?_)
    | (go_at_call 6; (with_reducible refine (HL.out _).mono ?_); rintro e w1 ⟨rfl, hb1⟩; have B1 := Lib.hid ((hA.out _).trans (hb1.mono (by simp))); have X1 := Lib.hid (box_stay hb1); clear hb1)
    | (go_at_call 8; first
      | ((with_reducible refine (HC1.out _ (HT.out.next B1.out) (Utf.Tabs.next HU.out B1.out)).mono ?_); rintro e w2 ⟨rfl, hb2⟩; have B2 := Lib.hid (B1.out.trans (hb2.mono B1.out.size)); have X2 := Lib.hid (X1.out.next hb2 X1.out.lt); have kc : w2.cell? ⟨w.heap.size, 0, none⟩ = some (.string id) := X2.out.cell 0; have kf : w2.frozen? ⟨w.heap.size, 0, none⟩ = false := X2.out.free 0; have X3 := Lib.hid (set_id X2.out (⟨#[65]⟩ ++ id)); have B3 := Lib.hid (below_put B2.out 0 (.string (⟨#[65]⟩ ++ id))); clear hb2)
      | ((with_reducible refine (HC2.out _ (HT.out.next B3.out) (Utf.Tabs.next HU.out B3.out)).mono ?_); rintro e w4 ⟨rfl, hb4⟩; have B4 := Lib.hid (B3.out.trans (hb4.mono B3.out.size)); clear hb4))
    | (go_at_call 7; (with_reducible refine (HAW.out _ (HT.out.next B4.out) (Utf.Tabs.next HU.out B4.out)).mono ?_); rintro e w5 ⟨rfl, hb5⟩))
  go_ret
  exact ⟨rfl, B4.out.trans (hb5.mono B4.out.size)⟩

set_option maxHeartbeats 8000000 in
set_option maxRecDepth 100000 in
theorem spoilt_no (id no ro : ByteArray) (pr ki ra pe bu co mx fa wa pb wh n : Int) (w : World) (hT : Tab w) (hU : Utf.Tabs w) (hl : lgt ⟨id, no, ro, pr, ki, ra, pe, bu, co, mx, fa, wa, pb⟩ = true) (he : Rt ⟨id, no, ro, pr, ki, ra, pe, bu, co, mx, fa, wa, pb⟩) (w0 : 0 ≤ wh) (w1 : wh ≤ 255) (hk : wh % 5 = 1) :
    Calls Tryd.prog 5 #[.agg (ruC ⟨id, no, ro, pr, ki, ra, pe, bu, co, mx, fa, wa, pb⟩), .int .u8 wh, .int .i64 n] w fun e w' => e = .returned (.bool true) ∧ Below w.heap.size w w' := by
  obtain ⟨l1, l2, l3⟩ := lgt_yes hl
  dsimp only at l1 l2 l3
  have HL := Lib.hid fun W => light_any ⟨id, no, ro, pr, ki, ra, pe, bu, co, mx, fa, wa, pb⟩ W (show id.size ≤ _ by omega) (show no.size ≤ _ by omega) (show ro.size ≤ _ by omega)
  rw [hl] at HL
  have HAW := Lib.hid awake_any
  have hA : ∀ o, Below w.heap.size w (w.alloc o) := fun o => (Below.refl _ _).alloc (Nat.le_refl _) o
  have hA := Lib.hid hA
  have HT := Lib.hid hT; have HU := Lib.hid hU
  have HC1 := Lib.hid (chk_at _ _ _ (chk_ok he) (show id.size ≤ _ by omega) (show no.size ≤ _ by omega) (show ro.size ≤ _ by omega))
  have HC2 := Lib.hid (chk_at ⟨id, ⟨#[255]⟩, ro, pr, ki, ra, pe, bu, co, mx, fa, wa, pb⟩ p2 8 (chk_no he.id (show (⟨#[255]⟩ : ByteArray).size ≤ 255 by decide) no_spoilt) (show id.size ≤ _ by omega) (show (⟨#[255]⟩ : ByteArray).size ≤ _ by decide) (show ro.size ≤ _ by omega))
  unfold p2 at HC2
  clear hl l1 l2 l3 hT hU he
  dsimp only [ruC] at HL HC1 ⊢
  go_enter Tryd.func5, Tryd.ntmps5
  go_wp2_with (first
    | (refine wpList_fetch _ rfl _ rfl _ _ rfl X3.out rfl ?_)
    | (refine wpList_fetch _ rfl _ rfl _ _ rfl X1.out rfl ?_)
    | (go_at_call 6; (with_reducible refine (HL.out _).mono ?_); rintro e w1 ⟨rfl, hb1⟩; have B1 := Lib.hid ((hA.out _).trans (hb1.mono (by simp))); have X1 := Lib.hid (box_stay hb1); clear hb1)
    | (go_at_call 8; first
      | ((with_reducible refine (HC1.out _ (HT.out.next B1.out) (Utf.Tabs.next HU.out B1.out)).mono ?_); rintro e w2 ⟨rfl, hb2⟩; have B2 := Lib.hid (B1.out.trans (hb2.mono B1.out.size)); have X2 := Lib.hid (X1.out.next hb2 X1.out.lt); have kc : w2.cell? ⟨w.heap.size, 1, none⟩ = some (.string no) := X2.out.cell 1; have kf : w2.frozen? ⟨w.heap.size, 1, none⟩ = false := X2.out.free 1; have X3 := Lib.hid (set_no X2.out ⟨#[255]⟩); have B3 := Lib.hid (below_put B2.out 1 (.string ⟨#[255]⟩)); clear hb2)
      | ((with_reducible refine (HC2.out _ (HT.out.next B3.out) (Utf.Tabs.next HU.out B3.out)).mono ?_); rintro e w4 ⟨rfl, hb4⟩; have B4 := Lib.hid (B3.out.trans (hb4.mono B3.out.size)); clear hb4))
    | (go_at_call 7; (with_reducible refine (HAW.out _ (HT.out.next B4.out) (Utf.Tabs.next HU.out B4.out)).mono ?_); rintro e w5 ⟨rfl, hb5⟩))
  go_ret
  exact ⟨rfl, B4.out.trans (hb5.mono B4.out.size)⟩

set_option maxHeartbeats 8000000 in
set_option maxRecDepth 100000 in
theorem spoilt_ro (id no ro : ByteArray) (pr ki ra pe bu co mx fa wa pb wh n : Int) (w : World) (hT : Tab w) (hU : Utf.Tabs w) (hl : lgt ⟨id, no, ro, pr, ki, ra, pe, bu, co, mx, fa, wa, pb⟩ = true) (he : Rt ⟨id, no, ro, pr, ki, ra, pe, bu, co, mx, fa, wa, pb⟩) (w0 : 0 ≤ wh) (w1 : wh ≤ 255) (hk : wh % 5 = 2) :
    Calls Tryd.prog 5 #[.agg (ruC ⟨id, no, ro, pr, ki, ra, pe, bu, co, mx, fa, wa, pb⟩), .int .u8 wh, .int .i64 n] w fun e w' => e = .returned (.bool true) ∧ Below w.heap.size w w' := by
  obtain ⟨l1, l2, l3⟩ := lgt_yes hl
  dsimp only at l1 l2 l3
  have HL := Lib.hid fun W => light_any ⟨id, no, ro, pr, ki, ra, pe, bu, co, mx, fa, wa, pb⟩ W (show id.size ≤ _ by omega) (show no.size ≤ _ by omega) (show ro.size ≤ _ by omega)
  rw [hl] at HL
  have HAW := Lib.hid awake_any
  have hA : ∀ o, Below w.heap.size w (w.alloc o) := fun o => (Below.refl _ _).alloc (Nat.le_refl _) o
  have hA := Lib.hid hA
  have HT := Lib.hid hT; have HU := Lib.hid hU
  have HC1 := Lib.hid (chk_at _ _ _ (chk_ok he) (show id.size ≤ _ by omega) (show no.size ≤ _ by omega) (show ro.size ≤ _ by omega))
  have HC2 := Lib.hid (chk_at ⟨id, no, (ro ++ ⟨#[47, 47]⟩), pr, ki, ra, pe, bu, co, mx, fa, wa, pb⟩ p3 14 (chk_ro he.id he.no he.tx (show isPa (ro ++ ⟨#[47, 47]⟩) = false by rw [cat_ro]; exact ro_spoilt _ (pa_some he.ro))) (show id.size ≤ _ by omega) (show no.size ≤ _ by omega) (show (ro ++ ⟨#[47, 47]⟩).size ≤ _ by rw [ByteArray.size_append]; show ro.size + 2 ≤ _; omega))
  unfold p3 at HC2
  have hsz : ro.size ≤ 400 := l3
  clear hl l1 l2 l3 hT hU he
  dsimp only [ruC] at HL HC1 ⊢
  go_enter Tryd.func5, Tryd.ntmps5
  go_wp2_with (first
    | (refine wpList_fetch _ rfl _ rfl _ _ rfl X3.out rfl ?_)
    | (refine wpList_fetch _ rfl _ rfl _ _ rfl X1.out rfl ?_)
    | (go_at_call 6; (with_reducible refine (HL.out _).mono ?_); rintro e w1 ⟨rfl, hb1⟩; have B1 := Lib.hid ((hA.out _).trans (hb1.mono (by simp))); have X1 := Lib.hid (box_stay hb1); clear hb1)
    | (go_at_call 8; first
      | ((with_reducible refine (HC1.out _ (HT.out.next B1.out) (Utf.Tabs.next HU.out B1.out)).mono ?_); rintro e w2 ⟨rfl, hb2⟩; have B2 := Lib.hid (B1.out.trans (hb2.mono B1.out.size)); have X2 := Lib.hid (X1.out.next hb2 X1.out.lt); have kc : w2.cell? ⟨w.heap.size, 2, none⟩ = some (.string ro) := X2.out.cell 2; have kf : w2.frozen? ⟨w.heap.size, 2, none⟩ = false := X2.out.free 2; have X3 := Lib.hid (set_ro X2.out (ro ++ ⟨#[47, 47]⟩)); have B3 := Lib.hid (below_put B2.out 2 (.string (ro ++ ⟨#[47, 47]⟩))); clear hb2)
      | ((with_reducible refine (HC2.out _ (HT.out.next B3.out) (Utf.Tabs.next HU.out B3.out)).mono ?_); rintro e w4 ⟨rfl, hb4⟩; have B4 := Lib.hid (B3.out.trans (hb4.mono B3.out.size)); clear hb4))
    | (go_at_call 7; (with_reducible refine (HAW.out _ (HT.out.next B4.out) (Utf.Tabs.next HU.out B4.out)).mono ?_); rintro e w5 ⟨rfl, hb5⟩))
  go_ret
  exact ⟨rfl, B4.out.trans (hb5.mono B4.out.size)⟩

set_option maxHeartbeats 8000000 in
set_option maxRecDepth 100000 in
theorem spoilt_pr_lo (id no ro : ByteArray) (pr ki ra pe bu co mx fa wa pb wh n : Int) (w : World) (hT : Tab w) (hU : Utf.Tabs w) (hl : lgt ⟨id, no, ro, pr, ki, ra, pe, bu, co, mx, fa, wa, pb⟩ = true) (he : Rt ⟨id, no, ro, pr, ki, ra, pe, bu, co, mx, fa, wa, pb⟩) (w0 : 0 ≤ wh) (w1 : wh ≤ 255) (hk : wh % 5 = 3) (hn : n < 0) :
    Calls Tryd.prog 5 #[.agg (ruC ⟨id, no, ro, pr, ki, ra, pe, bu, co, mx, fa, wa, pb⟩), .int .u8 wh, .int .i64 n] w fun e w' => e = .returned (.bool true) ∧ Below w.heap.size w w' := by
  obtain ⟨l1, l2, l3⟩ := lgt_yes hl
  dsimp only at l1 l2 l3
  have HL := Lib.hid fun W => light_any ⟨id, no, ro, pr, ki, ra, pe, bu, co, mx, fa, wa, pb⟩ W (show id.size ≤ _ by omega) (show no.size ≤ _ by omega) (show ro.size ≤ _ by omega)
  rw [hl] at HL
  have HAW := Lib.hid awake_any
  have hA : ∀ o, Below w.heap.size w (w.alloc o) := fun o => (Below.refl _ _).alloc (Nat.le_refl _) o
  have hA := Lib.hid hA
  have HT := Lib.hid hT; have HU := Lib.hid hU
  have HC1 := Lib.hid (chk_at _ _ _ (chk_ok he) (show id.size ≤ _ by omega) (show no.size ≤ _ by omega) (show ro.size ≤ _ by omega))
  have HC2 := Lib.hid (chk_at ⟨id, no, ro, n, ki, ra, pe, bu, co, mx, fa, wa, pb⟩ p4 2 (chk_pr he.id he.no he.tx he.ro (show n < 0 ∨ 1000 < n by omega)) (show id.size ≤ _ by omega) (show no.size ≤ _ by omega) (show ro.size ≤ _ by omega))
  unfold p4 at HC2
  clear hl l1 l2 l3 hT hU he
  dsimp only [ruC] at HL HC1 ⊢
  go_enter Tryd.func5, Tryd.ntmps5
  go_wp2_with (first
    | (refine wpList_fetch _ rfl _ rfl _ _ rfl X3.out rfl ?_)
    | (refine wpList_fetch _ rfl _ rfl _ _ rfl X1.out rfl ?_)
    | (go_at_call 6; (with_reducible refine (HL.out _).mono ?_); rintro e w1 ⟨rfl, hb1⟩; have B1 := Lib.hid ((hA.out _).trans (hb1.mono (by simp))); have X1 := Lib.hid (box_stay hb1); clear hb1)
    | (go_at_call 8; first
      | ((with_reducible refine (HC1.out _ (HT.out.next B1.out) (Utf.Tabs.next HU.out B1.out)).mono ?_); rintro e w2 ⟨rfl, hb2⟩; have B2 := Lib.hid (B1.out.trans (hb2.mono B1.out.size)); have X2 := Lib.hid (X1.out.next hb2 X1.out.lt); have kc : w2.cell? ⟨w.heap.size, 3, none⟩ = some (.int .i64 pr) := X2.out.cell 3; have kf : w2.frozen? ⟨w.heap.size, 3, none⟩ = false := X2.out.free 3; have X3 := Lib.hid (set_pr X2.out n); have B3 := Lib.hid (below_put B2.out 3 (.int .i64 n)); clear hb2)
      | ((with_reducible refine (HC2.out _ (HT.out.next B3.out) (Utf.Tabs.next HU.out B3.out)).mono ?_); rintro e w4 ⟨rfl, hb4⟩; have B4 := Lib.hid (B3.out.trans (hb4.mono B3.out.size)); clear hb4))
    | (go_at_call 7; (with_reducible refine (HAW.out _ (HT.out.next B4.out) (Utf.Tabs.next HU.out B4.out)).mono ?_); rintro e w5 ⟨rfl, hb5⟩))
  go_ret
  exact ⟨rfl, B4.out.trans (hb5.mono B4.out.size)⟩

set_option maxHeartbeats 8000000 in
set_option maxRecDepth 100000 in
theorem spoilt_pr_hi (id no ro : ByteArray) (pr ki ra pe bu co mx fa wa pb wh n : Int) (w : World) (hT : Tab w) (hU : Utf.Tabs w) (hl : lgt ⟨id, no, ro, pr, ki, ra, pe, bu, co, mx, fa, wa, pb⟩ = true) (he : Rt ⟨id, no, ro, pr, ki, ra, pe, bu, co, mx, fa, wa, pb⟩) (w0 : 0 ≤ wh) (w1 : wh ≤ 255) (hk : wh % 5 = 3) (hn : 1000 < n) :
    Calls Tryd.prog 5 #[.agg (ruC ⟨id, no, ro, pr, ki, ra, pe, bu, co, mx, fa, wa, pb⟩), .int .u8 wh, .int .i64 n] w fun e w' => e = .returned (.bool true) ∧ Below w.heap.size w w' := by
  obtain ⟨l1, l2, l3⟩ := lgt_yes hl
  dsimp only at l1 l2 l3
  have HL := Lib.hid fun W => light_any ⟨id, no, ro, pr, ki, ra, pe, bu, co, mx, fa, wa, pb⟩ W (show id.size ≤ _ by omega) (show no.size ≤ _ by omega) (show ro.size ≤ _ by omega)
  rw [hl] at HL
  have HAW := Lib.hid awake_any
  have hA : ∀ o, Below w.heap.size w (w.alloc o) := fun o => (Below.refl _ _).alloc (Nat.le_refl _) o
  have hA := Lib.hid hA
  have HT := Lib.hid hT; have HU := Lib.hid hU
  have HC1 := Lib.hid (chk_at _ _ _ (chk_ok he) (show id.size ≤ _ by omega) (show no.size ≤ _ by omega) (show ro.size ≤ _ by omega))
  have HC2 := Lib.hid (chk_at ⟨id, no, ro, n, ki, ra, pe, bu, co, mx, fa, wa, pb⟩ p4 2 (chk_pr he.id he.no he.tx he.ro (show n < 0 ∨ 1000 < n by omega)) (show id.size ≤ _ by omega) (show no.size ≤ _ by omega) (show ro.size ≤ _ by omega))
  unfold p4 at HC2
  clear hl l1 l2 l3 hT hU he
  dsimp only [ruC] at HL HC1 ⊢
  go_enter Tryd.func5, Tryd.ntmps5
  go_wp2_with (first
    | (refine wpList_fetch _ rfl _ rfl _ _ rfl X3.out rfl ?_)
    | (refine wpList_fetch _ rfl _ rfl _ _ rfl X1.out rfl ?_)
    | (go_at_call 6; (with_reducible refine (HL.out _).mono ?_); rintro e w1 ⟨rfl, hb1⟩; have B1 := Lib.hid ((hA.out _).trans (hb1.mono (by simp))); have X1 := Lib.hid (box_stay hb1); clear hb1)
    | (go_at_call 8; first
      | ((with_reducible refine (HC1.out _ (HT.out.next B1.out) (Utf.Tabs.next HU.out B1.out)).mono ?_); rintro e w2 ⟨rfl, hb2⟩; have B2 := Lib.hid (B1.out.trans (hb2.mono B1.out.size)); have X2 := Lib.hid (X1.out.next hb2 X1.out.lt); have kc : w2.cell? ⟨w.heap.size, 3, none⟩ = some (.int .i64 pr) := X2.out.cell 3; have kf : w2.frozen? ⟨w.heap.size, 3, none⟩ = false := X2.out.free 3; have X3 := Lib.hid (set_pr X2.out n); have B3 := Lib.hid (below_put B2.out 3 (.int .i64 n)); clear hb2)
      | ((with_reducible refine (HC2.out _ (HT.out.next B3.out) (Utf.Tabs.next HU.out B3.out)).mono ?_); rintro e w4 ⟨rfl, hb4⟩; have B4 := Lib.hid (B3.out.trans (hb4.mono B3.out.size)); clear hb4))
    | (go_at_call 7; (with_reducible refine (HAW.out _ (HT.out.next B4.out) (Utf.Tabs.next HU.out B4.out)).mono ?_); rintro e w5 ⟨rfl, hb5⟩))
  go_ret
  exact ⟨rfl, B4.out.trans (hb5.mono B4.out.size)⟩

set_option maxHeartbeats 8000000 in
set_option maxRecDepth 100000 in
theorem spoilt_pr_ok (id no ro : ByteArray) (pr ki ra pe bu co mx fa wa pb wh n : Int) (w : World) (hT : Tab w) (hU : Utf.Tabs w) (hl : lgt ⟨id, no, ro, pr, ki, ra, pe, bu, co, mx, fa, wa, pb⟩ = true) (he : Rt ⟨id, no, ro, pr, ki, ra, pe, bu, co, mx, fa, wa, pb⟩) (w0 : 0 ≤ wh) (w1 : wh ≤ 255) (hk : wh % 5 = 3) (hn : 0 ≤ n ∧ n ≤ 1000) :
    Calls Tryd.prog 5 #[.agg (ruC ⟨id, no, ro, pr, ki, ra, pe, bu, co, mx, fa, wa, pb⟩), .int .u8 wh, .int .i64 n] w fun e w' => e = .returned (.bool true) ∧ Below w.heap.size w w' := by
  obtain ⟨l1, l2, l3⟩ := lgt_yes hl
  dsimp only at l1 l2 l3
  have HL := Lib.hid fun W => light_any ⟨id, no, ro, pr, ki, ra, pe, bu, co, mx, fa, wa, pb⟩ W (show id.size ≤ _ by omega) (show no.size ≤ _ by omega) (show ro.size ≤ _ by omega)
  rw [hl] at HL
  have HAW := Lib.hid awake_any
  have hA : ∀ o, Below w.heap.size w (w.alloc o) := fun o => (Below.refl _ _).alloc (Nat.le_refl _) o
  have hA := Lib.hid hA
  have HT := Lib.hid hT; have HU := Lib.hid hU
  have HC1 := Lib.hid (chk_at _ _ _ (chk_ok he) (show id.size ≤ _ by omega) (show no.size ≤ _ by omega) (show ro.size ≤ _ by omega))
  have HC2 := Lib.hid (chk_at ⟨id, no, ro, n, ki, ra, pe, bu, co, mx, fa, wa, pb⟩ _ _ (chk_ok (Rt.mk he.id he.no he.tx he.ro hn he.ki)) (show id.size ≤ _ by omega) (show no.size ≤ _ by omega) (show ro.size ≤ _ by omega))
  obtain ⟨hn1, hn2⟩ := hn
  clear hl l1 l2 l3 hT hU he
  dsimp only [ruC] at HL HC1 ⊢
  go_enter Tryd.func5, Tryd.ntmps5
  go_wp2_with (first
    | (refine wpList_fetch _ rfl _ rfl _ _ rfl X3.out rfl ?_)
    | (refine wpList_fetch _ rfl _ rfl _ _ rfl X1.out rfl ?_)
    | (go_at_call 6; (with_reducible refine (HL.out _).mono ?_); rintro e w1 ⟨rfl, hb1⟩; have B1 := Lib.hid ((hA.out _).trans (hb1.mono (by simp))); have X1 := Lib.hid (box_stay hb1); clear hb1)
    | (go_at_call 8; first
      | ((with_reducible refine (HC1.out _ (HT.out.next B1.out) (Utf.Tabs.next HU.out B1.out)).mono ?_); rintro e w2 ⟨rfl, hb2⟩; have B2 := Lib.hid (B1.out.trans (hb2.mono B1.out.size)); have X2 := Lib.hid (X1.out.next hb2 X1.out.lt); have kc : w2.cell? ⟨w.heap.size, 3, none⟩ = some (.int .i64 pr) := X2.out.cell 3; have kf : w2.frozen? ⟨w.heap.size, 3, none⟩ = false := X2.out.free 3; have X3 := Lib.hid (set_pr X2.out n); have B3 := Lib.hid (below_put B2.out 3 (.int .i64 n)); clear hb2)
      | ((with_reducible refine (HC2.out _ (HT.out.next B3.out) (Utf.Tabs.next HU.out B3.out)).mono ?_); rintro e w4 ⟨rfl, hb4⟩; have B4 := Lib.hid (B3.out.trans (hb4.mono B3.out.size)); clear hb4))
    | (go_at_call 7; (with_reducible refine (HAW.out _ (HT.out.next B4.out) (Utf.Tabs.next HU.out B4.out)).mono ?_); rintro e w5 ⟨rfl, hb5⟩))
  go_ret
  exact ⟨rfl, B4.out.trans (hb5.mono B4.out.size)⟩

set_option maxHeartbeats 8000000 in
set_option maxRecDepth 100000 in
theorem spoilt_ki_lo (id no ro : ByteArray) (pr ki ra pe bu co mx fa wa pb wh n : Int) (w : World) (hT : Tab w) (hU : Utf.Tabs w) (hl : lgt ⟨id, no, ro, pr, ki, ra, pe, bu, co, mx, fa, wa, pb⟩ = true) (he : Rt ⟨id, no, ro, pr, ki, ra, pe, bu, co, mx, fa, wa, pb⟩) (w0 : 0 ≤ wh) (w1 : wh ≤ 255) (hk : wh % 5 = 4) (hn : n < 1) :
    Calls Tryd.prog 5 #[.agg (ruC ⟨id, no, ro, pr, ki, ra, pe, bu, co, mx, fa, wa, pb⟩), .int .u8 wh, .int .i64 n] w fun e w' => e = .returned (.bool true) ∧ Below w.heap.size w w' := by
  obtain ⟨l1, l2, l3⟩ := lgt_yes hl
  dsimp only at l1 l2 l3
  have HL := Lib.hid fun W => light_any ⟨id, no, ro, pr, ki, ra, pe, bu, co, mx, fa, wa, pb⟩ W (show id.size ≤ _ by omega) (show no.size ≤ _ by omega) (show ro.size ≤ _ by omega)
  rw [hl] at HL
  have HAW := Lib.hid awake_any
  have hA : ∀ o, Below w.heap.size w (w.alloc o) := fun o => (Below.refl _ _).alloc (Nat.le_refl _) o
  have hA := Lib.hid hA
  have HT := Lib.hid hT; have HU := Lib.hid hU
  have HC1 := Lib.hid (chk_at _ _ _ (chk_ok he) (show id.size ≤ _ by omega) (show no.size ≤ _ by omega) (show ro.size ≤ _ by omega))
  have HC2 := Lib.hid (chk_at ⟨id, no, ro, pr, n, ra, pe, bu, co, mx, fa, wa, pb⟩ p5 15 (chk_ki he.id he.no he.tx he.ro he.pr (show n < 1 ∨ 3 < n by omega)) (show id.size ≤ _ by omega) (show no.size ≤ _ by omega) (show ro.size ≤ _ by omega))
  unfold p5 at HC2
  clear hl l1 l2 l3 hT hU he
  dsimp only [ruC] at HL HC1 ⊢
  go_enter Tryd.func5, Tryd.ntmps5
  go_wp2_with (first
    | (refine wpList_fetch _ rfl _ rfl _ _ rfl X3.out rfl ?_)
    | (refine wpList_fetch _ rfl _ rfl _ _ rfl X1.out rfl ?_)
    | (go_at_call 6; (with_reducible refine (HL.out _).mono ?_); rintro e w1 ⟨rfl, hb1⟩; have B1 := Lib.hid ((hA.out _).trans (hb1.mono (by simp))); have X1 := Lib.hid (box_stay hb1); clear hb1)
    | (go_at_call 8; first
      | ((with_reducible refine (HC1.out _ (HT.out.next B1.out) (Utf.Tabs.next HU.out B1.out)).mono ?_); rintro e w2 ⟨rfl, hb2⟩; have B2 := Lib.hid (B1.out.trans (hb2.mono B1.out.size)); have X2 := Lib.hid (X1.out.next hb2 X1.out.lt); have kc : w2.cell? ⟨w.heap.size, 4, none⟩ = some (.int .i64 ki) := X2.out.cell 4; have kf : w2.frozen? ⟨w.heap.size, 4, none⟩ = false := X2.out.free 4; have X3 := Lib.hid (set_ki X2.out n); have B3 := Lib.hid (below_put B2.out 4 (.int .i64 n)); clear hb2)
      | ((with_reducible refine (HC2.out _ (HT.out.next B3.out) (Utf.Tabs.next HU.out B3.out)).mono ?_); rintro e w4 ⟨rfl, hb4⟩; have B4 := Lib.hid (B3.out.trans (hb4.mono B3.out.size)); clear hb4))
    | (go_at_call 7; (with_reducible refine (HAW.out _ (HT.out.next B4.out) (Utf.Tabs.next HU.out B4.out)).mono ?_); rintro e w5 ⟨rfl, hb5⟩))
  go_ret
  exact ⟨rfl, B4.out.trans (hb5.mono B4.out.size)⟩

set_option maxHeartbeats 8000000 in
set_option maxRecDepth 100000 in
theorem spoilt_ki_hi (id no ro : ByteArray) (pr ki ra pe bu co mx fa wa pb wh n : Int) (w : World) (hT : Tab w) (hU : Utf.Tabs w) (hl : lgt ⟨id, no, ro, pr, ki, ra, pe, bu, co, mx, fa, wa, pb⟩ = true) (he : Rt ⟨id, no, ro, pr, ki, ra, pe, bu, co, mx, fa, wa, pb⟩) (w0 : 0 ≤ wh) (w1 : wh ≤ 255) (hk : wh % 5 = 4) (hn : 3 < n) :
    Calls Tryd.prog 5 #[.agg (ruC ⟨id, no, ro, pr, ki, ra, pe, bu, co, mx, fa, wa, pb⟩), .int .u8 wh, .int .i64 n] w fun e w' => e = .returned (.bool true) ∧ Below w.heap.size w w' := by
  obtain ⟨l1, l2, l3⟩ := lgt_yes hl
  dsimp only at l1 l2 l3
  have HL := Lib.hid fun W => light_any ⟨id, no, ro, pr, ki, ra, pe, bu, co, mx, fa, wa, pb⟩ W (show id.size ≤ _ by omega) (show no.size ≤ _ by omega) (show ro.size ≤ _ by omega)
  rw [hl] at HL
  have HAW := Lib.hid awake_any
  have hA : ∀ o, Below w.heap.size w (w.alloc o) := fun o => (Below.refl _ _).alloc (Nat.le_refl _) o
  have hA := Lib.hid hA
  have HT := Lib.hid hT; have HU := Lib.hid hU
  have HC1 := Lib.hid (chk_at _ _ _ (chk_ok he) (show id.size ≤ _ by omega) (show no.size ≤ _ by omega) (show ro.size ≤ _ by omega))
  have HC2 := Lib.hid (chk_at ⟨id, no, ro, pr, n, ra, pe, bu, co, mx, fa, wa, pb⟩ p5 15 (chk_ki he.id he.no he.tx he.ro he.pr (show n < 1 ∨ 3 < n by omega)) (show id.size ≤ _ by omega) (show no.size ≤ _ by omega) (show ro.size ≤ _ by omega))
  unfold p5 at HC2
  clear hl l1 l2 l3 hT hU he
  dsimp only [ruC] at HL HC1 ⊢
  go_enter Tryd.func5, Tryd.ntmps5
  go_wp2_with (first
    | (refine wpList_fetch _ rfl _ rfl _ _ rfl X3.out rfl ?_)
    | (refine wpList_fetch _ rfl _ rfl _ _ rfl X1.out rfl ?_)
    | (go_at_call 6; (with_reducible refine (HL.out _).mono ?_); rintro e w1 ⟨rfl, hb1⟩; have B1 := Lib.hid ((hA.out _).trans (hb1.mono (by simp))); have X1 := Lib.hid (box_stay hb1); clear hb1)
    | (go_at_call 8; first
      | ((with_reducible refine (HC1.out _ (HT.out.next B1.out) (Utf.Tabs.next HU.out B1.out)).mono ?_); rintro e w2 ⟨rfl, hb2⟩; have B2 := Lib.hid (B1.out.trans (hb2.mono B1.out.size)); have X2 := Lib.hid (X1.out.next hb2 X1.out.lt); have kc : w2.cell? ⟨w.heap.size, 4, none⟩ = some (.int .i64 ki) := X2.out.cell 4; have kf : w2.frozen? ⟨w.heap.size, 4, none⟩ = false := X2.out.free 4; have X3 := Lib.hid (set_ki X2.out n); have B3 := Lib.hid (below_put B2.out 4 (.int .i64 n)); clear hb2)
      | ((with_reducible refine (HC2.out _ (HT.out.next B3.out) (Utf.Tabs.next HU.out B3.out)).mono ?_); rintro e w4 ⟨rfl, hb4⟩; have B4 := Lib.hid (B3.out.trans (hb4.mono B3.out.size)); clear hb4))
    | (go_at_call 7; (with_reducible refine (HAW.out _ (HT.out.next B4.out) (Utf.Tabs.next HU.out B4.out)).mono ?_); rintro e w5 ⟨rfl, hb5⟩))
  go_ret
  exact ⟨rfl, B4.out.trans (hb5.mono B4.out.size)⟩

set_option maxHeartbeats 8000000 in
set_option maxRecDepth 100000 in
theorem spoilt_ki_ok (id no ro : ByteArray) (pr ki ra pe bu co mx fa wa pb wh n : Int) (w : World) (hT : Tab w) (hU : Utf.Tabs w) (hl : lgt ⟨id, no, ro, pr, ki, ra, pe, bu, co, mx, fa, wa, pb⟩ = true) (he : Rt ⟨id, no, ro, pr, ki, ra, pe, bu, co, mx, fa, wa, pb⟩) (w0 : 0 ≤ wh) (w1 : wh ≤ 255) (hk : wh % 5 = 4) (hn : 1 ≤ n ∧ n ≤ 3) :
    Calls Tryd.prog 5 #[.agg (ruC ⟨id, no, ro, pr, ki, ra, pe, bu, co, mx, fa, wa, pb⟩), .int .u8 wh, .int .i64 n] w fun e w' => e = .returned (.bool true) ∧ Below w.heap.size w w' := by
  obtain ⟨l1, l2, l3⟩ := lgt_yes hl
  dsimp only at l1 l2 l3
  have HL := Lib.hid fun W => light_any ⟨id, no, ro, pr, ki, ra, pe, bu, co, mx, fa, wa, pb⟩ W (show id.size ≤ _ by omega) (show no.size ≤ _ by omega) (show ro.size ≤ _ by omega)
  rw [hl] at HL
  have HAW := Lib.hid awake_any
  have hA : ∀ o, Below w.heap.size w (w.alloc o) := fun o => (Below.refl _ _).alloc (Nat.le_refl _) o
  have hA := Lib.hid hA
  have HT := Lib.hid hT; have HU := Lib.hid hU
  have HC1 := Lib.hid (chk_at _ _ _ (chk_ok he) (show id.size ≤ _ by omega) (show no.size ≤ _ by omega) (show ro.size ≤ _ by omega))
  obtain ⟨hn1, hn2⟩ := hn
  clear hl l1 l2 l3 hT hU he
  dsimp only [ruC] at HL HC1 ⊢
  go_enter Tryd.func5, Tryd.ntmps5
  go_wp2_with (first
    | (refine wpList_fetch _ rfl _ rfl _ _ rfl X1.out rfl ?_)
    | (go_at_call 6; (with_reducible refine (HL.out _).mono ?_); rintro e w1 ⟨rfl, hb1⟩; have B1 := Lib.hid ((hA.out _).trans (hb1.mono (by simp))); have X1 := Lib.hid (box_stay hb1); clear hb1)
    | (go_at_call 8; (with_reducible refine (HC1.out _ (HT.out.next B1.out) (Utf.Tabs.next HU.out B1.out)).mono ?_); rintro e w2 ⟨rfl, hb2⟩; have B2 := Lib.hid (B1.out.trans (hb2.mono B1.out.size)); clear hb2)
    | (go_at_call 7; (with_reducible refine (HAW.out _ (HT.out.next B2.out) (Utf.Tabs.next HU.out B2.out)).mono ?_); rintro e w5 ⟨rfl, hb5⟩))
  go_ret
  exact ⟨rfl, B2.out.trans (hb5.mono B2.out.size)⟩

set_option maxHeartbeats 8000000 in
set_option maxRecDepth 100000 in
theorem spoilt_any (r : Ru) (wh n : Int) (w : World) (hT : Tab w) (hU : Utf.Tabs w) (s1 : r.id.size ≤ 9223372036854775807) (s2 : r.no.size ≤ 9223372036854775807) (s3 : r.ro.size ≤ 9223372036854775807) (w0 : 0 ≤ wh) (w1 : wh ≤ 255) :
    Calls Tryd.prog 5 #[.agg (ruC r), .int .u8 wh, .int .i64 n] w fun e w' => e = .returned (.bool true) ∧ Below w.heap.size w w' := by
  cases hl : lgt r with
  | true =>
    by_cases he : (chk r).2 = 0
    · have hr := (chk_zero r).1 he
      obtain ⟨id, no, ro, pr, ki, ra, pe, bu, co, mx, fa, wa, pb⟩ := r
      obtain hk | hk | hk | hk | hk : wh % 5 = 0 ∨ wh % 5 = 1 ∨ wh % 5 = 2 ∨ wh % 5 = 3 ∨ wh % 5 = 4 := by omega
      · exact spoilt_id _ _ _ _ _ _ _ _ _ _ _ _ _ wh n w hT hU hl hr w0 w1 hk
      · exact spoilt_no _ _ _ _ _ _ _ _ _ _ _ _ _ wh n w hT hU hl hr w0 w1 hk
      · exact spoilt_ro _ _ _ _ _ _ _ _ _ _ _ _ _ wh n w hT hU hl hr w0 w1 hk
      · by_cases h1 : n < 0
        · exact spoilt_pr_lo _ _ _ _ _ _ _ _ _ _ _ _ _ wh n w hT hU hl hr w0 w1 hk h1
        by_cases h2 : 1000 < n
        · exact spoilt_pr_hi _ _ _ _ _ _ _ _ _ _ _ _ _ wh n w hT hU hl hr w0 w1 hk h2
        · exact spoilt_pr_ok _ _ _ _ _ _ _ _ _ _ _ _ _ wh n w hT hU hl hr w0 w1 hk (by omega)
      · by_cases h1 : n < 1
        · exact spoilt_ki_lo _ _ _ _ _ _ _ _ _ _ _ _ _ wh n w hT hU hl hr w0 w1 hk h1
        by_cases h2 : 3 < n
        · exact spoilt_ki_hi _ _ _ _ _ _ _ _ _ _ _ _ _ wh n w hT hU hl hr w0 w1 hk h2
        · exact spoilt_ki_ok _ _ _ _ _ _ _ _ _ _ _ _ _ wh n w hT hU hl hr w0 w1 hk (by omega)
    · obtain ⟨l1, l2, l3⟩ := lgt_yes hl
      have HL := Lib.hid fun W => light_any r W s1 s2 s3
      rw [hl] at HL
      have HAW := Lib.hid awake_any
      have hA : ∀ o, Below w.heap.size w (w.alloc o) := fun o => (Below.refl _ _).alloc (Nat.le_refl _) o
      have hA := Lib.hid hA
      have HT := Lib.hid hT; have HU := Lib.hid hU
      have HC1 := Lib.hid fun W hT hU => chk_any r W hT hU (by omega) (by omega) (by omega)
      clear hl l1 l2 l3 hT hU w0 w1
      generalize chk r = x at *
      obtain ⟨p, E⟩ := x
      have q3 : (E != 0) = true := by simpa using he
      clear he
      obtain ⟨id, no, ro, pr, ki, ra, pe, bu, co, mx, fa, wa, pb⟩ := r
      dsimp only [ruC] at HL HC1 ⊢
      go_enter Tryd.func5, Tryd.ntmps5
      go_wp2_with (first
        | (refine wpList_fetch _ rfl _ rfl _ _ rfl X1.out rfl ?_)
        | (go_at_call 6; (with_reducible refine (HL.out _).mono ?_); rintro e w1 ⟨rfl, hb1⟩; have B1 := Lib.hid ((hA.out _).trans (hb1.mono (by simp))); have X1 := Lib.hid (box_stay hb1); clear hb1)
        | (go_at_call 8; (with_reducible refine (HC1.out _ (HT.out.next B1.out) (Utf.Tabs.next HU.out B1.out)).mono ?_); rintro e w2 ⟨rfl, hb2⟩; have B2 := Lib.hid (B1.out.trans (hb2.mono B1.out.size)); clear hb2)
        | (go_at_call 7; (with_reducible refine (HAW.out _ (HT.out.next B2.out) (Utf.Tabs.next HU.out B2.out)).mono ?_); rintro e w5 ⟨rfl, hb5⟩))
      go_ret
      exact ⟨rfl, B2.out.trans (hb5.mono B2.out.size)⟩
  | false =>
    have HL := Lib.hid fun W => light_any r W s1 s2 s3
    rw [hl] at HL
    have HAW := Lib.hid awake_any
    have hA : ∀ o, Below w.heap.size w (w.alloc o) := fun o => (Below.refl _ _).alloc (Nat.le_refl _) o
    have hA := Lib.hid hA
    have HT := Lib.hid hT; have HU := Lib.hid hU
    clear hl hT hU w0 w1
    obtain ⟨id, no, ro, pr, ki, ra, pe, bu, co, mx, fa, wa, pb⟩ := r
    dsimp only [ruC] at HL ⊢
    go_enter Tryd.func5, Tryd.ntmps5
    go_wp2_with (first
      | (go_at_call 6; (with_reducible refine (HL.out _).mono ?_); rintro e w1 ⟨rfl, hb1⟩; have B1 := Lib.hid ((hA.out _).trans (hb1.mono (by simp))))
      | (go_at_call 7; (with_reducible refine (HAW.out _ (HT.out.next B1.out) (Utf.Tabs.next HU.out B1.out)).mono ?_); rintro e w5 ⟨rfl, hb5⟩))
    go_ret
    exact ⟨rfl, B1.out.trans (hb5.mono B1.out.size)⟩
end Go.Proofs.YtaiafhepeleefaaDoor.Rul
