/- awake answers true. Conditions: as each theorem states. -/
import Derived.Test.YtafelidejkppkaaDoorTreW
namespace Go.Proofs.YtafelidejkppkaaDoor.Tre
open Go.RowKit Go.Lib Go.Proofs.YtafelidejkppkaaDoor.Byt Go.Proofs.YtafelidejkppkaaDoor.Utf

abbrev sB : ByteArray := ⟨#[98]⟩
abbrev sA : ByteArray := ⟨#[97]⟩
abbrev sC : ByteArray := ⟨#[99]⟩
def v1 : Vt := .mk 2 1 ⟨#[]⟩ [] []
def v2 : Vt := .mk 4 0 ⟨#[]⟩ [V0] []
def vA : Vt := .mk 5 0 ⟨#[]⟩ [v1, v2] [sB, sA]
def vS : Vt := .mk 5 0 ⟨#[]⟩ [v2, v1] [sA, sB]
theorem a_find : find vA sB = some v1 := by rfl
theorem a_none : find vA sC = none := by rfl
theorem a_dep : dpw vA = 2 := by decide
theorem a_cnt : wr64 (cnt vA : Int) = 4 := by rw [show cnt vA = 4 by rfl]; unfold wr64; decide
theorem a_srt : srt vA = vS := by rfl
theorem a_right : wi vA 64 = true := by decide
theorem a_right2 : wi vS 64 = true := by decide
theorem a_al : alB vS vA = true := by
  unfold alB
  rw [a_right, a_right2, a_srt, show srt vS = vS from by rfl, sm_self]
  rfl
theorem a_ne : smB vS vA = false := by decide
theorem a_ok : OkT vA := by
  have z : OkT V0 := (OkT_iff _).2 ⟨by unfold okV V0; decide, fun x hx => by cases hx⟩
  have h1 : OkT v1 := (OkT_iff _).2 ⟨by unfold okV v1; decide, fun x hx => by cases hx⟩
  have h2 : OkT v2 := (OkT_iff _).2 ⟨by unfold okV v2; decide, fun x hx => by
    rcases List.mem_cons.1 hx with rfl | hx
    · exact z
    · cases hx⟩
  refine (OkT_iff _).2 ⟨by unfold okV vA; decide, fun x hx => ?_⟩
  rcases List.mem_cons.1 hx with rfl | hx
  · exact h1
  · rcases List.mem_cons.1 hx with rfl | hx
    · exact h2
    · cases hx

/-! ### the walk -/
theorem box4 (w : World) (a b c : Obj) (cs : Array Value) : Box ((((w.alloc a).alloc b).alloc c).alloc (.cells cs 25)) (w.heap.size + 3) cs := by
  have := box_new (((w.alloc a).alloc b).alloc c) cs
  rwa [show (((w.alloc a).alloc b).alloc c).heap.size = w.heap.size + 3 by simp] at this
theorem below4 (w : World) (a b c d : Obj) : Below (w.heap.size + 3) (((w.alloc a).alloc b).alloc c) ((((w.alloc a).alloc b).alloc c).alloc d) := (Below.refl _ _).alloc (by simp) _
theorem four_start {w w9 : World} {a b c : Obj} (hb : Below (w.heap.size + 3) (((w.alloc a).alloc b).alloc c) w9) : w9.heap[w.heap.size]? = some a ∧ w9.heap[w.heap.size + 1]? = some b ∧ w9.heap[w.heap.size + 2]? = some c ∧ Below w.heap.size w w9 := by
  have h1 : (w.alloc a).heap.size = w.heap.size + 1 := by simp
  have h2 : ((w.alloc a).alloc b).heap.size = w.heap.size + 2 := by simp
  have e1 := heap_alloc_new w a
  have e2 := heap_alloc_new (w.alloc a) b
  have e3 := heap_alloc_new ((w.alloc a).alloc b) c
  rw [h1] at e2
  rw [h2] at e3
  refine ⟨(hb.block _ (by omega)).trans ((Below.heap_alloc _ _ _ (by omega)).trans ((Below.heap_alloc _ _ _ (by omega)).trans e1)), (hb.block _ (by omega)).trans ((Below.heap_alloc _ _ _ (by omega)).trans e2), (hb.block _ (by omega)).trans e3, ?_⟩
  exact ((((Below.refl w.heap.size w).alloc (Nat.le_refl _) a).alloc (by omega) b).alloc (by omega) c).trans (hb.mono (by omega))
def cA (g : Nat) : List Value := [.int .i64 5, .int .i64 0, .string ⟨#[]⟩, .slice (some ⟨g + 1, 0, none⟩) 2 2, .slice (some ⟨g + 2, 0, none⟩) 2 2]
theorem awake_val (W : World) (g : Nat) (h0 : W.heap[g]? = some (.cells zeroC.toArray 25 (0, 0)))
    (h1 : W.heap[g + 1]? = some (.cells #[.int .i64 2, .int .i64 1, .string ⟨#[]⟩, .slice none 0 0, .slice none 0 0, .int .i64 4, .int .i64 0, .string ⟨#[]⟩, .slice (some ⟨g, 0, none⟩) 1 1, .slice none 0 0] 25 (0, 0)))
    (h2 : W.heap[g + 2]? = some (.cells #[.string ⟨#[98]⟩, .string ⟨#[97]⟩] 9 (0, 0))) : InV W vA (cA g) := by
  have c0 : ∀ j, W.cell? ⟨g, j, none⟩ = zeroC.toArray[j]? := fun j => by simp [World.cell?, h0]
  have c1 : ∀ j, W.cell? ⟨g + 1, j, none⟩ = (#[.int .i64 2, .int .i64 1, .string ⟨#[]⟩, .slice none 0 0, .slice none 0 0, .int .i64 4, .int .i64 0, .string ⟨#[]⟩, .slice (some ⟨g, 0, none⟩) 1 1, .slice none 0 0] : Array Value)[j]? := fun j => by simp only [World.cell?, h1]; rfl
  have c2 : ∀ j, W.cell? ⟨g + 2, j, none⟩ = (#[.string ⟨#[98]⟩, .string ⟨#[97]⟩] : Array Value)[j]? := fun j => by simp only [World.cell?, h2]; rfl
  have i1 : InV W v1 [.int .i64 2, .int .i64 1, .string ⟨#[]⟩, .slice none 0 0, .slice none 0 0] := (InV_iff _ _ _).2 ⟨none, 0, .slice none 0 0, rfl, fun _ hj => absurd hj (Nat.not_lt_zero _), Strs.Row.nil W⟩
  have i2 : InV W v2 [.int .i64 4, .int .i64 0, .string ⟨#[]⟩, .slice (some ⟨g, 0, none⟩) 1 1, .slice none 0 0] := by
    refine (InV_iff _ _ _).2 ⟨some ⟨g, 0, none⟩, 1, .slice none 0 0, rfl, fun j hj => ⟨g, 0, rfl, zeroC, fun f u hu => ?_, ?_⟩, Strs.Row.nil W⟩
    · obtain rfl : j = 0 := by have : j < 1 := hj; omega
      rw [show 0 + 5 * 0 + f = f by omega, c0 f]
      simpa using hu
    · obtain rfl : j = 0 := by have : j < 1 := hj; omega
      exact InV_zero W
  refine (InV_iff _ _ _).2 ⟨some ⟨g + 1, 0, none⟩, 2, .slice (some ⟨g + 2, 0, none⟩) 2 2, rfl, fun j hj => ?_, ?_⟩
  · have hj2 : j < 2 := hj
    rcases Nat.lt_or_ge j 1 with h | h
    · obtain rfl : j = 0 := by omega
      refine ⟨g + 1, 0, rfl, _, fun f u hu => ?_, i1⟩
      have hf : f < 5 := (List.getElem?_eq_some_iff.1 hu).1
      rw [show 0 + 5 * 0 + f = f by omega, c1 f]
      match f, hf with
      | 0, _ => exact hu
      | 1, _ => exact hu
      | 2, _ => exact hu
      | 3, _ => exact hu
      | 4, _ => exact hu
    · obtain rfl : j = 1 := by omega
      refine ⟨g + 1, 0, rfl, _, fun f u hu => ?_, i2⟩
      have hf : f < 5 := (List.getElem?_eq_some_iff.1 hu).1
      rw [show 0 + 5 * 1 + f = 5 + f by omega, c1 (5 + f)]
      match f, hf with
      | 0, _ => exact hu
      | 1, _ => exact hu
      | 2, _ => exact hu
      | 3, _ => exact hu
      | 4, _ => exact hu
  · refine .inr ⟨g + 2, 0, 2, rfl, fun j hj => ?_⟩
    have hj2 : j < 2 := hj
    rw [Nat.zero_add, c2 j]
    match j, hj2 with
    | 0, _ => rfl
    | 1, _ => rfl
def AW (w : World) (g1 g2 g6 : Nat) (c1 c2 c6 : List Value) (W : World) : Prop := Box W g1 c1.toArray ∧ Box W g2 c2.toArray ∧ Box W g6 c6.toArray ∧ InV W vA c1 ∧ InV W v1 c2 ∧ InV W vS c6 ∧ Below w.heap.size w W ∧ Tabs W
theorem AW.next {w : World} {g1 g2 g6 : Nat} {c1 c2 c6 : List Value} {W W' : World} (h : AW w g1 g2 g6 c1 c2 c6 W) (hb : Below W.heap.size W W') : AW w g1 g2 g6 c1 c2 c6 W' := by
  obtain ⟨h1, h2, h3, h4, h5, h6, h7, h8⟩ := h
  exact ⟨h1.next hb h1.lt, h2.next hb h2.lt, h3.next hb h3.lt, InV_next hb _ _ h4, InV_next hb _ _ h5, InV_next hb _ _ h6, Tre.next h7 hb, h8.next hb⟩
theorem AW.facts {w : World} {g1 g2 g6 : Nat} {c1 c2 c6 : List Value} {W : World} (h : AW w g1 g2 g6 c1 c2 c6 W) : ∃ b o cap, W.cell? ⟨g2, 1, none⟩ = some (.int .i64 1) ∧ W.cell? ⟨g6, 4, none⟩ = some (.slice (some ⟨b, o, none⟩) 2 cap) ∧ W.cell? ⟨b, o, none⟩ = some (.string ⟨#[97]⟩) := by
  obtain ⟨_, h2, h3, _, h5, h6, _, _⟩ := h
  obtain ⟨p, q, r, rfl, _⟩ := (InV_iff _ _ _).1 h5
  obtain ⟨p', q', r', rfl, _, hrow⟩ := (InV_iff _ _ _).1 h6
  obtain ⟨a, cap, b, o, rfl, hr⟩ := row_at hrow
  obtain ⟨rfl, _, hc⟩ := hr (by decide)
  refine ⟨b, o, cap, h2.cell 1, h3.cell 4, ?_⟩
  have := hc 0 (by decide)
  rwa [Nat.add_zero] at this
section
variable {w : World} {g1 g2 g6 : Nat} {c1 c2 c6 : List Value} {W : World}
theorem AW.b1 (h : AW w g1 g2 g6 c1 c2 c6 W) : Box W g1 c1.toArray := h.1
theorem AW.b6 (h : AW w g1 g2 g6 c1 c2 c6 W) : Box W g6 c6.toArray := h.2.2.1
theorem AW.va (h : AW w g1 g2 g6 c1 c2 c6 W) : InV W vA c1 := h.2.2.2.1
theorem AW.vs (h : AW w g1 g2 g6 c1 c2 c6 W) : InV W vS c6 := h.2.2.2.2.2.1
theorem AW.bel (h : AW w g1 g2 g6 c1 c2 c6 W) : Below w.heap.size w W := h.2.2.2.2.2.2.1
theorem AW.tab (h : AW w g1 g2 g6 c1 c2 c6 W) : Tabs W := h.2.2.2.2.2.2.2
end
set_option maxHeartbeats 8000000 in
set_option maxRecDepth 100000 in
theorem awake_any (w : World) (hT : Tabs w) : Calls Tryd.prog 7 #[] w fun e w' => e = .returned (.bool true) ∧ Below w.heap.size w w' := by
  have HF1 := Lib.hid fun (cs : List Value) (W : World) (h : InV W vA cs) => pfind vA a_ok sB cs W h
  have HF2 := Lib.hid fun (cs : List Value) (W : World) (h : InV W vA cs) => pfind vA a_ok sC cs W h
  rw [a_find] at HF1
  rw [a_none] at HF2
  have HSO := Lib.hid (psort vA a_ok)
  rw [a_srt] at HSO
  have hSok : OkT vS := a_srt ▸ OkT_srt vA a_ok
  have HRI := Lib.hid (pright vA a_ok)
  rw [a_right] at HRI
  have HDE := Lib.hid (pdepth vA a_ok)
  rw [a_dep] at HDE
  have HCO := Lib.hid (pcount vA a_ok)
  rw [a_cnt] at HCO
  have HAL := Lib.hid (palike vS vA hSok a_ok)
  rw [a_al] at HAL
  have HSM := Lib.hid (psame vS hSok vA a_ok)
  rw [a_ne] at HSM
  have HT := Lib.hid hT
  clear hT hSok
  go_enter Tryd.func7, Tryd.ntmps7
  simp only [Option.isSome_some, Option.getD_some, Option.isSome_none, Option.getD_none] at HF1 HF2
  go_wp2_with (first
    | (refine wpList_keep _ rfl _ _ rfl (w.heap.size + 3) _ (below4 w _ _ _ _) (w.heap.size + 3) (Nat.le_refl _) (cA w.heap.size).toArray _ rfl rfl (box4 w _ _ _ _) rfl rfl (by intro u hu; simp only [cA, List.mem_cons, List.not_mem_nil, or_false] at hu; rcases hu with rfl | rfl | rfl | rfl | rfl <;> rfl) ?_; intro w9 bx9 hb9 _ hs9; clear hs9; have hI9 := awake_val w9 w.heap.size (four_start hb9).1 (four_start hb9).2.1 (four_start hb9).2.2.1; have hw9 := (four_start hb9).2.2.2)
    | (refine wpList_fetch _ rfl _ rfl (w.heap.size + 3) (cA w.heap.size).toArray rfl bx9 rfl ?_)
    | (go_at_call 8; (with_reducible refine (HF1.out _ _ hI9).mono ?_); rintro e w10 ⟨d2, rfl, hi10, hb10⟩; have bx10 := bx9.next hb10 bx9.lt; have hI10 := InV_next hb10 _ _ hI9; have d25 := size_toArray d2 (InV_five hi10); have d21 := InS_one hi10; have hw10 := next hw9 hb10; clear bx9)
    | (refine wpList_keep _ rfl _ _ rfl w10.heap.size w10 ((Below.refl _ w10).alloc (Nat.le_refl _) _) w10.heap.size (Nat.le_refl _) d2.toArray _ rfl rfl (box_new _ _) rfl d25 (by simpa using d21) ?_; intro w11 bx11 hb11 _ hs11; clear hs11; have bxa := bx10.next hb11 bx10.lt; have hI11 := InV_next hb11 _ _ hI10; have hi11 := InV_next hb11 _ _ hi10; have hw11 := next hw10 hb11)
    | (refine wpList_fetch _ rfl _ rfl (w.heap.size + 3) (cA w.heap.size).toArray rfl bxa rfl ?_)
    | (go_at_call 8; (with_reducible refine (HF2.out _ _ hI11).mono ?_); rintro e w12 ⟨d3, rfl, hi12, hb12⟩; have bxb := bxa.next hb12 bxa.lt; have bxc := bx11.next hb12 bx11.lt; have hI12 := InV_next hb12 _ _ hI11; have hj12 := InV_next hb12 _ _ hi11; have d35 := size_toArray d3 (InV_five hi12); have d31 := InS_one hi12; have hw12 := next hw11 hb12; clear bxa)
    | (refine wpList_keep _ rfl _ _ rfl w12.heap.size w12 ((Below.refl _ w12).alloc (Nat.le_refl _) _) w12.heap.size (Nat.le_refl _) d3.toArray _ rfl rfl (box_new _ _) rfl d35 (by simpa using d31) ?_; intro w13 bx13 hb13 _ hs13; clear hs13; have bxd := bxb.next hb13 bxb.lt; have bxe := bxc.next hb13 bxc.lt; have hI13 := InV_next hb13 _ _ hI12; have hj13 := InV_next hb13 _ _ hj12; have hw13 := next hw12 hb13)
    | (refine wpList_fetch _ rfl _ rfl (w.heap.size + 3) (cA w.heap.size).toArray rfl bxd rfl ?_)
    | (go_at_call 19; (with_reducible refine (HSO.out _ _ hI13).mono ?_); rintro e w14 ⟨es, rfl, hS14, hb14⟩; have bxf := bxd.next hb14 bxd.lt; have bxg := bxe.next hb14 bxe.lt; have hI14 := InV_next hb14 _ _ hI13; have hj14 := InV_next hb14 _ _ hj13; have hk14 := InS_in _ _ hS14; have e5 := size_toArray es (InV_five hk14); have e1 := InS_one hk14; have hw14 := next hw13 hb14; clear bxd)
    | (refine wpList_keep _ rfl _ _ rfl w14.heap.size w14 ((Below.refl _ w14).alloc (Nat.le_refl _) _) w14.heap.size (Nat.le_refl _) es.toArray _ rfl rfl (box_new _ _) rfl e5 (by simpa using e1) ?_; intro w15 bx15 hb15 _ hs15; clear hs15; have a15 : AW w (w.heap.size + 3) w10.heap.size w14.heap.size (cA w.heap.size) d2 es w15 := ⟨bxf.next hb15 bxf.lt, bxg.next hb15 bxg.lt, bx15, InV_next hb15 _ _ hI14, InV_next hb15 _ _ hj14, InV_next hb15 _ _ hk14, next hw14 hb15, HT.out.next (next hw14 hb15)⟩)
    | (refine wpList_fetch _ rfl _ rfl (w.heap.size + 3) (cA w.heap.size).toArray rfl a15.b1 rfl ?_)
    | (go_at_call 10; (with_reducible refine (HRI.out _ _ a15.va a15.tab).mono ?_); rintro e w16 ⟨rfl, hb16⟩; have a16 := a15.next hb16; clear a15)
    | (refine wpList_fetch_g _ (by rfl) _ rfl (w.heap.size + 3) (cA w.heap.size).toArray rfl a16.b1 rfl ?_)
    | (go_at_call 12; (with_reducible refine (HDE.out _ _ a16.va).mono ?_); rintro e w17 ⟨rfl, hb17⟩; have a17 := a16.next hb17; clear a16)
    | (refine wpList_fetch_g _ (by rfl) _ rfl (w.heap.size + 3) (cA w.heap.size).toArray rfl a17.b1 rfl ?_)
    | (go_at_call 14; (with_reducible refine (HCO.out _ _ a17.va).mono ?_); rintro e w18 ⟨rfl, hb18⟩; have a18 := a17.next hb18; clear a17; obtain ⟨b6, o6, cap6, n1, n2, n3⟩ := a18.facts)
    | (refine wpList_fetch_g _ (by rfl) _ rfl w14.heap.size es.toArray rfl a18.b6 e5 ?_)
    | (refine wpList_fetch_g _ (by rfl) _ rfl (w.heap.size + 3) (cA w.heap.size).toArray rfl a18.b1 rfl ?_)
    | (go_at_call 17; (with_reducible refine (HAL.out _ _ _ a18.vs a18.va a18.tab).mono ?_); rintro e w19 ⟨rfl, hb19⟩; have a19 := a18.next hb19; clear a18)
    | (refine wpList_fetch_g _ (by rfl) _ rfl w14.heap.size es.toArray rfl a19.b6 e5 ?_)
    | (refine wpList_fetch_g _ (by rfl) _ rfl (w.heap.size + 3) (cA w.heap.size).toArray rfl a19.b1 rfl ?_)
    | (go_at_call 15; (with_reducible refine (HSM.out _ _ _ a19.vs a19.va).mono ?_); rintro e w20 ⟨rfl, hb20⟩))
  go_ret
  exact ⟨rfl, next a19.bel hb20⟩
end Go.Proofs.YtafelidejkppkaaDoor.Tre
