/- Texts of my own, packed: RenN, TreX, TreY, ThrS, ThrL. Conditions: as each theorem states. -/
import Derived.Lib.ItoaMem
import Derived.Lib.AppendIntMem
import Derived.Lib.LaidTab
import Derived.Shelf.SlSortCmp.WholeK
import Derived.Test.YtehkiojohldlgaaGreatDoorK01
import Derived.Test.YtehkiojohldlgaaGreatDoorK02
import Derived.Test.YtehkiojohldlgaaGreatDoorK03
import Derived.Test.YtehkiojohldlgaaGreatDoorK18
import Derived.Test.YtehkiojohldlgaaGreatDoorK20
import Derived.Test.YtehkiojohldlgaaGreatDoorK31
namespace Go.Proofs.YtehkiojohldlgaaGreatDoor.Ren
open Go.RowKit Go.Lib Go.Proofs.YtehkiojohldlgaaGreatDoor.Lx

theorem dec_is : ∀ u : Nat, u < 18446744073709551616 → decDigits u = dcL u := by
  intro u
  induction u using Nat.strongRecOn with
  | _ u ih =>
    intro h
    by_cases h10 : u < 10
    · rw [decDigits_one h10, dcL_low h10]; rfl
    · rw [decDigits, dif_neg h10, dcL_high h10 h, ih (u / 10) (by omega) (by omega)]
      rfl
/-- The table of powers reads as the library lays it. -/
def Pw (w : World) : Prop := TabIs Tryz.prog w "internal/strconv.uint64pow10" .u64 pow10Tab
theorem Pw.next {w w' : World} (h : Pw w) (hb : Below w.heap.size w w') : Pw w' := by
  unfold Pw TabIs World.var? at *
  cases hg : Tryz.prog.globalNamed "internal/strconv.uint64pow10" with
  | none => simp [hg] at h
  | some g =>
    simp only [hg, Option.bind_some] at h ⊢
    have hlt : g < w.heap.size := by
      rcases Nat.lt_or_ge g w.heap.size with h' | h'
      · exact h'
      · rw [Array.getElem?_eq_none h'] at h; simp at h
    rw [hb.block g hlt]
    exact h
end Go.Proofs.YtehkiojohldlgaaGreatDoor.Ren

namespace Go.Proofs.YtehkiojohldlgaaGreatDoor.Tre
open Go.RowKit Go.Lib Go.Proofs.YtehkiojohldlgaaGreatDoor.Byt Go.Proofs.YtehkiojohldlgaaGreatDoor.Utf

abbrev sB : ByteArray := ⟨#[98]⟩
abbrev sA : ByteArray := ⟨#[97]⟩
def v1 : Vt := .mk 2 1 ⟨#[]⟩ [] []
def v2 : Vt := .mk 4 0 ⟨#[]⟩ [V0] []
def vA : Vt := .mk 5 0 ⟨#[]⟩ [v1, v2] [sB, sA]
def vS : Vt := .mk 5 0 ⟨#[]⟩ [v2, v1] [sA, sB]
/-! ### the walk -/
def AW (w : World) (g1 g2 g6 : Nat) (c1 c2 c6 : List Value) (W : World) : Prop := Box W g1 c1.toArray ∧ Box W g2 c2.toArray ∧ Box W g6 c6.toArray ∧ InV W vA c1 ∧ InV W v1 c2 ∧ InV W vS c6 ∧ Below w.heap.size w W ∧ Tabs W
theorem AW.next {w : World} {g1 g2 g6 : Nat} {c1 c2 c6 : List Value} {W W' : World} (h : AW w g1 g2 g6 c1 c2 c6 W) (hb : Below W.heap.size W W') : AW w g1 g2 g6 c1 c2 c6 W' := by
  obtain ⟨h1, h2, h3, h4, h5, h6, h7, h8⟩ := h
  exact ⟨h1.next hb h1.lt, h2.next hb h2.lt, h3.next hb h3.lt, InV_next hb _ _ h4, InV_next hb _ _ h5, InV_next hb _ _ h6, Tre.next h7 hb, h8.next hb⟩
section
variable {w : World} {g1 g2 g6 : Nat} {c1 c2 c6 : List Value} {W : World}
theorem AW.b1 (h : AW w g1 g2 g6 c1 c2 c6 W) : Box W g1 c1.toArray := h.1
theorem AW.b6 (h : AW w g1 g2 g6 c1 c2 c6 W) : Box W g6 c6.toArray := h.2.2.1
theorem AW.va (h : AW w g1 g2 g6 c1 c2 c6 W) : InV W vA c1 := h.2.2.2.1
theorem AW.vs (h : AW w g1 g2 g6 c1 c2 c6 W) : InV W vS c6 := h.2.2.2.2.2.1
theorem AW.bel (h : AW w g1 g2 g6 c1 c2 c6 W) : Below w.heap.size w W := h.2.2.2.2.2.2.1
theorem AW.tab (h : AW w g1 g2 g6 c1 c2 c6 W) : Tabs W := h.2.2.2.2.2.2.2
end
end Go.Proofs.YtehkiojohldlgaaGreatDoor.Tre

namespace Go.Proofs.YtehkiojohldlgaaGreatDoor.Tre
open Go.RowKit Go.Lib Go.Proofs.YtehkiojohldlgaaGreatDoor.Byt Go.Proofs.YtehkiojohldlgaaGreatDoor.Utf

def SB (w : World) (v u : Vt) (G : Nat) (cs es : List Value) (W : World) : Prop := Box W w.heap.size cs.toArray ∧ Box W G es.toArray ∧ InV W v cs ∧ InV W u es ∧ Below w.heap.size w W ∧ Tabs W
section
variable {w W W' : World} {v u : Vt} {G : Nat} {cs es : List Value}
theorem SB.next (h : SB w v u G cs es W) (hb : Below W.heap.size W W') : SB w v u G cs es W' := by
  obtain ⟨h1, h2, h3, h4, h5, h6⟩ := h
  exact ⟨h1.next hb h1.lt, h2.next hb h2.lt, InV_next hb _ _ h3, InV_next hb _ _ h4, Tre.next h5 hb, h6.next hb⟩
theorem SB.drew (h : SB w v u G cs es W) : SB w v u G cs es W.drew := h.next (Below.refl _ _).drew
end
attribute [irreducible] SB
end Go.Proofs.YtehkiojohldlgaaGreatDoor.Tre

namespace Go.Proofs.YtehkiojohldlgaaGreatDoor.Thr
open Go.RowKit Go.Lib Go.Shelf Go.Sort
open Go.Proofs.YtehkiojohldlgaaGreatDoor.Rul (Ru zero Row Own ruC ruL rga rowC rowC_len rowC_at ruL_one)
open Go.Proofs.YtehkiojohldlgaaGreatDoor.Ide (lt lt_irrefl lt_trans lt_asymm lt_total)

theorem neg_is : ∀ a b : List UInt8, Lib.compareBytes a b < 0 ↔ a < b
  | [], [] => by simp [Lib.compareBytes]
  | [], _ :: _ => by simp [Lib.compareBytes]
  | _ :: _, [] => by simp [Lib.compareBytes]
  | a :: x, b :: y => by
    unfold Lib.compareBytes
    rw [List.cons_lt_cons_iff]
    by_cases h : a < b
    · rw [if_pos h]
      exact ⟨fun _ => .inl h, fun _ => by omega⟩
    · rw [if_neg h]
      by_cases h2 : b < a
      · rw [if_pos h2]
        refine ⟨fun q => by omega, fun q => ?_⟩
        rcases q with q | ⟨q, _⟩
        · exact absurd q h
        · subst q; exact absurd h2 (UInt8.lt_irrefl _)
      · rw [if_neg h2, neg_is x y]
        obtain rfl : a = b := UInt8.le_antisymm (UInt8.not_lt.1 h2) (UInt8.not_lt.1 h)
        exact ⟨fun q => .inr ⟨rfl, q⟩, fun q => by rcases q with q | ⟨_, q⟩; exact absurd q h; exact q⟩
/-- How two texts stand. -/
def cI (a b : ByteArray) : Int := Lib.compareBytes a.data.toList b.data.toList
def cfR (x y : Ru) : Int := cI x.id y.id
theorem lt_cfR (x y : Ru) : ltOf cfR x y = lt x.id y.id := by
  unfold ltOf cfR cI
  rw [Ide.lt_is]; exact decide_eq_decide.2 (neg_is _ _)
theorem swoR : SWO (ltOf cfR) where
  irrefl x := by rw [lt_cfR]; exact lt_irrefl _
  trans x y z h1 h2 := by rw [lt_cfR] at *; exact lt_trans h1 h2
  ntrans x y z h1 h2 := by
    rw [lt_cfR] at *
    cases h : lt x.id z.id with
    | false => rfl
    | true =>
      cases k : lt y.id x.id with
      | true => rw [lt_trans k h] at h2; cases h2
      | false =>
        have e := lt_total h1 k
        rw [e] at h
        rw [h] at h2; cases h2
theorem sorted_srt {L : List Ru} (hn : (L.map (·.id)).Nodup) [Inhabited Ru] (d' : Array Ru) (hp : PermIn 0 L.toArray.size L.toArray d') (hs : SortedIn (ltOf cfR) 0 L.toArray.size d') : d' = (srt L).toArray := by
  obtain ⟨h1, _, h3⟩ := hp
  have hsz : L.toArray.size = L.length := List.size_toArray
  have hp2 : d'.toList.Perm L := by
    have e1 : (d'.extract 0 L.toArray.size).toList = d'.toList := by rw [← h1]; simp
    have e2 : (L.toArray.extract 0 L.toArray.size).toList = L := by simp
    rw [e1, e2] at h3
    exact h3
  have hn2 : (d'.toList.map (·.id)).Nodup := (hp2.map _).nodup_iff.2 hn
  have hr : d'.toList.Pairwise ls := by
    rw [List.pairwise_iff_getElem]
    unfold List.Nodup at hn2
    rw [List.pairwise_map, List.pairwise_iff_getElem] at hn2
    intro i j hi hj hij
    have hne := hn2 i j hi hj hij
    have hk := hs i j (Nat.zero_le _) hij (by rw [← h1]; simpa using hj)
    rw [lt_cfR, getElem!_pos d' j (by simpa using hj), getElem!_pos d' i (by simpa using hi)] at hk
    rw [Array.getElem_toList, Array.getElem_toList] at *
    unfold ls
    cases h : lt (d'[i]'(by simpa using hi)).id (d'[j]'(by simpa using hj)).id with
    | true => rfl
    | false => exact absurd (lt_total h hk) hne
  have := rises_one d'.toList (srt L) hr (srt_rises hn) (hp2.trans (srt_perm L).symm)
  rw [← this]
section
variable {w : World} {B g cap : Nat} {L : List Ru}
theorem own_holds [Inhabited Ru] (hO : Own w B (.slice (some ⟨g, 0, none⟩) L.length cap) L) : HoldsK ruL 13 w g 0 L.toArray ∧ g < w.heap.size ∧ B ≤ g := by
  rcases hO.2 with ⟨e0, _⟩ | ⟨g', cap', cur, e0, hb, hg, hn, hm, hs, ht⟩
  · cases e0
  · injection e0 with e1 _ e3
    injection e1 with e1
    injection e1 with e1
    subst e1 e3
    refine ⟨fun t ht2 => ?_, (Array.getElem?_eq_some_iff.1 hg).1, hb⟩
    rw [size_flatK, List.size_toArray] at ht2
    rw [get_flatK _ _ _ t (by rw [List.size_toArray]; exact ht2), Nat.zero_add, World.ownsRow.cellAt hO t ht2]
    refine ⟨?_, by simp [World.frozen?, hg]⟩
    have h13 : t % 13 < 13 := Nat.mod_lt _ (by omega)
    have h2 := rowC_at L (t / 13) (t % 13) (by omega) h13
    rw [show t / 13 * 13 + t % 13 = t by omega] at h2
    have hx : L.toArray[t / 13]! = rga L (t / 13) := by
      rw [getElem!_pos _ _ (by rw [List.size_toArray]; omega)]
      unfold rga
      rw [List.getD_eq_getElem?_getD, List.getElem?_eq_getElem (by omega)]
      simp
    rw [h2, hx, getElem!_pos (ruL (rga L (t / 13))) (t % 13) h13, List.getElem?_eq_getElem (l := ruL (rga L (t / 13))) h13]
    rfl
theorem own_sorted [Inhabited Ru] (hO : Own w B (.slice (some ⟨g, 0, none⟩) L.length cap) L) {M : List Ru} (hl : M.length = L.length) (m : Nat) (os : Array Obj) :
    Own (sortWorldK ruL 13 w g 0 m M.toArray os) B (.slice (some ⟨g, 0, none⟩) L.length cap) M ∧ w.grownBy (sortWorldK ruL 13 w g 0 m M.toArray os) (some g) := by
  rcases hO.2 with ⟨e0, _⟩ | ⟨g', cap', cur, e0, hb, hg, hn, hm, hs, ht⟩
  · cases e0
  · injection e0 with e1 _ e3
    injection e1 with e1
    injection e1 with e1
    subst e1 e3
    have hgl : g < w.heap.size := (Array.getElem?_eq_some_iff.1 hg).1
    have hsp : (putRowK ruL 13 (Sort.ahead w m) g 0 M.toArray).heap.size = w.heap.size := by simp [putRowK, putRow, mapBlock, Sort.ahead]
    have hcl : cur.toList.length = cur.size := Array.length_toList
    have hmul : L.length * 13 ≤ cur.size := by rw [hs]; exact Nat.mul_le_mul_right _ hn
    refine ⟨?_, ?_⟩
    · unfold Own
      rw [hl]
      refine ⟨by rw [rowC_len, hl], .inr ⟨g, cap, putCells id 0 (flatK ruL 13 M.toArray) cur, rfl, hb, ?_, hn, hm, by simpa [putCells] using hs, ?_⟩⟩
      · unfold sortWorldK
        rw [heap_grow_old _ _ (by rw [hsp]; exact hgl)]
        simp [putRowK, putRow, mapBlock, Sort.ahead, Array.getElem?_modify, hg, onCells]
      · apply List.ext_getElem?
        intro t
        rw [List.getElem?_take, Array.getElem?_toList]
        by_cases hj : t < L.length * 13
        · have htc : t < cur.size := by omega
          have hM : t < M.toArray.size * 13 := by rw [List.size_toArray, hl]; exact hj
          have h13 : t % 13 < 13 := Nat.mod_lt _ (by omega)
          have h2 := rowC_at M (t / 13) (t % 13) (by omega) h13
          rw [show t / 13 * 13 + t % 13 = t by omega] at h2
          have hx : M.toArray[t / 13]! = rga M (t / 13) := by
            rw [getElem!_pos _ _ (by rw [List.size_toArray]; omega)]
            unfold rga
            rw [List.getD_eq_getElem?_getD, List.getElem?_eq_getElem (by omega)]
            simp
          rw [if_pos hj, h2]
          simp only [putCells, Array.getElem?_mapIdx, Array.getElem?_eq_getElem htc, Option.map_some]
          rw [if_pos ⟨Nat.zero_le _, by rw [size_flatK]; omega⟩, Nat.sub_zero, get_flatK _ _ _ t hM, hx, getElem!_pos (ruL (rga M (t / 13))) (t % 13) h13, List.getElem?_eq_getElem (l := ruL (rga M (t / 13))) h13]
          rfl
        · rw [if_neg hj, List.getElem?_eq_none (by rw [rowC_len, hl]; omega)]
    · refine ⟨rfl, rfl, rfl, ?_, fun k hk hne => ?_⟩
      · unfold sortWorldK grow
        rw [Array.size_append, hsp]
        omega
      · unfold sortWorldK
        rw [heap_grow_old _ _ (by rw [hsp]; exact hk)]
        have : g ≠ k := fun e => hne (by rw [e])
        simp [putRowK, putRow, mapBlock, Sort.ahead, Array.getElem?_modify, this]
end
end Go.Proofs.YtehkiojohldlgaaGreatDoor.Thr

namespace Go.Proofs.YtehkiojohldlgaaGreatDoor.Thr
open Go.RowKit Go.Lib
open Go.Proofs.YtehkiojohldlgaaGreatDoor.Rul (Ru zero Row Own ruC ruL rga)

/-! ### Find -/
/-! ### Same -/
set_option maxHeartbeats 8000000 in
set_option maxRecDepth 100000 in
theorem equal_any (L M : List Ru) (v1 v2 : Value) (w : World) (h1 : Row w v1 L) (h2 : Row w v2 M) (hl : L.length ≤ 9223372036854775807) (_hm : M.length ≤ 9223372036854775807) :
    Calls Tryz.prog 52 #[v1, v2] w fun e w' => e = .returned (.bool (sm L M)) ∧ Below w.heap.size w w' := by
  obtain ⟨a1, cap1, rfl, _, c1⟩ := h1.open_
  obtain ⟨a2, cap2, rfl, _, c2⟩ := h2.open_
  have C1 := Lib.hid c1
  have C2 := Lib.hid c2
  clear c1 c2 h1 h2
  by_cases hlen : L.length = M.length
  · have HY := Lib.hid (@sm_yes L M hlen)
    have HNO := Lib.hid fun i => @sm_no_at L M i
    have hM : M.length = L.length := hlen.symm
    have C2' := Lib.hid fun j (hj : j < L.length) => C2.out j (hM ▸ hj)
    rw [hM]
    clear C2 hlen hM
    go_enter Tryz.func52, Tryz.ntmps52
    go_wp2_with fail
    go_loopw [13] (fun i wr => ∃ k : Nat, i = .int .i64 (k : Int) ∧ k ≤ L.length ∧ Hid (Below w.heap.size w wr) ∧ Hid (∀ j, j < k → ga L j = ga M j)) (fun i _ => L.length - (RowKit.intOf i).toNat)
    case atStart => exact ⟨0, rfl, Nat.zero_le _, Lib.hid (Below.refl _ _), Lib.hid fun j hj => absurd hj (Nat.not_lt_zero _)⟩
    case round =>
      obtain ⟨k, rfl, hk, HB, HA⟩ := hrel
      by_cases hlt : k < L.length
      · obtain ⟨b1, o1, rfl, x1⟩ := C1.out k hlt
        obtain ⟨b2, o2, rfl, x2⟩ := C2'.out k hlt
        have y1 := Rul.range_cells (fun j v hj => (HB.out.cell (Rul.lt_of_cell (x1 j v hj))).trans (x1 j v hj))
        have y2 := Rul.range_cells (fun j v hj => (HB.out.cell (Rul.lt_of_cell (x2 j v hj))).trans (x2 j v hj))
        rw [rga_ga] at y1 y2
        clear x1 x2
        have HQ := run_neq (ga L k) (ga M k)
        have HNK := Lib.hid (HNO.out k)
        have HX := Lib.hid fun (h : ga L k = ga M k) j (hj : j < k + 1) => by
          by_cases q : j < k
          · exact HA.out j q
          · obtain rfl : j = k := by omega
            exact h
        have HE := Lib.hid (rE_iff (ga L k) (ga M k))
        generalize ga L k = x at *
        generalize ga M k = y at *
        obtain ⟨p0, p1, p2, p3, p4, p5, p6, p7, p8, p9, p10, p11, p12⟩ := y1
        obtain ⟨q0, q1, q2, q3, q4, q5, q6, q7, q8, q9, q10, q11, q12⟩ := y2
        have HN : ∀ (_ : rE x y = false), ¬ x = y := fun h e => by rw [HE.out.2 e] at h; cases h
        have HN := Lib.hid HN
        cases hb : rE x y with
        | true =>
          have HX2 := Lib.hid (HX.out (HE.out.1 hb))
          rw [hb] at HQ
          clear hb HE HN HX HNK
          go_wp2_with fail
          go_region
          go_wp2_with fail
          go_roundw
          case rel => exact ⟨k + 1, by go_num, by omega, Lib.hid HB.out.drew, HX2⟩
          case measure => simp [RowKit.intOf]; omega
        | false =>
          have HZ := Lib.hid (HNK.out (HN.out hb))
          rw [hb] at HQ
          clear hb HE HN HX HNK
          go_wp2_with fail
          go_region
          go_wp2_with fail
          go_ret
          rw [HZ.out]
          exact ⟨rfl, HB.out.drew⟩
      · obtain rfl : k = L.length := by omega
        have HZ := Lib.hid (HY.out HA.out)
        go_wp2_with fail
        go_ret
        rw [HZ.out]
        exact ⟨rfl, HB.out⟩
  · rw [same_len hlen]
    have b1 : ((L.length : Int) != (M.length : Int)) = true := by rw [bne_iff_ne]; omega
    go_enter Tryz.func52, Tryz.ntmps52
    go_wp2_with fail
    go_ret
    exact ⟨rfl, Below.refl _ _⟩
end Go.Proofs.YtehkiojohldlgaaGreatDoor.Thr
