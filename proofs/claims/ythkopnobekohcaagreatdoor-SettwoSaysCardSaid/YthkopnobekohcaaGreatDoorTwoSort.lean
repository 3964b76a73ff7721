/- Rules sorted by their ids: slices.SortFunc at rows of rules. Conditions: as each theorem states. -/
import Derived.Test.YthkopnobekohcaaGreatDoorTwoP1
import Derived.Test.YthkopnobekohcaaGreatDoorShelf
import Derived.Shelf.SlSortCmp.WholeK
namespace Go.Proofs.YthkopnobekohcaaGreatDoor.Two
open Go.RowKit Go.Lib Go.Shelf Go.Sort
open Go.Proofs.YthkopnobekohcaaGreatDoor.Ide (lt lt_irrefl lt_trans lt_asymm lt_total)

theorem neg_is : ∀ a b : List UInt8, Lib.compareBytes a b < 0 ↔ a < b
  | [], [] => by simp [Lib.compareBytes]
  | [], _ :: _ => by simp [Lib.compareBytes]
  | _ :: _, [] => by simp [Lib.compareBytes]
  | a :: x, b :: y => by
    unfold Lib.compareBytes
    rw [List.cons_lt_cons_iff]
    by_cases h : a < b
    · rw [if_pos h]
      exact ⟨fun _ => .inl h, fun _ => by omega⟩
    · rw [if_neg h]
      by_cases h2 : b < a
      · rw [if_pos h2]
        refine ⟨fun q => by omega, fun q => ?_⟩
        rcases q with q | ⟨q, _⟩
        · exact absurd q h
        · subst q; exact absurd h2 (UInt8.lt_irrefl _)
      · rw [if_neg h2, neg_is x y]
        obtain rfl : a = b := UInt8.le_antisymm (UInt8.not_lt.1 h2) (UInt8.not_lt.1 h)
        exact ⟨fun q => .inr ⟨rfl, q⟩, fun q => by rcases q with q | ⟨_, q⟩; exact absurd q h; exact q⟩
/-- How two texts stand. -/
def cI (a b : ByteArray) : Int := Lib.compareBytes a.data.toList b.data.toList
def cfR (x y : Rw) : Int := cI x.id y.id
theorem lt_cfR (x y : Rw) : ltOf cfR x y = lt x.id y.id := by
  unfold ltOf cfR cI
  rw [Ide.lt_is]; exact decide_eq_decide.2 (neg_is _ _)
theorem swoR : SWO (ltOf cfR) where
  irrefl x := by rw [lt_cfR]; exact lt_irrefl _
  trans x y z h1 h2 := by rw [lt_cfR] at *; exact lt_trans h1 h2
  ntrans x y z h1 h2 := by
    rw [lt_cfR] at *
    cases h : lt x.id z.id with
    | false => rfl
    | true =>
      cases k : lt y.id x.id with
      | true => rw [lt_trans k h] at h2; cases h2
      | false =>
        have e := lt_total h1 k
        rw [e] at h
        rw [h] at h2; cases h2
theorem sorted_srt {L : List Rw} (hn : (L.map (·.id)).Nodup) [Inhabited Rw] (d' : Array Rw) (hp : PermIn 0 L.toArray.size L.toArray d') (hs : SortedIn (ltOf cfR) 0 L.toArray.size d') : d' = (srt L).toArray := by
  obtain ⟨h1, _, h3⟩ := hp
  have hsz : L.toArray.size = L.length := List.size_toArray
  have hp2 : d'.toList.Perm L := by
    have e1 : (d'.extract 0 L.toArray.size).toList = d'.toList := by rw [← h1]; simp
    have e2 : (L.toArray.extract 0 L.toArray.size).toList = L := by simp
    rw [e1, e2] at h3
    exact h3
  have hn2 : (d'.toList.map (·.id)).Nodup := (hp2.map _).nodup_iff.2 hn
  have hr : d'.toList.Pairwise ls := by
    rw [List.pairwise_iff_getElem]
    unfold List.Nodup at hn2
    rw [List.pairwise_map, List.pairwise_iff_getElem] at hn2
    intro i j hi hj hij
    have hne := hn2 i j hi hj hij
    have hk := hs i j (Nat.zero_le _) hij (by rw [← h1]; simpa using hj)
    rw [lt_cfR, getElem!_pos d' j (by simpa using hj), getElem!_pos d' i (by simpa using hi)] at hk
    rw [Array.getElem_toList, Array.getElem_toList] at *
    unfold ls
    cases h : lt (d'[i]'(by simpa using hi)).id (d'[j]'(by simpa using hj)).id with
    | true => rfl
    | false => exact absurd (lt_total h hk) hne
  have := rises_one d'.toList (srt L) hr (srt_rises hn) (hp2.trans (srt_perm L).symm)
  rw [← this]
section
variable {w : World} {B g cap : Nat} {L : List Rw}
theorem own_holds [Inhabited Rw] (hO : Own w B (.slice (some ⟨g, 0, none⟩) L.length cap) L) : HoldsK ruL 9 w g 0 L.toArray ∧ g < w.heap.size ∧ B ≤ g := by
  rcases hO.2 with ⟨e0, _⟩ | ⟨g', cap', cur, e0, hb, hg, hn, hm, hs, ht⟩
  · cases e0
  · injection e0 with e1 _ e3
    injection e1 with e1
    injection e1 with e1
    subst e1 e3
    refine ⟨fun t ht2 => ?_, (Array.getElem?_eq_some_iff.1 hg).1, hb⟩
    rw [size_flatK, List.size_toArray] at ht2
    rw [get_flatK _ _ _ t (by rw [List.size_toArray]; exact ht2), Nat.zero_add, World.ownsRow.cellAt hO t ht2]
    refine ⟨?_, by simp [World.frozen?, hg]⟩
    have h13 : t % 9 < 9 := Nat.mod_lt _ (by omega)
    have h2 := rowC_at L (t / 9) (t % 9) (by omega) h13
    rw [show t / 9 * 9 + t % 9 = t by omega] at h2
    have hx : L.toArray[t / 9]! = rga L (t / 9) := by
      rw [getElem!_pos _ _ (by rw [List.size_toArray]; omega)]
      unfold rga
      rw [List.getD_eq_getElem?_getD, List.getElem?_eq_getElem (by omega)]
      simp
    rw [h2, hx, getElem!_pos (ruL (rga L (t / 9))) (t % 9) h13, List.getElem?_eq_getElem (l := ruL (rga L (t / 9))) h13]
    rfl
theorem own_sorted [Inhabited Rw] (hO : Own w B (.slice (some ⟨g, 0, none⟩) L.length cap) L) {M : List Rw} (hl : M.length = L.length) (m : Nat) (os : Array Obj) :
    Own (sortWorldK ruL 9 w g 0 m M.toArray os) B (.slice (some ⟨g, 0, none⟩) L.length cap) M ∧ w.grownBy (sortWorldK ruL 9 w g 0 m M.toArray os) (some g) := by
  rcases hO.2 with ⟨e0, _⟩ | ⟨g', cap', cur, e0, hb, hg, hn, hm, hs, ht⟩
  · cases e0
  · injection e0 with e1 _ e3
    injection e1 with e1
    injection e1 with e1
    subst e1 e3
    have hgl : g < w.heap.size := (Array.getElem?_eq_some_iff.1 hg).1
    have hsp : (putRowK ruL 9 (Sort.ahead w m) g 0 M.toArray).heap.size = w.heap.size := by simp [putRowK, putRow, mapBlock, Sort.ahead]
    have hcl : cur.toList.length = cur.size := Array.length_toList
    have hmul : L.length * 9 ≤ cur.size := by rw [hs]; exact Nat.mul_le_mul_right _ hn
    refine ⟨?_, ?_⟩
    · unfold Own
      rw [hl]
      refine ⟨by rw [rowC_len, hl], .inr ⟨g, cap, putCells id 0 (flatK ruL 9 M.toArray) cur, rfl, hb, ?_, hn, hm, by simpa [putCells] using hs, ?_⟩⟩
      · unfold sortWorldK
        rw [heap_grow_old _ _ (by rw [hsp]; exact hgl)]
        simp [putRowK, putRow, mapBlock, Sort.ahead, Array.getElem?_modify, hg, onCells]
      · apply List.ext_getElem?
        intro t
        rw [List.getElem?_take, Array.getElem?_toList]
        by_cases hj : t < L.length * 9
        · have htc : t < cur.size := by omega
          have hM : t < M.toArray.size * 9 := by rw [List.size_toArray, hl]; exact hj
          have h13 : t % 9 < 9 := Nat.mod_lt _ (by omega)
          have h2 := rowC_at M (t / 9) (t % 9) (by omega) h13
          rw [show t / 9 * 9 + t % 9 = t by omega] at h2
          have hx : M.toArray[t / 9]! = rga M (t / 9) := by
            rw [getElem!_pos _ _ (by rw [List.size_toArray]; omega)]
            unfold rga
            rw [List.getD_eq_getElem?_getD, List.getElem?_eq_getElem (by omega)]
            simp
          rw [if_pos hj, h2]
          simp only [putCells, Array.getElem?_mapIdx, Array.getElem?_eq_getElem htc, Option.map_some]
          rw [if_pos ⟨Nat.zero_le _, by rw [size_flatK]; omega⟩, Nat.sub_zero, get_flatK _ _ _ t hM, hx, getElem!_pos (ruL (rga M (t / 9))) (t % 9) h13, List.getElem?_eq_getElem (l := ruL (rga M (t / 9))) h13]
          rfl
        · rw [if_neg hj, List.getElem?_eq_none (by rw [rowC_len, hl]; omega)]
    · refine ⟨rfl, rfl, rfl, ?_, fun k hk hne => ?_⟩
      · unfold sortWorldK grow
        rw [Array.size_append, hsp]
        omega
      · unfold sortWorldK
        rw [heap_grow_old _ _ (by rw [hsp]; exact hk)]
        have : g ≠ k := fun e => hne (by rw [e])
        simp [putRowK, putRow, mapBlock, Sort.ahead, Array.getElem?_modify, this]
end
end Go.Proofs.YthkopnobekohcaaGreatDoor.Two
