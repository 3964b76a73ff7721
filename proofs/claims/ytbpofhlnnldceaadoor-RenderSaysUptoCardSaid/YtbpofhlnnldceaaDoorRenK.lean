/- Contracts of the document's short and wide, Put and Pretty. Conditions: as each theorem states. -/
import Derived.Test.YtbpofhlnnldceaaDoorRenJ
import Derived.Test.YtbpofhlnnldceaaDoorRenF
import Derived.Test.YtbpofhlnnldceaaDoorTreRa
namespace Go.Proofs.YtbpofhlnnldceaaDoor.Ren
open Go.RowKit Go.Lib Go.Proofs.YtbpofhlnnldceaaDoor.Byt Go.Proofs.YtbpofhlnnldceaaDoor.Utf Go.Proofs.YtbpofhlnnldceaaDoor.Quo
open Go.Proofs.YtbpofhlnnldceaaDoor.Tre (Vt V0 wi hdB textB nmB noneB scal dep cnt OkT okV InV InV_iff InV_next InV_cells Box Box.lt Box.cell Box.next box_new box_after wpList_fetch range_next mem_get vt_ind)

theorem name_in (co : List UInt8) (n : Int) (s : ByteArray) (l : List Vt) (ns : List ByteArray) (CO : ByteArray) (hco : CO.data.toList = co) (hcs : CO.size ≤ 10) (k : Int) (ob : Bool) (hk : (k = 4 ∧ ob = false) ∨ (k = 5 ∧ ob = true)) (hns : ob = true → ns.length = l.length)
    (htx : ob = true → ∀ u ∈ ns, textB u = true ∧ u.size ≤ 8000000) (cs : List Value) (w W : World) (h : InV w (.mk k n s l ns) cs) (hb : Below w.heap.size w W) (j : Nat) (hj : j < l.length) :
    Calls Tryd.prog 23 #[.agg cs.toArray, .int .i64 (j : Int), .string CO] W fun e w' => e = .returned (.string ⟨(nmT co ob (ns.getD j ⟨#[]⟩)).toArray⟩) ∧ Below W.heap.size W w' := by
  obtain ⟨a, cap, c4, hcs2, _, hrow⟩ := (InV_iff w _ cs).1 h
  replace hcs2 : cs = [.int .i64 k, .int .i64 n, .string s, .slice a l.length cap, c4] := hcs2
  replace hrow : Strs.Row w c4 ns := hrow
  subst hcs2
  rcases hk with ⟨rfl, rfl⟩ | ⟨rfl, rfl⟩
  · exact name_list n s _ c4 _ CO W
  · obtain ⟨na, ncap, rfl, hnm⟩ := hrow.open_
    have hjn : j < ns.length := by rw [hns rfl]; exact hj
    obtain ⟨nb, noff, rfl, hc⟩ := hnm j hjn
    have hmem : ns.getD j ⟨#[]⟩ ∈ ns := by
      rw [List.getD_eq_getElem?_getD, List.getElem?_eq_getElem hjn]
      exact List.getElem_mem hjn
    obtain ⟨ht, hz⟩ := htx rfl _ hmem
    have := name_obj n s (.slice a l.length cap) nb noff ns.length ncap j hjn _ ht hz CO hcs W ((hb.cell (Strs.cell_lt hc)).trans hc)
    rw [hco] at this
    exact this
theorem tl_le (st co : List UInt8) : ∀ (l : List Vt) (ob : Bool) (ns : List ByteArray) (cm ln : List UInt8), ∀ u ∈ l, (tv st co u ln).length ≤ (tl st co l ob ns cm ln).length
  | [], _, _, _, _, _, h => by cases h
  | x :: l, ob, ns, cm, ln, u, h => by
    rw [tl]
    simp only [List.length_append]
    rcases List.mem_cons.1 h with rfl | h
    · omega
    · have := tl_le st co l ob ns.tail [44] ln u h
      omega
theorem tv_list (st co ln : List UInt8) (n : Int) (s : ByteArray) (l : List Vt) (ns : List ByteArray) : tv st co (.mk 4 n s l ns) ln = 91 :: (tl st co l false ns [] (ln ++ st) ++ (if l.isEmpty then [] else ln) ++ [93]) := by rw [tv]; rfl
theorem tv_obj (st co ln : List UInt8) (n : Int) (s : ByteArray) (l : List Vt) (ns : List ByteArray) : tv st co (.mk 5 n s l ns) ln = 123 :: (tl st co l true ns [] (ln ++ st) ++ (if l.isEmpty then [] else ln) ++ [125]) := by rw [tv]; rfl
theorem names_small {k n : Int} {s : ByteArray} {l : List Vt} {ns : List ByteArray} (h : wg (.mk k n s l ns) ≤ 8000000) : ∀ u ∈ ns, u.size ≤ 8000000 := by
  intro u hu
  have := sum_mem hu
  rw [wg] at h
  omega
theorem short_all (v : Vt) : OkT v → ∀ m : Int, wi v m = true → wg v ≤ 8000000 → (tv [] [58] v []).length ≤ 7900000 → PS v := by
  refine vt_ind (p := fun v => OkT v → ∀ m : Int, wi v m = true → wg v ≤ 8000000 → (tv [] [58] v []).length ≤ 7900000 → PS v) ?_ v
  intro v ih hv m hw hg hln
  obtain ⟨_, h1, h2⟩ := hv
  cases v with
  | mk k n s l ns =>
    obtain ⟨hd, hl⟩ := co_wi hw
    have hmx : l.length ≤ 9223372036854775807 := by have := h1.2.2.2.1; have h2 : (Vt.mk k n s l ns).l = l := rfl; rw [h2] at this; omega
    by_cases h4 : k = 4
    · subst h4
      have e := tv_list [] [58] [] n s l ns
      have e2 : tv [] [58] (.mk 4 n s l ns) [] = 91 :: (tl [] [58] l false ns [] [] ++ [93]) := by rw [e]; simp
      have hle := hln
      rw [e2] at hle
      refine short_in 4 n s l ns false 91 93 (.inl rfl) hmx e2 (by omega) (bra_list n s) (fun cs w W h hb j hj => name_in [58] n s l ns ⟨#[58]⟩ rfl (by decide) 4 false (.inl ⟨rfl, rfl⟩) (fun q => by cases q) (fun q => by cases q) cs w W h hb j hj) fun u hu => ?_
      have := tl_le [] [58] l false ns [] [] u hu
      exact ih u hu (h2 u hu) (m - 1) (hl u hu) (Nat.le_trans (wg_part (v := .mk 4 n s l ns) hu) hg) (by simp at hle; omega)
    · by_cases h5 : k = 5
      · subst h5
        obtain ⟨hns, htx⟩ := names_of hd
        have hnz := names_small hg
        have e := tv_obj [] [58] [] n s l ns
        have e2 : tv [] [58] (.mk 5 n s l ns) [] = 123 :: (tl [] [58] l true ns [] [] ++ [125]) := by rw [e]; simp
        have hle := hln
        rw [e2] at hle
        refine short_in 5 n s l ns true 123 125 (.inr rfl) hmx e2 (by omega) (bra_obj n s) (fun cs w W h hb j hj => name_in [58] n s l ns ⟨#[58]⟩ rfl (by decide) 5 true (.inr ⟨rfl, rfl⟩) (fun _ => hns) (fun _ u hu => ⟨htx u hu, hnz u hu⟩) cs w W h hb j hj) fun u hu => ?_
        have := tl_le [] [58] l true ns [] [] u hu
        exact ih u hu (h2 u hu) (m - 1) (hl u hu) (Nat.le_trans (wg_part (v := .mk 5 n s l ns) hu) hg) (by simp at hle; omega)
      · exact short_leaf _ ⟨h1, by have : wg (.mk k n s l ns) = s.size + (ns.map ByteArray.size).sum + wgL l := by rw [wg]
                                   show s.size ≤ _
                                   omega, m, hd⟩ h4 h5
end Go.Proofs.YtbpofhlnnldceaaDoor.Ren
