/- A strings.Builder that a call made itself, beside an iterator of a string: WriteByte, WriteString and WriteRune leave every iterator as it stood. Conditions: as each theorem states. -/
import Derived.Test.YtggahjhjapnfeaaDoorBld
import Derived.Lib.RuneBytes
import Derived.Lib.OthersKept
namespace Go.Proofs.YtggahjhjapnfeaaDoor.Bld
open Go.RowKit Go.Lib

/-- Every iterator of a string stands as it stood. -/
def Kept (w w' : World) : Prop := ∀ (k : Nat) (s : ByteArray) (pos : Nat), w.heap[k]? = some (Obj.stringIter s pos) → w'.heap[k]? = some (Obj.stringIter s pos)
theorem Kept.refl (w : World) : Kept w w := fun _ _ _ h => h
theorem Kept.trans {a b c : World} (h : Kept a b) (k : Kept b c) : Kept a c := fun i s p hi => k i s p (h i s p hi)
theorem iter_lt {w : World} {k : Nat} {s : ByteArray} {pos : Nat} (h : w.heap[k]? = some (Obj.stringIter s pos)) : k < w.heap.size := (Array.getElem?_eq_some_iff.1 h).1
theorem Kept.below {w w' : World} (hb : Below w.heap.size w w') : Kept w w' := fun k _ _ h => (hb.block k (iter_lt h)).trans h
theorem Kept.setCell (w : World) (b j : Nat) (v : Value) {cs : Array Value} {T : TypeId} {fr : Nat × Nat} (hb : w.heap[b]? = some (.cells cs T fr)) : Kept w (w.setCell ⟨b, j, none⟩ v) := by
  intro k s pos h
  have hne : b ≠ k := by rintro rfl; rw [hb] at h; cases h
  simp only [World.setCell]
  rw [Array.getElem?_modify, if_neg hne]
  exact h
theorem Kept.grown {w w' : World} {B n : Nat} {v : Value} {xs : List Value} {e : TypeId} (hown : w.ownsRow B e 1 v n xs) (hg : w.grownBy w' v.ownBlock) : Kept w w' := by
  intro k s pos h
  have hlt := iter_lt h
  rw [hg.block k hlt ?_]
  · exact h
  · intro h2
    rcases hown.2 with ⟨rfl, _⟩ | ⟨g, cap, cur, rfl, _, hgg, _⟩
    · simp [Value.ownBlock] at h2
    · simp [Value.ownBlock] at h2
      subst h2
      rw [hgg] at h
      cases h

theorem Holds.iterAt {w : World} {B b : Nat} {l : List UInt8} (h : Holds w B b l) {k : Nat} {s : ByteArray} {pos : Nat} (hk : w.heap[k]? = some (Obj.stringIter s pos)) (pos' : Nat) : Holds (w.iterAt k s pos') B b l := by
  have go : ∀ p, BuilderAt 51 5 B b p (byteCells l) w → BuilderAt 51 5 B b p (byteCells l) (w.iterAt k s pos') := by
    rintro p ⟨h1, v, h2, h3, h4⟩
    have hbk : b ≠ k := by rintro rfl; rw [hk] at h2; cases h2
    refine ⟨h1, v, (Lib.iterAt_other w k b s pos' hbk).trans h2, ⟨h3.1, ?_⟩, h4⟩
    rcases h3.2 with hn | ⟨g, cap, cur, hv, hbg, hg, rest⟩
    · exact .inl hn
    · have hgk : g ≠ k := by rintro rfl; rw [hk] at hg; cases hg
      exact .inr ⟨g, cap, cur, hv, hbg, (Lib.iterAt_other w k g s pos' hgk).trans hg, rest⟩
  rcases h with h | h
  · exact .inl (go _ h)
  · exact .inr (go _ h)
theorem check_kept (B b : Nat) (bs : List Value) (w : World) (h : IsBuilder 51 5 B b bs w) :
    Calls Tryd.prog 52 #[.pointer (some ⟨b, 0, none⟩)] w fun e w' => e = .returned (.tuple #[]) ∧ (BuilderAt 51 5 B b (.pointer (some ⟨b, 0, none⟩)) bs w' ∧ Below B w w') ∧ Kept w w' := by
  rcases h with h | h
  · refine (check_fresh b w h.cell0 h.shape h.frozen0).mono ?_
    rintro e w' ⟨rfl, rfl⟩
    obtain ⟨_, v, hbk, _⟩ := id h
    exact ⟨rfl, ⟨h.used _, (Below.refl B w).setCell (p := ⟨b, 0, none⟩) h.1 _⟩, Kept.setCell w b 0 _ hbk⟩
  · refine (check_used b w h.cell0).mono ?_
    rintro e w' ⟨rfl, rfl⟩
    exact ⟨rfl, ⟨h, Below.refl B _⟩, Kept.refl _⟩

set_option maxHeartbeats 1000000 in
set_option maxRecDepth 100000 in
theorem string_kept (B b : Nat) (bs : List Value) (s : ByteArray) (w : World) (h : IsBuilder 51 5 B b bs w) (hlen : bs.length + s.size ≤ 140737488355328) (hBw : B ≤ w.heap.size) :
    Calls Tryd.prog 41 #[.pointer (some ⟨b, 0, none⟩), .string s] w fun e w' => e = .returned (.tuple #[.int .i64 s.size, .nilIface]) ∧ (BuilderAt 51 5 B b (.pointer (some ⟨b, 0, none⟩)) (bs ++ Lib.strCells s) w' ∧ Below B w w') ∧ Kept w w' := by
  obtain ⟨i0, hi, hz0, hz1, hz2⟩ := info_parts info8
  go_enter Tryd.func41, Tryd.ntmps41
  go_wp2_with (go_at_call 52; refine (check_kept B b bs _ h).mono ?_)
  rintro e w1 ⟨rfl, ⟨h1, hb1⟩, hk1⟩
  obtain ⟨hB, v, hbk, hown, hne⟩ := h1
  have c0 : w1.cell? ⟨b, 0, none⟩ = some (.pointer (some ⟨b, 0, none⟩)) := by rw [Lib.cell_of_heap hbk]; rfl
  have c1 : w1.cell? ⟨b, 1, none⟩ = some v := by rw [Lib.cell_of_heap hbk]; rfl
  go_wp2_with (at_builtin; refine Lib.wpList_append_own_string _ rfl _ _ 34 9 rfl B 5 i0 Tryd.underlying34 Tryd.underlying9 hi hz0 hz1 hz2 _ _ _ rfl hown s rfl ?c3 ?c4 ?c5 ?_)
  case c3 => unfold maxLen; omega
  case c4 => omega
  case c5 => have := hb1.size; omega
  intro v' w2 hown' hgrow _
  have hlt : b < w1.heap.size := by
    rcases Nat.lt_or_ge b w1.heap.size with h' | h'
    · exact h'
    · simp [Array.getElem?_eq_none h'] at hbk
  have hb2 : w2.heap[b]? = some (.cells #[.pointer (some ⟨b, 0, none⟩), v] 51 (0, 0)) := by
    rw [hgrow.block b hlt (fun e => hne e.symm)]
    exact hbk
  have d0 : w2.cell? ⟨b, 0, none⟩ = some (.pointer (some ⟨b, 0, none⟩)) := by rw [Lib.cell_of_heap hb2]; rfl
  have d1 : w2.cell? ⟨b, 1, none⟩ = some v := by rw [Lib.cell_of_heap hb2]; rfl
  have f1 : w2.frozen? ⟨b, 1, none⟩ = false := Lib.frozen_of_heap hb2 1
  have hk2 := hk1.trans (Kept.grown hown hgrow)
  obtain ⟨ao, n', cap, rfl⟩ : ∃ ao n' cap, v' = .slice ao n' cap := by
    rcases hown'.2 with ⟨hv, _⟩ | ⟨g, cap, cur, hv, _⟩
    · exact ⟨_, _, _, hv⟩
    · exact ⟨_, _, _, hv⟩
  go_wp2
  go_ret2
  refine ⟨rfl, ⟨?_, ?_⟩, hk2.trans (Kept.setCell w2 b 1 _ hb2)⟩
  · exact Lib.BuilderAt.put (T := 51) (e := 5) hB hb2 (bs' := bs ++ Lib.strCells s) (by simpa [Lib.strCells_length] using hown') (by decide)
  · exact (hb1.grown hgrow (by have := hb1.size; omega) (fun k hk => (hown.lt k hk).1)).setCell (p := ⟨b, 1, none⟩) hB _

/-! ### the contracts to use -/
theorem wstring (B b : Nat) (l : List UInt8) (s : ByteArray) (w : World) (h : Holds w B b l) (hlen : l.length + s.size ≤ 140737488355328) (hBw : B ≤ w.heap.size) :
    Calls Tryd.prog 41 #[.pointer (some ⟨b, 0, none⟩), .string s] w fun e w' => e = .returned (.tuple #[.int .i64 s.size, .nilIface]) ∧ Holds w' B b (l ++ s.data.toList) ∧ Below B w w' ∧ Kept w w' := by
  refine (string_kept B b (byteCells l) s w h (by simpa [byteCells] using hlen) hBw).mono ?_
  rintro e w' ⟨rfl, ⟨h1, h2⟩, h3⟩
  refine ⟨rfl, .inr ?_, h2, h3⟩
  rw [byteCells_append]
  exact h1
end Go.Proofs.YtggahjhjapnfeaaDoor.Bld
