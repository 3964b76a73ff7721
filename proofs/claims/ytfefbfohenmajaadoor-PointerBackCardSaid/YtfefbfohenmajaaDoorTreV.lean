/- Contracts of Alike; what is sorted keeps the bounds. Conditions: as each theorem states. -/
import Derived.Test.YtfefbfohenmajaaDoorTreT
import Derived.Test.YtfefbfohenmajaaDoorTreG3
import Derived.BigQuiet
import Derived.Deep.RegionHeld3
namespace Go.Proofs.YtfefbfohenmajaaDoor.Tre
open Go.RowKit Go.Lib Go.Proofs.YtfefbfohenmajaaDoor.Byt Go.Proofs.YtfefbfohenmajaaDoor.Utf

theorem OkT_iff (v : Vt) : OkT v ↔ okV v ∧ ∀ x ∈ v.l, OkT x := ⟨fun h => by cases h with | mk _ h1 h2 => exact ⟨h1, h2⟩, fun h => .mk v h.1 h.2⟩
theorem OkT_mkO {k n : Int} {s : ByteArray} {l : List Vt} {ns : List ByteArray} (h : OkT (.mk k n s l ns)) : OkT (mkO k n s l ns) := by
  unfold mkO
  split
  · rename_i hc
    obtain ⟨h1, h2⟩ := (OkT_iff _).1 h
    have p1 := items_perm hc.2
    have p2 := names_perm hc.2
    refine (OkT_iff _).2 ⟨⟨h1.1, h1.2.1, h1.2.2.1, ?_, ?_, fun m hm => h1.2.2.2.2.2 m (p2.mem_iff.1 hm)⟩, fun x hx => h2 x (p1.mem_iff.1 hx)⟩
    · show ((isort (ns.zip l)).map Prod.snd).length * 80 ≤ _
      rw [p1.length_eq]; exact h1.2.2.2.1
    · show ((isort (ns.zip l)).map Prod.fst).length * 16 ≤ _
      rw [p2.length_eq]; exact h1.2.2.2.2.1
  · exact h
theorem OkT_srt (v : Vt) : OkT v → OkT (srt v) := by
  refine vt_ind (p := fun v => OkT v → OkT (srt v)) ?_ v
  intro v ih h
  obtain ⟨h1, h2⟩ := (OkT_iff v).1 h
  cases v with
  | mk k n s l ns =>
    rw [srt, srtL_map]
    refine OkT_mkO ((OkT_iff _).2 ⟨⟨h1.1, h1.2.1, h1.2.2.1, ?_, h1.2.2.2.2⟩, ?_⟩)
    · show (l.map srt).length * 80 ≤ _
      rw [List.length_map]; exact h1.2.2.2.1
    · intro x hx
      obtain ⟨y, hy, rfl⟩ := List.mem_map.1 hx
      exact ih y hy (h2 y hy)

def SA (w : World) (x y : Array Value) (W : World) : Prop := Box W w.heap.size x ∧ Box W (w.heap.size + 1) y ∧ Below w.heap.size w W ∧ w.heap.size + 2 ≤ W.heap.size
theorem SA.next {w W W' : World} {x y : Array Value} (h : SA w x y W) (hb : Below W.heap.size W W') : SA w x y W' := by
  obtain ⟨h1, h2, h3, h4⟩ := h
  exact ⟨h1.next hb (by omega), h2.next hb (by omega), h3.trans (hb.mono (by omega)), Nat.le_trans h4 hb.size⟩
theorem SA.drew {w W : World} {x y : Array Value} (h : SA w x y W) : SA w x y W.drew := ⟨h.1, h.2.1, h.2.2.1.drew, h.2.2.2⟩
theorem SA.start (w : World) (x y : Array Value) : SA w x y ((w.alloc (.cells x 25)).alloc (.cells y 25)) := by
  obtain ⟨h1, h2, h3⟩ := two_boxes (Below.refl ((w.alloc (.cells x 25)).alloc (.cells y 25)).heap.size _)
  exact ⟨h1, h2, h3, by simp⟩
theorem SA.load1 {w W : World} {x y : Array Value} (h : SA w x y W) (h5 : x.size = 5) : (Instr.loadAt 25 (.pointer (some ⟨w.heap.size, 0, none⟩))).run Tryd.prog W = .ok (.agg x) W := by
  have hl := run_loadVar_row (P := Tryd.prog) W w.heap.size _ 25 x _ _ h.1 Tryd.underlying25 rfl (by rw [infoV, h5])
  simp only [Instr.loadAt, Instr.sureAddr, Sem.run_bind, Sem.run_pure, Result.andThen_ok, hl]
theorem SA.load2 {w W : World} {x y : Array Value} (h : SA w x y W) (h5 : y.size = 5) : (Instr.loadAt 25 (.pointer (some ⟨w.heap.size + 1, 0, none⟩))).run Tryd.prog W = .ok (.agg y) W := by
  have hl := run_loadVar_row (P := Tryd.prog) W (w.heap.size + 1) _ 25 y _ _ h.2.1 Tryd.underlying25 rfl (by rw [infoV, h5])
  simp only [Instr.loadAt, Instr.sureAddr, Sem.run_bind, Sem.run_pure, Result.andThen_ok, hl]
end Go.Proofs.YtfefbfohenmajaaDoor.Tre
