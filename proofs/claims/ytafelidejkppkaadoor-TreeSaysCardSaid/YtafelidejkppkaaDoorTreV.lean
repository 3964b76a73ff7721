/- Contracts of Alike; what is sorted keeps the bounds. Conditions: as each theorem states. -/
import Derived.Test.YtafelidejkppkaaDoorTreT
import Derived.Test.YtafelidejkppkaaDoorTreG
import Derived.BigQuiet
import Derived.Deep.RegionHeld3
namespace Go.Proofs.YtafelidejkppkaaDoor.Tre
open Go.RowKit Go.Lib Go.Proofs.YtafelidejkppkaaDoor.Byt Go.Proofs.YtafelidejkppkaaDoor.Utf

theorem OkT_iff (v : Vt) : OkT v ↔ okV v ∧ ∀ x ∈ v.l, OkT x := ⟨fun h => by cases h with | mk _ h1 h2 => exact ⟨h1, h2⟩, fun h => .mk v h.1 h.2⟩
theorem OkT_mkO {k n : Int} {s : ByteArray} {l : List Vt} {ns : List ByteArray} (h : OkT (.mk k n s l ns)) : OkT (mkO k n s l ns) := by
  unfold mkO
  split
  · rename_i hc
    obtain ⟨h1, h2⟩ := (OkT_iff _).1 h
    have p1 := items_perm hc.2
    have p2 := names_perm hc.2
    refine (OkT_iff _).2 ⟨⟨h1.1, h1.2.1, h1.2.2.1, ?_, ?_, fun m hm => h1.2.2.2.2.2 m (p2.mem_iff.1 hm)⟩, fun x hx => h2 x (p1.mem_iff.1 hx)⟩
    · show ((isort (ns.zip l)).map Prod.snd).length * 80 ≤ _
      rw [p1.length_eq]; exact h1.2.2.2.1
    · show ((isort (ns.zip l)).map Prod.fst).length * 16 ≤ _
      rw [p2.length_eq]; exact h1.2.2.2.2.1
  · exact h
theorem OkT_srt (v : Vt) : OkT v → OkT (srt v) := by
  refine vt_ind (p := fun v => OkT v → OkT (srt v)) ?_ v
  intro v ih h
  obtain ⟨h1, h2⟩ := (OkT_iff v).1 h
  cases v with
  | mk k n s l ns =>
    rw [srt, srtL_map]
    refine OkT_mkO ((OkT_iff _).2 ⟨⟨h1.1, h1.2.1, h1.2.2.1, ?_, h1.2.2.2.2⟩, ?_⟩)
    · show (l.map srt).length * 80 ≤ _
      rw [List.length_map]; exact h1.2.2.2.1
    · intro x hx
      obtain ⟨y, hy, rfl⟩ := List.mem_map.1 hx
      exact ih y hy (h2 y hy)

def SA (w : World) (x y : Array Value) (W : World) : Prop := Box W w.heap.size x ∧ Box W (w.heap.size + 1) y ∧ Below w.heap.size w W ∧ w.heap.size + 2 ≤ W.heap.size
theorem SA.next {w W W' : World} {x y : Array Value} (h : SA w x y W) (hb : Below W.heap.size W W') : SA w x y W' := by
  obtain ⟨h1, h2, h3, h4⟩ := h
  exact ⟨h1.next hb (by omega), h2.next hb (by omega), h3.trans (hb.mono (by omega)), Nat.le_trans h4 hb.size⟩
theorem SA.drew {w W : World} {x y : Array Value} (h : SA w x y W) : SA w x y W.drew := ⟨h.1, h.2.1, h.2.2.1.drew, h.2.2.2⟩
theorem SA.start (w : World) (x y : Array Value) : SA w x y ((w.alloc (.cells x 25)).alloc (.cells y 25)) := by
  obtain ⟨h1, h2, h3⟩ := two_boxes (Below.refl ((w.alloc (.cells x 25)).alloc (.cells y 25)).heap.size _)
  exact ⟨h1, h2, h3, by simp⟩
theorem SA.load1 {w W : World} {x y : Array Value} (h : SA w x y W) (h5 : x.size = 5) : (Instr.loadAt 25 (.pointer (some ⟨w.heap.size, 0, none⟩))).run Tryd.prog W = .ok (.agg x) W := by
  have hl := run_loadVar_row (P := Tryd.prog) W w.heap.size _ 25 x _ _ h.1 Tryd.underlying25 rfl (by rw [infoV, h5])
  simp only [Instr.loadAt, Instr.sureAddr, Sem.run_bind, Sem.run_pure, Result.andThen_ok, hl]
theorem SA.load2 {w W : World} {x y : Array Value} (h : SA w x y W) (h5 : y.size = 5) : (Instr.loadAt 25 (.pointer (some ⟨w.heap.size + 1, 0, none⟩))).run Tryd.prog W = .ok (.agg y) W := by
  have hl := run_loadVar_row (P := Tryd.prog) W (w.heap.size + 1) _ 25 y _ _ h.2.1 Tryd.underlying25 rfl (by rw [infoV, h5])
  simp only [Instr.loadAt, Instr.sureAddr, Sem.run_bind, Sem.run_pure, Result.andThen_ok, hl]
set_option maxHeartbeats 4000000 in
set_option maxRecDepth 100000 in
theorem palike (v u : Vt) (hv : OkT v) (hu : OkT u) (cs ds : List Value) (w : World) (h : InV w v cs) (k : InV w u ds) (hT : Tabs w) :
    Calls Tryd.prog 17 #[.agg cs.toArray, .agg ds.toArray] w fun e w' => e = .returned (.bool (alB v u)) ∧ Below w.heap.size w w' := by
  have HR1 := Lib.hid fun (W : World) (hb : SA w cs.toArray ds.toArray W) => pright v hv cs W (InV_next hb.2.2.1 v cs h) (hT.next hb.2.2.1)
  have HR2 := Lib.hid fun (W : World) (hb : SA w cs.toArray ds.toArray W) => pright u hu ds W (InV_next hb.2.2.1 u ds k) (hT.next hb.2.2.1)
  have HS1 := Lib.hid fun (W : World) (hb : SA w cs.toArray ds.toArray W) => psort v hv cs W (InV_next hb.2.2.1 v cs h)
  have HS2 := Lib.hid fun (W : World) (hb : SA w cs.toArray ds.toArray W) => psort u hu ds W (InV_next hb.2.2.1 u ds k)
  have HSM := Lib.hid (psame (srt v) (OkT_srt v hv) (srt u) (OkT_srt u hu))
  have h5 := size_toArray cs (InV_five h)
  have k5 := size_toArray ds (InV_five k)
  have X := fun (W : World) (hb : SA w cs.toArray ds.toArray W) (j : Nat) => hb.1.cell j
  have Y := fun (W : World) (hb : SA w cs.toArray ds.toArray W) (j : Nat) => hb.2.1.cell j
  have H0 := Lib.hid (SA.start w cs.toArray ds.toArray)
  obtain ⟨a, cap, c4, rfl, _⟩ := (InV_iff w v cs).1 h
  obtain ⟨a2, cap2, d4, rfl, _⟩ := (InV_iff w u ds).1 k
  have x0 := fun W hb => X W hb 0
  have x1 := fun W hb => X W hb 1
  have x2 := fun W hb => X W hb 2
  have x3 := fun W hb => X W hb 3
  have x4 := fun W hb => X W hb 4
  have y0 := fun W hb => Y W hb 0
  have y1 := fun W hb => Y W hb 1
  have y2 := fun W hb => Y W hb 2
  have y3 := fun W hb => Y W hb 3
  have y4 := fun W hb => Y W hb 4
  simp only [List.size_toArray, List.length_cons, List.length_nil, Nat.zero_add, Nat.reduceAdd, Nat.reduceLT, getElem?_pos, List.getElem_toArray, List.getElem_cons_zero, List.getElem_cons_succ] at x0 x1 x2 x3 x4 y0 y1 y2 y3 y4
  clear X Y
  have e : alB v u = (wi v 64 && wi u 64 && smB (srt v) (srt u)) := rfl
  rw [e]
  clear e h k hT hv hu h5 k5
  generalize smB (srt v) (srt u) = M at *
  generalize srt v = SV at *
  generalize srt u = SU at *
  generalize wi v 64 = R1 at *
  generalize wi u 64 = R2 at *
  generalize v.l.length = l1 at *
  generalize u.l.length = l2 at *
  generalize v.k = k1 at *
  generalize u.k = k2 at *
  generalize v.n = n1 at *
  generalize u.n = n2 at *
  generalize v.s = s1 at *
  generalize u.s = s2 at *
  have s0 := SA.drew H0.out
  cases R1
  · clear HR2 HS1 HS2 HSM
    go_enter Tryd.func17, Tryd.ntmps17
    go_wp2_with fail
    go_region_with ((go_at_call 10; with_reducible refine (HR1.out _ s0).mono ?_; rintro e w3 ⟨rfl, hb3⟩; have s3 := s0.next hb3))
    all_goals
      go_wp2_with fail
      go_ret
      exact ⟨rfl, s3.2.2.1⟩
  cases R2
  · clear HS1 HS2 HSM
    go_enter Tryd.func17, Tryd.ntmps17
    go_wp2_with fail
    go_region_with (first
      | (go_at_call 10; with_reducible refine (HR1.out _ s0).mono ?_; rintro e w3 ⟨rfl, hb3⟩; have s3 := s0.next hb3)
      | (go_at_call 10; with_reducible refine (HR2.out _ s3).mono ?_; rintro e w4 ⟨rfl, hb4⟩; have s4 := s3.next hb4))
    all_goals
      go_wp2_with fail
      go_ret
      exact ⟨rfl, s4.2.2.1⟩
  · go_enter Tryd.func17, Tryd.ntmps17
    go_wp2_with fail
    go_region_with (first
      | (go_at_call 10; with_reducible refine (HR1.out _ s0).mono ?_; rintro e w3 ⟨rfl, hb3⟩; have s3 := s0.next hb3)
      | (go_at_call 10; with_reducible refine (HR2.out _ s3).mono ?_; rintro e w4 ⟨rfl, hb4⟩; have s4 := s3.next hb4)
      | (go_at_call 19; with_reducible refine (HS1.out _ s4).mono ?_; rintro e w5 ⟨ds1, rfl, hS1, hb5⟩; have s5 := s4.next hb5)
      | (go_at_call 19; with_reducible refine (HS2.out _ s5).mono ?_; rintro e w6 ⟨ds2, rfl, hS2, hb6⟩; have s6 := s5.next hb6; have i1 := InV_next hb6 _ _ (InS_in _ _ hS1); have i2 := InS_in _ _ hS2)
      | (go_at_call 15; with_reducible refine (HSM.out _ _ _ i1 i2).mono ?_; rintro e w7 ⟨rfl, hb7⟩; have s7 := s6.next hb7))
    all_goals
      go_wp2_with fail
      go_ret
      exact ⟨by rw [Bool.true_and, Bool.true_and]; rfl, s7.2.2.1⟩
end Go.Proofs.YtafelidejkppkaaDoor.Tre
