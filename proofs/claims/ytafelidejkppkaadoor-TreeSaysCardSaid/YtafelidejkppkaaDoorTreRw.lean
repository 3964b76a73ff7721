/- The document's Sort of any value; its Alike. Conditions: as each theorem states. -/
import Derived.Test.YtafelidejkppkaaDoorTreRu
import Derived.Test.YtafelidejkppkaaDoorTreRa
namespace Go.Proofs.YtafelidejkppkaaDoor.Tre
open Go.RowKit Go.Lib Go.Proofs.YtafelidejkppkaaDoor.Byt Go.Proofs.YtafelidejkppkaaDoor.Utf

theorem rsort (v : Vt) (hv : OkT v) : ∀ (cs : List Value) (w : World), InV w v cs → Calls Tryd.prog 20 #[.agg cs.toArray] w fun e w' => ∃ ds : List Value, e = .returned (.agg ds.toArray) ∧ InS (fun b => w.heap.size ≤ b) w' (srt v) ds ∧ Below w.heap.size w w' := by
  revert hv
  refine vt_ind (p := fun v => OkT v → ∀ (cs : List Value) (w : World), InV w v cs → Calls Tryd.prog 20 #[.agg cs.toArray] w fun e w' => ∃ ds : List Value, e = .returned (.agg ds.toArray) ∧ InS (fun b => w.heap.size ≤ b) w' (srt v) ds ∧ Below w.heap.size w w') ?_ v
  intro v ih hv cs w h
  exact rsort_any v cs w h hv fun x hx => ih x hx (((OkT_iff v).1 hv).2 x hx)

set_option maxHeartbeats 4000000 in
set_option maxRecDepth 100000 in
theorem ralike (v u : Vt) (hv : OkT v) (hu : OkT u) (cs ds : List Value) (w : World) (h : InV w v cs) (k : InV w u ds) :
    Calls Tryd.prog 18 #[.agg cs.toArray, .agg ds.toArray] w fun e w' => e = .returned (.bool (alB v u)) ∧ Below w.heap.size w w' := by
  have HR1 := Lib.hid fun (W : World) (hb : SA w cs.toArray ds.toArray W) => rright v hv cs W (InV_next hb.2.2.1 v cs h)
  have HR2 := Lib.hid fun (W : World) (hb : SA w cs.toArray ds.toArray W) => rright u hu ds W (InV_next hb.2.2.1 u ds k)
  have HS1 := Lib.hid fun (W : World) (hb : SA w cs.toArray ds.toArray W) => rsort v hv cs W (InV_next hb.2.2.1 v cs h)
  have HS2 := Lib.hid fun (W : World) (hb : SA w cs.toArray ds.toArray W) => rsort u hu ds W (InV_next hb.2.2.1 u ds k)
  have HSM := Lib.hid (rsame (srt v) (OkT_srt v hv) (srt u) (OkT_srt u hu))
  have h5 := size_toArray cs (InV_five h)
  have k5 := size_toArray ds (InV_five k)
  have X := fun (W : World) (hb : SA w cs.toArray ds.toArray W) (j : Nat) => hb.1.cell j
  have Y := fun (W : World) (hb : SA w cs.toArray ds.toArray W) (j : Nat) => hb.2.1.cell j
  have H0 := Lib.hid (SA.start w cs.toArray ds.toArray)
  obtain ⟨a, cap, c4, rfl, _⟩ := (InV_iff w v cs).1 h
  obtain ⟨a2, cap2, d4, rfl, _⟩ := (InV_iff w u ds).1 k
  have x0 := fun W hb => X W hb 0
  have x1 := fun W hb => X W hb 1
  have x2 := fun W hb => X W hb 2
  have x3 := fun W hb => X W hb 3
  have x4 := fun W hb => X W hb 4
  have y0 := fun W hb => Y W hb 0
  have y1 := fun W hb => Y W hb 1
  have y2 := fun W hb => Y W hb 2
  have y3 := fun W hb => Y W hb 3
  have y4 := fun W hb => Y W hb 4
  simp only [List.size_toArray, List.length_cons, List.length_nil, Nat.zero_add, Nat.reduceAdd, Nat.reduceLT, getElem?_pos, List.getElem_toArray, List.getElem_cons_zero, List.getElem_cons_succ] at x0 x1 x2 x3 x4 y0 y1 y2 y3 y4
  clear X Y
  have e : alB v u = (wi v 64 && wi u 64 && smB (srt v) (srt u)) := rfl
  rw [e]
  clear e h k hv hu h5 k5
  generalize smB (srt v) (srt u) = M at *
  generalize srt v = SV at *
  generalize srt u = SU at *
  generalize wi v 64 = R1 at *
  generalize wi u 64 = R2 at *
  generalize v.l.length = l1 at *
  generalize u.l.length = l2 at *
  generalize v.k = k1 at *
  generalize u.k = k2 at *
  generalize v.n = n1 at *
  generalize u.n = n2 at *
  generalize v.s = s1 at *
  generalize u.s = s2 at *
  have s0 := SA.drew H0.out
  cases R1
  · clear HR2 HS1 HS2 HSM
    go_enter Tryd.func18, Tryd.ntmps18
    go_wp2_with fail
    go_region_with ((go_at_call 11; with_reducible refine (HR1.out _ s0).mono ?_; rintro e w3 ⟨rfl, hb3⟩; have s3 := s0.next hb3))
    all_goals
      go_wp2_with fail
      go_ret
      exact ⟨rfl, s3.2.2.1⟩
  cases R2
  · clear HS1 HS2 HSM
    go_enter Tryd.func18, Tryd.ntmps18
    go_wp2_with fail
    go_region_with (first
      | (go_at_call 11; with_reducible refine (HR1.out _ s0).mono ?_; rintro e w3 ⟨rfl, hb3⟩; have s3 := s0.next hb3)
      | (go_at_call 11; with_reducible refine (HR2.out _ s3).mono ?_; rintro e w4 ⟨rfl, hb4⟩; have s4 := s3.next hb4))
    all_goals
      go_wp2_with fail
      go_ret
      exact ⟨rfl, s4.2.2.1⟩
  · go_enter Tryd.func18, Tryd.ntmps18
    go_wp2_with fail
    go_region_with (first
      | (go_at_call 11; with_reducible refine (HR1.out _ s0).mono ?_; rintro e w3 ⟨rfl, hb3⟩; have s3 := s0.next hb3)
      | (go_at_call 11; with_reducible refine (HR2.out _ s3).mono ?_; rintro e w4 ⟨rfl, hb4⟩; have s4 := s3.next hb4)
      | (go_at_call 20; with_reducible refine (HS1.out _ s4).mono ?_; rintro e w5 ⟨ds1, rfl, hS1, hb5⟩; have s5 := s4.next hb5)
      | (go_at_call 20; with_reducible refine (HS2.out _ s5).mono ?_; rintro e w6 ⟨ds2, rfl, hS2, hb6⟩; have s6 := s5.next hb6; have i1 := InV_next hb6 _ _ (InS_in _ _ hS1); have i2 := InS_in _ _ hS2)
      | (go_at_call 16; with_reducible refine (HSM.out _ _ _ i1 i2).mono ?_; rintro e w7 ⟨rfl, hb7⟩; have s7 := s6.next hb7))
    all_goals
      go_wp2_with fail
      go_ret
      exact ⟨by rw [Bool.true_and, Bool.true_and]; rfl, s7.2.2.1⟩
end Go.Proofs.YtafelidejkppkaaDoor.Tre
