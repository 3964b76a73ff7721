/- Laws over render, parse and grammar: what they use. Conditions: as each theorem states. -/
import Derived.Test.YtbpofhlnnldceaaGreatDoorRenG
import Derived.Test.YtbpofhlnnldceaaGreatDoorRenCw
import Derived.Test.YtbpofhlnnldceaaGreatDoorParG4
import Derived.Test.YtbpofhlnnldceaaGreatDoorParP
import Derived.Test.YtbpofhlnnldceaaGreatDoorGraG1
namespace Go.Proofs.YtbpofhlnnldceaaGreatDoor.Ren
open Go.RowKit Go.Lib Go.Proofs.YtbpofhlnnldceaaGreatDoor.Byt Go.Proofs.YtbpofhlnnldceaaGreatDoor.Utf Go.Proofs.YtbpofhlnnldceaaGreatDoor.Par
open Go.Proofs.YtbpofhlnnldceaaGreatDoor.Tre (Vt V0 wi dep cnt OkT okV InV InV_iff InV_next InS InS_in Box Box.lt Box.cell Box.next box_new wpList_fetch wpList_fetch_g wpList_keep smB sm_self)

/-- The environment. -/
structure Ev (W : World) : Prop where
  env : Lx.Env W
  pow : Pw W
theorem Ev.next {W W' : World} (h : Ev W) (hb : Below W.heap.size W W') : Ev W' := ⟨h.env.next hb, h.pow.next hb⟩
theorem Ev.en {W : World} (h : Ev W) : En W := ⟨h.env.tabs, h.pow⟩
theorem Ev.io {W : World} (h : Ev W) : Io W W := ⟨h.env, Below.refl _ _⟩
/-- A value in a variable of its own. -/
structure Bv (W : World) (g : Nat) (v : Vt) (cs : List Value) : Prop where
  box : Box W g cs.toArray
  inv : InV W v cs
theorem Bv.next {W W' : World} {g : Nat} {v : Vt} {cs : List Value} (h : Bv W g v cs) (hb : Below W.heap.size W W') : Bv W' g v cs := ⟨h.box.next hb h.box.lt, InV_next hb _ _ h.inv⟩
theorem Bv.made {W : World} {v : Vt} {cs : List Value} (h : InV W v cs) : Bv (W.alloc (.cells cs.toArray 25)) W.heap.size v cs := ⟨box_new _ _, InV_next ((Below.refl _ _).alloc (Nat.le_refl _) _) _ _ h⟩
theorem bel_alloc {w W : World} (h : Below w.heap.size w W) (o : Obj) : Below w.heap.size w (W.alloc o) := h.alloc h.size _
theorem bel_next {w W W' : World} (h : Below w.heap.size w W) (k : Below W.heap.size W W') : Below w.heap.size w W' := h.trans (k.mono h.size)
theorem five {w : World} {v : Vt} {cs : List Value} (h : InV w v cs) : ∃ k n s a l cap c m d, cs = [.int .i64 k, .int .i64 n, .string s, .slice a l cap, .slice c m d] := by
  obtain ⟨a, cap, c4, rfl, _, hr⟩ := (InV_iff w v cs).1 h
  obtain ⟨c, d, rfl, _⟩ := hr.open_
  exact ⟨_, _, _, _, _, _, _, _, _, rfl⟩
theorem put_read {v : Vt} (h : Small v) (hw : wi v 64 = true) : prS ⟨(putL v).toArray⟩ = .ok v (putL v).length := by
  have h1 := prs_back (st := []) (co := [58]) (cb := []) (ln := []) (fun c hc => by cases hc) rfl (fun c hc => by cases hc) (fun c hc => by cases hc) v h.ok hw 8000002 (by have := h.cnt; omega)
  show prs 8000002 (putL v).toArray.toList = _
  rw [List.toList_toArray]
  exact h1
theorem pre_read {v : Vt} (h : Small v) (hw : wi v 64 = true) : prS ⟨(preL v).toArray⟩ = .ok v (preL v).length := by
  have h1 := prs_back bl_two rfl bl_one bl_line v h.ok hw 8000002 (by have := h.cnt; omega)
  show prs 8000002 (preL v).toArray.toList = _
  rw [List.toList_toArray]
  exact h1
theorem put_size {v : Vt} (h : Small v) : (⟨(putL v).toArray⟩ : ByteArray).size ≤ 8000000 := by
  have := put_len h
  show (putL v).toArray.size ≤ _
  rw [List.size_toArray]
  omega
theorem pre_size {v : Vt} (h : Small v) (hw : wi v 64 = true) : (⟨(preL v).toArray⟩ : ByteArray).size ≤ 8000000 := by
  have := pre_len h hw
  show (preL v).toArray.size ≤ _
  rw [List.size_toArray]
  omega
/-- A text that is read as a value of at most 64 levels is JSON. -/
theorem read_is {s : ByteArray} {v : Vt} {q : Nat} (h : prS s = .ok v q) (hs : s.size ≤ 8000000) (hw : wi v 64 = true) (W : World) (hE : Lx.Env W) :
    Calls Tryz.prog 12 #[.string s] W fun e w' => e = .returned (.bool true) ∧ Below W.heap.size W w' := by
  have hl : s.data.toList.length = s.size := by simp
  have h1 := prs_run (l := s.data.toList) 8000002 (by omega) (by omega)
  have h2 : prs 8000002 s.data.toList = .ok v q := h
  rw [h2] at h1
  have h3 : Gr.lvl s.data.toList = (dep v : Int) := h1
  have h4 := wi_dep v 64 (by omega) hw
  have := Gr.is_any s W ⟨hE.tabs, hE.syn⟩ hs
  rw [h3] at this
  have h5 : Gr.isB (dep v : Int) = true := by unfold Gr.isB; rw [decide_eq_true (by omega), decide_eq_true (by omega)]; rfl
  rwa [h5] at this
end Go.Proofs.YtbpofhlnnldceaaGreatDoor.Ren
