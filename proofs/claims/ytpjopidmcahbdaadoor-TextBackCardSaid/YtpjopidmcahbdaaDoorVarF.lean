/- The statement VarintBack as a contract over every input. Conditions: the arguments fit their kinds. -/
import Derived.Test.YtpjopidmcahbdaaDoorVarE
import Derived.BigQuiet
import Derived.Deep.QuietTactic
import Derived.Deep.RegionHeld3
namespace Go.Proofs.YtpjopidmcahbdaaDoor.Var
open Go.RowKit Go.Lib Go.Proofs.YtpjopidmcahbdaaDoor.Byt

/-- A box of two, and what lies below. -/
theorem two_keep {w W W' : World} {a b : Value} (hb : Below W.heap.size W W') (h0 : W.cell? ⟨w.heap.size, 0, none⟩ = some a) (h1 : W.cell? ⟨w.heap.size, 1, none⟩ = some b) (hg : w.heap.size < W.heap.size) (hl : Below w.heap.size w W) :
    W'.cell? ⟨w.heap.size, 0, none⟩ = some a ∧ W'.cell? ⟨w.heap.size, 1, none⟩ = some b ∧ w.heap.size < W'.heap.size ∧ Below w.heap.size w W' :=
  ⟨(hb.cell (p := ⟨_, 0, none⟩) hg).trans h0, (hb.cell (p := ⟨_, 1, none⟩) hg).trans h1, by have := hb.size; omega, below_next hl (by omega) hb⟩
theorem two_new (w : World) (a b : Value) (T : TypeId) : (w.alloc (.cells #[a, b] T)).cell? ⟨w.heap.size, 0, none⟩ = some a ∧ (w.alloc (.cells #[a, b] T)).cell? ⟨w.heap.size, 1, none⟩ = some b ∧ w.heap.size < (w.alloc (.cells #[a, b] T)).heap.size ∧ Below w.heap.size w (w.alloc (.cells #[a, b] T)) :=
  ⟨by rw [World.cell?_alloc_mark]; rfl, by rw [World.cell?_alloc_mark]; rfl, by simp, (Below.refl _ _).alloc (Nat.le_refl _) _⟩

theorem below_drewN {B n : Nat} {w W : World} (h : Below B w W) : Below B w (W.drewN n) := ⟨h.os, h.tape, h.output, h.size, h.block⟩
theorem keep_below {w W W' : World} (hb : Below W.heap.size W W') (h : w.heap.size < W.heap.size ∧ Below w.heap.size w W) : w.heap.size < W'.heap.size ∧ Below w.heap.size w W' :=
  ⟨by have := hb.size; have := h.1; omega, below_next h.2 (by have := h.1; omega) hb⟩

theorem take_put (n : Nat) (a b : ByteArray) (hn : n < 18446744073709551616) (hs : a.size + b.size ≤ 1000) (w : World) :
    Calls Tryd.prog 15 #[.string (a ++ putS n ++ b), .int .i64 (a.size : Int)] w fun e w' => e = .returned (.tuple #[.int .u64 (n : Int), .int .i64 ((a.size + (putS n).size : Nat) : Int), .int .i64 0]) ∧ w = w' := by
  have hl : (putS n).size ≤ 10 := by rw [putS_size]; exact putV_len10 n hn
  have hz : (a ++ putS n ++ b).size = a.size + (putS n).size + b.size := by simp
  have h := take_in (a ++ putS n ++ b) a.size w (by omega) (by omega)
  have e : (a ++ putS n ++ b).data.toList.drop a.size = putV n ++ b.data.toList := by
    rw [ByteArray.data_append, ByteArray.data_append, Array.toList_append, Array.toList_append, List.append_assoc]
    have : a.size = a.data.toList.length := by simp
    rw [this, List.drop_left]
    rfl
  rw [e, tkR_put n 0 0 b.data.toList (by omega) (by omega) (by simpa using hn)] at h
  refine h.mono fun x w' ⟨h1, h2⟩ => ⟨?_, h2⟩
  rw [h1, rt_ok, putS_size]
  simp

/-- What is taken has these bytes. -/
theorem tk_back (s : ByteArray) (h : tkC s 0 = 0) : 1 ≤ tkE s 0 ∧ putS (tkN s 0) = cutB s 0 (tkE s 0) := by
  have h2 : (tkR 0 0 (s.data.toList.drop 0)).2.2 = 0 := by
    unfold tkC tk at h
    rwa [if_neg (by omega)] at h
  have h3 : tkR 0 0 (s.data.toList.drop 0) = ((tkR 0 0 (s.data.toList.drop 0)).1, (tkR 0 0 (s.data.toList.drop 0)).2.1, 0) := Prod.ext rfl (Prod.ext rfl h2)
  obtain ⟨x, h4, h5, h6, h7, _⟩ := tkR_back _ 0 0 _ _ h3
  have hN : tkN s 0 = (tkR 0 0 (s.data.toList.drop 0)).1 := by
    unfold tkN tk
    rw [if_neg (by omega)]; rfl
  have hE : tkE s 0 = (tkR 0 0 (s.data.toList.drop 0)).2.1 := by
    unfold tkE
    rw [show (tk s 0).2.2 = 0 from h, if_pos rfl]
    unfold tk
    rw [if_neg (by omega)]; simp
  rw [hN, hE]
  refine ⟨by omega, ?_⟩
  unfold putS cutB
  rw [h4, Nat.pow_zero, Nat.mul_one, Nat.zero_add, h7]
  simp
theorem tk_none (s : ByteArray) (h : tkC s 0 ≠ 0) : tkN s 0 = 0 ∧ tkE s 0 = 0 := by
  have h2 : (tk s 0).2.2 ≠ 0 := h
  refine ⟨?_, by unfold tkE; rw [if_neg h2]⟩
  unfold tkN
  unfold tk at h2 ⊢
  rw [if_neg (by omega)] at h2 ⊢
  exact (tkR_err _ _ _ h2).1

theorem slice_to (s : ByteArray) (n : Nat) (h : n ≤ s.size) (w : World) :
    (Instr.slice 9 (.string s) none (some (.int .i64 (n : Int))) none).run Tryd.prog w = .ok (.string (cutB s 0 n)) w := by
  rw [run_slice_string_to_if w 9 s .i64 (n : Int) Tryd.underlying9, if_pos (by omega)]
  have := extract_cut s 0 n
  rw [Nat.zero_add] at this
  rw [← this]
  rfl

end Go.Proofs.YtpjopidmcahbdaaDoor.Var
