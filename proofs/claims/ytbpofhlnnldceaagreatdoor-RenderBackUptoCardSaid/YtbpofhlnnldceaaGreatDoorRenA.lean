/- Contracts of the writer's add and of quoted. Conditions: the two tables of unicode/utf8 are as its text lays them; as each theorem states. -/
import Derived.Test.YtbpofhlnnldceaaGreatDoorRenW
import Derived.Test.YtbpofhlnnldceaaGreatDoorRenMath
import Derived.Test.YtbpofhlnnldceaaGreatDoorQuoG1
namespace Go.Proofs.YtbpofhlnnldceaaGreatDoor.Ren
open Go.RowKit Go.Lib Go.Proofs.YtbpofhlnnldceaaGreatDoor.Byt Go.Proofs.YtbpofhlnnldceaaGreatDoor.Utf Go.Proofs.YtbpofhlnnldceaaGreatDoor.Quo
open Go.Proofs.YtbpofhlnnldceaaGreatDoor.Tre (textB)

/-- What is no row of bytes, and not the writer, stays. -/
abbrev Kp (b : Nat) (w w' : World) : Prop := OthersKept 5 (some b) w w'
theorem heap_lt {w : World} {k : Nat} {o : Obj} (h : w.heap[k]? = some o) : k < w.heap.size := (Array.getElem?_eq_some_iff.1 h).1
theorem Kp.below {b : Nat} {w w' : World} (h : Below w.heap.size w w') : Kp b w w' := fun _ _ hi _ _ => (h.block _ (heap_lt hi)).trans hi
/-- The writer at block b, made behind w0, holds acc. -/
structure Ws (w0 : World) (b : Nat) (x y z : ByteArray) (acc : List UInt8) (W : World) : Prop where
  wr : Wr w0.heap.size b x y z acc W
  bel : Below w0.heap.size w0 W
section
variable {w0 W W' : World} {b : Nat} {x y z : ByteArray} {acc : List UInt8}
theorem Ws.next (h : Ws w0 b x y z acc W) (k : Below W.heap.size W W') : Ws w0 b x y z acc W' := ⟨h.wr.next k, h.bel.trans (k.mono h.bel.size)⟩
theorem Ws.alloc (h : Ws w0 b x y z acc W) (o : Obj) : Ws w0 b x y z acc (W.alloc o) := h.next ((Below.refl _ _).alloc (Nat.le_refl _) o)
theorem Ws.drew (h : Ws w0 b x y z acc W) : Ws w0 b x y z acc W.drew := h.next (Below.refl _ _).drew
theorem Ws.lt (h : Ws w0 b x y z acc W) : b < W.heap.size := h.wr.open_.2.1
end
/-- Pieces of text behind one another. -/
def cat (xs : List ByteArray) : List UInt8 := xs.flatMap fun s => s.data.toList
theorem cat_snoc (xs : List ByteArray) (s : ByteArray) : cat (xs ++ [s]) = cat xs ++ s.data.toList := by simp [cat]
theorem cat_le : ∀ (xs : List ByteArray) (i : Nat), (cat (xs.take i)).length ≤ (cat xs).length
  | [], i => by simp [cat]
  | s :: xs, 0 => by simp [cat]
  | s :: xs, i + 1 => by
    have := cat_le xs i
    simp only [cat, List.take_succ_cons, List.flatMap_cons, List.length_append] at this ⊢
    omega
theorem take_snoc (xs : List ByteArray) (i : Nat) (h : i < xs.length) : xs.take (i + 1) = xs.take i ++ [xs.getD i ⟨#[]⟩] := by
  rw [List.take_add_one, List.getElem?_eq_getElem h, List.getD_eq_getElem?_getD, List.getElem?_eq_getElem h]
  rfl
/-- A row of strings that a call made. -/
def Row (w : World) (g : Nat) (xs : List ByteArray) : Prop := w.heap[g]? = some (.cells (xs.map Value.string).toArray 9 (0, 0))
theorem Row.kept {w w' : World} {g b : Nat} {xs : List ByteArray} (h : Row w g xs) (hg : g ≠ b) (k : Kp b w w') : Row w' g xs :=
  k g _ h (fun e => hg (Option.some.inj e)) fun c fz e => by
    injection e with _ e2 _
    exact absurd e2 (by decide)
theorem Row.cell {w : World} {g : Nat} {xs : List ByteArray} (h : Row w g xs) {i : Nat} (hi : i < xs.length) : w.cell? ⟨g, i, none⟩ = some (.string (xs.getD i ⟨#[]⟩)) := by
  rw [Lib.cell_of_heap h]
  simp [List.getElem?_eq_getElem hi]
set_option maxRecDepth 100000 in
set_option maxHeartbeats 1000000 in
theorem add_any (w0 : World) (b : Nat) (x y z : ByteArray) (acc : List UInt8) (xs : List ByteArray) (g : Nat) (W : World) (h : Ws w0 b x y z acc W) (hg : Row W g xs) (hgb : g ≠ b) (hlen : acc.length + (cat xs).length ≤ 140737488355328) (hn : xs.length ≤ 10) :
    Calls Tryz.prog 27 #[.pointer (some ⟨b, 0, none⟩), .slice (some ⟨g, 0, none⟩) xs.length xs.length] W fun e w' => e = .returned (.tuple #[]) ∧ Ws w0 b x y z (acc ++ cat xs) w' ∧ Kp b W w' := by
  have HX : ∀ i, i < xs.length → ∀ wr, Ws w0 b x y z (acc ++ cat (xs.take i)) wr → Calls Tryz.prog 42 #[.pointer (some ⟨b, 3, none⟩), .string (xs.getD i ⟨#[]⟩)] wr fun e w' => e = .returned (.tuple #[.int .i64 ((xs.getD i ⟨#[]⟩).size : Int), .nilIface]) ∧ Ws w0 b x y z (acc ++ cat (xs.take (i + 1))) w' ∧ Kp b wr w' := by
    intro i hi wr hw
    have h1 := cat_le xs (i + 1)
    rw [take_snoc xs i hi, cat_snoc] at h1 ⊢
    rw [List.length_append] at h1
    have h2 : (xs.getD i ⟨#[]⟩).data.toList.length = (xs.getD i ⟨#[]⟩).size := by simp
    refine (wr_write w0.heap.size b x y z _ (xs.getD i ⟨#[]⟩) wr hw.wr (by rw [List.length_append]; omega) hw.bel.size).mono ?_
    rintro e w' ⟨rfl, k1, k2, k3⟩
    exact ⟨rfl, ⟨by rw [← List.append_assoc]; exact k1, hw.bel.trans k2⟩, k3⟩
  have HX2 := Lib.hid HX
  have HG := Lib.hid hg
  clear HX hg hlen
  go_enter Tryz.func27, Tryz.ntmps27
  go_wp2_with fail
  go_loopw [8] (fun u wr => ∃ i : Nat, u = .int .i64 (i : Int) ∧ i ≤ xs.length ∧ Ws w0 b x y z (acc ++ cat (xs.take i)) wr ∧ Kp b W wr)
    (fun u _ => xs.length - (RowKit.intOf u).toNat)
  case atStart => exact ⟨0, by go_num, Nat.zero_le _, by simpa [cat] using h, OthersKept.refl _ _ _⟩
  case round =>
    obtain ⟨i, rfl, hi, hw, hk⟩ := hrel
    by_cases hlt : i < xs.length
    · have c0 := (HG.out.kept hgb hk).cell hlt
      have HW := Lib.hid (HX2.out i hlt wr hw)
      generalize xs.getD i ⟨#[]⟩ = s at *
      go_wp2_with (go_at_call 42; refine HW.out.mono ?_; rintro e w1 ⟨rfl, h1, k1⟩)
      go_roundw
      case rel => exact ⟨i + 1, by go_num, by omega, h1, hk.trans k1⟩
      case measure => simp [RowKit.intOf]; omega
    · obtain rfl : i = xs.length := by omega
      rw [List.take_length] at hw
      go_wp2_with fail
      go_end0
      exact ⟨rfl, hw, hk⟩
set_option maxRecDepth 100000 in
theorem quoted_any (s : ByteArray) (W : World) (hT : Tabs W) (hs : s.size ≤ 8000000) (ht : textB s = true) :
    Calls Tryz.prog 40 #[.string s] W fun e w' => e = .returned (.string ⟨(qQ s.data.toList).toArray⟩) ∧ Below W.heap.size W w' := by
  have H := qput_any s W hT hs
  unfold textB at ht
  rw [decide_eq_true_eq] at ht
  unfold rP pT pE at H
  rw [if_pos ht, if_pos ht] at H
  have HQ := Lib.hid H
  clear H hT
  generalize qQ s.data.toList = L at *
  go_enter Tryz.func40, Tryz.ntmps40
  go_wp2_with (go_at_call 64; refine HQ.out.mono ?_; rintro e w1 ⟨rfl, hb1⟩)
  go_ret
  exact ⟨rfl, hb1⟩
end Go.Proofs.YtbpofhlnnldceaaGreatDoor.Ren
