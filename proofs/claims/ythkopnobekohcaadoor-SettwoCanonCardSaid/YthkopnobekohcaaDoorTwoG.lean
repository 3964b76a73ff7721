/- Contract of the document's Is of sets of rules of version 2; what the code's calls answer, as premises; SettwoSays out of them. Conditions: as each theorem states. -/
import Derived.Test.YthkopnobekohcaaDoorTwoP2
import Derived.Test.YthkopnobekohcaaDoorTwoP3
import Derived.Test.YthkopnobekohcaaDoorTwoEv
namespace Go.Proofs.YthkopnobekohcaaDoor.Two
open Go.RowKit Go.Lib
open Go.Proofs.YthkopnobekohcaaDoor.Ren (Pw)

theorem scn_size {L : List Rw} (h : L.length ≤ 5000) : (scn L).length ≤ 5000 := by
  by_cases hz : (sck L).2 = 0
  · rw [scn_len ((sck_zero L).1 hz)]; exact h
  · rw [scn_no hz]; exact Nat.zero_le _

/-! ### the laws' premises -/
def CkP : Prop := ∀ (L : List Rw) (v : Value) (W : World), Row W v L → L.length ≤ 5000 → Mod L → Ev W →
  Calls Tryd.prog 10 #[v] W fun e w' => e = .returned (.tuple #[.string (sck L).1, .int .i64 (sck L).2]) ∧ Below W.heap.size W w'
def CnP : Prop := ∀ (L : List Rw) (v : Value) (W : World), Row W v L → L.length ≤ 5000 → Mod L → Ev W →
  Calls Tryd.prog 6 #[v] W fun e w' => ∃ v', e = .returned (.tuple #[v', .string (sck L).1, .int .i64 (sck L).2]) ∧ Row w' v' (scn L) ∧ Below W.heap.size W w'
def IsP : Prop := ∀ (L : List Rw) (v : Value) (W : World), Row W v L → L.length ≤ 5000 → Mod L → Ev W →
  Calls Tryd.prog 7 #[v] W fun e w' => e = .returned (.bool (isC L)) ∧ Below W.heap.size W w'
def KiP : Prop := ∀ (k : Int) (W : World), Ev W → Calls Tryd.prog 11 #[.int .i64 k] W fun e w' => e = .returned (.string (kB k)) ∧ Below W.heap.size W w'
def KoP : Prop := ∀ (s : ByteArray) (W : World), s.size ≤ 9223372036854775807 → Ev W → Calls Tryd.prog 12 #[.string s] W fun e w' => e = .returned (.int .i64 (kO s)) ∧ Below W.heap.size W w'
def AwP : Prop := ∀ (W : World), Ev W → Calls Tryd.prog 5 #[] W fun e w' => e = .returned (.bool true) ∧ Below W.heap.size W w'
theorem mod_of {L : List Rw} (hf : Fit L) (h : lgS L = true) : Mod L := fun r hr => by
  have := (lgS_iff h).2.2 r hr
  have := hf r hr
  omega

end Go.Proofs.YthkopnobekohcaaDoor.Two
