/- Contracts of the code's at, Find, Same of sets of rules. Conditions: as each theorem states. -/
import Derived.Test.YtoodiledcphclaaGreatDoorThrP3
import Derived.Test.YtoodiledcphclaaGreatDoorThrL
namespace Go.Proofs.YtoodiledcphclaaGreatDoor.Thr
open Go.RowKit Go.Lib
open Go.Proofs.YtoodiledcphclaaGreatDoor.Rul (Ru zero Row Own ruC ruL rga)
open Go.Proofs.YtoodiledcphclaaGreatDoor.Ren (Pw)

theorem at_any (i : Nat) (h : i ≤ 5000) (W : World) (hP : Pw W) : Calls Tryz.prog 16 #[.int .i64 (i : Int)] W fun e w' => e = .returned (.string (at_ i)) ∧ Below W.heap.size W w' := by
  have HI := Lib.hid (itoa_at (i : Int) (by omega) (by omega) W hP)
  have hz := itoa_size i h
  have hat : (⟨#[47]⟩ : ByteArray) ++ ⟨(Lib.itoa (i : Int)).toArray⟩ = at_ i := rfl
  generalize (⟨(Lib.itoa (i : Int)).toArray⟩ : ByteArray) = it at *
  generalize at_ i = A at *
  clear hP
  go_enter Tryz.func16, Tryz.ntmps16
  go_wp2_with (first
    | (go_at_call 17; (with_reducible refine HI.out.mono ?_); rintro e w1 ⟨rfl, hb1⟩))
  go_ret
  exact ⟨rfl, hb1⟩

theorem find_any : FdP := by
  intro L v s W hr hl
  obtain ⟨a, cap, rfl, _, hc⟩ := hr.open_
  have hb := (Below.refl W.heap.size W).alloc (Nat.le_refl _) (.cells #[.string s] 9)
  have HI := Lib.hid (index_any L a cap s W.heap.size (W.alloc (.cells #[.string s] 9)) (fun j hj => by
    obtain ⟨b, off, h1, h2⟩ := hc j hj
    exact ⟨b, off, h1, Rul.rangeAt_next h2 hb⟩) hl (by simp))
  have hsz : W.heap.size ≤ (W.alloc (.cells #[.string s] 9)).heap.size := hb.size
  have HF := Lib.hid (show decide (0 ≤ fd L s) = fk L s from rfl)
  have HB := Lib.hid hb
  clear hc hr hb
  go_enter Tryz.func10, Tryz.ntmps10
  go_wp2_with (first
    | (go_at_call 24; (with_reducible refine HI.out.mono ?_); rintro e w1 ⟨rfl, hb1⟩))
  go_ret2
  exact ⟨by simp [fk], HB.out.trans (hb1.mono hsz)⟩

theorem same_any : SmP := by
  intro L M v u W hr hq hl hm
  have HE := Lib.hid (equal_any L M v u W hr hq hl hm)
  clear hr hq
  generalize sm L M = b at *
  go_enter Tryz.func26, Tryz.ntmps26
  go_wp2_with (first
    | (go_at_call 39; (with_reducible refine HE.out.mono ?_); rintro e w1 ⟨rfl, hb1⟩))
  go_ret
  exact ⟨rfl, hb1⟩
end Go.Proofs.YtoodiledcphclaaGreatDoor.Thr
