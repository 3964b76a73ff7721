/- Contracts of frame's frameSize and Get. Conditions: the table of effects reads as the program lays it. -/
import Derived.Test.YtnknchadlhcdbaaDoorFrmB
import Derived.Deep.RegionHeld3
namespace Go.Proofs.YtnknchadlhcdbaaDoor.Frm
open Go.RowKit Go.Lib Go.Proofs.YtnknchadlhcdbaaDoor.Byt Go.Proofs.YtnknchadlhcdbaaDoor.Oct Go.Proofs.YtnknchadlhcdbaaDoor.Crc

theorem getD_at (s : ByteArray) (i : Nat) (h : i < s.size) : s.data.toList.getD i 0 = s[i] := by
  have h2 : i < s.data.toList.length := by simpa using h
  rw [List.getD_eq_getElem?_getD, List.getElem?_eq_getElem h2]; rfl
theorem u8_ne {a b : UInt8} (h : a ≠ b) : a.toNat ≠ b.toNat := fun e => h (UInt8.toNat_inj.1 e)
theorem fz_cases (s : ByteArray) : (s.size = 0 ∧ fzL s.data.toList = 3) ∨ (∃ _h : 0 < s.size, s[0].toNat ≠ 167 ∧ fzL s.data.toList = 4) ∨ (∃ _h : 0 < s.size, s[0].toNat = 167 ∧ s.size < 6 ∧ fzL s.data.toList = 3) ∨
    (∃ _h : 6 ≤ s.size, s[0].toNat = 167 ∧ s[1].toNat = 0 ∧ fzL s.data.toList = 15) ∨ (∃ _h : 6 ≤ s.size, s[0].toNat = 167 ∧ s[1].toNat ≠ 0 ∧ 1048576 < lenL s.data.toList ∧ fzL s.data.toList = 5) ∨
    (∃ _h : 6 ≤ s.size, s[0].toNat = 167 ∧ s[1].toNat ≠ 0 ∧ lenL s.data.toList ≤ 1048576 ∧ fzL s.data.toList = 0) := by
  have hl : s.data.toList.length = s.size := by simp
  by_cases h0 : s.size = 0
  · refine .inl ⟨h0, ?_⟩
    unfold fzL; rw [if_pos (by omega)]
  have e0 := getD_at s 0 (by omega)
  by_cases h1 : s.data.toList.getD 0 0 = 167
  · have h1' : s[0].toNat = 167 := by rw [← e0, h1]; rfl
    by_cases h2 : s.size < 6
    · refine .inr (.inr (.inl ⟨by omega, h1', h2, ?_⟩))
      unfold fzL; rw [if_neg (by omega), if_neg (by rw [h1]; decide), if_pos (by omega)]
    · have e1 := getD_at s 1 (by omega)
      by_cases h3 : s.data.toList.getD 1 0 = 0
      · refine .inr (.inr (.inr (.inl ⟨by omega, h1', by rw [← e1, h3]; rfl, ?_⟩)))
        unfold fzL; rw [if_neg (by omega), if_neg (by rw [h1]; decide), if_neg (by omega), if_pos h3]
      · have h3' : s[1].toNat ≠ 0 := by rw [← e1]; exact u8_ne h3
        by_cases h4 : 1048576 < lenL s.data.toList
        · refine .inr (.inr (.inr (.inr (.inl ⟨by omega, h1', h3', h4, ?_⟩))))
          unfold fzL; rw [if_neg (by omega), if_neg (by rw [h1]; decide), if_neg (by omega), if_neg h3, if_pos h4]
        · refine .inr (.inr (.inr (.inr (.inr ⟨by omega, h1', h3', by omega, ?_⟩))))
          unfold fzL; rw [if_neg (by omega), if_neg (by rw [h1]; decide), if_neg (by omega), if_neg h3, if_neg h4]
  · refine .inr (.inl ⟨by omega, by rw [← e0]; exact u8_ne h1, ?_⟩)
    unfold fzL; rw [if_neg (by omega), if_pos h1]

/-- How many bytes a frame must have that begins so. -/
def fzN (s : ByteArray) : Nat := if fzL s.data.toList = 0 then lenL s.data.toList + 10 else 0

theorem fsize_any (s : ByteArray) (w : World) (hs : s.size ≤ 140737488355328) :
    Calls Tryd.prog 18 #[.string s] w fun e w' => e = .returned (.tuple #[.int .i64 (fzN s : Nat), .int .i64 (fzL s.data.toList : Nat)]) ∧ Below w.heap.size w w' := by
  have HT : Hid (6 ≤ s.size → Calls Tryd.prog 25 #[.string s, .int .i64 2, .int .i64 4] w fun e w' => e = .returned (.tuple #[.int .u64 (lenL s.data.toList : Nat), .bool true]) ∧ Below w.heap.size w w') :=
    Lib.hid (fun h => take_yes s 2 4 w (by omega) hs (by decide) (by decide))
  have hlt := lenL_lt s.data.toList
  have hN : fzL s.data.toList ≠ 0 → fzN s = 0 := fun h => by unfold fzN; rw [if_neg h]
  have hN0 : fzL s.data.toList = 0 → fzN s = lenL s.data.toList + 10 := fun h => by unfold fzN; rw [if_pos h]
  rcases fz_cases s with ⟨h, e⟩ | ⟨h, h1, e⟩ | ⟨h, h1, h2, e⟩ | ⟨h, h1, h2, e⟩ | ⟨h, h1, h2, h3, e⟩ | ⟨h, h1, h2, h3, e⟩
  · rw [hN (by rw [e]; decide), e]
    clear e hN hN0 HT
    go_enter Tryd.func18, Tryd.ntmps18
    go_wp2_with fail
    go_ret2
    exact ⟨rfl, Below.refl _ _⟩
  · rw [hN (by rw [e]; decide), e]
    clear e hN hN0 HT
    go_enter Tryd.func18, Tryd.ntmps18
    go_wp2_with fail
    go_ret2
    exact ⟨rfl, Below.refl _ _⟩
  · rw [hN (by rw [e]; decide), e]
    clear e hN hN0 HT
    go_enter Tryd.func18, Tryd.ntmps18
    go_wp2_with fail
    go_ret2
    exact ⟨rfl, Below.refl _ _⟩
  · rw [hN (by rw [e]; decide), e]
    clear e hN hN0 HT
    go_enter Tryd.func18, Tryd.ntmps18
    go_wp2_with fail
    go_ret2
    exact ⟨rfl, Below.refl _ _⟩
  · rw [hN (by rw [e]; decide), e]
    clear e hN hN0
    have H := Lib.hid (HT.out h)
    clear HT
    generalize lenL s.data.toList = n at *
    go_enter Tryd.func18, Tryd.ntmps18
    go_wp2_with (go_at_call 25; with_reducible refine H.out.mono ?_; rintro e w' ⟨rfl, hb⟩)
    go_ret2
    exact ⟨rfl, hb⟩
  · rw [hN0 e, e]
    clear e hN hN0
    have H := Lib.hid (HT.out h)
    clear HT
    generalize lenL s.data.toList = n at *
    have H2 := Lib.hid (fun w => size_any n w h3)
    go_enter Tryd.func18, Tryd.ntmps18
    go_wp2_with (first
      | (go_at_call 25; with_reducible refine H.out.mono ?_; rintro e w' ⟨rfl, hb⟩)
      | (go_at_call 11; with_reducible refine (H2.out _).mono ?_; rintro e w' ⟨rfl, rfl⟩))
    go_ret2
    exact ⟨rfl, hb⟩
end Go.Proofs.YtnknchadlhcdbaaDoor.Frm
