/- Contracts of the document's More, Sum, Join; the law's own examples. Conditions: the table of effects reads as the program lays it, where one is named. -/
import Derived.Test.YtnknchadlhcdbaaDoorCrcA
namespace Go.Proofs.YtnknchadlhcdbaaDoor.Crc
open Go.RowKit Go.Lib Go.Proofs.YtnknchadlhcdbaaDoor.Byt

theorem st_odd (x : Nat) (h : x % 2 = 1) (hx : x < 4294967296) : bits .xor .u32 ((x : Int) / 2) 3988292384 = ((st x : Nat) : Int) := by
  have h2 := u32_xor_nat (x / 2) 3988292384 (by omega) (by decide)
  have e : st x = x / 2 ^^^ 3988292384 := by unfold st; rw [if_pos h]
  rw [e, ← h2]
  congr 1
theorem st_even (x : Nat) (h : x % 2 = 0) : ((st x : Nat) : Int) = (x : Int) / 2 := by
  have e : st x = x / 2 := by unfold st; rw [if_neg (by omega)]
  rw [e]; omega
theorem stn_next (k y : Nat) : stn (k + 1) y = st (stn k y) := by
  rw [stn_add k 1]
  exact stn1 _

set_option maxHeartbeats 400000 in
theorem rmore_any (c : Nat) (s : ByteArray) (w : World) (hc : c < 4294967296) (hs : s.size ≤ 140737488355328) :
    Calls Tryd.prog 24 #[.int .u32 (c : Int), .string s] w fun e w' => e = .returned (.int .u32 ((mr c s.data.toList : Nat) : Int)) ∧ w = w' := by
  have hn : 4294967295 - (c : Int) = ((inv c : Nat) : Int) := by unfold inv; omega
  have hi := inv_lt c
  go_enter Tryd.func24, Tryd.ntmps24
  go_wp2_with fail
  go_loop [5, 12, 6, 7, 21] (fun x i _ _ _ => ∃ m : Nat, m ≤ s.size ∧ i = .int .i64 m ∧ x = .int .u32 ((mo (inv c) (s.data.toList.take m) : Nat) : Int))
    (fun _ i _ _ _ => s.size - (RowKit.intOf i).toNat)
  case atStart => exact ⟨0, Nat.zero_le _, rfl, rfl⟩
  case round =>
    obtain ⟨m, hm, rfl, rfl⟩ := hrel
    by_cases hlt : m < s.size
    · obtain ⟨x, hx⟩ : ∃ x, x = mo (inv c) (s.data.toList.take m) := ⟨_, rfl⟩
      have hx32 : x < 4294967296 := by rw [hx]; exact mo_lt _ (inv_lt c)
      have hstep : mo (inv c) (s.data.toList.take (m + 1)) = stn 8 (x ^^^ s[m].toNat) := by rw [hx, mo_step s _ m hlt]
      have HS := Lib.hid hstep
      have hor := xor_byte x s[m] hx32
      have hy : x ^^^ s[m].toNat < 4294967296 := xor32 hx32 (byte32 _)
      rw [← hx]
      clear hx hstep
      generalize x ^^^ s[m].toNat = y at *
      go_wp2_with fail
      go_loop [5, 21, 7] (fun x i _ => ∃ k : Nat, k ≤ 8 ∧ i = .int .i64 k ∧ x = .int .u32 ((stn k y : Nat) : Int))
        (fun _ i _ => 8 - (RowKit.intOf i).toNat)
      case atStart => exact ⟨0, Nat.zero_le _, rfl, by rw [stn0]⟩
      case round =>
        obtain ⟨k, hk, rfl, rfl⟩ := hrel
        by_cases hk8 : k < 8
        · have hz := stn_lt k hy
          have HN := Lib.hid (stn_next k y)
          generalize stn k y = z at *
          by_cases hodd : z % 2 = 1
          · have hx := st_odd z hodd hz
            go_wp2_with fail
            go_round
            case rel => exact ⟨k + 1, by omega, by go_num, by rw [HN.out]⟩
            case measure => simp [RowKit.intOf]; omega
          · have hx := st_even z (by omega)
            go_wp2_with fail
            go_round
            case rel => exact ⟨k + 1, by omega, by go_num, by rw [HN.out, hx]⟩
            case measure => simp [RowKit.intOf]; omega
        · obtain rfl : k = 8 := by omega
          go_wp2_with fail
          go_round
          case rel => exact ⟨m + 1, by omega, by go_num, by rw [HS.out]⟩
          case measure => simp [RowKit.intOf]; omega
    · obtain rfl : m = s.size := by omega
      rw [take_all]
      have hr : inv (mo (inv c) s.data.toList) = mr c s.data.toList := rfl
      have hz := mo_lt s.data.toList (inv_lt c)
      generalize mo (inv c) s.data.toList = r at *
      have hn3 : 4294967295 - (r : Int) = ((inv r : Nat) : Int) := by unfold inv; omega
      have hi2 := inv_lt r
      go_wp2_with fail
      go_ret
      exact ⟨rfl, rfl⟩

theorem rsum_any (s : ByteArray) (w : World) (hs : s.size ≤ 140737488355328) :
    Calls Tryd.prog 17 #[.string s] w fun e w' => e = .returned (.int .u32 ((mr 0 s.data.toList : Nat) : Int)) ∧ w = w' := by
  have H := Lib.hid (rmore_any 0 s w (by decide) hs)
  go_enter Tryd.func17, Tryd.ntmps17
  go_wp2_with (go_at_call 24; refine H.out.mono ?_; rintro e w' ⟨rfl, rfl⟩)
  go_ret
  exact ⟨rfl, rfl⟩

/-! ### the law's own examples -/
theorem ex1 : mr 0 [49, 50, 51, 52, 53, 54, 55, 56, 57] = 3421780262 := by decide +kernel
theorem ex2 : mr 0 [] = 0 := by decide +kernel
theorem ex3 : mr 0 [49, 50, 51, 52] = 2615402659 := by decide +kernel
theorem ex4 : mr 2615402659 [53, 54, 55, 56, 57] = 3421780262 := by decide +kernel
theorem aw1 (w : World) (hT : Tab w) : Calls Tryd.prog 22 #[.string ⟨#[49, 50, 51, 52, 53, 54, 55, 56, 57]⟩] w fun e w' => e = .returned (.int .u32 3421780262) ∧ w = w' := by
  have h := sum_any ⟨#[49, 50, 51, 52, 53, 54, 55, 56, 57]⟩ w (by decide) hT
  rw [show (ByteArray.mk #[49, 50, 51, 52, 53, 54, 55, 56, 57]).data.toList = [49, 50, 51, 52, 53, 54, 55, 56, 57] from rfl, ex1] at h
  exact h
theorem aw2 (w : World) (hT : Tab w) : Calls Tryd.prog 22 #[.string ⟨#[]⟩] w fun e w' => e = .returned (.int .u32 0) ∧ w = w' := by
  have h := sum_any ⟨#[]⟩ w (by decide) hT
  rw [show (ByteArray.mk #[]).data.toList = [] from rfl, ex2] at h
  exact h
theorem aw3 (w : World) (hT : Tab w) : Calls Tryd.prog 22 #[.string ⟨#[49, 50, 51, 52]⟩] w fun e w' => e = .returned (.int .u32 2615402659) ∧ w = w' := by
  have h := sum_any ⟨#[49, 50, 51, 52]⟩ w (by decide) hT
  rw [show (ByteArray.mk #[49, 50, 51, 52]).data.toList = [49, 50, 51, 52] from rfl, ex3] at h
  exact h
theorem aw4 (w : World) (hT : Tab w) : Calls Tryd.prog 21 #[.int .u32 2615402659, .string ⟨#[53, 54, 55, 56, 57]⟩] w fun e w' => e = .returned (.int .u32 3421780262) ∧ w = w' := by
  have h := more_any 2615402659 ⟨#[53, 54, 55, 56, 57]⟩ w (by decide) (by decide) hT
  rw [show (ByteArray.mk #[53, 54, 55, 56, 57]).data.toList = [53, 54, 55, 56, 57] from rfl, ex4] at h
  exact h
end Go.Proofs.YtnknchadlhcdbaaDoor.Crc
