/- Contracts of half, More, Sum, Join, and of the document's. Conditions: the table of effects reads as the program lays it, where one is named. -/
import Derived.Test.YtnknchadlhcdbaaDoorCrcMath
import Derived.Test.YtnknchadlhcdbaaDoorByt
import Derived.Laws.BitsAllLaws
import Derived.Laws.Bits64b
namespace Go.Proofs.YtnknchadlhcdbaaDoor.Crc
open Go.RowKit Go.Lib Go.Proofs.YtnknchadlhcdbaaDoor.Byt

/-- The table of effects reads as the program lays it. -/
def Tab (w : World) : Prop := ∀ i, i < 16 → w.cell? ⟨0, i, none⟩ = some (.int .u32 (effL.getD i 0))
theorem ret_u {a b : Int} (h : a = b) : Ending.returned (.int .u32 a) = .returned (.int .u32 b) := by rw [h]

theorem and15 (x : Nat) (hx : x < 4294967296) : bits .and .u32 (x : Int) 15 = ((x % 16 : Nat) : Int) := by
  have ha := u32_and_nat x 15 hx (by decide)
  rw [nat_mask4] at ha
  exact ha
theorem half_xor (x : Nat) (hx : x < 4294967296) : bits .xor .u32 ((x : Int) / 16) ((stn 4 (x % 16) : Nat) : Int) = ((stn 4 x : Nat) : Int) := by
  have h := u32_xor_nat (x / 16) (stn 4 (x % 16)) (by omega) (stn_lt 4 (by omega))
  rw [← stn4] at h
  rw [← h]
  congr 1

theorem half_any (x : Nat) (w : World) (hx : x < 4294967296) (hT : Tab w) :
    Calls Tryd.prog 28 #[.int .u32 (x : Int)] w fun e w' => e = .returned (.int .u32 ((stn 4 x : Nat) : Int)) ∧ w = w' := by
  have ha := and15 x hx
  have hc := hT (x % 16) (by omega)
  rw [eff_is _ (by omega)] at hc
  have hr := half_xor x hx
  have hy : x % 16 < 16 := by omega
  generalize x % 16 = y at *
  generalize stn 4 y = z at *
  generalize stn 4 x = r at *
  go_enter Tryd.func28, Tryd.ntmps28
  go_wp2_with fail
  go_ret
  exact ⟨rfl, rfl⟩

theorem mo_step (t : ByteArray) (x m : Nat) (h : m < t.size) : mo x (t.data.toList.take (m + 1)) = stn 8 (mo x (t.data.toList.take m) ^^^ t[m].toNat) := by
  have h2 : m < t.data.toList.length := by simpa using h
  rw [List.take_succ_eq_append_getElem h2, mo_append, mo_cons, mo_nil]
  rfl
theorem take_all (t : ByteArray) : t.data.toList.take t.size = t.data.toList := List.take_of_length_le (by simp)
theorem xor_byte (x : Nat) (b : UInt8) (hx : x < 4294967296) : bits .xor .u32 (x : Int) ((b.toNat : Int) % 4294967296) = ((x ^^^ b.toNat : Nat) : Int) := by
  have h := byte32 b
  have e : (b.toNat : Int) % 4294967296 = (b.toNat : Int) := by omega
  rw [e]
  exact u32_xor_nat x b.toNat hx h

theorem not_u32 (c : Nat) (hc : c < 4294967296) : bits .xor .u32 IntKind.u32.max (c : Int) = ((inv c : Nat) : Int) := by
  have h := u32_xor_nat 4294967295 c (by decide) hc
  rw [inv_xor hc]
  exact h

theorem more_any (c : Nat) (s : ByteArray) (w : World) (hc : c < 4294967296) (hs : s.size ≤ 140737488355328) (hT : Tab w) :
    Calls Tryd.prog 21 #[.int .u32 (c : Int), .string s] w fun e w' => e = .returned (.int .u32 ((mr c s.data.toList : Nat) : Int)) ∧ w = w' := by
  have hn := not_u32 c hc
  have hn2 := Lib.hid (not_u32 (mo (inv c) s.data.toList) (mo_lt _ (inv_lt c)))
  have hi := inv_lt c
  go_enter Tryd.func21, Tryd.ntmps21
  go_wp2_with fail
  go_loop [5, 11, 6] (fun x i j => ∃ m : Nat, m ≤ s.size ∧ i = .int .i64 m ∧ x = .int .u32 ((mo (inv c) (s.data.toList.take m) : Nat) : Int))
    (fun _ i _ => s.size - (RowKit.intOf i).toNat)
  case atStart => exact ⟨0, Nat.zero_le _, rfl, rfl⟩
  case round =>
    obtain ⟨m, hm, rfl, rfl⟩ := hrel
    by_cases hlt : m < s.size
    · obtain ⟨x, hx⟩ : ∃ x, x = mo (inv c) (s.data.toList.take m) := ⟨_, rfl⟩
      have hx32 : x < 4294967296 := by rw [hx]; exact mo_lt _ (inv_lt c)
      have hstep : mo (inv c) (s.data.toList.take (m + 1)) = stn 4 (stn 4 (x ^^^ s[m].toNat)) := by rw [hx, mo_step s _ m hlt, ← stn_add]
      have HS := Lib.hid hstep
      have hor := xor_byte x s[m] hx32
      have hy : x ^^^ s[m].toNat < 4294967296 := xor32 hx32 (byte32 _)
      rw [← hx]
      clear hx hstep
      generalize x ^^^ s[m].toNat = y at *
      have H1 := Lib.hid (fun w' h => half_any y w' hy h)
      have H2 := Lib.hid (fun w' h => half_any (stn 4 y) w' (stn_lt 4 hy) h)
      go_wp2_with (go_at_call 28; first | (with_reducible refine (H1.out _ hT).mono ?_; rintro e w' ⟨rfl, rfl⟩) | (with_reducible refine (H2.out _ hT).mono ?_; rintro e w' ⟨rfl, rfl⟩))
      go_round
      case rel => exact ⟨m + 1, by omega, by go_num, by rw [HS.out]⟩
      case measure => simp [RowKit.intOf]; omega
    · obtain rfl : m = s.size := by omega
      rw [take_all]
      have hn3 := hn2.out
      have hr : inv (mo (inv c) s.data.toList) = mr c s.data.toList := rfl
      generalize mo (inv c) s.data.toList = r at *
      go_wp2_with fail
      go_ret
      exact ⟨rfl, rfl⟩

theorem sum_any (s : ByteArray) (w : World) (hs : s.size ≤ 140737488355328) (hT : Tab w) :
    Calls Tryd.prog 22 #[.string s] w fun e w' => e = .returned (.int .u32 ((mr 0 s.data.toList : Nat) : Int)) ∧ w = w' := by
  have H := Lib.hid (more_any 0 s w (by decide) hs hT)
  go_enter Tryd.func22, Tryd.ntmps22
  go_wp2_with (go_at_call 21; refine H.out.mono ?_; rintro e w' ⟨rfl, rfl⟩)
  go_ret
  exact ⟨rfl, rfl⟩

/-- The sum behind n copies of l. -/
def jn (a : Nat) (l : List UInt8) : Nat → Nat
  | 0 => a
  | n + 1 => mr (jn a l n) l
theorem jn_lt {a : Nat} (h : a < 4294967296) (l : List UInt8) : ∀ n, jn a l n < 4294967296
  | 0 => h
  | _ + 1 => mr_lt _ _
/-- How many copies. -/
def cop (n : Int) : Nat := (max (min n 64) 0).toNat
theorem cop_le (n : Int) : cop n ≤ 64 := by unfold cop; omega
theorem cop_is (n : Int) : max (min n 64) 0 = ((cop n : Nat) : Int) := by unfold cop; omega
theorem cop_is' (n : Int) : min (max n 0) 64 = ((cop n : Nat) : Int) := by unfold cop; omega
attribute [irreducible] jn cop

theorem cop_split (n : Int) : (64 < n ∧ cop n = 64) ∨ (n < 0 ∧ cop n = 0) ∨ ∃ k : Nat, n = (k : Int) ∧ cop n = k ∧ k ≤ 64 := by
  have h := cop_is n
  by_cases h1 : 64 < n
  · exact .inl ⟨h1, by omega⟩
  · by_cases h2 : n < 0
    · exact .inr (.inl ⟨h2, by omega⟩)
    · exact .inr (.inr ⟨n.toNat, by omega, by omega, by omega⟩)

end Go.Proofs.YtnknchadlhcdbaaDoor.Crc
