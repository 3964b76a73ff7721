/- Contracts of Take. Conditions: as each theorem states. -/
import Derived.Test.YtggahjhjapnfeaaDoorOctB
import Derived.Laws.Bits64b
namespace Go.Proofs.YtggahjhjapnfeaaDoor.Oct
open Go.RowKit Go.Lib Go.Proofs.YtggahjhjapnfeaaDoor.Byt

theorem ret_ub {a b : Int} {c : Bool} (h : a = b) : Ending.returned (.tuple #[.int .u64 a, .bool c]) = .returned (.tuple #[.int .u64 b, .bool c]) := by rw [h]
theorem take_lt (t : ByteArray) (m : Nat) (h : m ≤ 7) : takeL 0 (t.data.toList.take m) < 72057594037927936 := by
  have h1 := takeL_lt (t.data.toList.take m) 0 0 (by decide)
  have h2 : (t.data.toList.take m).length ≤ 7 := by simp; omega
  have h3 : 256 ^ (0 + (t.data.toList.take m).length) ≤ 256 ^ 7 := Nat.pow_le_pow_right (by decide) (by omega)
  exact Nat.lt_of_lt_of_le h1 h3
theorem take_step (t : ByteArray) (m : Nat) (h : m < t.size) : takeL 0 (t.data.toList.take (m + 1)) = takeL 0 (t.data.toList.take m) * 256 + t[m].toNat := by
  have h2 : m < t.data.toList.length := by simpa using h
  rw [List.take_succ_eq_append_getElem h2, takeL_append]
  rfl
theorem or_byte (x b : Nat) (hx : x < 72057594037927936) (hb : b < 256) : bits .or .u64 ((x : Int) * 256) (b : Int) = (x : Int) * 256 + (b : Int) := by
  have h := bits_or_u64_nat (x * 256) b (by omega) (by omega)
  have e : x * 256 ||| b = x * 256 + b := by
    have := Nat.shiftLeft_add_eq_or_of_lt (i := 8) (b := b) (by omega) x
    rw [Nat.shiftLeft_eq] at this
    exact this.symm
  rw [e] at h
  rw [show ((x : Int) * 256) = ((x * 256 : Nat) : Int) by omega, h]
  omega

end Go.Proofs.YtggahjhjapnfeaaDoor.Oct
