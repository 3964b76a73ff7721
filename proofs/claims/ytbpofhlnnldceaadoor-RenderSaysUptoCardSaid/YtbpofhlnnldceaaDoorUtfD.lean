/- Contracts of the document's number, Runes, Count and Put. Conditions: as each theorem states. -/
import Derived.Test.YtbpofhlnnldceaaDoorUtfG1
namespace Go.Proofs.YtbpofhlnnldceaaDoor.Utf
open Go.RowKit Go.Lib Go.Proofs.YtbpofhlnnldceaaDoor.Byt

theorem pow_le3 (j : Nat) (h : j ≤ 3) : 128 * 64 ^ j ≤ 33554432 := by
  have := Nat.pow_le_pow_right (n := 64) (by decide) h
  have e : (64 : Nat) ^ 3 = 262144 := by decide
  omega

theorem rest_yes {s : ByteArray} (h : rest s 0 = none) : badL s.data.toList = none := by rw [← rest_start]; exact h
theorem rest_no {s : ByteArray} {k : Nat} (h : rest s 0 = some k) : badL s.data.toList = some k := by rw [← rest_start]; exact h

theorem row_shape {w : World} {v : Value} {xs : List Int} (h : Num.Row w v xs) : ∃ a cap, v = .slice a xs.length cap := by
  rcases h with ⟨rfl, a, cap, rfl⟩ | ⟨b, off, cap, rfl, _⟩
  · exact ⟨_, _, rfl⟩
  · exact ⟨_, _, rfl⟩
/-! ### Put -/
theorem enc_cells1 (n x : Int) (h : 0 ≤ n ∧ n < 128) (hx : x = n) : (#[Value.int .u8 x]).toList = byteCells (encodeRune n) := by
  subst hx
  rw [byteCells_encodeRune, runeCells, encodeRuneZ_one h.1 (by omega)]; rfl
theorem enc_cells2 (n x y : Int) (h : 128 ≤ n ∧ n < 2048) (hx : x = 192 + n / 64) (hy : y = 128 + n % 64) : (#[Value.int .u8 x, .int .u8 y]).toList = byteCells (encodeRune n) := by
  subst hx hy
  rw [byteCells_encodeRune, runeCells, encodeRuneZ_two h.1 (by omega)]; rfl
theorem enc_cells3 (n x y z : Int) (h : (2048 ≤ n ∧ n < 55296) ∨ (57343 < n ∧ n ≤ 65535)) (hx : x = 224 + n / 4096) (hy : y = 128 + n / 64 % 64) (hz : z = 128 + n % 64) : (#[Value.int .u8 x, .int .u8 y, .int .u8 z]).toList = byteCells (encodeRune n) := by
  subst hx hy hz
  rw [byteCells_encodeRune, runeCells, encodeRuneZ_three h]; rfl
theorem enc_cells4 (n x y z u : Int) (h : 65536 ≤ n ∧ n ≤ 1114111) (hx : x = 240 + n / 262144) (hy : y = 128 + n / 4096 % 64) (hz : z = 128 + n / 64 % 64) (hu : u = 128 + n % 64) : (#[Value.int .u8 x, .int .u8 y, .int .u8 z, .int .u8 u]).toList = byteCells (encodeRune n) := by
  subst hx hy hz hu
  rw [byteCells_encodeRune, runeCells, encodeRuneZ_four h.1 h.2]; rfl
theorem enc_size {n : Int} (h : 0 ≤ n) : (n < 128 → (encodeRune n).length = 1) ∧ (128 ≤ n ∧ n < 2048 → (encodeRune n).length = 2) ∧ ((2048 ≤ n ∧ n < 55296) ∨ (57343 < n ∧ n ≤ 65535) → (encodeRune n).length = 3) ∧ (65536 ≤ n ∧ n ≤ 1114111 → (encodeRune n).length = 4) := by
  refine ⟨fun c => ?_, fun c => ?_, fun c => ?_, fun c => ?_⟩
  · rw [encodeRune, encodeRuneZ_one h (by omega)]; rfl
  · rw [encodeRune, encodeRuneZ_two c.1 (by omega)]; rfl
  · rw [encodeRune, encodeRuneZ_three c]; rfl
  · rw [encodeRune, encodeRuneZ_four c.1 c.2]; rfl

end Go.Proofs.YtbpofhlnnldceaaDoor.Utf
