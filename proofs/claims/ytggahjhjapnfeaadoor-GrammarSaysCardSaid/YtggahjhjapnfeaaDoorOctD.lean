/- Contracts of Hex. Conditions: as each theorem states. -/
import Derived.Test.YtggahjhjapnfeaaDoorOctC
import Derived.Laws.BitsAllLaws
namespace Go.Proofs.YtggahjhjapnfeaaDoor.Oct
open Go.RowKit Go.Lib Go.Proofs.YtggahjhjapnfeaaDoor.Byt

theorem hexL_step (t : ByteArray) (m : Nat) (h : m < t.size) : hexL (t.data.toList.take (m + 1)) = hexL (t.data.toList.take m) ++ [hexd (t[m].toNat / 16), hexd (t[m].toNat % 16)] := by
  have h2 : m < t.data.toList.length := by simpa using h
  rw [List.take_succ_eq_append_getElem h2, hexL_append]
  rfl

theorem digit_at (n : Nat) (i : Int) (hi : i = (n : Int)) (h : n < 16) (w : World) :
    (Instr.index 9 (.string ⟨#[48, 49, 50, 51, 52, 53, 54, 55, 56, 57, 97, 98, 99, 100, 101, 102]⟩) (.int .u8 i)).run Tryd.prog w = .ok (.int .u8 ((hexd n).toNat : Int)) w := by
  subst hi
  have hz : (⟨#[48, 49, 50, 51, 52, 53, 54, 55, 56, 57, 97, 98, 99, 100, 101, 102]⟩ : ByteArray).size = 16 := rfl
  rw [run_index_string w 9 _ .u8 (n : Int) Tryd.underlying9, dif_pos ⟨by omega, by rw [hz]; omega⟩]
  have e : ∀ k : Fin 16, ((⟨#[48, 49, 50, 51, 52, 53, 54, 55, 56, 57, 97, 98, 99, 100, 101, 102]⟩ : ByteArray)[k.val]'k.isLt).toNat = (hexd k.val).toNat := by decide
  have e2 := e ⟨n, h⟩
  simp only [Int.toNat_natCast]
  rw [e2]

theorem and_15 (n : Nat) (h : n < 256) : bits .and .u8 (n : Int) 15 = (n : Int) % 16 := by
  have h1 := u8_and_nat n 15 h (by omega)
  have e : n &&& 15 = n % 16 := Nat.and_two_pow_sub_one_eq_mod n 4
  rw [e] at h1
  have h2 : bits .and .u8 (n : Int) 15 = ((n % 16 : Nat) : Int) := h1
  rw [h2]; omega
theorem ret_str {a b : ByteArray} (h : a = b) : Ending.returned (.string a) = .returned (.string b) := by rw [h]

end Go.Proofs.YtggahjhjapnfeaaDoor.Oct
