/- Contracts of Put, and of the document's. Conditions: as each theorem states. -/
import Derived.Test.YtpjopidmcahbdaaDoorByt
import Derived.Test.YtpjopidmcahbdaaDoorVarMath
import Derived.Laws.BitsAllLaws
import Derived.Laws.Bits64b
namespace Go.Proofs.YtpjopidmcahbdaaDoor.Var
open Go.RowKit Go.Lib Go.Proofs.YtpjopidmcahbdaaDoor.Byt

theorem ret_str {a b : ByteArray} (h : a = b) : Ending.returned (.string a) = .returned (.string b) := by rw [h]
theorem byte_one (b : UInt8) (x : Int) (h : x = (b.toNat : Int)) : (#[.int .u8 x] : Array Value).toList = byteCells [b] := by subst h; rfl
theorem or_128 (n : Nat) : bits .or .u8 ((n : Int) % 256) 128 = ((n % 128 + 128 : Nat) : Int) := by
  have h1 := u8_or_nat (n % 256) 128 (by omega) (by omega)
  have e : ∀ k : Fin 256, k.val ||| 128 = k.val % 128 + 128 := by decide +kernel
  have e2 := e ⟨n % 256, by omega⟩
  simp only at e2
  rw [e2] at h1
  have h2 : bits .or .u8 ((n : Int) % 256) 128 = ((n % 256 % 128 + 128 : Nat) : Int) := by rw [← h1]; congr 1
  rw [h2]; omega

set_option maxRecDepth 10000 in
set_option maxHeartbeats 400000 in
theorem put_any (n : Nat) (w : World) (hn : n < 18446744073709551616) :
    Calls Tryd.prog 11 #[.int .u64 (n : Int)] w fun e w' => e = .returned (.string ⟨(putV n).toArray⟩) ∧ Below w.heap.size w w' := by
  go_enter Tryd.func11, Tryd.ntmps11
  go_wp2_with (with_reducible refine wpList_emptied _ rfl _ _ rfl w.heap.size w (Below.refl _ _) (Nat.le_refl _) _ _ 10 rfl rfl rfl rfl (by omega) ?_; intro v1 w1 hown1 hb1)
  go_loopw [0, 3] (fun x v wr => ∃ (m : Nat) (l : List UInt8), x = .int .u64 (m : Int) ∧ m ≤ n ∧ Own wr w.heap.size v l ∧ Hid (putV n = l ++ putV m) ∧ Below w.heap.size w wr)
    (fun x _ _ => (RowKit.intOf x).toNat)
  case atStart => exact ⟨n, [], rfl, Nat.le_refl _, hown1, Lib.hid rfl, hb1⟩
  case round =>
    obtain ⟨m, l, rfl, hm, hown, hl, hb⟩ := hrel
    have hlen : l.length ≤ 10 := by have := putV_len10 n hn; rw [hl.out, List.length_append] at this; omega
    by_cases hlt : m < 128
    · have hs := hl.out
      rw [putV_lt hlt] at hs
      have HS := Lib.hid hs
      clear hs
      go_wp2_with (first
        | (refine wpList_string _ rfl _ rfl _ _ _ rfl hown2 ?_)
        | (refine wpList_push _ rfl _ _ rfl w.heap.size w _ _ rfl (hown.alloc _) (hb.alloc hb.size _) (Nat.le_refl _) _ _ _ rfl _ _ (heap_alloc_new _ _) [UInt8.ofNat m] rfl (byte_one _ _ (by have := ofNat_toNat m (by omega); omega)) (by show l.length + 1 ≤ _; omega) ?_; intro v2 w2 hown2 hb2))
      go_ret
      exact ⟨ret_str (by rw [HS.out]), hb2⟩
    · have hs := hl.out
      rw [putV_ge hlt] at hs
      have HS := Lib.hid hs
      have hor := or_128 m
      clear hs
      go_wp2_with (with_reducible refine wpList_push _ rfl _ _ rfl w.heap.size w _ _ rfl (hown.alloc _) (hb.alloc hb.size _) (Nat.le_refl _) _ _ _ rfl _ _ (heap_alloc_new _ _) [UInt8.ofNat (m % 128 + 128)] rfl (byte_one _ _ (by rw [ofNat_toNat _ (by omega)]; omega)) (by show l.length + 1 ≤ _; omega) ?_; intro v2 w2 hown2 hb2)
      go_roundw
      case rel => exact ⟨m / 128, _, by go_num, by omega, hown2, Lib.hid (by rw [HS.out]; simp), hb2⟩
      case measure => simp [RowKit.intOf]; omega
end Go.Proofs.YtpjopidmcahbdaaDoor.Var
