/- Contracts of strings.IndexRune over a text of seven letters below 128, of writeRune and of Put. Conditions: the two tables of unicode/utf8 are as its text lays them; as each theorem states. -/
import Derived.Test.YtggahjhjapnfeaaDoorQuoB
import Derived.Test.YtggahjhjapnfeaaDoorBldK
import Derived.Test.YtggahjhjapnfeaaDoorOctD
import Derived.Deep.QuietTactic
import Derived.BigQuiet
import Derived.Laws.Runes
import Derived.WalkMore
namespace Go.Proofs.YtggahjhjapnfeaaDoor.Quo
open Go.RowKit Go.Lib Go.Proofs.YtggahjhjapnfeaaDoor.Byt Go.Proofs.YtggahjhjapnfeaaDoor.Oct Go.Proofs.YtggahjhjapnfeaaDoor.Utf Go.Proofs.YtggahjhjapnfeaaDoor.Bld

def mean : ByteArray := ⟨#[34, 92, 8, 12, 10, 13, 9]⟩
theorem mean_dec : ∀ p : Fin 7, (Utf8.decode mean p.val).1 < 128 ∧ (Utf8.decode mean p.val).2 = 1 := by decide +kernel
/-- Where a letter stands in them. -/
def shI (c : Nat) : Int := if c = 34 then 0 else if c = 92 then 1 else if c = 8 then 2 else if c = 12 then 3 else if c = 10 then 4 else if c = 13 then 5 else if c = 9 then 6 else -1
theorem mean_index : ∀ n : Fin 128, Lib.indexByte [34, 92, 8, 12, 10, 13, 9] (UInt8.ofNat n.val) = shI n.val := by decide +kernel
theorem high_index : ∀ (k : Fin 7) (n : Fin 128), Lib.indexByte ([34, 92, 8, 12, 10, 13, 9].drop (k.val + 1)) (UInt8.ofNat (n.val + 128)) = -1 := by decide +kernel
theorem high_find (k : Nat) (hk : k < 7) (c : Nat) (h : 128 ≤ c) (h2 : c < 256) (w : World) :
    Calls Tryd.prog 21 #[.string (cutB ⟨#[34, 92, 8, 12, 10, 13, 9]⟩ (k + 1) (6 - k)), .int .u8 (c : Int)] w fun e w' => e = .returned (.int .i64 (-1)) ∧ w' = w :=
  (Tryd.strings_IndexByte _ _ w).mono fun e w' ⟨h1, h2⟩ => ⟨by
    rw [h1, Int.toNat_natCast]
    have hl : (cutB ⟨#[34, 92, 8, 12, 10, 13, 9]⟩ (k + 1) (6 - k)).data.toList = [34, 92, 8, 12, 10, 13, 9].drop (k + 1) := by
      show ([34, 92, 8, 12, 10, 13, 9].drop (k + 1)).take (6 - k) = _
      rw [List.take_of_length_le (by simp)]
    have h3 := high_index ⟨k, hk⟩ ⟨c - 128, by omega⟩
    simp only at h3
    rw [show c - 128 + 128 = c by omega] at h3
    rw [hl]
    exact congrArg (fun x => Ending.returned (.int .i64 x)) h3, h2⟩
/-- A call that changes nothing, behind a drawn region, inside another one. -/
theorem still_again {f : FuncId} {args : Array Value} {w : World} {a n : Nat} {v : Value} (h : ∀ W, Calls Tryd.prog f args W fun e w' => e = .returned v ∧ w' = W) :
    Calls Tryd.prog f args (w.drewN (a + n)) fun e w'' => e = .returned v ∧ ∃ m, w'' = w.drewN (a + m) := (h _).mono fun _ _ k => ⟨k.1, ⟨n, k.2⟩⟩
/-! ### what is written for a number -/
def qR (r : Nat) : List UInt8 := if r < 128 then qB (UInt8.ofNat r) else encodeRune (r : Int)
theorem qR_len (r : Nat) : (qR r).length ≤ 6 := by
  unfold qR
  split
  · exact (qB_len _).2
  · have := enc_len r; omega
theorem qR_step {l : List UInt8} (h : 0 < wL l) : qR (nL l) = qL (l.take (wL l)) := by
  unfold qR
  by_cases hc : nL l < 128
  · have he := enc_wL h
    rw [enc_low _ hc] at he
    rw [if_pos hc, ← he, qL_cons, qL_nil, List.append_nil]
  · rw [if_neg hc, (stp_high [] h (by omega)).1, enc_wL h]
theorem qL_step {l : List UInt8} (h : 0 < wL l) : qL l = qR (nL l) ++ qL (l.drop (wL l)) := by
  rw [qR_step h, ← qL_append, List.take_append_drop]
theorem shI_at : ∀ n : Fin 128, (shN n.val ≠ 0 → 0 ≤ shI n.val ∧ shI n.val < 7 ∧ ([34, 92, 98, 102, 110, 114, 116] : List UInt8).getD (shI n.val).toNat 0 = UInt8.ofNat (shN n.val)) ∧ (shN n.val = 0 → shI n.val = -1) := by decide +kernel

theorem enc_utf (r : Nat) (h : r < 128) : Utf8.encode (r : Int) = ⟨#[UInt8.ofNat r]⟩ := by
  have hv : Utf8.valid (r : Int) = true := by rw [validRune_eq]; unfold validRune; simp; omega
  unfold Utf8.encode
  simp [hv, h]
end Go.Proofs.YtggahjhjapnfeaaDoor.Quo
