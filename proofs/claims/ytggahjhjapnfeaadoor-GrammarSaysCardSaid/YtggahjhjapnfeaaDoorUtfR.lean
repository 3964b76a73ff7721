/- Plain facts: what the document's tests of single bytes say of a sequence; no program's run. Conditions: as each theorem states. -/
import Derived.Test.YtggahjhjapnfeaaDoorUtfB
namespace Go.Proofs.YtggahjhjapnfeaaDoor.Utf
open Go.Lib

/-- The byte at m; 0 behind the end. -/
def bt (s : ByteArray) (m : Nat) : Nat := (s.data.toList.getD m 0).toNat
theorem bt_lt (s : ByteArray) (m : Nat) : bt s m < 256 := UInt8.toNat_lt _
theorem bt_at (s : ByteArray) (m : Nat) (h : m < s.size) : s[m].toNat = bt s m := by
  have h2 : m < s.data.toList.length := by simpa using h
  have : s.data.toList.getD m 0 = s[m] := by
    rw [List.getD, List.getElem?_eq_getElem h2]; rfl
  unfold bt; rw [this]
def inB (s : ByteArray) (m lo hi : Nat) : Bool := decide (m < s.size ∧ lo ≤ bt s m ∧ bt s m ≤ hi)
def tlB (s : ByteArray) (m n : Nat) : Bool := (List.range n).all fun i => inB s (m + i) 128 191
theorem tlB_zero (s : ByteArray) (m : Nat) : tlB s m 0 = true := rfl
theorem tlB_succ (s : ByteArray) (m n : Nat) : tlB s m (n + 1) = (tlB s m n && inB s (m + n) 128 191) := by
  unfold tlB; rw [List.range_succ, List.all_append]; simp
theorem tlB_stop {s : ByteArray} {m k n : Nat} (h : k < n) (hi : inB s (m + k) 128 191 = false) : tlB s m n = false := by
  unfold tlB
  rw [List.all_eq_false]
  exact ⟨k, List.mem_range.2 h, by rw [hi]; decide⟩
theorem tlB_one (s : ByteArray) (m : Nat) : tlB s m 1 = inB s m 128 191 := by rw [tlB_succ, tlB_zero]; simp
theorem tlB_two (s : ByteArray) (m : Nat) : tlB s m 2 = (inB s m 128 191 && inB s (m + 1) 128 191) := by rw [tlB_succ, tlB_one]

/-- The width by numbers. -/
def wN (n b0 b1 b2 b3 : Nat) : Nat := if (decodeN n b0 b1 b2 b3).1 = 65533 ∧ (decodeN n b0 b1 b2 b3).2 = 1 then 0 else (decodeN n b0 b1 b2 b3).2
theorem wN_slow {n b0 b1 b2 b3 sz lo hi : Nat} (hs : slowN n b0 b1 b2 b3 sz lo hi = decodeN n b0 b1 b2 b3) (hsz : sz = 2 ∨ sz = 3 ∨ sz = 4) :
    wN n b0 b1 b2 b3 = if sz ≤ n ∧ (lo ≤ b1 ∧ b1 ≤ hi) ∧ (3 ≤ sz → 128 ≤ b2 ∧ b2 ≤ 191) ∧ (4 ≤ sz → 128 ≤ b3 ∧ b3 ≤ 191) then sz else 0 := by
  unfold wN
  rw [← hs]
  unfold slowN
  rcases hsz with rfl | rfl | rfl
  all_goals
    repeat' split
    all_goals first | rfl | (exfalso; omega) | (simp_all; done) | (simp only at *; omega)
theorem wS_N (s : ByteArray) (i : Nat) (h : i < s.size) : wS s i = wN (s.size - i) (bt s i) (bt s (i + 1)) (bt s (i + 2)) (bt s (i + 3)) := by
  unfold wS wL wN
  rw [if_neg (drop_some s i h), decodeL_N]
  have hl : (s.data.toList.drop i).length = s.size - i := by simp
  rw [hl, getD_dropU, getD_dropU, getD_dropU, getD_dropU]
  rfl
theorem nL_N (s : ByteArray) (i : Nat) : nL (s.data.toList.drop i) = (decodeN (s.size - i) (bt s i) (bt s (i + 1)) (bt s (i + 2)) (bt s (i + 3))).1 := by
  unfold nL
  rw [decodeL_N]
  have hl : (s.data.toList.drop i).length = s.size - i := by simp
  rw [hl, getD_dropU, getD_dropU, getD_dropU, getD_dropU]
  rfl
def thLo (c : Nat) : Nat := if c = 224 then 160 else 128
def thHi (c : Nat) : Nat := if c = 237 then 159 else 191
def frLo (c : Nat) : Nat := if c = 240 then 144 else 128
def frHi (c : Nat) : Nat := if c = 244 then 143 else 191
theorem wS_ascii {s : ByteArray} {i : Nat} (h : i < s.size) (hc : bt s i < 128) : wS s i = 1 := by
  rw [wS_N s i h, wN, decodeN, if_pos hc]
  simp only
  rw [if_neg (by omega)]
theorem wS_none {s : ByteArray} {i : Nat} (h : i < s.size) (hc : (128 ≤ bt s i ∧ bt s i < 194) ∨ 244 < bt s i) : wS s i = 0 := by
  have hb := bt_lt s i
  rw [wS_N s i h, wN, decodeN_bad _ _ _ _ _ (by omega)]
  simp
theorem wS_two {s : ByteArray} {i : Nat} (h : i < s.size) (hc : 194 ≤ bt s i ∧ bt s i ≤ 223) : wS s i = if tlB s (i + 1) 1 = true then 2 else 0 := by
  have h1 := bt_lt s (i + 1); have h2 := bt_lt s (i + 2); have h3 := bt_lt s (i + 3)
  rw [wS_N s i h, wN_slow (slow_C2 _ _ _ _ _ (by omega) h1 h2 h3 (by omega)) (.inl rfl), tlB_one, inB]
  simp only [decide_eq_true_eq]
  split <;> split <;> first | rfl | (exfalso; omega)
theorem wS_three {s : ByteArray} {i : Nat} (h : i < s.size) (hc : 224 ≤ bt s i ∧ bt s i ≤ 239) : wS s i = if inB s (i + 1) (thLo (bt s i)) (thHi (bt s i)) = true ∧ tlB s (i + 2) 1 = true then 3 else 0 := by
  have h1 := bt_lt s (i + 1); have h2 := bt_lt s (i + 2); have h3 := bt_lt s (i + 3)
  have key : slowN (s.size - i) (bt s i) (bt s (i + 1)) (bt s (i + 2)) (bt s (i + 3)) 3 (thLo (bt s i)) (thHi (bt s i)) = decodeN (s.size - i) (bt s i) (bt s (i + 1)) (bt s (i + 2)) (bt s (i + 3)) := by
    by_cases c1 : bt s i = 224
    · rw [c1]; exact slow_E0 _ _ _ _ _ (by omega) h1 h2 h3 rfl
    · by_cases c2 : bt s i = 237
      · rw [c2]; exact slow_ED _ _ _ _ _ (by omega) h1 h2 h3 rfl
      · rw [thLo, if_neg c1, thHi, if_neg c2]; exact slow_E1 _ _ _ _ _ (by omega) h1 h2 h3 (by omega)
  rw [wS_N s i h, wN_slow key (.inr (.inl rfl)), tlB_one, inB, inB]
  simp only [decide_eq_true_eq]
  split <;> split <;> first | rfl | (exfalso; omega)
theorem wS_four {s : ByteArray} {i : Nat} (h : i < s.size) (hc : 240 ≤ bt s i ∧ bt s i ≤ 244) : wS s i = if inB s (i + 1) (frLo (bt s i)) (frHi (bt s i)) = true ∧ tlB s (i + 2) 2 = true then 4 else 0 := by
  have h1 := bt_lt s (i + 1); have h2 := bt_lt s (i + 2); have h3 := bt_lt s (i + 3)
  have key : slowN (s.size - i) (bt s i) (bt s (i + 1)) (bt s (i + 2)) (bt s (i + 3)) 4 (frLo (bt s i)) (frHi (bt s i)) = decodeN (s.size - i) (bt s i) (bt s (i + 1)) (bt s (i + 2)) (bt s (i + 3)) := by
    by_cases c1 : bt s i = 240
    · rw [c1]; exact slow_F0 _ _ _ _ _ (by omega) h1 h2 h3 rfl
    · by_cases c2 : bt s i = 244
      · rw [c2]; exact slow_F4 _ _ _ _ _ (by omega) h1 h2 h3 rfl
      · rw [frLo, if_neg c1, frHi, if_neg c2]; exact slow_F1 _ _ _ _ _ (by omega) h1 h2 h3 (by omega)
  rw [wS_N s i h, wN_slow key (.inr (.inr rfl)), tlB_two, inB, inB, inB]
  simp only [decide_eq_true_eq, Bool.and_eq_true]
  rw [show i + 2 + 1 = i + 3 by omega]
  split <;> split <;> first | rfl | (exfalso; omega)

/-- The number, digit by digit. -/
def pN (s : ByteArray) (i q j : Nat) : Nat := (List.range j).foldl (fun x k => x * 64 + (bt s (i + 1 + k) - 128)) q
theorem pN_zero (s : ByteArray) (i q : Nat) : pN s i q 0 = q := rfl
theorem pN_succ (s : ByteArray) (i q j : Nat) : pN s i q (j + 1) = pN s i q j * 64 + (bt s (i + 1 + j) - 128) := by
  unfold pN; rw [List.range_succ, List.foldl_append]; rfl
theorem pN1 (s : ByteArray) (i q : Nat) : pN s i q 1 = q * 64 + (bt s (i + 1) - 128) := pN_succ s i q 0
theorem pN2 (s : ByteArray) (i q : Nat) : pN s i q 2 = (q * 64 + (bt s (i + 1) - 128)) * 64 + (bt s (i + 2) - 128) := by rw [pN_succ s i q 1, pN1]
theorem pN3 (s : ByteArray) (i q : Nat) : pN s i q 3 = ((q * 64 + (bt s (i + 1) - 128)) * 64 + (bt s (i + 2) - 128)) * 64 + (bt s (i + 3) - 128) := by rw [pN_succ s i q 2, pN2]
theorem pN_lt (s : ByteArray) (i q : Nat) (hq : q < 128) (n : Nat) (hb : ∀ j, j < n → bt s (i + 1 + j) ≤ 191) : ∀ j, j ≤ n → pN s i q j < 128 * 64 ^ j
  | 0, _ => by rw [pN_zero, Nat.pow_zero]; omega
  | j + 1, h => by
    have h1 := pN_lt s i q hq n hb j (by omega)
    have h2 := hb j (by omega)
    rw [pN_succ, Nat.pow_succ]
    omega
/-- Of a sequence of n bytes: where it stands, its further bytes, and its number. -/
theorem seq_facts (s : ByteArray) (i : Nat) (h : i < s.size) (h0 : 0 < wS s i) :
    i + wS s i ≤ s.size ∧ (∀ j, j < wS s i - 1 → 128 ≤ bt s (i + 1 + j) ∧ bt s (i + 1 + j) ≤ 191) ∧
    ((wS s i = 1 ∧ bt s i < 128 ∧ nL (s.data.toList.drop i) = pN s i (bt s i) 0)
    ∨ (wS s i = 2 ∧ 192 ≤ bt s i ∧ bt s i < 224 ∧ nL (s.data.toList.drop i) = pN s i (bt s i - 192) 1)
    ∨ (wS s i = 3 ∧ 224 ≤ bt s i ∧ bt s i < 240 ∧ nL (s.data.toList.drop i) = pN s i (bt s i - 224) 2)
    ∨ (wS s i = 4 ∧ 240 ≤ bt s i ∧ bt s i < 248 ∧ nL (s.data.toList.drop i) = pN s i (bt s i - 240) 3)) := by
  refine ⟨wS_le s i (by omega), ?_⟩
  have h1 := bt_lt s (i + 1); have h2 := bt_lt s (i + 2); have h3 := bt_lt s (i + 3)
  rw [nL_N]
  have hw := wS_N s i h
  rw [hw] at h0 ⊢
  simp only [pN_zero, pN1, pN2, pN3]
  have e : ∀ j, j < 3 → bt s (i + 1 + j) = if j = 0 then bt s (i + 1) else if j = 1 then bt s (i + 2) else bt s (i + 3) := fun j hj => by
    have : j = 0 ∨ j = 1 ∨ j = 2 := by omega
    rcases this with rfl | rfl | rfl <;> rfl
  have key : ∀ n b0 b1 b2 b3 : Nat, b1 < 256 → b2 < 256 → b3 < 256 → 0 < wN n b0 b1 b2 b3 →
      (wN n b0 b1 b2 b3 = 1 ∧ b0 < 128 ∧ (decodeN n b0 b1 b2 b3).1 = b0)
      ∨ (wN n b0 b1 b2 b3 = 2 ∧ 192 ≤ b0 ∧ b0 < 224 ∧ (128 ≤ b1 ∧ b1 ≤ 191) ∧ (decodeN n b0 b1 b2 b3).1 = (b0 - 192) * 64 + (b1 - 128))
      ∨ (wN n b0 b1 b2 b3 = 3 ∧ 224 ≤ b0 ∧ b0 < 240 ∧ (128 ≤ b1 ∧ b1 ≤ 191) ∧ (128 ≤ b2 ∧ b2 ≤ 191) ∧ (decodeN n b0 b1 b2 b3).1 = ((b0 - 224) * 64 + (b1 - 128)) * 64 + (b2 - 128))
      ∨ (wN n b0 b1 b2 b3 = 4 ∧ 240 ≤ b0 ∧ b0 < 248 ∧ (128 ≤ b1 ∧ b1 ≤ 191) ∧ (128 ≤ b2 ∧ b2 ≤ 191) ∧ (128 ≤ b3 ∧ b3 ≤ 191) ∧ (decodeN n b0 b1 b2 b3).1 = (((b0 - 240) * 64 + (b1 - 128)) * 64 + (b2 - 128)) * 64 + (b3 - 128)) := by
    intro n b0 b1 b2 b3 g1 g2 g3 g0
    unfold wN at g0 ⊢
    generalize hD : decodeN n b0 b1 b2 b3 = D at *
    unfold decodeN at hD
    repeat' split at hD
    all_goals subst hD
    all_goals (first | (exfalso; simp at g0; done) | skip)
    · exact .inl ⟨if_neg (by simp only; omega), by omega, rfl⟩
    · refine .inr (.inl ⟨if_neg (by simp), by omega, by omega, by omega, ?_⟩)
      simp only; omega
    · refine .inr (.inr (.inl ⟨if_neg (by simp), by omega, by omega, by omega, by omega, ?_⟩))
      simp only; omega
    · refine .inr (.inr (.inr ⟨if_neg (by simp), by omega, by omega, by omega, by omega, by omega, ?_⟩))
      simp only; omega
  have k := key _ _ _ _ _ h1 h2 h3 h0
  rcases k with ⟨k0, k1, k2⟩ | ⟨k0, k1, k2, k3, k4⟩ | ⟨k0, k1, k2, k3, k4, k5⟩ | ⟨k0, k1, k2, k3, k4, k5, k6⟩
  · rw [k0]; exact ⟨fun j hj => by omega, .inl ⟨rfl, k1, k2⟩⟩
  · rw [k0]
    refine ⟨fun j hj => ?_, .inr (.inl ⟨rfl, k1, k2, k4⟩)⟩
    rw [e j (by omega), if_pos (by omega)]; exact k3
  · rw [k0]
    refine ⟨fun j hj => ?_, .inr (.inr (.inl ⟨rfl, k1, k2, k5⟩))⟩
    rw [e j (by omega)]
    split
    · exact k3
    · rw [if_pos (by omega)]; exact k4
  · rw [k0]
    refine ⟨fun j hj => ?_, .inr (.inr (.inr ⟨rfl, k1, k2, k6⟩))⟩
    rw [e j (by omega)]
    split
    · exact k3
    · split
      · exact k4
      · exact k5
end Go.Proofs.YtggahjhjapnfeaaDoor.Utf
