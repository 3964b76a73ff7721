/- Contracts of isDigit, skipDigits, skipBlanks, takeWord. Conditions: as each theorem states. -/
import Derived.Test.YtggahjhjapnfeaaDoorLexFill
import Derived.Test.YtggahjhjapnfeaaDoorLexNum
import Derived.Test.YtggahjhjapnfeaaDoorByt
import Derived.Test.YtggahjhjapnfeaaDoorShelf
import Derived.Handy
namespace Go.Proofs.YtggahjhjapnfeaaDoor.Lx
open Go.RowKit Go.Lib Go.Proofs.YtggahjhjapnfeaaDoor.Byt

/-- The byte at m; 0 behind the end. -/
def by8 (s : ByteArray) (m : Nat) : Nat := (s.data.toList.getD m 0).toNat
/-- The bytes from m on. -/
def sf (s : ByteArray) (m : Nat) : List UInt8 := s.data.toList.drop m
theorem by8_lt (s : ByteArray) (m : Nat) : by8 s m < 256 := UInt8.toNat_lt _
theorem index_of (s : ByteArray) (m : Nat) (x : Int) (hx : x = (m : Int)) (h : m < s.size) (w : World) :
    (Instr.index 9 (.string s) (.int .i64 x)).run Tryd.prog w = .ok (.int .u8 (by8 s m : Int)) w := by
  subst hx
  have h2 : m < s.data.toList.length := by simpa using h
  have e : s[m].toNat = by8 s m := by
    have : s.data.toList.getD m 0 = s[m] := by rw [List.getD, List.getElem?_eq_getElem h2]; rfl
    unfold by8; rw [this]
  rw [run_index_string w 9 _ .i64 (m : Int) Tryd.underlying9, dif_pos ⟨by omega, by omega⟩, ← e]
  rfl
theorem sf_len (s : ByteArray) (m : Nat) : (sf s m).length = s.size - m := by unfold sf; simp
theorem sf_get (s : ByteArray) (m j : Nat) : ((sf s m).getD j 0).toNat = by8 s (m + j) := by unfold sf by8; rw [getD_dropN]
theorem sf_hd (s : ByteArray) (m : Nat) : hd (sf s m) = by8 s m := sf_get s m 0
theorem sf_drop (s : ByteArray) (m j : Nat) : (sf s m).drop j = sf s (m + j) := by unfold sf; rw [List.drop_drop]
theorem sf_cons (s : ByteArray) (m : Nat) (h : m < s.size) : ∃ c : UInt8, sf s m = c :: sf s (m + 1) ∧ c.toNat = by8 s m := by
  have h2 : m < s.data.toList.length := by simpa using h
  refine ⟨s.data.toList[m], List.drop_eq_getElem_cons h2, ?_⟩
  unfold by8
  rw [List.getD, List.getElem?_eq_getElem h2]
  rfl
theorem sf_nil (s : ByteArray) (m : Nat) (h : s.size ≤ m) : sf s m = [] := List.drop_eq_nil_of_le (by simpa using h)
theorem by8_end (s : ByteArray) (m : Nat) (h : s.size ≤ m) : by8 s m = 0 := by
  unfold by8
  rw [List.getD_eq_getElem?_getD, List.getElem?_eq_none (by simpa using h)]
  rfl
theorem dgs_sf (s : ByteArray) (m : Nat) : dgs (sf s m) = if dg (by8 s m) = true then dgs (sf s (m + 1)) + 1 else 0 := by
  by_cases h : m < s.size
  · obtain ⟨c, h1, h2⟩ := sf_cons s m h
    rw [h1, dgs, h2]
  · rw [by8_end s m (by omega), sf_nil s m (by omega)]; rfl
theorem skp_sf (s : ByteArray) (m : Nat) : skp (sf s m) = if bl (by8 s m) = true then skp (sf s (m + 1)) + 1 else 0 := by
  by_cases h : m < s.size
  · obtain ⟨c, h1, h2⟩ := sf_cons s m h
    rw [h1, skp, h2]
  · rw [by8_end s m (by omega), sf_nil s m (by omega)]; rfl

/-! ### isDigit -/
theorem ret_d {a b : Bool} (h : a = b) : Ending.returned (.bool a) = .returned (.bool b) := by rw [h]
/-! ### skipDigits -/
/-! ### skipBlanks -/
def blI (c : Nat) : Int := if c = 32 then 0 else if c = 9 then 1 else if c = 10 then 2 else if c = 13 then 3 else -1
theorem blank_dig : ∀ n : Fin 256, Lib.indexByte [32, 9, 10, 13] (UInt8.ofNat n.val) = blI n.val ∧ (bl n.val = true → 0 ≤ blI n.val) ∧ (bl n.val = false → blI n.val = -1) := by decide +kernel
theorem blank_find (c : Nat) (hc : c < 256) (w : World) :
    Calls Tryd.prog 21 #[.string ⟨#[32, 9, 10, 13]⟩, .int .u8 (c : Int)] w fun e w' => e = .returned (.int .i64 (blI c)) ∧ w = w' :=
  (Tryd.strings_IndexByte _ _ w).mono fun e w' ⟨h1, h2⟩ => ⟨by
    rw [h1, Int.toNat_natCast]
    exact congrArg (fun x => Ending.returned (.int .i64 x)) (blank_dig ⟨c, hc⟩).1, h2.symm⟩
/-! ### takeWord -/
/-- A token as a value; what Next hands back. -/
def tkV (t : Tk) : Value := .agg #[.int .i64 (t.k : Int), .int .i64 (t.o : Int), .int .i64 (t.z : Int), .string ⟨t.v.toArray⟩, .int .i64 t.n]
def nR (r : Nat × Tk) : Value := .tuple #[tkV r.2, .int .i64 (r.1 : Int)]
def atR (i : Nat) (r : Nat × Tk) : Nat × Tk := (r.1, r.2.sh i)
theorem prefix_is (l p : List UInt8) : Lib.hasPrefix l p = decide (l.take p.length = p) := by
  unfold Lib.hasPrefix
  rw [Bool.eq_iff_iff, decide_eq_true_eq, List.isPrefixOf_iff_prefix, List.prefix_iff_eq_take]
  exact eq_comm
theorem cut_sf (s : ByteArray) (i : Nat) : (cutB s i (s.size - i)).data.toList = sf s i := by
  have : (sf s i).length ≤ s.size - i := by rw [sf_len]; omega
  show (sf s i).take (s.size - i) = _
  rw [List.take_of_length_le this]
theorem word_find (s : ByteArray) (i : Nat) (p : ByteArray) (w : World) :
    Calls Tryd.prog 36 #[.string (cutB s i (s.size - i)), .string p] w fun e w' => e = .returned (.bool (decide ((sf s i).take p.data.toList.length = p.data.toList))) ∧ w = w' :=
  (Tryd.strings_HasPrefix _ _ w).mono fun e w' ⟨h1, h2⟩ => ⟨by rw [h1, prefix_is, cut_sf], h2.symm⟩
/-- The words, one by one. -/
theorem word_at (k : Nat) (a : Int) (ha : a = (k : Int)) (hk : k < 3) (w : World) :
    (Instr.index 46 (.agg #[.string ⟨#[116, 114, 117, 101]⟩, .string ⟨#[102, 97, 108, 115, 101]⟩, .string ⟨#[110, 117, 108, 108]⟩]) (.int .i64 a)).run Tryd.prog w =
      .ok (.string (if k = 0 then ⟨#[116, 114, 117, 101]⟩ else if k = 1 then ⟨#[102, 97, 108, 115, 101]⟩ else ⟨#[110, 117, 108, 108]⟩)) w := by
  subst ha
  have hk3 : k = 0 ∨ k = 1 ∨ k = 2 := by omega
  rcases hk3 with rfl | rfl | rfl
  all_goals simp [Instr.index, run_underlying Tryd.underlying46, asIntOf, go_sem]
/-- What the words from the k-th on say. -/
def wF (k : Nat) (l : List UInt8) : Nat × Tk :=
  if k = 0 ∧ l.take 4 = [116, 114, 117, 101] then (0, ⟨9, 0, 4, [], 0⟩) else if k ≤ 1 ∧ l.take 5 = [102, 97, 108, 115, 101] then (0, ⟨10, 0, 5, [], 0⟩) else if k ≤ 2 ∧ l.take 4 = [110, 117, 108, 108] then (0, ⟨11, 0, 4, [], 0⟩) else (4, bad 0)
theorem wF_zero (l : List UInt8) : wF 0 l = wrd l := by unfold wF wrd; simp
theorem wF_0 {l : List UInt8} (h : l.take 4 = [116, 114, 117, 101]) : wF 0 l = (0, ⟨9, 0, 4, [], 0⟩) := if_pos ⟨rfl, h⟩
theorem wF_1 {l : List UInt8} (h : l.take 5 = [102, 97, 108, 115, 101]) : wF 1 l = (0, ⟨10, 0, 5, [], 0⟩) := by unfold wF; rw [if_neg (by simp), if_pos ⟨by omega, h⟩]
theorem wF_2 {l : List UInt8} (h : l.take 4 = [110, 117, 108, 108]) : wF 2 l = (0, ⟨11, 0, 4, [], 0⟩) := by unfold wF; rw [if_neg (by simp), if_neg (by simp), if_pos ⟨by omega, h⟩]
theorem wF_n0 {l : List UInt8} (h : l.take 4 ≠ [116, 114, 117, 101]) : wF 0 l = wF 1 l := by unfold wF; simp [h]
theorem wF_n1 {l : List UInt8} (h : l.take 5 ≠ [102, 97, 108, 115, 101]) : wF 1 l = wF 2 l := by unfold wF; simp [h]
theorem wF_n2 {l : List UInt8} (h : l.take 4 ≠ [110, 117, 108, 108]) : wF 2 l = wF 3 l := by unfold wF; simp [h]
end Go.Proofs.YtggahjhjapnfeaaDoor.Lx
