/- Contracts of isDigit, skipDigits, skipBlanks, takeWord. Conditions: as each theorem states. · Tokens in memory: one of them, and rows of them. Conditions: as each theorem states. · What strconv.ParseInt says of a number's bytes; takeNumber. Conditions: strconv.ErrRange holds an error (what the row lists); as each theorem states. · Contracts of takeText and Next. Conditions: the tables of unicode/utf8 and the errors of strconv (what the row lists); as each theorem states. -/
import Derived.Test.YtbpofhlnnldceaaDoorPlainA
import Derived.Test.YtbpofhlnnldceaaDoorRowsA
import Derived.Test.YtbpofhlnnldceaaDoorShelf
import Derived.Handy
import Derived.Deep.MidRow
import Derived.Laws.CopyOwn
import Derived.Shelf.Strconv.ParseIntPublic10
import Derived.Test.YtbpofhlnnldceaaDoorQuoG1
namespace Go.Proofs.YtbpofhlnnldceaaDoor.Lx
open Go.RowKit Go.Lib Go.Proofs.YtbpofhlnnldceaaDoor.Byt

/-- The byte at m; 0 behind the end. -/
def by8 (s : ByteArray) (m : Nat) : Nat := (s.data.toList.getD m 0).toNat
/-- The bytes from m on. -/
def sf (s : ByteArray) (m : Nat) : List UInt8 := s.data.toList.drop m
theorem by8_lt (s : ByteArray) (m : Nat) : by8 s m < 256 := UInt8.toNat_lt _
theorem index_of (s : ByteArray) (m : Nat) (x : Int) (hx : x = (m : Int)) (h : m < s.size) (w : World) :
    (Instr.index 9 (.string s) (.int .i64 x)).run Tryd.prog w = .ok (.int .u8 (by8 s m : Int)) w := by
  subst hx
  have h2 : m < s.data.toList.length := by simpa using h
  have e : s[m].toNat = by8 s m := by
    have : s.data.toList.getD m 0 = s[m] := by rw [List.getD, List.getElem?_eq_getElem h2]; rfl
    unfold by8; rw [this]
  rw [run_index_string w 9 _ .i64 (m : Int) Tryd.underlying9, dif_pos ⟨by omega, by omega⟩, ← e]
  rfl
theorem sf_len (s : ByteArray) (m : Nat) : (sf s m).length = s.size - m := by unfold sf; simp
theorem sf_get (s : ByteArray) (m j : Nat) : ((sf s m).getD j 0).toNat = by8 s (m + j) := by unfold sf by8; rw [getD_dropN]
theorem sf_hd (s : ByteArray) (m : Nat) : hd (sf s m) = by8 s m := sf_get s m 0
theorem sf_drop (s : ByteArray) (m j : Nat) : (sf s m).drop j = sf s (m + j) := by unfold sf; rw [List.drop_drop]
theorem sf_cons (s : ByteArray) (m : Nat) (h : m < s.size) : ∃ c : UInt8, sf s m = c :: sf s (m + 1) ∧ c.toNat = by8 s m := by
  have h2 : m < s.data.toList.length := by simpa using h
  refine ⟨s.data.toList[m], List.drop_eq_getElem_cons h2, ?_⟩
  unfold by8
  rw [List.getD, List.getElem?_eq_getElem h2]
  rfl
theorem sf_nil (s : ByteArray) (m : Nat) (h : s.size ≤ m) : sf s m = [] := List.drop_eq_nil_of_le (by simpa using h)
theorem by8_end (s : ByteArray) (m : Nat) (h : s.size ≤ m) : by8 s m = 0 := by
  unfold by8
  rw [List.getD_eq_getElem?_getD, List.getElem?_eq_none (by simpa using h)]
  rfl
theorem dgs_sf (s : ByteArray) (m : Nat) : dgs (sf s m) = if dg (by8 s m) = true then dgs (sf s (m + 1)) + 1 else 0 := by
  by_cases h : m < s.size
  · obtain ⟨c, h1, h2⟩ := sf_cons s m h
    rw [h1, dgs, h2]
  · rw [by8_end s m (by omega), sf_nil s m (by omega)]; rfl
theorem skp_sf (s : ByteArray) (m : Nat) : skp (sf s m) = if bl (by8 s m) = true then skp (sf s (m + 1)) + 1 else 0 := by
  by_cases h : m < s.size
  · obtain ⟨c, h1, h2⟩ := sf_cons s m h
    rw [h1, skp, h2]
  · rw [by8_end s m (by omega), sf_nil s m (by omega)]; rfl

/-! ### isDigit -/
theorem ret_d {a b : Bool} (h : a = b) : Ending.returned (.bool a) = .returned (.bool b) := by rw [h]
/-! ### skipDigits -/
/-! ### skipBlanks -/
def blI (c : Nat) : Int := if c = 32 then 0 else if c = 9 then 1 else if c = 10 then 2 else if c = 13 then 3 else -1
theorem blank_dig : ∀ n : Fin 256, Lib.indexByte [32, 9, 10, 13] (UInt8.ofNat n.val) = blI n.val ∧ (bl n.val = true → 0 ≤ blI n.val) ∧ (bl n.val = false → blI n.val = -1) := by decide +kernel
theorem blank_find (c : Nat) (hc : c < 256) (w : World) :
    Calls Tryd.prog 71 #[.string ⟨#[32, 9, 10, 13]⟩, .int .u8 (c : Int)] w fun e w' => e = .returned (.int .i64 (blI c)) ∧ w = w' :=
  (Tryd.strings_IndexByte _ _ w).mono fun e w' ⟨h1, h2⟩ => ⟨by
    rw [h1, Int.toNat_natCast]
    exact congrArg (fun x => Ending.returned (.int .i64 x)) (blank_dig ⟨c, hc⟩).1, h2.symm⟩
/-! ### takeWord -/
/-- A token as a value; what Next hands back. -/
def tkV (t : Tk) : Value := .agg #[.int .i64 (t.k : Int), .int .i64 (t.o : Int), .int .i64 (t.z : Int), .string ⟨t.v.toArray⟩, .int .i64 t.n]
def nR (r : Nat × Tk) : Value := .tuple #[tkV r.2, .int .i64 (r.1 : Int)]
def atR (i : Nat) (r : Nat × Tk) : Nat × Tk := (r.1, r.2.sh i)
theorem prefix_is (l p : List UInt8) : Lib.hasPrefix l p = decide (l.take p.length = p) := by
  unfold Lib.hasPrefix
  rw [Bool.eq_iff_iff, decide_eq_true_eq, List.isPrefixOf_iff_prefix, List.prefix_iff_eq_take]
  exact eq_comm
theorem cut_sf (s : ByteArray) (i : Nat) : (cutB s i (s.size - i)).data.toList = sf s i := by
  have : (sf s i).length ≤ s.size - i := by rw [sf_len]; omega
  show (sf s i).take (s.size - i) = _
  rw [List.take_of_length_le this]
/-- What the words from the k-th on say. -/
def wF (k : Nat) (l : List UInt8) : Nat × Tk :=
  if k = 0 ∧ l.take 4 = [116, 114, 117, 101] then (0, ⟨9, 0, 4, [], 0⟩) else if k ≤ 1 ∧ l.take 5 = [102, 97, 108, 115, 101] then (0, ⟨10, 0, 5, [], 0⟩) else if k ≤ 2 ∧ l.take 4 = [110, 117, 108, 108] then (0, ⟨11, 0, 4, [], 0⟩) else (4, bad 0)
theorem wF_zero (l : List UInt8) : wF 0 l = wrd l := by unfold wF wrd; simp
theorem wF_0 {l : List UInt8} (h : l.take 4 = [116, 114, 117, 101]) : wF 0 l = (0, ⟨9, 0, 4, [], 0⟩) := if_pos ⟨rfl, h⟩
theorem wF_1 {l : List UInt8} (h : l.take 5 = [102, 97, 108, 115, 101]) : wF 1 l = (0, ⟨10, 0, 5, [], 0⟩) := by unfold wF; rw [if_neg (by simp), if_pos ⟨by omega, h⟩]
theorem wF_2 {l : List UInt8} (h : l.take 4 = [110, 117, 108, 108]) : wF 2 l = (0, ⟨11, 0, 4, [], 0⟩) := by unfold wF; rw [if_neg (by simp), if_neg (by simp), if_pos ⟨by omega, h⟩]
theorem wF_n0 {l : List UInt8} (h : l.take 4 ≠ [116, 114, 117, 101]) : wF 0 l = wF 1 l := by unfold wF; simp [h]
theorem wF_n1 {l : List UInt8} (h : l.take 5 ≠ [102, 97, 108, 115, 101]) : wF 1 l = wF 2 l := by unfold wF; simp [h]
theorem wF_n2 {l : List UInt8} (h : l.take 4 ≠ [110, 117, 108, 108]) : wF 2 l = wF 3 l := by unfold wF; simp [h]
end Go.Proofs.YtbpofhlnnldceaaDoor.Lx

namespace Go.Proofs.YtbpofhlnnldceaaDoor.Lx
open Go.RowKit Go.Lib Go.Proofs.YtbpofhlnnldceaaDoor.Byt

/-- A token's cells. -/
def tkC (t : Tk) : List Value := [.int .i64 (t.k : Int), .int .i64 (t.o : Int), .int .i64 (t.z : Int), .string ⟨t.v.toArray⟩, .int .i64 t.n]
theorem tkV_agg (t : Tk) : tkV t = .agg (tkC t).toArray := rfl
def T0 : Tk := ⟨0, 0, 0, [], 0⟩
section
variable {ops : Array Oper} {rest : List Oper} {o : Oper} {a : Act} {Q : Exit → Act → World → Prop}
end

/-! ### rows of tokens -/
def rowC (L : List Tk) : List Value := L.flatMap tkC
theorem rowC_len (L : List Tk) : (rowC L).length = L.length * 5 := by
  induction L with
  | nil => rfl
  | cons t L ih => unfold rowC at ih ⊢; rw [List.flatMap_cons, List.length_append, ih, List.length_cons]; show 5 + _ = _; omega
theorem rowC_app (x y : List Tk) : rowC (x ++ y) = rowC x ++ rowC y := by unfold rowC; simp
theorem rowC_one (t : Tk) : rowC [t] = tkC t := by unfold rowC; simp
theorem tkC_one (t : Tk) : ∀ u ∈ tkC t, u.oneCell' = true := by
  intro u hu
  unfold tkC at hu
  simp only [List.mem_cons, List.not_mem_nil, or_false] at hu
  rcases hu with rfl | rfl | rfl | rfl | rfl <;> rfl
theorem rowC_at (L : List Tk) : ∀ (j f : Nat), j < L.length → f < 5 → (rowC L)[j * 5 + f]? = (tkC (L.getD j T0))[f]? := by
  induction L with
  | nil => intro j f h; simp at h
  | cons t L ih =>
    intro j f hj hf
    have e : rowC (t :: L) = tkC t ++ rowC L := by unfold rowC; simp
    have hl : (tkC t).length = 5 := rfl
    rw [e]
    cases j with
    | zero => rw [List.getElem?_append_left (by omega)]; simp
    | succ j =>
      rw [List.getElem?_append_right (by omega), hl, show (j + 1) * 5 + f - 5 = j * 5 + f by omega, ih j f (by simp at hj; omega) hf]
      rfl
/-- v can be read as the tokens L. -/
def Row (w : World) (v : Value) (L : List Tk) : Prop :=
  (L = [] ∧ ∃ a cap, v = .slice a 0 cap) ∨ ∃ b cap, v = .slice (some ⟨b, 0, none⟩) L.length cap ∧ ∀ j, j < L.length → w.rangeAt b (j * 5) (tkC (L.getD j T0))
theorem rangeAt_next {w w' : World} {b o : Nat} {cs : List Value} (h : w.rangeAt b o cs) (hb : Below w.heap.size w w') : w'.rangeAt b o cs := by
  intro j v hj
  exact (hb.cell (Lib.lt_of_cell (h j v hj))).trans (h j v hj)
theorem Row.next {w w' : World} {v : Value} {L : List Tk} (h : Row w v L) (hb : Below w.heap.size w w') : Row w' v L := by
  rcases h with h | ⟨b, cap, h1, h2⟩
  · exact .inl h
  · exact .inr ⟨b, cap, h1, fun j hj => rangeAt_next (h2 j hj) hb⟩
theorem Row.nil (w : World) : Row w (.slice none 0 0) [] := .inl ⟨rfl, _, _, rfl⟩
/-- A row at any length: its cells are asked where there are some. -/
theorem Row.open_ {w : World} {v : Value} {L : List Tk} (h : Row w v L) : ∃ a cap, v = .slice a L.length cap ∧ ∀ j, j < L.length → ∃ b, a = some ⟨b, 0, none⟩ ∧ w.rangeAt b (j * 5) (tkC (L.getD j T0)) := by
  rcases h with ⟨rfl, a, cap, rfl⟩ | ⟨b, cap, rfl, hc⟩
  · exact ⟨a, cap, rfl, fun j hj => by cases hj⟩
  · exact ⟨_, cap, rfl, fun j hj => ⟨b, rfl, hc j hj⟩⟩
section
variable {w w' : World} {B : Nat} {v : Value} {L : List Tk}
end
section
variable {ops : Array Oper} {rest : List Oper} {o : Oper} {a : Act} {Q : Exit → Act → World → Prop}
end
end Go.Proofs.YtbpofhlnnldceaaDoor.Lx

namespace Go.Proofs.YtbpofhlnnldceaaDoor.Lx
open Go.RowKit Go.Lib Go.Proofs.YtbpofhlnnldceaaDoor.Byt

/-! ### the number's bytes -/
def vlA (a : Nat) (l : List UInt8) : Nat := l.foldl (fun n c => 10 * n + (c.toNat - 48)) a
theorem vlA_zero (l : List UInt8) : vlA 0 l = vl l := by unfold vlA vl; rfl
theorem vlA_cons (a : Nat) (c : UInt8) (l : List UInt8) : vlA a (c :: l) = vlA (10 * a + (c.toNat - 48)) l := by unfold vlA; rw [List.foldl_cons]
theorem vlA_ge (l : List UInt8) : ∀ a : Nat, a ≤ vlA a l := by
  induction l with
  | nil => intro a; exact Nat.le_refl _
  | cons c l ih => intro a; rw [vlA_cons]; have := ih (10 * a + (c.toNat - 48)); omega
theorem parseM (l : List UInt8) : ∀ a : Nat, allD l → Lib.parseUintM 18446744073709551615 a l = if vlA a l ≤ 18446744073709551615 then .ok (vlA a l) else if l = [] then .ok a else .range := by
  induction l with
  | nil => intro a _; rw [Lib.parseUintM]; split <;> rfl
  | cons c l ih =>
    intro a h
    have hc := h c List.mem_cons_self
    have hl : allD l := fun d hd => h d (List.mem_cons_of_mem _ hd)
    unfold dg at hc
    rw [decide_eq_true_eq] at hc
    have hge := vlA_ge l (10 * a + (c.toNat - 48))
    rw [Lib.parseUintM, if_pos hc, vlA_cons]
    by_cases h1 : 1844674407370955162 ≤ a
    · rw [if_pos h1, if_neg (by omega), if_neg (List.cons_ne_nil c l)]
    · rw [if_neg h1]
      by_cases h2 : 18446744073709551615 < a * 10 + (c.toNat - 48)
      · rw [if_pos h2, if_neg (by omega), if_neg (List.cons_ne_nil c l)]
      · rw [if_neg h2, show a * 10 + (c.toNat - 48) = 10 * a + (c.toNat - 48) by omega, ih _ hl]
        by_cases h3 : vlA (10 * a + (c.toNat - 48)) l ≤ 18446744073709551615
        · rw [if_pos h3, if_pos h3]
        · rw [if_neg h3, if_neg h3, if_neg (List.cons_ne_nil c l)]
          by_cases h4 : l = []
          · subst h4
            have e : vlA (10 * a + (c.toNat - 48)) [] = 10 * a + (c.toNat - 48) := rfl
            rw [e] at h3
            exact absurd (by omega) h3
          · rw [if_neg h4]
theorem parseB (l : List UInt8) (hl : l ≠ []) (h : allD l) : Lib.parseUintB 64 l = if vl l ≤ 18446744073709551615 then .ok (vl l) else .range := by
  unfold Lib.parseUintB
  rw [if_neg hl, show 2 ^ 64 - 1 = 18446744073709551615 from rfl, parseM l 0 h, vlA_zero, if_neg hl]
theorem dgs_take : ∀ l : List UInt8, allD (l.take (dgs l))
  | [] => by simp [dgs, allD]
  | c :: l => by
    rw [dgs]
    by_cases h : dg c.toNat = true
    · rw [if_pos h, List.take_succ_cons]
      intro d hd
      rcases List.mem_cons.1 hd with rfl | hd
      · exact h
      · exact dgs_take l d hd
    · rw [if_neg h]; simp [allD]
theorem dgc_take (l : List UInt8) : allD (l.take (dgc l)) := by
  unfold dgc
  by_cases h : hd l = 48
  · rw [if_pos h]
    cases l with
    | nil => simp [allD]
    | cons c l =>
      intro d hd
      rw [List.take_succ_cons, List.take_zero, List.mem_singleton] at hd
      subst hd
      have : d.toNat = 48 := h
      rw [this]; rfl
  · rw [if_neg h]; exact dgs_take l
theorem parse_is (l : List UInt8) (h : 0 < dc l) : Lib.parseIntB 64 (l.take (sgn l + dc l)) = if vo l = true then .ok (vi l) else .range := by
  have hle := dc_le l
  have ha : allD ((l.drop (sgn l)).take (dc l)) := dgc_take _
  have hlen : ((l.drop (sgn l)).take (dc l)).length = dc l := by rw [List.length_take, List.length_drop]; omega
  have hne : (l.drop (sgn l)).take (dc l) ≠ [] := fun e => by rw [e] at hlen; simp at hlen; omega
  have hp := parseB _ hne ha
  have hv : vl ((l.drop (sgn l)).take (dc l)) = vz l := rfl
  rw [hv] at hp
  have e : l.take (sgn l + dc l) = l.take (sgn l) ++ (l.drop (sgn l)).take (dc l) := by rw [List.take_add]
  rw [e]
  have h63 : (2 : Nat) ^ (64 - 1) = 9223372036854775808 := rfl
  by_cases h45 : hd l = 45
  · have hs : sgn l = 1 := if_pos h45
    have hvi : vi l = -(vz l : Int) := if_pos hs
    have ht : l.take (sgn l) = [45] := by
      rw [hs]
      cases l with
      | nil => cases h45
      | cons c l =>
        have : c.toNat = 45 := h45
        have : c = 45 := UInt8.toNat_inj.1 this
        rw [this]; rfl
    rw [ht, List.singleton_append, Lib.parseIntB_minus, hp, h63]
    unfold vo
    rw [hvi]
    by_cases g : vz l ≤ 18446744073709551615
    · rw [if_pos g]
      by_cases g2 : vz l ≤ 9223372036854775808
      · rw [if_pos (by simp; omega)]; unfold Lib.signedC; simp only; rw [if_neg (by omega)]
      · rw [if_neg (by simp; omega)]; unfold Lib.signedC; simp only; rw [if_pos (by omega)]
    · rw [if_neg g, if_neg (by simp; omega)]; rfl
  · have hs : sgn l = 0 := if_neg h45
    have hvi : vi l = (vz l : Int) := if_neg (by rw [hs]; simp)
    rw [hs] at hne ha ⊢
    rw [hs] at hp
    rw [List.take_zero, List.nil_append]
    cases hD : (l.drop 0).take (dc l) with
    | nil => exact absurd hD hne
    | cons c r =>
      rw [hD] at ha hp
      have hc := ha c List.mem_cons_self
      unfold dg at hc
      rw [decide_eq_true_eq] at hc
      rw [Lib.parseIntB_plain 64 c r (by omega) (by omega), hp, h63]
      unfold vo
      rw [hvi]
      by_cases g : vz l ≤ 18446744073709551615
      · rw [if_pos g]
        by_cases g2 : vz l < 9223372036854775808
        · rw [if_pos (by simp; omega)]; unfold Lib.signlessC; simp only; rw [if_neg (by omega)]
        · rw [if_neg (by simp; omega)]; unfold Lib.signlessC; simp only; rw [if_pos (by omega)]
      · rw [if_neg g, if_neg (by simp; omega)]; rfl

/-! ### takeNumber -/
def mkI (c : Nat) : Int := if c = 46 then 0 else if c = 101 then 1 else if c = 69 then 2 else -1
theorem mark_dig : ∀ n : Fin 256, Lib.indexByte [46, 101, 69] (UInt8.ofNat n.val) = mkI n.val ∧ (mk n.val = true → 0 ≤ mkI n.val) ∧ (mk n.val = false → mkI n.val = -1) := by decide +kernel
theorem mark_find (c : Nat) (hc : c < 256) (w : World) :
    Calls Tryd.prog 71 #[.string ⟨#[46, 101, 69]⟩, .int .u8 (c : Int)] w fun e w' => e = .returned (.int .i64 (mkI c)) ∧ w = w' :=
  (Tryd.strings_IndexByte _ _ w).mono fun e w' ⟨h1, h2⟩ => ⟨by
    rw [h1, Int.toNat_natCast]
    exact congrArg (fun x => Ending.returned (.int .i64 x)) (mark_dig ⟨c, hc⟩).1, h2.symm⟩
theorem cut_take (s : ByteArray) (i n : Nat) : (cutB s i n).data.toList = (sf s i).take n := by unfold cutB sf; simp
end Go.Proofs.YtbpofhlnnldceaaDoor.Lx

namespace Go.Proofs.YtbpofhlnnldceaaDoor.Lx
open Go.RowKit Go.Lib Go.Proofs.YtbpofhlnnldceaaDoor.Byt Go.Proofs.YtbpofhlnnldceaaDoor.Quo

theorem sh_sh (a b : Nat) (t : Tk) : (t.sh b).sh a = t.sh (a + b) := by unfold Tk.sh; simp only; rw [Nat.add_assoc]
theorem nR_good (i : Nat) (t : Tk) : nR (atR i (0, t)) = .tuple #[.agg #[.int .i64 (t.k : Int), .int .i64 ((i + t.o : Nat) : Int), .int .i64 (t.z : Int), .string ⟨t.v.toArray⟩, .int .i64 t.n], .int .i64 0] := rfl
theorem nR_bad (i e o : Nat) : nR (atR i (e, bad o)) = .tuple #[.agg #[.int .i64 0, .int .i64 ((i + o : Nat) : Int), .int .i64 0, .string ⟨#[]⟩, .int .i64 0], .int .i64 (e : Int)] := rfl

/-! ### Next -/
def sgI (c : Nat) : Int := (sg c : Int) - 1
theorem sign_dig : ∀ n : Fin 256, Lib.indexByte [123, 125, 91, 93, 58, 44] (UInt8.ofNat n.val) = sgI n.val := by decide +kernel
theorem sign_find (c : Nat) (hc : c < 256) (w : World) :
    Calls Tryd.prog 71 #[.string ⟨#[123, 125, 91, 93, 58, 44]⟩, .int .u8 (c : Int)] w fun e w' => e = .returned (.int .i64 ((sg c : Int) - 1)) ∧ w = w' :=
  (Tryd.strings_IndexByte _ _ w).mono fun e w' ⟨h1, h2⟩ => ⟨by
    rw [h1, Int.toNat_natCast]
    exact congrArg (fun x => Ending.returned (.int .i64 x)) (sign_dig ⟨c, hc⟩), h2.symm⟩
theorem nR_all (j : Nat) (r : Nat × Tk) : nR (atR j r) = .tuple #[.agg #[.int .i64 (r.2.k : Int), .int .i64 ((j + r.2.o : Nat) : Int), .int .i64 (r.2.z : Int), .string ⟨r.2.v.toArray⟩, .int .i64 r.2.n], .int .i64 (r.1 : Int)] := rfl
/-- The place where Next begins to look. -/
def cl (s : ByteArray) (a : Int) : Nat := (max (min a (s.size : Int)) 0).toNat
theorem cl_le (s : ByteArray) (a : Int) : cl s a ≤ s.size := by unfold cl; omega
theorem cl_in (s : ByteArray) (k : Nat) (h : k ≤ s.size) : cl s (k : Int) = k := by unfold cl; omega
/-- What Next hands back. -/
def nxA (s : ByteArray) (a : Int) : Nat × Tk := atR (cl s a) (nx (sf s (cl s a)))
theorem nxA_tok (s : ByteArray) (a : Int) : nxA s a = atR (cl s a + skp (sf s (cl s a))) (tok (sf s (cl s a + skp (sf s (cl s a))))) := by
  unfold nxA nx atR
  rw [sf_drop]
  simp only [sh_sh]
theorem tok_cases (s : ByteArray) (j : Nat) (h : j ≤ s.size) :
    (j = s.size ∧ tok (sf s j) = (0, bad 0)) ∨ (j < s.size ∧ 0 < sg (by8 s j) ∧ tok (sf s j) = (0, ⟨sg (by8 s j), 0, 1, [], 0⟩)) ∨
    (j < s.size ∧ sg (by8 s j) = 0 ∧ ((by8 s j = 34 ∧ tok (sf s j) = txt (sf s j)) ∨ (by8 s j ≠ 34 ∧ by8 s j = 45 ∧ tok (sf s j) = num (sf s j)) ∨
      (by8 s j ≠ 34 ∧ by8 s j ≠ 45 ∧ dg (by8 s j) = true ∧ tok (sf s j) = num (sf s j)) ∨ (by8 s j ≠ 34 ∧ by8 s j ≠ 45 ∧ dg (by8 s j) = false ∧ tok (sf s j) = wrd (sf s j)))) := by
  by_cases hj : j < s.size
  · right
    have hne : sf s j ≠ [] := fun e => by have := congrArg List.length e; rw [sf_len] at this; simp at this; omega
    unfold tok
    rw [if_neg hne, sf_hd]
    by_cases h1 : sg (by8 s j) = 0
    · right
      refine ⟨hj, h1, ?_⟩
      rw [if_neg (by omega)]
      by_cases h2 : by8 s j = 34
      · left; exact ⟨h2, if_pos h2⟩
      · right
        rw [if_neg h2]
        by_cases h3 : by8 s j = 45
        · left; exact ⟨h2, h3, if_pos (.inl h3)⟩
        · right
          cases h4 : dg (by8 s j) with
          | true => left; exact ⟨h2, h3, rfl, if_pos (.inr rfl)⟩
          | false => right; exact ⟨h2, h3, rfl, if_neg (by simp [h3])⟩
    · left
      exact ⟨hj, by omega, if_pos (by omega)⟩
  · left
    obtain rfl : j = s.size := by omega
    refine ⟨rfl, ?_⟩
    rw [sf_nil s _ (Nat.le_refl _)]; rfl

end Go.Proofs.YtbpofhlnnldceaaDoor.Lx
