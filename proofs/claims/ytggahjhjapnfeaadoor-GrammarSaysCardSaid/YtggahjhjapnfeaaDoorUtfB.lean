/- Contracts of Runes, Put and numbers. Conditions: the two tables of unicode/utf8 are as its text lays them; as each theorem states. -/
import Derived.Test.YtggahjhjapnfeaaDoorUtfA
import Derived.Test.YtggahjhjapnfeaaDoorNum
import Derived.Handy
namespace Go.Proofs.YtggahjhjapnfeaaDoor.Utf
open Go.RowKit Go.Lib Go.Proofs.YtggahjhjapnfeaaDoor.Byt

/-- What Runes returns. -/
def rB (l : List UInt8) : Bool := (badL l).isNone
def rZ (l : List UInt8) : List Int := if badL l = none then (rnL l).map fun n : Nat => (n : Int) else []

theorem below_drewN {B n : Nat} {w W : World} (h : Below B w W) : Below B w (W.drewN n) := ⟨h.os, h.tape, h.output, h.size, h.block⟩
theorem one_int (x y : Int) (h : x = y) : (#[Value.int .i64 x]).toList = [y].map (Value.int .i64) := by subst h; rfl
theorem iter_alloc {w : World} {k : Nat} {s : ByteArray} {pos : Nat} (o : Obj) (h : w.heap[k]? = some (Obj.stringIter s pos)) : (w.alloc o).heap[k]? = some (Obj.stringIter s pos) :=
  (Below.heap_alloc w o k (Array.getElem?_eq_some_iff.1 h).1).trans h
theorem decode_wn (s : ByteArray) (pos : Nat) (h : 0 < wS s pos) : Utf8.decode s pos = (nL (s.data.toList.drop pos), wS s pos) := by
  rw [← decodeL_drop]
  exact Prod.ext rfl (wL_good h).2.2.symm
theorem nL_le (l : List UInt8) : nL l ≤ 1114111 := decodeL_rune l
theorem ret_vb {v : Value} {a b : Bool} (h : a = b) : Ending.returned (.tuple #[v, .bool a]) = .returned (.tuple #[v, .bool b]) := by rw [h]

/-! ### Put -/
def encZ (l : List Int) : List UInt8 := l.flatMap fun n : Int => encodeRune n
def pB (l : List Int) : Bool := l.all vI
def pS (l : List Int) : ByteArray := if pB l = true then ⟨(encZ l).toArray⟩ else ⟨#[]⟩
theorem encZ_step (l : List Int) (i : Nat) (h : i < l.length) : encZ (l.take (i + 1)) = encZ (l.take i) ++ encodeRune (l.getD i 0) := by
  rw [List.take_add_one, encZ, List.flatMap_append, List.getElem?_eq_getElem h]
  simp [encZ, h]
theorem all_step (l : List Int) (i : Nat) (h : i < l.length) : (l.take (i + 1)).all vI = ((l.take i).all vI && vI (l.getD i 0)) := by
  rw [List.take_add_one, List.all_append, List.getElem?_eq_getElem h]
  simp [h]
theorem all_stop (l : List Int) (i : Nat) (h : i < l.length) (hv : vI (l.getD i 0) = false) : pB l = false := by
  unfold pB
  rw [List.all_eq_false]
  refine ⟨l.getD i 0, ?_, by rw [hv]; decide⟩
  simp [h]
theorem encZ_len (l : List Int) : (encZ l).length ≤ 4 * l.length := by
  induction l with
  | nil => simp [encZ]
  | cons n ns ih =>
    have h := encodeRuneZ_length n
    have e : encZ (n :: ns) = encodeRune n ++ encZ ns := by simp [encZ]
    rw [e, List.length_append, List.length_cons]
    have : (encodeRune n).length ≤ 4 := by simpa [encodeRune] using h.2
    omega
theorem pS_yes {l : List Int} (h : pB l = true) : pS l = ⟨(encZ l).toArray⟩ := by unfold pS; rw [if_pos h]
theorem pS_no {l : List Int} (h : pB l = false) : pS l = ⟨#[]⟩ := by unfold pS; rw [if_neg (by rw [h]; simp)]
theorem ret_sb {a b : ByteArray} {c d : Bool} (h : a = b) (h' : c = d) : Ending.returned (.tuple #[.string a, .bool c]) = .returned (.tuple #[.string b, .bool d]) := by rw [h, h']

theorem appendRune_own (B : Nat) (v : Value) (l : List UInt8) (n : Int) (w : World) (h0 : 0 ≤ n) (h1 : n ≤ 1114111) (hown : Own w B v l) (hl : l.length ≤ 100000000) (hB : B ≤ w.heap.size) :
    Calls Tryd.prog 64 #[v, .int .i32 n] w fun e w' => ∃ v', e = .returned v' ∧ Own w' B v' (l ++ encodeRune n) ∧ Below B w w' := by
  refine (Tryd.utf8_AppendRune_plain B v l.length (byteCells l) n (by omega) (by omega) w hown (by omega) hB).mono ?_
  rintro e w' ⟨v', rfl, h2, o, h3⟩
  refine ⟨v', rfl, ?_, ?_⟩
  · unfold Own
    rw [List.length_append, byteCells_append, byteCells_encodeRune, ← runeCells_length]
    exact h2
  · exact ((Below.refl B w).alloc hB o).grown h3 (by simp; omega) (fun k hk => (World.ownsRow.lt hown k hk).1)

set_option maxHeartbeats 1000000 in
theorem put_any (v : Value) (xs : List Int) (w : World) (hr : Num.Row w v xs) (hl : xs.length ≤ 1000000) :
    Calls Tryd.prog 58 #[v] w fun e w' => e = .returned (.tuple #[.string (pS xs), .bool (pB xs)]) ∧ Below w.heap.size w w' := by
  rcases hr with ⟨rfl, a, cap, rfl⟩ | ⟨b, off, cap, rfl, hcell⟩
  · go_enter Tryd.func58, Tryd.ntmps58
    go_wp2_with (with_reducible refine wpList_emptied _ rfl _ _ rfl w.heap.size w (Below.refl _ _) (Nat.le_refl _) _ _ 0 rfl rfl rfl rfl (by omega) ?_; intro v1 w1 hown1 hb1)
    go_loopw [4, 12] (fun u i wr => i = .int .i64 0 ∧ u = v1 ∧ wr = w1) (fun _ _ _ => 0)
    case atStart => exact ⟨rfl, rfl, rfl⟩
    case round =>
      obtain ⟨rfl, rfl, rfl⟩ := hrel
      go_wp2_with (with_reducible refine wpList_string _ rfl _ rfl _ _ _ rfl hown1 ?_)
      go_ret2
      exact ⟨rfl, hb1⟩
  · have HCell := Lib.hid hcell
    clear hcell
    go_enter Tryd.func58, Tryd.ntmps58
    go_wp2_with (with_reducible refine wpList_emptied _ rfl _ _ rfl w.heap.size w (Below.refl _ _) (Nat.le_refl _) _ _ xs.length rfl rfl rfl rfl (by omega) ?_; intro v1 w1 hown1 hb1)
    go_loopw [4, 12] (fun u i wr => ∃ k : Nat, i = .int .i64 (k : Int) ∧ k ≤ xs.length ∧ Own wr w.heap.size u (encZ (xs.take k)) ∧ Hid ((xs.take k).all vI = true) ∧ Below w.heap.size w wr) (fun _ i _ => xs.length - (RowKit.intOf i).toNat)
    case atStart => exact ⟨0, rfl, Nat.zero_le _, hown1, Lib.hid rfl, hb1⟩
    case round =>
      obtain ⟨k, rfl, hk, hown, hall, hb⟩ := hrel
      by_cases hlt : k < xs.length
      · have hc0 := HCell.out k hlt
        have hc := (hb.cell (Num.cell_lt hc0)).trans hc0
        clear hc0
        obtain ⟨n, hn⟩ : ∃ n, n = xs.getD k 0 := ⟨_, rfl⟩
        have HE := Lib.hid (encZ_step xs k hlt)
        have HA := Lib.hid (all_step xs k hlt)
        have HS := Lib.hid (all_stop xs k hlt)
        have hel := encZ_len (xs.take k)
        rw [List.length_take] at hel
        rw [← hn] at hc HE HA HS
        have HV := Lib.hid (fun w => valid_any n w)
        clear hn
        cases hv : vI n with
        | false =>
          have HP := Lib.hid (HS.out hv)
          rw [hv] at HV
          clear hv
          go_wp2_with (go_at_call 63; refine (HV.out _).mono ?_; rintro e w' ⟨rfl, rfl⟩)
          go_ret2
          exact ⟨ret_sb (pS_no HP.out).symm HP.out.symm, hb⟩
        | true =>
          have hv2 : 0 ≤ n ∧ n ≤ 1114111 := by unfold vI at hv; simp only [decide_eq_true_eq] at hv; omega
          have HA2 := HA.out
          rw [hall.out, hv] at HA2
          have HAL := Lib.hid HA2
          rw [hv] at HV
          have hw : IntKind.i32.wrap n = n := by rw [IntKind.wrap_i32]; omega
          have hsz := hb.size
          have HAp := Lib.hid (appendRune_own w.heap.size _ _ n wr hv2.1 hv2.2 hown (by omega) hsz)
          clear hv HA2 HA
          obtain ⟨hv0, hv1⟩ := hv2
          go_wp2_with (first
            | (go_at_call 63; refine (HV.out _).mono ?_; rintro e w' ⟨rfl, rfl⟩)
            | (go_at_call 64; refine HAp.out.mono ?_; rintro e w' ⟨v2, rfl, hown2, hb2⟩))
          go_roundw
          case rel => exact ⟨k + 1, by go_num, by omega, by rw [HE.out]; exact hown2, HAL, hb.trans hb2⟩
          case measure => simp [RowKit.intOf]; omega
      · obtain rfl : k = xs.length := by omega
        have hall2 := hall.out
        rw [List.take_of_length_le (Nat.le_refl _)] at hall2 hown
        have HP := Lib.hid (show pB xs = true from hall2)
        clear hall hall2
        go_wp2_with (with_reducible refine wpList_string _ rfl _ rfl _ _ _ rfl hown ?_)
        go_ret2
        exact ⟨ret_sb (pS_yes HP.out).symm HP.out.symm, hb⟩

/-! ### numbers -/
end Go.Proofs.YtggahjhjapnfeaaDoor.Utf
