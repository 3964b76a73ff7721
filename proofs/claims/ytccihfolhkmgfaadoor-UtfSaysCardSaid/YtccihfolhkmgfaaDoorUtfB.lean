/- Contracts of Runes, Put and numbers. Conditions: the two tables of unicode/utf8 are as its text lays them; as each theorem states. -/
import Derived.Test.YtccihfolhkmgfaaDoorUtfA
import Derived.Test.YtccihfolhkmgfaaDoorNum
import Derived.Handy
namespace Go.Proofs.YtccihfolhkmgfaaDoor.Utf
open Go.RowKit Go.Lib Go.Proofs.YtccihfolhkmgfaaDoor.Byt

/-- What Runes returns. -/
def rB (l : List UInt8) : Bool := (badL l).isNone
def rZ (l : List UInt8) : List Int := if badL l = none then (rnL l).map fun n : Nat => (n : Int) else []

theorem below_drewN {B n : Nat} {w W : World} (h : Below B w W) : Below B w (W.drewN n) := ⟨h.os, h.tape, h.output, h.size, h.block⟩
theorem one_int (x y : Int) (h : x = y) : (#[Value.int .i64 x]).toList = [y].map (Value.int .i64) := by subst h; rfl
theorem iter_alloc {w : World} {k : Nat} {s : ByteArray} {pos : Nat} (o : Obj) (h : w.heap[k]? = some (Obj.stringIter s pos)) : (w.alloc o).heap[k]? = some (Obj.stringIter s pos) :=
  (Below.heap_alloc w o k (Array.getElem?_eq_some_iff.1 h).1).trans h
theorem decode_wn (s : ByteArray) (pos : Nat) (h : 0 < wS s pos) : Utf8.decode s pos = (nL (s.data.toList.drop pos), wS s pos) := by
  rw [← decodeL_drop]
  exact Prod.ext rfl (wL_good h).2.2.symm
theorem nL_le (l : List UInt8) : nL l ≤ 1114111 := decodeL_rune l
theorem ret_vb {v : Value} {a b : Bool} (h : a = b) : Ending.returned (.tuple #[v, .bool a]) = .returned (.tuple #[v, .bool b]) := by rw [h]

set_option maxHeartbeats 1000000 in
theorem runes_any (s : ByteArray) (w : World) (hT : Tabs w) (hs : s.size ≤ 1000000) :
    Calls Tryd.prog 7 #[.string s] w fun e w' => ∃ v, e = .returned (.tuple #[v, .bool (rB s.data.toList)]) ∧ Num.Row w' v (rZ s.data.toList) ∧ Below w.heap.size w w' := by
  have HC := Lib.hid (count_any s w hT (by omega))
  clear hT
  have hlen : s.data.toList.length = s.size := by simp
  unfold cI at HC
  unfold rB rZ
  cases hbd : badL s.data.toList with
  | some k =>
    rw [hbd, if_neg (by simp)] at HC
    rw [if_neg (by simp)]
    clear hbd
    go_enter Tryd.func7, Tryd.ntmps7
    go_wp2_with fail
    refine HC.out.mono ?_; rintro e w1 ⟨rfl, hb1⟩
    go_wp2_with fail
    go_ret2
    exact ⟨_, rfl, Num.Row.nil _, hb1⟩
  | none =>
    rw [hbd, if_pos rfl] at HC
    rw [if_pos rfl]
    obtain ⟨ns, hns⟩ : ∃ ns, ns = rnL s.data.toList := ⟨_, rfl⟩
    have hnl : ns.length ≤ s.size := by rw [hns]; have := rnL_len s.data.toList; omega
    rw [← hns] at HC ⊢
    have HB := Lib.hid hbd
    have HN := Lib.hid hns
    clear hbd hns
    go_enter Tryd.func7, Tryd.ntmps7
    go_wp2_with fail
    refine HC.out.mono ?_; rintro e w1 ⟨rfl, hb1⟩
    go_wp2_with (with_reducible refine Num.wpList_emptied _ rfl _ _ rfl w.heap.size w hb1 (Nat.le_refl _) _ _ ns.length rfl rfl rfl rfl (by omega) ?_; intro v1 w2 hown1 hb2)
    go_loopw [5] (fun v wr => ∃ (pos : Nat) (acc : List Nat), Num.Own wr w.heap.size v (acc.map fun n : Nat => (n : Int)) ∧ wr.heap[w2.heap.size]? = some (Obj.stringIter s pos) ∧ Below w.heap.size w wr ∧ pos ≤ s.size ∧
        Hid (ns = acc ++ rnL (s.data.toList.drop pos)) ∧ Hid (badL (s.data.toList.drop pos) = none))
      (fun _ wr => s.size - wr.iterPos w2.heap.size)
    case atStart =>
      refine ⟨0, [], hown1.alloc _, World.iter_heap w2 s 0, hb2.alloc hb2.size _, Nat.zero_le _, Lib.hid ?_, Lib.hid ?_⟩
      · rw [List.drop_zero]; simpa using HN.out
      · rw [List.drop_zero]; exact HB.out
    case round =>
      obtain ⟨pos, acc, hown, hit, hb, hpos, hacc, hok⟩ := hrel
      have hk2 := hb2.size
      by_cases hp : pos < s.size
      · obtain ⟨hw0, hok2⟩ := ok_step hok.out (drop_some s pos hp)
        have hd := decode_wn s pos hw0
        have hR := nL_le (s.data.toList.drop pos)
        have hle := wS_le s pos hpos
        have hacc2 := hacc.out
        rw [rnL_step hw0, List.drop_drop] at hacc2
        rw [List.drop_drop] at hok2
        have hnx := fun ty => Lib.run_next_any_at (P := Tryd.prog) w2 0 s pos ty
        clear hnx
        have hnx := fun ty => Lib.run_next_any_at (P := Tryd.prog) wr w2.heap.size s pos ty hit hp
        rw [hd] at hnx
        simp only at hnx
        change ns = acc ++ nL (s.data.toList.drop pos) :: rnL (s.data.toList.drop (pos + wS s pos)) at hacc2
        change badL (s.data.toList.drop (pos + wS s pos)) = none at hok2
        change 0 < wS s pos at hw0
        generalize nL (s.data.toList.drop pos) = R at *
        generalize wS s pos = K at *
        have HOK := Lib.hid hok2
        have HAC := Lib.hid hacc2
        have hal : acc.length + 1 ≤ ns.length := by rw [hacc2]; simp
        have hown2 := hown.iterAt hit (pos + K)
        have hit2 := Lib.iterAt_heap wr w2.heap.size s pos (pos + K) hit
        have hb3 := Lib.below_iterAt hb hk2 s (pos + K)
        have hsz := hb3.size
        have hwr : IntKind.i64.wrap (R : Int) = (R : Int) := by rw [IntKind.wrap_i64]; omega
        clear hd hok hacc hok2 hacc2 hown hb
        go_wp2_with (with_reducible refine Num.wpList_push _ rfl _ _ rfl w.heap.size w _ _ rfl (hown2.alloc _) (hb3.alloc hsz _) (Nat.le_refl _) _ _ _ rfl _ _ (heap_alloc_new _ _) [(R : Int)] rfl (one_int _ _ (by omega)) (by simp; omega) ?_; intro v3 w3 hown3 hb4 hit3)
        go_roundw
        case rel => exact ⟨pos + K, acc ++ [R], by simpa using hown3, hit3 _ _ _ (iter_alloc _ hit2), hb4, by omega, Lib.hid (by rw [HAC.out]; simp), HOK⟩
        case measure => simp only [World.iterPos, hit3 _ _ _ (iter_alloc _ hit2), hit] <;> omega
      · have hacc2 := hacc.out
        rw [drop_none s pos (by omega), rnL_nil, List.append_nil] at hacc2
        have hnx := fun ty => Lib.run_next_end_at (P := Tryd.prog) wr w2.heap.size s pos ty hit hp
        have HAC := Lib.hid hacc2
        clear hacc hacc2 hok
        go_wp2_with fail
        go_ret2
        exact ⟨_, rfl, by rw [HAC.out]; exact hown.row, hb⟩

/-! ### Put -/
def encZ (l : List Int) : List UInt8 := l.flatMap fun n : Int => encodeRune n
def pB (l : List Int) : Bool := l.all vI
def pS (l : List Int) : ByteArray := if pB l = true then ⟨(encZ l).toArray⟩ else ⟨#[]⟩
theorem encZ_step (l : List Int) (i : Nat) (h : i < l.length) : encZ (l.take (i + 1)) = encZ (l.take i) ++ encodeRune (l.getD i 0) := by
  rw [List.take_add_one, encZ, List.flatMap_append, List.getElem?_eq_getElem h]
  simp [encZ, h]
theorem all_step (l : List Int) (i : Nat) (h : i < l.length) : (l.take (i + 1)).all vI = ((l.take i).all vI && vI (l.getD i 0)) := by
  rw [List.take_add_one, List.all_append, List.getElem?_eq_getElem h]
  simp [h]
theorem all_stop (l : List Int) (i : Nat) (h : i < l.length) (hv : vI (l.getD i 0) = false) : pB l = false := by
  unfold pB
  rw [List.all_eq_false]
  refine ⟨l.getD i 0, ?_, by rw [hv]; decide⟩
  simp [h]
theorem encZ_len (l : List Int) : (encZ l).length ≤ 4 * l.length := by
  induction l with
  | nil => simp [encZ]
  | cons n ns ih =>
    have h := encodeRuneZ_length n
    have e : encZ (n :: ns) = encodeRune n ++ encZ ns := by simp [encZ]
    rw [e, List.length_append, List.length_cons]
    have : (encodeRune n).length ≤ 4 := by simpa [encodeRune] using h.2
    omega
theorem pS_yes {l : List Int} (h : pB l = true) : pS l = ⟨(encZ l).toArray⟩ := by unfold pS; rw [if_pos h]
theorem pS_no {l : List Int} (h : pB l = false) : pS l = ⟨#[]⟩ := by unfold pS; rw [if_neg (by rw [h]; simp)]
theorem ret_sb {a b : ByteArray} {c d : Bool} (h : a = b) (h' : c = d) : Ending.returned (.tuple #[.string a, .bool c]) = .returned (.tuple #[.string b, .bool d]) := by rw [h, h']

theorem appendRune_own (B : Nat) (v : Value) (l : List UInt8) (n : Int) (w : World) (h0 : 0 ≤ n) (h1 : n ≤ 1114111) (hown : Own w B v l) (hl : l.length ≤ 100000000) (hB : B ≤ w.heap.size) :
    Calls Tryd.prog 20 #[v, .int .i32 n] w fun e w' => ∃ v', e = .returned v' ∧ Own w' B v' (l ++ encodeRune n) ∧ Below B w w' := by
  refine (Tryd.utf8_AppendRune_plain B v l.length (byteCells l) n (by omega) (by omega) w hown (by omega) hB).mono ?_
  rintro e w' ⟨v', rfl, h2, o, h3⟩
  refine ⟨v', rfl, ?_, ?_⟩
  · unfold Own
    rw [List.length_append, byteCells_append, byteCells_encodeRune, ← runeCells_length]
    exact h2
  · exact ((Below.refl B w).alloc hB o).grown h3 (by simp; omega) (fun k hk => (World.ownsRow.lt hown k hk).1)

set_option maxHeartbeats 1000000 in
theorem put_any (v : Value) (xs : List Int) (w : World) (hr : Num.Row w v xs) (hl : xs.length ≤ 1000000) :
    Calls Tryd.prog 9 #[v] w fun e w' => e = .returned (.tuple #[.string (pS xs), .bool (pB xs)]) ∧ Below w.heap.size w w' := by
  rcases hr with ⟨rfl, a, cap, rfl⟩ | ⟨b, off, cap, rfl, hcell⟩
  · go_enter Tryd.func9, Tryd.ntmps9
    go_wp2_with (with_reducible refine wpList_emptied _ rfl _ _ rfl w.heap.size w (Below.refl _ _) (Nat.le_refl _) _ _ 0 rfl rfl rfl rfl (by omega) ?_; intro v1 w1 hown1 hb1)
    go_loopw [4, 12] (fun u i wr => i = .int .i64 0 ∧ u = v1 ∧ wr = w1) (fun _ _ _ => 0)
    case atStart => exact ⟨rfl, rfl, rfl⟩
    case round =>
      obtain ⟨rfl, rfl, rfl⟩ := hrel
      go_wp2_with (with_reducible refine wpList_string _ rfl _ rfl _ _ _ rfl hown1 ?_)
      go_ret2
      exact ⟨rfl, hb1⟩
  · have HCell := Lib.hid hcell
    clear hcell
    go_enter Tryd.func9, Tryd.ntmps9
    go_wp2_with (with_reducible refine wpList_emptied _ rfl _ _ rfl w.heap.size w (Below.refl _ _) (Nat.le_refl _) _ _ xs.length rfl rfl rfl rfl (by omega) ?_; intro v1 w1 hown1 hb1)
    go_loopw [4, 12] (fun u i wr => ∃ k : Nat, i = .int .i64 (k : Int) ∧ k ≤ xs.length ∧ Own wr w.heap.size u (encZ (xs.take k)) ∧ Hid ((xs.take k).all vI = true) ∧ Below w.heap.size w wr) (fun _ i _ => xs.length - (RowKit.intOf i).toNat)
    case atStart => exact ⟨0, rfl, Nat.zero_le _, hown1, Lib.hid rfl, hb1⟩
    case round =>
      obtain ⟨k, rfl, hk, hown, hall, hb⟩ := hrel
      by_cases hlt : k < xs.length
      · have hc0 := HCell.out k hlt
        have hc := (hb.cell (Num.cell_lt hc0)).trans hc0
        clear hc0
        obtain ⟨n, hn⟩ : ∃ n, n = xs.getD k 0 := ⟨_, rfl⟩
        have HE := Lib.hid (encZ_step xs k hlt)
        have HA := Lib.hid (all_step xs k hlt)
        have HS := Lib.hid (all_stop xs k hlt)
        have hel := encZ_len (xs.take k)
        rw [List.length_take] at hel
        rw [← hn] at hc HE HA HS
        have HV := Lib.hid (fun w => valid_any n w)
        clear hn
        cases hv : vI n with
        | false =>
          have HP := Lib.hid (HS.out hv)
          rw [hv] at HV
          clear hv
          go_wp2_with (go_at_call 19; refine (HV.out _).mono ?_; rintro e w' ⟨rfl, rfl⟩)
          go_ret2
          exact ⟨ret_sb (pS_no HP.out).symm HP.out.symm, hb⟩
        | true =>
          have hv2 : 0 ≤ n ∧ n ≤ 1114111 := by unfold vI at hv; simp only [decide_eq_true_eq] at hv; omega
          have HA2 := HA.out
          rw [hall.out, hv] at HA2
          have HAL := Lib.hid HA2
          rw [hv] at HV
          have hw : IntKind.i32.wrap n = n := by rw [IntKind.wrap_i32]; omega
          have hsz := hb.size
          have HAp := Lib.hid (appendRune_own w.heap.size _ _ n wr hv2.1 hv2.2 hown (by omega) hsz)
          clear hv HA2 HA
          obtain ⟨hv0, hv1⟩ := hv2
          go_wp2_with (first
            | (go_at_call 19; refine (HV.out _).mono ?_; rintro e w' ⟨rfl, rfl⟩)
            | (go_at_call 20; refine HAp.out.mono ?_; rintro e w' ⟨v2, rfl, hown2, hb2⟩))
          go_roundw
          case rel => exact ⟨k + 1, by go_num, by omega, by rw [HE.out]; exact hown2, HAL, hb.trans hb2⟩
          case measure => simp [RowKit.intOf]; omega
      · obtain rfl : k = xs.length := by omega
        have hall2 := hall.out
        rw [List.take_of_length_le (Nat.le_refl _)] at hall2 hown
        have HP := Lib.hid (show pB xs = true from hall2)
        clear hall hall2
        go_wp2_with (with_reducible refine wpList_string _ rfl _ rfl _ _ _ rfl hown ?_)
        go_ret2
        exact ⟨ret_sb (pS_yes HP.out).symm HP.out.symm, hb⟩

/-! ### numbers -/
set_option maxHeartbeats 1000000 in
theorem numbers_same (v u : Value) (xs : List Int) (w : World) (hv : Num.Row w v xs) (hu : Num.Row w u xs) (hl : xs.length ≤ 1000000) :
    Calls Tryd.prog 15 #[v, u] w fun e w' => e = .returned (.bool true) ∧ Below w.heap.size w w' := by
  by_cases h0 : xs = []
  · subst h0
    have e1 : ∃ a cap, v = .slice a 0 cap := by
      rcases hv with ⟨_, h⟩ | ⟨b, off, cap, rfl, _⟩
      · exact h
      · exact ⟨_, _, rfl⟩
    have e2 : ∃ a cap, u = .slice a 0 cap := by
      rcases hu with ⟨_, h⟩ | ⟨b, off, cap, rfl, _⟩
      · exact h
      · exact ⟨_, _, rfl⟩
    obtain ⟨a, cap, rfl⟩ := e1
    obtain ⟨a2, cap2, rfl⟩ := e2
    go_enter Tryd.func15, Tryd.ntmps15
    go_wp2_with fail
    go_loop [13] (fun i => i = .int .i64 0) (fun _ => 0)
    case atStart => rfl
    case round =>
      subst hrel
      go_wp2_with fail
      go_ret
      exact ⟨rfl, Below.refl _ _⟩
  · rcases hv with ⟨h, _⟩ | ⟨b, off, cap, rfl, hc⟩
    · exact absurd h h0
    rcases hu with ⟨h, _⟩ | ⟨b2, off2, cap2, rfl, hc2⟩
    · exact absurd h h0
    have HC := Lib.hid hc
    have HC2 := Lib.hid hc2
    clear hc hc2 h0
    go_enter Tryd.func15, Tryd.ntmps15
    go_wp2_with fail
    go_loopw [13] (fun i wr => ∃ k : Nat, i = .int .i64 (k : Int) ∧ k ≤ xs.length ∧ Below w.heap.size w wr) (fun i _ => xs.length - (RowKit.intOf i).toNat)
    case atStart => exact ⟨0, rfl, Nat.zero_le _, Below.refl _ _⟩
    case round =>
      obtain ⟨k, rfl, hk, hb⟩ := hrel
      by_cases hlt : k < xs.length
      · have c1 := HC.out k hlt
        have c2 := HC2.out k hlt
        have d1 := (hb.cell (Num.cell_lt c1)).trans c1
        have d2 := (hb.cell (Num.cell_lt c2)).trans c2
        clear c1 c2
        generalize xs.getD k 0 = n at *
        go_wp2_with fail
        go_quiet (fail)
        go_wp2_with fail
        go_roundw
        case rel => exact ⟨k + 1, by go_num, by omega, below_drewN hb⟩
        case measure => simp [RowKit.intOf]; omega
      · go_wp2_with fail
        go_ret
        exact ⟨rfl, hb⟩
end Go.Proofs.YtccihfolhkmgfaaDoor.Utf
