/- Contract of the document's plain of sets of rules of version 2: a right rule in its canonical form. Conditions: the rule is right. · Contract of the document's Canon of sets of rules of version 2. Conditions: the rules can be read, Mod; the table of powers reads as the library lays it. · Contract of the law's same of sets of rules of version 2: two rules compared. Conditions: the rules can be read. -/
import Derived.Test.YthkopnobekohcaaDoorTwoP2
import Derived.Test.YthkopnobekohcaaDoorTwoP1
import Derived.Laws.StructEq
namespace Go.Proofs.YthkopnobekohcaaDoor.Two
open Go.RowKit Go.Lib
open Go.Proofs.YthkopnobekohcaaDoor.Uni (okT tV nN nU tE_ok)

theorem two_new (w : World) (o1 o2 : Obj) : ((w.alloc o1).alloc o2).heap[w.heap.size + 1]? = some o2 := by
  have := Go.heap_alloc_new (w.alloc o1) o2
  rw [World.size_alloc] at this
  exact this
theorem two_below (w : World) (o1 o2 : Obj) : Below w.heap.size w ((w.alloc o1).alloc o2) := ((Below.refl _ _).alloc (Nat.le_refl _) _).alloc (by simp) _
/-- The call's two variables: the rule that came in, and the result's. -/
structure Bxs (w : World) (cs zs : Array Value) (W : World) : Prop where
  one : Bx W w.heap.size cs
  two : Bx W (w.heap.size + 1) zs
  bel : Below w.heap.size w W
theorem Bxs.new (w : World) (cs zs : Array Value) : Bxs w cs zs ((w.alloc (.cells cs 30)).alloc (.cells zs 30)) :=
  ⟨bx_old (bx_new w cs) _, two_new w _ _, two_below w _ _⟩
theorem Bxs.next {w W W' : World} {cs zs : Array Value} (h : Bxs w cs zs W) (hb : Below W.heap.size W W') : Bxs w cs zs W' :=
  ⟨h.one.next hb h.one.lt, h.two.next hb h.two.lt, h.bel.trans (hb.mono h.bel.size)⟩
theorem Bxs.set {w W : World} {cs zs : Array Value} (h : Bxs w cs zs W) (j : Nat) (v : Value) : Bxs w (cs.setIfInBounds j v) zs (W.setCell ⟨w.heap.size, j, none⟩ v) :=
  ⟨h.one.set j v, (heap_setCell_other W ⟨w.heap.size, j, none⟩ (w.heap.size + 1) v (show w.heap.size + 1 ≠ w.heap.size by omega)).trans h.two, h.bel.setCell (p := ⟨w.heap.size, j, none⟩) (Nat.le_refl _) v⟩

theorem win {n u : Int} (h : okT n u = true) : -9223372036854775808 ≤ n ∧ n ≤ 9223372036854775807 := by
  have := (Uni.okT_iff n u).1 h
  omega
end Go.Proofs.YthkopnobekohcaaDoor.Two

namespace Go.Proofs.YthkopnobekohcaaDoor.Two
open Go.RowKit Go.Lib
open Go.Proofs.YthkopnobekohcaaDoor.Ren (Pw)
open Go.Proofs.YthkopnobekohcaaDoor.Ide (lt)

/-- The first m of them, in their canonical form, by rising names. -/
def fm (L : List Rw) (m : Nat) : List Rw := ((L.take m).map can).foldl (fun l r => ins r l) []
theorem fm_zero (L : List Rw) : fm L 0 = [] := rfl
theorem fm_next {L : List Rw} {m : Nat} (h : m < L.length) : fm L (m + 1) = ins (can (ga L m)) (fm L m) := by
  unfold fm
  rw [List.take_add_one, List.getElem?_eq_getElem h, Option.toList_some, List.map_append, List.foldl_append, ga_at h]
  rfl
theorem fm_all (L : List Rw) : fm L L.length = srt (L.map can) := by unfold fm srt; rw [List.take_length]
theorem fm_len (L : List Rw) {m : Nat} (h : m ≤ L.length) : (fm L m).length = m := by
  have := (fold_perm ((L.take m).map can) []).length_eq
  unfold fm
  rw [this, List.append_nil, List.length_map, List.length_take]
  omega
theorem nil_row (w : World) (a : Option Addr) (cap : Nat) : Row w (.slice a 0 cap) [] := .inl ⟨rfl, _, _, rfl⟩
theorem nil_drop (w : World) (a : Option Addr) (c : Nat) (L : List Rw) (k : Nat) (h : L.length ≤ k) : Row w (.slice a 0 c) (L.drop k) := .inl ⟨List.drop_of_length_le h, a, c, rfl⟩

end Go.Proofs.YthkopnobekohcaaDoor.Two

namespace Go.Proofs.YthkopnobekohcaaDoor.Two
open Go.RowKit Go.Lib

theorem toList_eq {a b : ByteArray} : a.toList = b.toList ↔ a = b := by
  constructor
  · intro h
    rw [Byt.toList_data, Byt.toList_data] at h
    exact ByteArray.ext (Array.toList_inj.1 h)
  · rintro rfl; rfl
set_option maxRecDepth 100000 in
theorem run_eql (x y : Rw) (W : World) : (binOp .eql 30 (.agg #[.string x.id, .string x.no, .string x.ma, .int .i64 x.rk, .int .i64 x.ki, .int .i64 x.li, .int .i64 x.wi, .int .i64 x.un, .int .i64 x.bu]) (.agg #[.string y.id, .string y.no, .string y.ma, .int .i64 y.rk, .int .i64 y.ki, .int .i64 y.li, .int .i64 y.wi, .int .i64 y.un, .int .i64 y.bu])).run Tryd.prog W = .ok (.bool (rE x y)) W := by
  have h := rE_iff x y
  cases hb : rE x y with
  | true =>
    obtain rfl := h.1 hb
    go_simp
  | false =>
    have hne : ¬ x = y := fun e => by rw [h.2 e] at hb; cases hb
    go_simp
    simp only [toList_eq]
    intro h0 h1 h2 h3 h4 h5 h6 h7 h8
    refine hne ?_
    obtain ⟨a0, a1, a2, a3, a4, a5, a6, a7, a8⟩ := x
    obtain ⟨b0, b1, b2, b3, b4, b5, b6, b7, b8⟩ := y
    dsimp only at *
    subst h0; subst h1; subst h2; subst h3; subst h4; subst h5; subst h6; subst h7; subst h8
    rfl
set_option maxRecDepth 100000 in
theorem run_neq (x y : Rw) (W : World) : (binOp .neq 30 (.agg #[.string x.id, .string x.no, .string x.ma, .int .i64 x.rk, .int .i64 x.ki, .int .i64 x.li, .int .i64 x.wi, .int .i64 x.un, .int .i64 x.bu]) (.agg #[.string y.id, .string y.no, .string y.ma, .int .i64 y.rk, .int .i64 y.ki, .int .i64 y.li, .int .i64 y.wi, .int .i64 y.un, .int .i64 y.bu])).run Tryd.prog W = .ok (.bool (!rE x y)) W := by
  have h := rE_iff x y
  cases hb : rE x y with
  | true =>
    obtain rfl := h.1 hb
    go_simp
  | false =>
    have hne : ¬ x = y := fun e => by rw [h.2 e] at hb; cases hb
    go_simp
    simp only [toList_eq]
    intro h0 h1 h2 h3 h4 h5 h6 h7 h8
    refine hne ?_
    obtain ⟨a0, a1, a2, a3, a4, a5, a6, a7, a8⟩ := x
    obtain ⟨b0, b1, b2, b3, b4, b5, b6, b7, b8⟩ := y
    dsimp only at *
    subst h0; subst h1; subst h2; subst h3; subst h4; subst h5; subst h6; subst h7; subst h8
    rfl

theorem same_len {l m : List Rw} (h : l.length ≠ m.length) : sm l m = false := sm_no_len h
set_option maxHeartbeats 4000000 in
set_option maxRecDepth 100000 in
theorem same_any (L M : List Rw) (v1 v2 : Value) (w : World) (h1 : Row w v1 L) (h2 : Row w v2 M) (hl : L.length ≤ 9223372036854775807) (_hm : M.length ≤ 9223372036854775807) :
    Calls Tryd.prog 8 #[v1, v2] w fun e w' => e = .returned (.bool (sm L M)) ∧ Below w.heap.size w w' := by
  obtain ⟨a1, cap1, rfl, _, c1⟩ := h1.open_
  obtain ⟨a2, cap2, rfl, _, c2⟩ := h2.open_
  have C1 := Lib.hid c1
  have C2 := Lib.hid c2
  clear c1 c2 h1 h2
  by_cases hlen : L.length = M.length
  · have HY := Lib.hid (@sm_yes L M hlen)
    have HNO := Lib.hid fun i => @sm_no_at L M i
    have hM : M.length = L.length := hlen.symm
    have C2' := Lib.hid fun j (hj : j < L.length) => C2.out j (hM ▸ hj)
    rw [hM]
    clear C2 hlen hM
    go_enter Tryd.func8, Tryd.ntmps8
    go_wp2_with fail
    go_loopw [13] (fun i wr => ∃ k : Nat, i = .int .i64 (k : Int) ∧ k ≤ L.length ∧ Hid (Below w.heap.size w wr) ∧ Hid (∀ j, j < k → ga L j = ga M j)) (fun i _ => L.length - (RowKit.intOf i).toNat)
    case atStart => exact ⟨0, rfl, Nat.zero_le _, Lib.hid (Below.refl _ _), Lib.hid fun j hj => absurd hj (Nat.not_lt_zero _)⟩
    case round =>
      obtain ⟨k, rfl, hk, HB, HA⟩ := hrel
      by_cases hlt : k < L.length
      · obtain ⟨b1, o1, rfl, x1⟩ := C1.out k hlt
        obtain ⟨b2, o2, rfl, x2⟩ := C2'.out k hlt
        have y1 := range_cells (fun j v hj => (HB.out.cell (lt_of_cell (x1 j v hj))).trans (x1 j v hj))
        have y2 := range_cells (fun j v hj => (HB.out.cell (lt_of_cell (x2 j v hj))).trans (x2 j v hj))
        rw [show ∀ (N : List Rw) i, rga N i = ga N i from fun _ _ => rfl] at y1 y2
        clear x1 x2
        have HQ := run_neq (ga L k) (ga M k)
        have HNK := Lib.hid (HNO.out k)
        have HX := Lib.hid fun (h : ga L k = ga M k) j (hj : j < k + 1) => by
          by_cases q : j < k
          · exact HA.out j q
          · obtain rfl : j = k := by omega
            exact h
        have HE := Lib.hid (rE_iff (ga L k) (ga M k))
        generalize ga L k = x at *
        generalize ga M k = y at *
        obtain ⟨p0, p1, p2, p3, p4, p5, p6, p7, p8⟩ := y1
        obtain ⟨q0, q1, q2, q3, q4, q5, q6, q7, q8⟩ := y2
        have HN : ∀ (_ : rE x y = false), ¬ x = y := fun h e => by rw [HE.out.2 e] at h; cases h
        have HN := Lib.hid HN
        cases hb : rE x y with
        | true =>
          have HX2 := Lib.hid (HX.out (HE.out.1 hb))
          rw [hb] at HQ
          clear hb HE HN HX HNK
          go_wp2_with fail
          go_region
          go_wp2_with fail
          go_roundw
          case rel => exact ⟨k + 1, by go_num, by omega, Lib.hid HB.out.drew, HX2⟩
          case measure => simp [RowKit.intOf]; omega
        | false =>
          have HZ := Lib.hid (HNK.out (HN.out hb))
          rw [hb] at HQ
          clear hb HE HN HX HNK
          go_wp2_with fail
          go_region
          go_wp2_with fail
          go_ret
          rw [HZ.out]
          exact ⟨rfl, HB.out.drew⟩
      · obtain rfl : k = L.length := by omega
        have HZ := Lib.hid (HY.out HA.out)
        go_wp2_with fail
        go_ret
        rw [HZ.out]
        exact ⟨rfl, HB.out⟩
  · rw [same_len hlen]
    have b1 : ((L.length : Int) != (M.length : Int)) = true := by rw [bne_iff_ne]; omega
    go_enter Tryd.func8, Tryd.ntmps8
    go_wp2_with fail
    go_ret
    exact ⟨rfl, Below.refl _ _⟩
end Go.Proofs.YthkopnobekohcaaDoor.Two
