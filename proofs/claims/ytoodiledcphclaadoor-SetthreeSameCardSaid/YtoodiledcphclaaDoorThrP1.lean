/- Contracts of the document's Find, Same of sets of rules. Conditions: the rules can be read. · Contract of the document's Same of sets of rules: two rules compared. Conditions: the rules can be read. · Contract of the document's 'with': a rule put among others by rising ids. Conditions: the rules can be read; there are at most a million. -/
import Derived.Test.YtoodiledcphclaaDoorPlainB
import Derived.Test.YtoodiledcphclaaDoorRulP4
import Derived.Lib.Hide
import Derived.Laws.Cover1
import Derived.Laws.StructEq
namespace Go.Proofs.YtoodiledcphclaaDoor.Thr
open Go.RowKit Go.Lib
open Go.Proofs.YtoodiledcphclaaDoor.Rul (Ru zero Row Own ruC ruL rga)

theorem rga_ga (L : List Ru) (i : Nat) : rga L i = ga L i := rfl
/-- Was it found? -/
def fk (L : List Ru) (s : ByteArray) : Bool := decide (0 ≤ fd L s)
theorem find_at {L : List Ru} {s : ByteArray} {k : Nat} (hk : k < L.length) (h : (ga L k).id = s) (hb : ∀ j, j < k → (ga L j).id ≠ s) : fd L s = k ∧ fk L s = true := by
  have := fd_at hk h hb
  exact ⟨this, by unfold fk; rw [this]; exact decide_eq_true (Int.natCast_nonneg k)⟩
theorem find_none {L : List Ru} {s : ByteArray} (h : ∀ j, j < L.length → (ga L j).id ≠ s) : fd L s = -1 ∧ fk L s = false := by
  have := fd_none h
  exact ⟨this, by unfold fk; rw [this]; rfl⟩
end Go.Proofs.YtoodiledcphclaaDoor.Thr

namespace Go.Proofs.YtoodiledcphclaaDoor.Thr
open Go.RowKit Go.Lib
open Go.Proofs.YtoodiledcphclaaDoor.Rul (Ru zero Row Own ruC ruL rga)

theorem toList_eq {a b : ByteArray} : a.toList = b.toList ↔ a = b := by
  constructor
  · intro h
    rw [Byt.toList_data, Byt.toList_data] at h
    exact ByteArray.ext (Array.toList_inj.1 h)
  · rintro rfl; rfl
set_option maxRecDepth 100000 in
theorem run_eql (x y : Ru) (W : World) : (binOp .eql 30 (.agg #[.string x.id, .string x.no, .string x.ro, .int .i64 x.pr, .int .i64 x.ki, .int .i64 x.ra, .int .i64 x.pe, .int .i64 x.bu, .int .i64 x.co, .int .i64 x.mx, .int .i64 x.fa, .int .i64 x.wa, .int .i64 x.pb]) (.agg #[.string y.id, .string y.no, .string y.ro, .int .i64 y.pr, .int .i64 y.ki, .int .i64 y.ra, .int .i64 y.pe, .int .i64 y.bu, .int .i64 y.co, .int .i64 y.mx, .int .i64 y.fa, .int .i64 y.wa, .int .i64 y.pb])).run Tryd.prog W = .ok (.bool (rE x y)) W := by
  have h := rE_iff x y
  cases hb : rE x y with
  | true =>
    obtain rfl := h.1 hb
    go_simp
  | false =>
    have hne : ¬ x = y := fun e => by rw [h.2 e] at hb; cases hb
    go_simp
    simp only [toList_eq]
    intro h0 h1 h2 h3 h4 h5 h6 h7 h8 h9 h10 h11 h12
    refine hne ?_
    obtain ⟨a0, a1, a2, a3, a4, a5, a6, a7, a8, a9, a10, a11, a12⟩ := x
    obtain ⟨b0, b1, b2, b3, b4, b5, b6, b7, b8, b9, b10, b11, b12⟩ := y
    dsimp only at *
    subst h0; subst h1; subst h2; subst h3; subst h4; subst h5; subst h6; subst h7; subst h8; subst h9; subst h10; subst h11; subst h12
    rfl
set_option maxRecDepth 100000 in
theorem run_neq (x y : Ru) (W : World) : (binOp .neq 30 (.agg #[.string x.id, .string x.no, .string x.ro, .int .i64 x.pr, .int .i64 x.ki, .int .i64 x.ra, .int .i64 x.pe, .int .i64 x.bu, .int .i64 x.co, .int .i64 x.mx, .int .i64 x.fa, .int .i64 x.wa, .int .i64 x.pb]) (.agg #[.string y.id, .string y.no, .string y.ro, .int .i64 y.pr, .int .i64 y.ki, .int .i64 y.ra, .int .i64 y.pe, .int .i64 y.bu, .int .i64 y.co, .int .i64 y.mx, .int .i64 y.fa, .int .i64 y.wa, .int .i64 y.pb])).run Tryd.prog W = .ok (.bool (!rE x y)) W := by
  have h := rE_iff x y
  cases hb : rE x y with
  | true =>
    obtain rfl := h.1 hb
    go_simp
  | false =>
    have hne : ¬ x = y := fun e => by rw [h.2 e] at hb; cases hb
    go_simp
    simp only [toList_eq]
    intro h0 h1 h2 h3 h4 h5 h6 h7 h8 h9 h10 h11 h12
    refine hne ?_
    obtain ⟨a0, a1, a2, a3, a4, a5, a6, a7, a8, a9, a10, a11, a12⟩ := x
    obtain ⟨b0, b1, b2, b3, b4, b5, b6, b7, b8, b9, b10, b11, b12⟩ := y
    dsimp only at *
    subst h0; subst h1; subst h2; subst h3; subst h4; subst h5; subst h6; subst h7; subst h8; subst h9; subst h10; subst h11; subst h12
    rfl

theorem same_len {l m : List Ru} (h : l.length ≠ m.length) : sm l m = false := sm_no_len h
set_option maxHeartbeats 4000000 in
set_option maxRecDepth 100000 in
theorem rsame_any (L M : List Ru) (v1 v2 : Value) (w : World) (h1 : Row w v1 L) (h2 : Row w v2 M) (hl : L.length ≤ 9223372036854775807) (_hm : M.length ≤ 9223372036854775807) :
    Calls Tryd.prog 11 #[v1, v2] w fun e w' => e = .returned (.bool (sm L M)) ∧ Below w.heap.size w w' := by
  obtain ⟨a1, cap1, rfl, _, c1⟩ := h1.open_
  obtain ⟨a2, cap2, rfl, _, c2⟩ := h2.open_
  have C1 := Lib.hid c1
  have C2 := Lib.hid c2
  clear c1 c2 h1 h2
  by_cases hlen : L.length = M.length
  · have HY := Lib.hid (@sm_yes L M hlen)
    have HNO := Lib.hid fun i => @sm_no_at L M i
    have hM : M.length = L.length := hlen.symm
    have C2' := Lib.hid fun j (hj : j < L.length) => C2.out j (hM ▸ hj)
    rw [hM]
    clear C2 hlen hM
    go_enter Tryd.func11, Tryd.ntmps11
    go_wp2_with fail
    go_loopw [13] (fun i wr => ∃ k : Nat, i = .int .i64 (k : Int) ∧ k ≤ L.length ∧ Hid (Below w.heap.size w wr) ∧ Hid (∀ j, j < k → ga L j = ga M j)) (fun i _ => L.length - (RowKit.intOf i).toNat)
    case atStart => exact ⟨0, rfl, Nat.zero_le _, Lib.hid (Below.refl _ _), Lib.hid fun j hj => absurd hj (Nat.not_lt_zero _)⟩
    case round =>
      obtain ⟨k, rfl, hk, HB, HA⟩ := hrel
      by_cases hlt : k < L.length
      · obtain ⟨b1, o1, rfl, x1⟩ := C1.out k hlt
        obtain ⟨b2, o2, rfl, x2⟩ := C2'.out k hlt
        have y1 := Rul.range_cells (fun j v hj => (HB.out.cell (Rul.lt_of_cell (x1 j v hj))).trans (x1 j v hj))
        have y2 := Rul.range_cells (fun j v hj => (HB.out.cell (Rul.lt_of_cell (x2 j v hj))).trans (x2 j v hj))
        rw [rga_ga] at y1 y2
        clear x1 x2
        have HQ := run_neq (ga L k) (ga M k)
        have HNK := Lib.hid (HNO.out k)
        have HX := Lib.hid fun (h : ga L k = ga M k) j (hj : j < k + 1) => by
          by_cases q : j < k
          · exact HA.out j q
          · obtain rfl : j = k := by omega
            exact h
        have HE := Lib.hid (rE_iff (ga L k) (ga M k))
        generalize ga L k = x at *
        generalize ga M k = y at *
        obtain ⟨p0, p1, p2, p3, p4, p5, p6, p7, p8, p9, p10, p11, p12⟩ := y1
        obtain ⟨q0, q1, q2, q3, q4, q5, q6, q7, q8, q9, q10, q11, q12⟩ := y2
        have HN : ∀ (_ : rE x y = false), ¬ x = y := fun h e => by rw [HE.out.2 e] at h; cases h
        have HN := Lib.hid HN
        cases hb : rE x y with
        | true =>
          have HX2 := Lib.hid (HX.out (HE.out.1 hb))
          rw [hb] at HQ
          clear hb HE HN HX HNK
          go_wp2_with fail
          go_region
          go_wp2_with fail
          go_roundw
          case rel => exact ⟨k + 1, by go_num, by omega, Lib.hid HB.out.drew, HX2⟩
          case measure => simp [RowKit.intOf]; omega
        | false =>
          have HZ := Lib.hid (HNK.out (HN.out hb))
          rw [hb] at HQ
          clear hb HE HN HX HNK
          go_wp2_with fail
          go_region
          go_wp2_with fail
          go_ret
          rw [HZ.out]
          exact ⟨rfl, HB.out.drew⟩
      · obtain rfl : k = L.length := by omega
        have HZ := Lib.hid (HY.out HA.out)
        go_wp2_with fail
        go_ret
        rw [HZ.out]
        exact ⟨rfl, HB.out⟩
  · rw [same_len hlen]
    have b1 : ((L.length : Int) != (M.length : Int)) = true := by rw [bne_iff_ne]; omega
    go_enter Tryd.func11, Tryd.ntmps11
    go_wp2_with fail
    go_ret
    exact ⟨rfl, Below.refl _ _⟩
end Go.Proofs.YtoodiledcphclaaDoor.Thr

namespace Go.Proofs.YtoodiledcphclaaDoor.Thr
open Go.RowKit Go.Lib
open Go.Proofs.YtoodiledcphclaaDoor.Rul (Ru zero Row Own ruC ruL rga)
open Go.Proofs.YtoodiledcphclaaDoor.Ide (lt)

theorem rnext {w w' : World} {v : Value} {L : List Ru} (h : Row w v L) (hb : Below w.heap.size w w') : Row w' v L := h.next hb
theorem nil_drop (w : World) (a : Option Addr) (c : Nat) (L : List Ru) (k : Nat) (h : L.length ≤ k) : Row w (.slice a 0 c) (L.drop k) := .inl ⟨List.drop_of_length_le h, a, c, rfl⟩
theorem nil_row (w : World) (a : Option Addr) (cap : Nat) : Row w (.slice a 0 cap) [] := .inl ⟨rfl, _, _, rfl⟩
/-- A rule's box, beside a row that was appended to. -/
theorem grown_bx {w w' : World} {g : Nat} {cs : Array Value} (h : Rul.Bx w g cs) (hg : w.grownBy w' (Value.slice none 0 0).ownBlock) : Rul.Bx w' g cs :=
  (hg.block g h.lt (by intro e; cases e)).trans h
end Go.Proofs.YtoodiledcphclaaDoor.Thr
