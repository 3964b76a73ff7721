/- Texts of my own, packed: ThrP1. Conditions: as each theorem states. -/
import Derived.Lib.Hide
import Derived.Laws.Cover1
import Derived.Laws.StructEq
import Derived.Test.YtehkiojohldlgaaGreatDoorK03
import Derived.Test.YtehkiojohldlgaaGreatDoorK18
namespace Go.Proofs.YtehkiojohldlgaaGreatDoor.Thr
open Go.RowKit Go.Lib
open Go.Proofs.YtehkiojohldlgaaGreatDoor.Rul (Ru zero Row Own ruC ruL rga)

theorem rga_ga (L : List Ru) (i : Nat) : rga L i = ga L i := rfl
end Go.Proofs.YtehkiojohldlgaaGreatDoor.Thr

namespace Go.Proofs.YtehkiojohldlgaaGreatDoor.Thr
open Go.RowKit Go.Lib
open Go.Proofs.YtehkiojohldlgaaGreatDoor.Rul (Ru zero Row Own ruC ruL rga)

theorem toList_eq {a b : ByteArray} : a.toList = b.toList ↔ a = b := by
  constructor
  · intro h
    rw [Byt.toList_data, Byt.toList_data] at h
    exact ByteArray.ext (Array.toList_inj.1 h)
  · rintro rfl; rfl
set_option maxRecDepth 100000 in
theorem run_neq (x y : Ru) (W : World) : (binOp .neq 49 (.agg #[.string x.id, .string x.no, .string x.ro, .int .i64 x.pr, .int .i64 x.ki, .int .i64 x.ra, .int .i64 x.pe, .int .i64 x.bu, .int .i64 x.co, .int .i64 x.mx, .int .i64 x.fa, .int .i64 x.wa, .int .i64 x.pb]) (.agg #[.string y.id, .string y.no, .string y.ro, .int .i64 y.pr, .int .i64 y.ki, .int .i64 y.ra, .int .i64 y.pe, .int .i64 y.bu, .int .i64 y.co, .int .i64 y.mx, .int .i64 y.fa, .int .i64 y.wa, .int .i64 y.pb])).run Tryz.prog W = .ok (.bool (!rE x y)) W := by
  have h := rE_iff x y
  cases hb : rE x y with
  | true =>
    obtain rfl := h.1 hb
    go_simp
  | false =>
    have hne : ¬ x = y := fun e => by rw [h.2 e] at hb; cases hb
    go_simp
    simp only [toList_eq]
    intro h0 h1 h2 h3 h4 h5 h6 h7 h8 h9 h10 h11 h12
    refine hne ?_
    obtain ⟨a0, a1, a2, a3, a4, a5, a6, a7, a8, a9, a10, a11, a12⟩ := x
    obtain ⟨b0, b1, b2, b3, b4, b5, b6, b7, b8, b9, b10, b11, b12⟩ := y
    dsimp only at *
    subst h0; subst h1; subst h2; subst h3; subst h4; subst h5; subst h6; subst h7; subst h8; subst h9; subst h10; subst h11; subst h12
    rfl

theorem same_len {l m : List Ru} (h : l.length ≠ m.length) : sm l m = false := sm_no_len h
set_option maxHeartbeats 4000000 in
set_option maxRecDepth 100000 in
theorem rsame_any (L M : List Ru) (v1 v2 : Value) (w : World) (h1 : Row w v1 L) (h2 : Row w v2 M) (hl : L.length ≤ 9223372036854775807) (_hm : M.length ≤ 9223372036854775807) :
    Calls Tryz.prog 15 #[v1, v2] w fun e w' => e = .returned (.bool (sm L M)) ∧ Below w.heap.size w w' := by
  obtain ⟨a1, cap1, rfl, _, c1⟩ := h1.open_
  obtain ⟨a2, cap2, rfl, _, c2⟩ := h2.open_
  have C1 := Lib.hid c1
  have C2 := Lib.hid c2
  clear c1 c2 h1 h2
  by_cases hlen : L.length = M.length
  · have HY := Lib.hid (@sm_yes L M hlen)
    have HNO := Lib.hid fun i => @sm_no_at L M i
    have hM : M.length = L.length := hlen.symm
    have C2' := Lib.hid fun j (hj : j < L.length) => C2.out j (hM ▸ hj)
    rw [hM]
    clear C2 hlen hM
    go_enter Tryz.func15, Tryz.ntmps15
    go_wp2_with fail
    go_loopw [13] (fun i wr => ∃ k : Nat, i = .int .i64 (k : Int) ∧ k ≤ L.length ∧ Hid (Below w.heap.size w wr) ∧ Hid (∀ j, j < k → ga L j = ga M j)) (fun i _ => L.length - (RowKit.intOf i).toNat)
    case atStart => exact ⟨0, rfl, Nat.zero_le _, Lib.hid (Below.refl _ _), Lib.hid fun j hj => absurd hj (Nat.not_lt_zero _)⟩
    case round =>
      obtain ⟨k, rfl, hk, HB, HA⟩ := hrel
      by_cases hlt : k < L.length
      · obtain ⟨b1, o1, rfl, x1⟩ := C1.out k hlt
        obtain ⟨b2, o2, rfl, x2⟩ := C2'.out k hlt
        have y1 := Rul.range_cells (fun j v hj => (HB.out.cell (Rul.lt_of_cell (x1 j v hj))).trans (x1 j v hj))
        have y2 := Rul.range_cells (fun j v hj => (HB.out.cell (Rul.lt_of_cell (x2 j v hj))).trans (x2 j v hj))
        rw [rga_ga] at y1 y2
        clear x1 x2
        have HQ := run_neq (ga L k) (ga M k)
        have HNK := Lib.hid (HNO.out k)
        have HX := Lib.hid fun (h : ga L k = ga M k) j (hj : j < k + 1) => by
          by_cases q : j < k
          · exact HA.out j q
          · obtain rfl : j = k := by omega
            exact h
        have HE := Lib.hid (rE_iff (ga L k) (ga M k))
        generalize ga L k = x at *
        generalize ga M k = y at *
        obtain ⟨p0, p1, p2, p3, p4, p5, p6, p7, p8, p9, p10, p11, p12⟩ := y1
        obtain ⟨q0, q1, q2, q3, q4, q5, q6, q7, q8, q9, q10, q11, q12⟩ := y2
        have HN : ∀ (_ : rE x y = false), ¬ x = y := fun h e => by rw [HE.out.2 e] at h; cases h
        have HN := Lib.hid HN
        cases hb : rE x y with
        | true =>
          have HX2 := Lib.hid (HX.out (HE.out.1 hb))
          rw [hb] at HQ
          clear hb HE HN HX HNK
          go_wp2_with fail
          go_region
          go_wp2_with fail
          go_roundw
          case rel => exact ⟨k + 1, by go_num, by omega, Lib.hid HB.out.drew, HX2⟩
          case measure => simp [RowKit.intOf]; omega
        | false =>
          have HZ := Lib.hid (HNK.out (HN.out hb))
          rw [hb] at HQ
          clear hb HE HN HX HNK
          go_wp2_with fail
          go_region
          go_wp2_with fail
          go_ret
          rw [HZ.out]
          exact ⟨rfl, HB.out.drew⟩
      · obtain rfl : k = L.length := by omega
        have HZ := Lib.hid (HY.out HA.out)
        go_wp2_with fail
        go_ret
        rw [HZ.out]
        exact ⟨rfl, HB.out⟩
  · rw [same_len hlen]
    have b1 : ((L.length : Int) != (M.length : Int)) = true := by rw [bne_iff_ne]; omega
    go_enter Tryz.func15, Tryz.ntmps15
    go_wp2_with fail
    go_ret
    exact ⟨rfl, Below.refl _ _⟩
end Go.Proofs.YtehkiojohldlgaaGreatDoor.Thr

namespace Go.Proofs.YtehkiojohldlgaaGreatDoor.Thr
open Go.RowKit Go.Lib
open Go.Proofs.YtehkiojohldlgaaGreatDoor.Rul (Ru zero Row Own ruC ruL rga)
open Go.Proofs.YtehkiojohldlgaaGreatDoor.Ide (lt)

theorem rnext {w w' : World} {v : Value} {L : List Ru} (h : Row w v L) (hb : Below w.heap.size w w') : Row w' v L := h.next hb
theorem nil_drop (w : World) (a : Option Addr) (c : Nat) (L : List Ru) (k : Nat) (h : L.length ≤ k) : Row w (.slice a 0 c) (L.drop k) := .inl ⟨List.drop_of_length_le h, a, c, rfl⟩
theorem nil_row (w : World) (a : Option Addr) (cap : Nat) : Row w (.slice a 0 cap) [] := .inl ⟨rfl, _, _, rfl⟩
/-- A rule's box, beside a row that was appended to. -/
theorem grown_bx {w w' : World} {g : Nat} {cs : Array Value} (h : Rul.Bx w g cs) (hg : w.grownBy w' (Value.slice none 0 0).ownBlock) : Rul.Bx w' g cs :=
  (hg.block g h.lt (by intro e; cases e)).trans h
set_option maxHeartbeats 4000000 in
set_option maxRecDepth 100000 in
theorem rwith_any (L : List Ru) (v : Value) (r : Ru) (w : World) (hr : Row w v L) (hl : L.length ≤ 1000000) :
    Calls Tryz.prog 59 #[v, .agg (ruC r)] w fun e w' => ∃ v', e = .returned v' ∧ Own w' w.heap.size v' (ins r L) ∧ Below w.heap.size w w' := by
  rw [ins_split]
  have hA : ∀ o, Below w.heap.size w (w.alloc o) := fun o => (Below.refl _ _).alloc (Nat.le_refl _) o
  have HR := Lib.hid hr
  have HP := Lib.hid fun k => @pl_is L r.id k
  obtain ⟨a, cap, rfl, hcap, hc⟩ := hr.open_
  have HC := Lib.hid hc
  have hA := Lib.hid hA
  obtain ⟨R, hR⟩ : ∃ R, R = r := ⟨_, rfl⟩
  have hR := Lib.hid hR
  obtain ⟨id, no, ro, pr, ki, ra, pe, bu, co, mx, fa, wa, pb⟩ := r
  dsimp only [ruC] at HP ⊢
  clear hc hr
  go_enter Tryz.func59, Tryz.ntmps59
  go_wp2_with fail
  have X0 := Lib.hid (Rul.bx_new w (ruC ⟨id, no, ro, pr, ki, ra, pe, bu, co, mx, fa, wa, pb⟩))
  have hw0 := hA.out (.cells #[.string id, .string no, .string ro, .int .i64 pr, .int .i64 ki, .int .i64 ra, .int .i64 pe, .int .i64 bu, .int .i64 co, .int .i64 mx, .int .i64 fa, .int .i64 wa, .int .i64 pb] 49)
  change Hid (Rul.Bx (w.alloc (.cells #[.string id, .string no, .string ro, .int .i64 pr, .int .i64 ki, .int .i64 ra, .int .i64 pe, .int .i64 bu, .int .i64 co, .int .i64 mx, .int .i64 fa, .int .i64 wa, .int .i64 pb] 49)) w.heap.size #[.string id, .string no, .string ro, .int .i64 pr, .int .i64 ki, .int .i64 ra, .int .i64 pe, .int .i64 bu, .int .i64 co, .int .i64 mx, .int .i64 fa, .int .i64 wa, .int .i64 pb]) at X0
  have HW0 := Lib.hid hw0
  have hlt := Lib.hid X0.out.lt
  clear hw0
  generalize hw1 : w.alloc (.cells #[.string id, .string no, .string ro, .int .i64 pr, .int .i64 ki, .int .i64 ra, .int .i64 pe, .int .i64 bu, .int .i64 co, .int .i64 mx, .int .i64 fa, .int .i64 wa, .int .i64 pb] 49) = w1 at *
  clear hw1 hA
  go_loopw [5] (fun i wr => ∃ k : Nat, i = .int .i64 (k : Int) ∧ k ≤ L.length ∧ Hid (Below w1.heap.size w1 wr) ∧ Hid (∀ j, j < k → lt (ga L j).id id = true)) (fun i _ => L.length - (RowKit.intOf i).toNat)
  case atStart => exact ⟨0, rfl, Nat.zero_le _, Lib.hid (Below.refl _ _), Lib.hid fun j hj => absurd hj (Nat.not_lt_zero _)⟩
  case round =>
    obtain ⟨k, rfl, hk, HB, HA⟩ := hrel
    have HBW := Lib.hid (HW0.out.trans (HB.out.mono HW0.out.size))
    by_cases hlt2 : k < L.length
    · obtain ⟨b, off, rfl, hcl⟩ := HC.out k hlt2
      have c0 : wr.cell? ⟨b, off + k * 13, none⟩ = some (.string (ga L k).id) := (HBW.out.cell (Rul.lt_of_cell (hcl 0 _ rfl))).trans (hcl 0 _ rfl)
      have r0 : wr.cell? ⟨w.heap.size, 0, none⟩ = some (.string id) := (X0.out.next HB.out hlt.out).cell 0
      clear hcl
      have HX := Lib.hid fun (h : lt (ga L k).id id = true) j (hj : j < k + 1) => by
        by_cases q : j < k
        · exact HA.out j q
        · obtain rfl : j = k := by omega
          exact h
      have HP2 := Lib.hid fun (h : lt (ga L k).id id = false) => HP.out k hk HA.out fun _ => h
      unfold lt at HX HP2
      generalize (ga L k).id = z at *
      cases hq : Op.bytesLess z.toList id.toList with
      | true =>
        have HX2 := Lib.hid (HX.out hq)
        go_wp2_with fail
        go_region
        go_wp2_with fail
        go_roundw
        case rel => exact ⟨k + 1, by go_num, by omega, Lib.hid HB.out.drew, HX2⟩
        case measure => simp [RowKit.intOf]; omega
      | false =>
        have E := Lib.hid (HP2.out hq)
        have HBd := Lib.hid HBW.out.drew
        have X1 := Lib.hid (X0.out.next HB.out.drew hlt.out)
        have HRd := Lib.hid (Rul.Row.take (rnext HR.out HBd.out) k hk)
        have HL1 := Lib.hid (show ([] : List Ru).length + (L.take k).length ≤ 1000000000 by (try rw [List.length_take]); simp; try omega)
        have HL2 := Lib.hid (show (L.take k).length + [(Ru.mk id no ro pr ki ra pe bu co mx fa wa pb)].length ≤ 1000000000 by (try rw [List.length_take]); show _ + 1 ≤ _; (try simp); try omega)
        have HL3 := Lib.hid (show (L.take k ++ [(Ru.mk id no ro pr ki ra pe bu co mx fa wa pb)]).length + (L.drop k).length ≤ 1000000000 by rw [List.length_append]; (try rw [List.length_take, List.length_drop]); show _ + 1 + _ ≤ _; (try simp); try omega)
        go_wp2_with fail
        go_region
        go_wp2_with (first
          | (refine Rul.wpList_fetch _ rfl _ rfl _ _ rfl X2.out rfl ?_)
          | (refine Rul.wpList_push0 _ rfl _ _ rfl w.heap.size w (.slice none 0 0) (.slice (some ⟨b, off, none⟩) k cap) [] (L.take k) rfl rfl (Own.nil _ _) HBd.out (Nat.le_refl _) HRd.out HL1.out ?_; intro v1 w2 own1 hb2 hg2; have X2 := Lib.hid (grown_bx X1.out hg2); rw [List.nil_append] at own1; have O1 := Lib.hid own1; have B2 := Lib.hid hb2; have O2 := Lib.hid (Rul.row_one w2 ⟨id, no, ro, pr, ki, ra, pe, bu, co, mx, fa, wa, pb⟩); clear own1 hb2 hg2)
          | (refine Rul.wpList_push0 _ rfl _ _ rfl w.heap.size w v1 (.slice (some ⟨w2.heap.size, 0, none⟩) 1 1) (L.take k) [⟨id, no, ro, pr, ki, ra, pe, bu, co, mx, fa, wa, pb⟩] rfl rfl (O1.out.alloc _) (B2.out.alloc B2.out.size _) (Nat.le_refl _) O2.out HL2.out ?_; intro v3 w3 own3 hb3 hg3; have O3 := Lib.hid own3; have B3 := Lib.hid hb3; have HD3 := Lib.hid (Rul.Row.drop (rnext HR.out B3.out) k hk); clear own3 hb3 hg3)
          | (refine Rul.wpList_push0 _ rfl _ _ rfl w.heap.size w v3 (.slice (some ⟨b, off + k * 13, none⟩) (L.length - k) (cap - k)) (L.take k ++ [⟨id, no, ro, pr, ki, ra, pe, bu, co, mx, fa, wa, pb⟩]) (L.drop k) rfl rfl O3.out B3.out (Nat.le_refl _) HD3.out HL3.out ?_; intro v4 w4 own4 hb4 hg4))
        go_ret
        rw [E.out]
        rw [List.append_assoc] at own4
        exact ⟨_, rfl, own4, hb4⟩
    · have hke : k = L.length := by omega
      have E := Lib.hid (HP.out k hk HA.out fun h => absurd h hlt2)
      by_cases h0 : 0 < L.length
      · obtain ⟨b, off, rfl, -⟩ := HC.out 0 h0
        have hge : L.length ≤ k := by omega
        clear hke
        by_cases hkc : k < cap
        · have HBd := Lib.hid HBW.out.drew
          have X1 := Lib.hid (X0.out.next HB.out.drew hlt.out)
          have HRd := Lib.hid (Rul.Row.take (rnext HR.out HBd.out) k hk)
          have HL1 := Lib.hid (show ([] : List Ru).length + (L.take k).length ≤ 1000000000 by (try rw [List.length_take]); simp; try omega)
          have HL2 := Lib.hid (show (L.take k).length + [(Ru.mk id no ro pr ki ra pe bu co mx fa wa pb)].length ≤ 1000000000 by (try rw [List.length_take]); show _ + 1 ≤ _; (try simp); try omega)
          have HL3 := Lib.hid (show (L.take k ++ [(Ru.mk id no ro pr ki ra pe bu co mx fa wa pb)]).length + (L.drop k).length ≤ 1000000000 by rw [List.length_append]; (try rw [List.length_take, List.length_drop]); show _ + 1 + _ ≤ _; (try simp); try omega)
          go_wp2_with fail
          go_region
          go_wp2_with (first
            | (refine Rul.wpList_fetch _ rfl _ rfl _ _ rfl X2.out rfl ?_)
            | (refine Rul.wpList_push0 _ rfl _ _ rfl w.heap.size w (.slice none 0 0) (.slice (some ⟨b, off, none⟩) k cap) [] (L.take k) rfl rfl (Own.nil _ _) HBd.out (Nat.le_refl _) HRd.out HL1.out ?_; intro v1 w2 own1 hb2 hg2; have X2 := Lib.hid (grown_bx X1.out hg2); rw [List.nil_append] at own1; have O1 := Lib.hid own1; have B2 := Lib.hid hb2; have O2 := Lib.hid (Rul.row_one w2 ⟨id, no, ro, pr, ki, ra, pe, bu, co, mx, fa, wa, pb⟩); clear own1 hb2 hg2)
            | (refine Rul.wpList_push0 _ rfl _ _ rfl w.heap.size w v1 (.slice (some ⟨w2.heap.size, 0, none⟩) 1 1) (L.take k) [⟨id, no, ro, pr, ki, ra, pe, bu, co, mx, fa, wa, pb⟩] rfl rfl (O1.out.alloc _) (B2.out.alloc B2.out.size _) (Nat.le_refl _) O2.out HL2.out ?_; intro v3 w3 own3 hb3 hg3; have O3 := Lib.hid own3; have B3 := Lib.hid hb3; have HD3 := Lib.hid (nil_drop w3 (some ⟨b, off + k * 13, none⟩) (cap - k) L k hge); clear own3 hb3 hg3)
            | (refine Rul.wpList_push0 _ rfl _ _ rfl w.heap.size w v3 (.slice (some ⟨b, off + k * 13, none⟩) 0 (cap - k)) (L.take k ++ [⟨id, no, ro, pr, ki, ra, pe, bu, co, mx, fa, wa, pb⟩]) (L.drop k) rfl rfl O3.out B3.out (Nat.le_refl _) HD3.out HL3.out ?_; intro v4 w4 own4 hb4 hg4))
          go_ret
          rw [E.out]
          rw [List.append_assoc] at own4
          exact ⟨_, rfl, own4, hb4⟩
        · obtain rfl : k = cap := by omega
          have HBd := Lib.hid HBW.out.drew
          have X1 := Lib.hid (X0.out.next HB.out.drew hlt.out)
          have HRd := Lib.hid (Rul.Row.take (rnext HR.out HBd.out) k hk)
          have HL1 := Lib.hid (show ([] : List Ru).length + (L.take k).length ≤ 1000000000 by (try rw [List.length_take]); simp; try omega)
          have HL2 := Lib.hid (show (L.take k).length + [(Ru.mk id no ro pr ki ra pe bu co mx fa wa pb)].length ≤ 1000000000 by (try rw [List.length_take]); show _ + 1 ≤ _; (try simp); try omega)
          have HL3 := Lib.hid (show (L.take k ++ [(Ru.mk id no ro pr ki ra pe bu co mx fa wa pb)]).length + (L.drop k).length ≤ 1000000000 by rw [List.length_append]; (try rw [List.length_take, List.length_drop]); show _ + 1 + _ ≤ _; (try simp); try omega)
          go_wp2_with fail
          go_region
          go_wp2_with (first
            | (refine Rul.wpList_fetch _ rfl _ rfl _ _ rfl X2.out rfl ?_)
            | (refine Rul.wpList_push0 _ rfl _ _ rfl w.heap.size w (.slice none 0 0) (.slice (some ⟨b, off, none⟩) k k) [] (L.take k) rfl rfl (Own.nil _ _) HBd.out (Nat.le_refl _) HRd.out HL1.out ?_; intro v1 w2 own1 hb2 hg2; have X2 := Lib.hid (grown_bx X1.out hg2); rw [List.nil_append] at own1; have O1 := Lib.hid own1; have B2 := Lib.hid hb2; have O2 := Lib.hid (Rul.row_one w2 ⟨id, no, ro, pr, ki, ra, pe, bu, co, mx, fa, wa, pb⟩); clear own1 hb2 hg2)
            | (refine Rul.wpList_push0 _ rfl _ _ rfl w.heap.size w v1 (.slice (some ⟨w2.heap.size, 0, none⟩) 1 1) (L.take k) [⟨id, no, ro, pr, ki, ra, pe, bu, co, mx, fa, wa, pb⟩] rfl rfl (O1.out.alloc _) (B2.out.alloc B2.out.size _) (Nat.le_refl _) O2.out HL2.out ?_; intro v3 w3 own3 hb3 hg3; have O3 := Lib.hid own3; have B3 := Lib.hid hb3; have HD3 := Lib.hid (nil_drop w3 (some ⟨b, off, none⟩) 0 L k hge); clear own3 hb3 hg3)
            | (refine Rul.wpList_push0 _ rfl _ _ rfl w.heap.size w v3 (.slice (some ⟨b, off, none⟩) 0 0) (L.take k ++ [⟨id, no, ro, pr, ki, ra, pe, bu, co, mx, fa, wa, pb⟩]) (L.drop k) rfl rfl O3.out B3.out (Nat.le_refl _) HD3.out HL3.out ?_; intro v4 w4 own4 hb4 hg4))
          go_ret
          rw [E.out]
          rw [List.append_assoc] at own4
          exact ⟨_, rfl, own4, hb4⟩
      · obtain rfl : L = [] := List.eq_nil_of_length_eq_zero (by omega)
        obtain rfl : k = 0 := by simpa using hke
        clear hke hk hlt2 h0 hl hcap
        cases a with
        | none =>
          have HBd := Lib.hid HBW.out.drew
          have X1 := Lib.hid (X0.out.next HB.out.drew hlt.out)
          have HRd := Lib.hid (nil_row wr.drew none cap)
          have HL1 := Lib.hid (show ([] : List Ru).length + (([] : List Ru)).length ≤ 1000000000 by (try rw [List.length_take]); simp; try omega)
          have HL2 := Lib.hid (show (([] : List Ru)).length + [(Ru.mk id no ro pr ki ra pe bu co mx fa wa pb)].length ≤ 1000000000 by (try rw [List.length_take]); show _ + 1 ≤ _; (try simp); try omega)
          have HL3 := Lib.hid (show (([] : List Ru) ++ [(Ru.mk id no ro pr ki ra pe bu co mx fa wa pb)]).length + (([] : List Ru)).length ≤ 1000000000 by rw [List.length_append]; (try rw [List.length_take, List.length_drop]); show _ + 1 + _ ≤ _; (try simp); try omega)
          go_wp2_with fail
          go_region
          go_wp2_with (first
            | (refine Rul.wpList_fetch _ rfl _ rfl _ _ rfl X2.out rfl ?_)
            | (refine Rul.wpList_push0 _ rfl _ _ rfl w.heap.size w (.slice none 0 0) (.slice none 0 cap) [] (([] : List Ru)) rfl rfl (Own.nil _ _) HBd.out (Nat.le_refl _) HRd.out HL1.out ?_; intro v1 w2 own1 hb2 hg2; have X2 := Lib.hid (grown_bx X1.out hg2); rw [List.nil_append] at own1; have O1 := Lib.hid own1; have B2 := Lib.hid hb2; have O2 := Lib.hid (Rul.row_one w2 ⟨id, no, ro, pr, ki, ra, pe, bu, co, mx, fa, wa, pb⟩); clear own1 hb2 hg2)
            | (refine Rul.wpList_push0 _ rfl _ _ rfl w.heap.size w v1 (.slice (some ⟨w2.heap.size, 0, none⟩) 1 1) (([] : List Ru)) [⟨id, no, ro, pr, ki, ra, pe, bu, co, mx, fa, wa, pb⟩] rfl rfl (O1.out.alloc _) (B2.out.alloc B2.out.size _) (Nat.le_refl _) O2.out HL2.out ?_; intro v3 w3 own3 hb3 hg3; have O3 := Lib.hid own3; have B3 := Lib.hid hb3; have HD3 := Lib.hid (nil_row w3 none cap); clear own3 hb3 hg3)
            | (refine Rul.wpList_push0 _ rfl _ _ rfl w.heap.size w v3 (.slice none 0 cap) (([] : List Ru) ++ [⟨id, no, ro, pr, ki, ra, pe, bu, co, mx, fa, wa, pb⟩]) (([] : List Ru)) rfl rfl O3.out B3.out (Nat.le_refl _) HD3.out HL3.out ?_; intro v4 w4 own4 hb4 hg4))
          go_ret
          rw [E.out]
          rw [List.append_assoc] at own4
          exact ⟨_, rfl, own4, hb4⟩
        | some ad =>
          have HBd := Lib.hid HBW.out.drew
          have X1 := Lib.hid (X0.out.next HB.out.drew hlt.out)
          have HRd := Lib.hid (nil_row wr.drew (some ad) cap)
          have HL1 := Lib.hid (show ([] : List Ru).length + (([] : List Ru)).length ≤ 1000000000 by (try rw [List.length_take]); simp; try omega)
          have HL2 := Lib.hid (show (([] : List Ru)).length + [(Ru.mk id no ro pr ki ra pe bu co mx fa wa pb)].length ≤ 1000000000 by (try rw [List.length_take]); show _ + 1 ≤ _; (try simp); try omega)
          have HL3 := Lib.hid (show (([] : List Ru) ++ [(Ru.mk id no ro pr ki ra pe bu co mx fa wa pb)]).length + (([] : List Ru)).length ≤ 1000000000 by rw [List.length_append]; (try rw [List.length_take, List.length_drop]); show _ + 1 + _ ≤ _; (try simp); try omega)
          go_wp2_with fail
          go_region
          go_wp2_with (first
            | (refine Rul.wpList_fetch _ rfl _ rfl _ _ rfl X2.out rfl ?_)
            | (refine Rul.wpList_push0 _ rfl _ _ rfl w.heap.size w (.slice none 0 0) (.slice (some ad) 0 cap) [] (([] : List Ru)) rfl rfl (Own.nil _ _) HBd.out (Nat.le_refl _) HRd.out HL1.out ?_; intro v1 w2 own1 hb2 hg2; have X2 := Lib.hid (grown_bx X1.out hg2); rw [List.nil_append] at own1; have O1 := Lib.hid own1; have B2 := Lib.hid hb2; have O2 := Lib.hid (Rul.row_one w2 ⟨id, no, ro, pr, ki, ra, pe, bu, co, mx, fa, wa, pb⟩); clear own1 hb2 hg2)
            | (refine Rul.wpList_push0 _ rfl _ _ rfl w.heap.size w v1 (.slice (some ⟨w2.heap.size, 0, none⟩) 1 1) (([] : List Ru)) [⟨id, no, ro, pr, ki, ra, pe, bu, co, mx, fa, wa, pb⟩] rfl rfl (O1.out.alloc _) (B2.out.alloc B2.out.size _) (Nat.le_refl _) O2.out HL2.out ?_; intro v3 w3 own3 hb3 hg3; have O3 := Lib.hid own3; have B3 := Lib.hid hb3; have HD3 := Lib.hid (nil_row w3 (some ad) cap); clear own3 hb3 hg3)
            | (refine Rul.wpList_push0 _ rfl _ _ rfl w.heap.size w v3 (.slice (some ad) 0 cap) (([] : List Ru) ++ [⟨id, no, ro, pr, ki, ra, pe, bu, co, mx, fa, wa, pb⟩]) (([] : List Ru)) rfl rfl O3.out B3.out (Nat.le_refl _) HD3.out HL3.out ?_; intro v4 w4 own4 hb4 hg4))
          go_ret
          rw [E.out]
          rw [List.append_assoc] at own4
          exact ⟨_, rfl, own4, hb4⟩
end Go.Proofs.YtehkiojohldlgaaGreatDoor.Thr
