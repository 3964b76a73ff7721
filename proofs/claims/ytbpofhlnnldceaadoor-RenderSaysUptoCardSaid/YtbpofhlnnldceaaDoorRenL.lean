/- The contract of the document's wide. Conditions: as each theorem states. -/
import Derived.Test.YtbpofhlnnldceaaDoorRenK
namespace Go.Proofs.YtbpofhlnnldceaaDoor.Ren
open Go.RowKit Go.Lib Go.Proofs.YtbpofhlnnldceaaDoor.Byt Go.Proofs.YtbpofhlnnldceaaDoor.Utf Go.Proofs.YtbpofhlnnldceaaDoor.Quo
open Go.Proofs.YtbpofhlnnldceaaDoor.Tre (Vt V0 wi hdB textB nmB noneB scal dep cnt OkT okV InV InV_iff InV_next InV_cells Box Box.lt Box.cell Box.next box_new box_after wpList_fetch range_next mem_get vt_ind)

/-- What wide gives of a value that stands in any world. -/
def PD (v : Vt) : Prop := ∀ (B : ByteArray) (cs : List Value) (W : World), InV W v cs → B.size + 2 * dep v ≤ 1000 → (tv [32, 32] [58, 32] v (10 :: B.data.toList)).length ≤ 7995000 →
  Calls Tryd.prog 15 #[.agg cs.toArray, .string B] W fun e w' => e = .returned (.string ⟨(tv [32, 32] [58, 32] v (10 :: B.data.toList)).toArray⟩) ∧ Below W.heap.size W w'
theorem tv_none (st co st' co' ln ln' : List UInt8) {v : Vt} (h : v.l = []) : tv st co v ln = tv st' co' v ln' := by
  cases v with
  | mk k n s l ns =>
    replace h : l = [] := h
    subst h
    rw [tv, tv, tl, tl, tl, tl]
    rfl
theorem wide_none (v : Vt) (h0 : v.l = []) (hp : PS v) : PD v := by
  intro B cs W h _ _
  rw [tv_none _ _ [] [58] _ [] h0]
  have HS := Lib.hid fun (W' : World) (hb : Below W.heap.size W W') => hp cs W' (InV_next hb v cs h)
  obtain ⟨a, cap, c4, rfl, _, _⟩ := (InV_iff W v cs).1 h
  have B0 := Lib.hid fun o : Obj => (Below.refl W.heap.size W).alloc (Nat.le_refl _) o
  have hl : ((v.l.length : Int) == 0) = true := by rw [h0]; rfl
  clear hp h h0
  generalize (⟨(tv [] [58] v []).toArray⟩ : ByteArray) = T at *
  generalize v.k = k at *
  generalize v.n = n at *
  generalize v.s = s at *
  generalize v.l.length = l at *
  go_enter Tryd.func15, Tryd.ntmps15
  go_wp2_with (first
    | (refine wpList_fetch _ rfl _ rfl W.heap.size _ rfl (box_new _ _) rfl ?_)
    | (go_at_call 14; (with_reducible refine (HS.out _ (B0.out _)).mono ?_); rintro e w2 ⟨rfl, hb2⟩))
  go_ret
  exact ⟨rfl, (box_after hb2).2⟩
theorem add_run (a b c : ByteArray) (h : a ++ b = c) (hs : c.size ≤ 8388608) : ∀ W, (Op.stringOp .add a b).run Tryd.prog W = .ok (.string c) W := by
  intro W
  subst h
  rw [ByteArray.size_append] at hs
  exact run_string_add W a b (by omega) (by omega)
theorem size_data (a : ByteArray) : a.data.toList.length = a.size := by simp
set_option maxRecDepth 100000 in
set_option maxHeartbeats 4000000 in
theorem wide_in (k n : Int) (s : ByteArray) (l : List Vt) (ns : List ByteArray) (ob : Bool) (OP CL : UInt8) (hk : k = 4 ∨ k = 5) (hmx : l.length ≤ 9223372036854775807) (hl0 : l ≠ [])
    (htv : ∀ ln, tv [32, 32] [58, 32] (.mk k n s l ns) ln = OP :: (tl [32, 32] [58, 32] l ob ns [] (ln ++ [32, 32]) ++ ln ++ [CL]))
    (hbr : ∀ (c3 c4 : Value) (W : World), Calls Tryd.prog 22 #[.agg #[.int .i64 k, .int .i64 n, .string s, c3, c4]] W fun e w' => e = .returned (.tuple #[.string ⟨#[OP]⟩, .string ⟨#[CL]⟩]) ∧ Below W.heap.size W w')
    (hnm : ∀ (cs : List Value) (w W : World), InV w (.mk k n s l ns) cs → Below w.heap.size w W → ∀ j, j < l.length → Calls Tryd.prog 23 #[.agg cs.toArray, .int .i64 (j : Int), .string ⟨#[58, 32]⟩] W fun e w' => e = .returned (.string ⟨(nmT [58, 32] ob (ns.getD j ⟨#[]⟩)).toArray⟩) ∧ Below W.heap.size W w')
    (ih : ∀ u ∈ l, PD u) : PD (.mk k n s l ns) := by
  intro B cs w h hB hroom
  have hln : ∀ u ∈ l, B.size + 2 + 2 * dep u ≤ 1000 := fun u hu => line_part (v := .mk k n s l ns) hk hu hB
  rw [htv] at hroom ⊢
  have hB2 : B.size ≤ 1000 := by omega
  have HNM := Lib.hid fun W hb => hnm cs w W h hb
  obtain ⟨a, cap, c4, hcs, hit, hrow⟩ := (InV_iff w _ cs).1 h
  replace hcs : cs = [.int .i64 k, .int .i64 n, .string s, .slice a l.length cap, c4] := hcs
  have HIT := Lib.hid (show ∀ j, j < l.length → ∃ b off, a = some ⟨b, off, none⟩ ∧ ∃ ds, w.rangeAt b (off + 5 * j) ds ∧ InV w (l.getD j V0) ds from hit)
  subst hcs
  have HBR := Lib.hid (hbr (.slice a l.length cap) c4)
  have HIH := Lib.hid ih
  have HLN := Lib.hid hln
  have hst := Mo.start w [.int .i64 k, .int .i64 n, .string s, .slice a l.length cap, c4]
  have hl1 : ((l.length : Int) == 0) = false := by
    have := List.length_pos_iff.2 hl0
    rw [beq_eq_false_iff_ne]; omega
  obtain ⟨N, hN⟩ : ∃ N, N = 10 :: B.data.toList ++ [32, 32] := ⟨_, rfl⟩
  rw [← hN] at hroom ⊢
  obtain ⟨T, hT⟩ : ∃ T, T = tl [32, 32] [58, 32] l ob ns [] N := ⟨_, rfl⟩
  rw [← hT] at hroom ⊢
  have HT := Lib.hid hT
  have HNE := Lib.hid hN
  have hroom2 : T.length + 2 ≤ 7995000 := by simp at hroom; omega
  -- what is laid together of the blanks
  have hBl := size_data B
  obtain ⟨L0, hL0⟩ : ∃ L0, L0 = (⟨#[10]⟩ : ByteArray) ++ B := ⟨_, rfl⟩
  obtain ⟨L1, hL1⟩ : ∃ L1, L1 = L0 ++ (⟨#[32, 32]⟩ : ByteArray) := ⟨_, rfl⟩
  obtain ⟨B2, hBB⟩ : ∃ B2, B2 = B ++ (⟨#[32, 32]⟩ : ByteArray) := ⟨_, rfl⟩
  have z10 : (⟨#[10]⟩ : ByteArray).size = 1 := rfl
  have z32 : (⟨#[32, 32]⟩ : ByteArray).size = 2 := rfl
  have zL0 : L0.size = B.size + 1 := by rw [hL0, ByteArray.size_append, z10]; omega
  have zL1 : L1.size = B.size + 3 := by rw [hL1, ByteArray.size_append, z32]; omega
  have zB2 : B2.size = B.size + 2 := by rw [hBB, ByteArray.size_append, z32]
  have pA := add_run _ _ _ hL0.symm (by omega)
  have pB := add_run _ _ _ hL1.symm (by omega)
  have pD := add_run _ _ _ hBB.symm (by omega)
  have dL1 : L1.data.toList = N := by rw [hL1, hL0, cat_bytes, cat_bytes, hN]; rfl
  have dB2 : 10 :: B2.data.toList = N := by rw [hBB, cat_bytes, hN]; rfl
  have HL1 := Lib.hid dL1
  have HB2 := Lib.hid dB2
  clear hT hit h hnm hbr ih htv hroom hrow hN dL1 dB2 hL0 hL1 hBB hln hB hl0 z10 z32
  rcases hk with rfl | rfl
  ·
    go_enter Tryd.func15, Tryd.ntmps15
    go_wp2_with (first
      | (refine wpList_fetch _ rfl _ rfl w.heap.size _ rfl hst.box rfl ?_)
      | (go_at_call 22; (with_reducible refine (HBR.out _).mono ?_); rintro e w2 ⟨rfl, hb2⟩; have m2 := hst.next hb2; have y3 := Box.cell m2.box 3; simp at y3))
    clear hst hb2 HBR y3 hl1
    go_loopw [5, 22] (fun o i wr => ∃ (j : Nat) (O : ByteArray), o = .string O ∧ i = .int .i64 (j : Int) ∧ j ≤ l.length ∧ Mo w [.int .i64 4, .int .i64 n, .string s, .slice a l.length cap, c4] wr ∧ Hid (OP :: T = O.data.toList ++ tl [32, 32] [58, 32] (l.drop j) ob (ns.drop j) (if j = 0 then [] else [44]) N))
      (fun _ i _ => l.length - (RowKit.intOf i).toNat)
    case atStart => exact ⟨0, _, rfl, by go_num, Nat.zero_le _, m2, Lib.hid (by rw [HT.out]; rfl)⟩
    case round =>
      clear m2
      obtain ⟨j, O, rfl, rfl, hj, hm, hP⟩ := hrel
      have hOl : O.data.toList.length = O.size := by simp
      by_cases hlt : j < l.length
      · obtain ⟨bb, off, rfl, ds, hrg, hin⟩ := HIT.out j hlt
        rw [Nat.mul_comm 5 j] at hrg
        have hP2 := hP.out
        rw [drop_step _ _ _ _ _ _ _ j hlt] at hP2
        have hPL := congrArg List.length hP2
        simp only [List.length_append, List.length_cons] at hPL
        have HN0 : ∀ W', Mo w [.int .i64 4, .int .i64 n, .string s, .slice (some ⟨bb, off, none⟩) l.length cap, c4] W' → Calls Tryd.prog 23 #[.agg #[.int .i64 4, .int .i64 n, .string s, .slice (some ⟨bb, off, none⟩) l.length cap, c4], .int .i64 (j : Int), .string ⟨#[58, 32]⟩] W' fun e w' => e = .returned (.string ⟨(nmT [58, 32] ob (ns.getD j ⟨#[]⟩)).toArray⟩) ∧ Below W'.heap.size W' w' := fun W' h => HNM.out W' h.bel j hlt
        have HX0 : ∀ W', Mo w [.int .i64 4, .int .i64 n, .string s, .slice (some ⟨bb, off, none⟩) l.length cap, c4] W' → Calls Tryd.prog 15 #[.agg ds.toArray, .string B2] W' fun e w' => e = .returned (.string ⟨(tv [32, 32] [58, 32] (l.getD j V0) N).toArray⟩) ∧ Below W'.heap.size W' w' := fun W' h => by
          have := HIH.out _ (mem_get hlt) B2 ds W' (InV_next h.bel _ _ hin) (by have := HLN.out _ (mem_get hlt); omega) (by rw [HB2.out]; omega)
          rwa [HB2.out] at this
        obtain ⟨z1, z2, z3, rfl⟩ := InV_cells hin
        have FX : ∀ {a x : _} {W : World}, Mo w [.int .i64 4, .int .i64 n, .string s, .slice (some ⟨bb, off, none⟩) l.length cap, c4] W → w.cell? a = some x → W.cell? a = some x := fun hb hc => (hb.bel.cell (Strs.cell_lt hc)).trans hc
        have q0 : ∀ W, Mo w [.int .i64 4, .int .i64 n, .string s, .slice (some ⟨bb, off, none⟩) l.length cap, c4] W → W.cell? ⟨w.heap.size, 0, none⟩ = some (.int .i64 4) := fun W hb => Box.cell hb.box 0
        have q1 : ∀ W, Mo w [.int .i64 4, .int .i64 n, .string s, .slice (some ⟨bb, off, none⟩) l.length cap, c4] W → W.cell? ⟨w.heap.size, 1, none⟩ = some (.int .i64 n) := fun W hb => Box.cell hb.box 1
        have q2 : ∀ W, Mo w [.int .i64 4, .int .i64 n, .string s, .slice (some ⟨bb, off, none⟩) l.length cap, c4] W → W.cell? ⟨w.heap.size, 2, none⟩ = some (.string s) := fun W hb => Box.cell hb.box 2
        have q3 : ∀ W, Mo w [.int .i64 4, .int .i64 n, .string s, .slice (some ⟨bb, off, none⟩) l.length cap, c4] W → W.cell? ⟨w.heap.size, 3, none⟩ = some (.slice (some ⟨bb, off, none⟩) l.length cap) := fun W hb => Box.cell hb.box 3
        have q4 : ∀ W, Mo w [.int .i64 4, .int .i64 n, .string s, .slice (some ⟨bb, off, none⟩) l.length cap, c4] W → W.cell? ⟨w.heap.size, 4, none⟩ = some c4 := fun W hb => Box.cell hb.box 4
        have r0 : ∀ W, Mo w [.int .i64 4, .int .i64 n, .string s, .slice (some ⟨bb, off, none⟩) l.length cap, c4] W → W.cell? ⟨bb, off + j * 5, none⟩ = some (.int .i64 (l.getD j V0).k) := fun W hb => FX hb (hrg 0 _ rfl)
        have r1 := fun W (hb : Mo w [.int .i64 4, .int .i64 n, .string s, .slice (some ⟨bb, off, none⟩) l.length cap, c4] W) => FX hb (hrg 1 _ rfl)
        have r2 := fun W (hb : Mo w [.int .i64 4, .int .i64 n, .string s, .slice (some ⟨bb, off, none⟩) l.length cap, c4] W) => FX hb (hrg 2 _ rfl)
        have r3 := fun W (hb : Mo w [.int .i64 4, .int .i64 n, .string s, .slice (some ⟨bb, off, none⟩) l.length cap, c4] W) => FX hb (hrg 3 _ rfl)
        have r4 := fun W (hb : Mo w [.int .i64 4, .int .i64 n, .string s, .slice (some ⟨bb, off, none⟩) l.length cap, c4] W) => FX hb (hrg 4 _ rfl)
        have hmd : Mo w [.int .i64 4, .int .i64 n, .string s, .slice (some ⟨bb, off, none⟩) l.length cap, c4] wr.drew := ⟨hm.box, hm.bel.drew⟩
        have hns : (⟨(nmT [58, 32] ob (ns.getD j ⟨#[]⟩)).toArray⟩ : ByteArray).size = (nmT [58, 32] ob (ns.getD j ⟨#[]⟩)).length := size_list _
        have hxs : (⟨(tv [32, 32] [58, 32] (l.getD j V0) N).toArray⟩ : ByteArray).size = (tv [32, 32] [58, 32] (l.getD j V0) N).length := size_list _
        have hnd : (⟨(nmT [58, 32] ob (ns.getD j ⟨#[]⟩)).toArray⟩ : ByteArray).data.toList = nmT [58, 32] ob (ns.getD j ⟨#[]⟩) := by simp
        have hxd : (⟨(tv [32, 32] [58, 32] (l.getD j V0) N).toArray⟩ : ByteArray).data.toList = tv [32, 32] [58, 32] (l.getD j V0) N := by simp
        have HXD := Lib.hid hxd
        have HND := Lib.hid hnd
        have HN := Lib.hid HN0
        have HX := Lib.hid HX0
        clear hnd hxd HN0 HX0 FX hrg hin hP HIT HIH HNM HLN
        generalize (⟨(nmT [58, 32] ob (ns.getD j ⟨#[]⟩)).toArray⟩ : ByteArray) = NM at *
        generalize (⟨(tv [32, 32] [58, 32] (l.getD j V0) N).toArray⟩ : ByteArray) = XT at *
        have hNl : N.length = B.size + 3 := by rw [HNE.out]; simp [hBl]
        obtain ⟨LN, hLN⟩ : ∃ LN, LN = L1 ++ NM := ⟨_, rfl⟩
        obtain ⟨LX, hLX⟩ : ∃ LX, LX = LN ++ XT := ⟨_, rfl⟩
        have zLN : LN.size = L1.size + NM.size := by rw [hLN, ByteArray.size_append]
        have zLX : LX.size = LN.size + XT.size := by rw [hLX, ByteArray.size_append]
        have hC1 : (⟨#[44]⟩ : ByteArray).size = 1 := rfl
        have hOC : (O ++ ⟨#[44]⟩).size = O.size + 1 := ByteArray.size_append
        have hb1 : O.size + NM.size + XT.size + N.length + 1 ≤ 8000000 := by rw [hns, hxs]; omega
        have pC := add_run _ _ _ hLN.symm (by omega)
        have pE := add_run _ _ _ hLX.symm (by omega)
        obtain ⟨O1, hO1⟩ : ∃ O1, O1 = O ++ LX := ⟨_, rfl⟩
        obtain ⟨O3, hO3⟩ : ∃ O3, O3 = O ++ ⟨#[44]⟩ ++ LX := ⟨_, rfl⟩
        have zO1 : O1.size ≤ 8388608 := by rw [hO1, ByteArray.size_append]; omega
        have zO3 : O3.size ≤ 8388608 := by rw [hO3, ByteArray.size_append]; omega
        have p2 := add_run _ _ _ hO1.symm zO1
        have p3 := add_run _ _ _ hO3.symm zO3
        have dLX : LX.data.toList = N ++ nmT [58, 32] ob (ns.getD j ⟨#[]⟩) ++ tv [32, 32] [58, 32] (l.getD j V0) N := by rw [hLX, hLN, cat_bytes, cat_bytes, HL1.out, HND.out, HXD.out]
        have s3 : (O.size : Int) ≤ 8388608 := by omega
        clear hb1 zLN zLX hLN hLX zO1 zO3 hNl
        by_cases hj0 : j = 0
        · have g1 : decide ((0 : Int) < (j : Int)) = false := decide_eq_false (by omega)
          have g2 : decide (0 < j) = false := decide_eq_false (by omega)
          have hP3 : OP :: T = O1.data.toList ++ tl [32, 32] [58, 32] (l.drop (j + 1)) ob (ns.drop (j + 1)) [44] N := by
            rw [hP2, if_pos hj0, hO1, cat_bytes, dLX]; simp
          have HP3 := Lib.hid hP3
          clear hP2 hP3 hPL hns hxs hj0 dLX hO1 hO3
          generalize (l.getD j V0).k = k' at *
          generalize (l.getD j V0).n = n' at *
          generalize (l.getD j V0).s = s' at *
          generalize (l.getD j V0).l.length = l' at *
          go_wp2_with fail
          go_region_held3 (Mo w [.int .i64 4, .int .i64 n, .string s, .slice (some ⟨bb, off, none⟩) l.length cap, c4]) (first | exact hmd | assumption)
            ((first
              | (go_at_call 23; (with_reducible refine (HN.out _ (by assumption)).mono ?_); rintro e wx ⟨rfl, hbx⟩; have mx := Mo.next (by assumption) hbx)
              | (go_at_call 15; (with_reducible refine (HX.out _ (by assumption)).mono ?_); rintro e wx ⟨rfl, hbx⟩; have mx := Mo.next (by assumption) hbx)))
          all_goals
            go_wp2_with fail
            go_roundw
            case rel => exact ⟨j + 1, _, rfl, by go_num, by omega, mx, Lib.hid (by rw [HP3.out, if_neg (by omega)])⟩
            case measure => simp [RowKit.intOf]; omega
        · have g1 : decide ((0 : Int) < (j : Int)) = true := decide_eq_true (by omega)
          have g2 : decide (0 < j) = true := decide_eq_true (by omega)
          have hP3 : OP :: T = O3.data.toList ++ tl [32, 32] [58, 32] (l.drop (j + 1)) ob (ns.drop (j + 1)) [44] N := by
            rw [hP2, if_neg hj0, hO3, cat_bytes, cat_bytes, dLX]; simp
          have HP3 := Lib.hid hP3
          clear hP2 hP3 hPL hns hxs hj0 dLX hO1 hO3
          generalize (l.getD j V0).k = k' at *
          generalize (l.getD j V0).n = n' at *
          generalize (l.getD j V0).s = s' at *
          generalize (l.getD j V0).l.length = l' at *
          go_wp2_with fail
          clear hOC
          generalize O ++ ⟨#[44]⟩ = O2 at *
          go_region_held3 (Mo w [.int .i64 4, .int .i64 n, .string s, .slice (some ⟨bb, off, none⟩) l.length cap, c4]) (first | exact hmd | assumption)
            ((first
              | (go_at_call 23; (with_reducible refine (HN.out _ (by assumption)).mono ?_); rintro e wx ⟨rfl, hbx⟩; have mx := Mo.next (by assumption) hbx)
              | (go_at_call 15; (with_reducible refine (HX.out _ (by assumption)).mono ?_); rintro e wx ⟨rfl, hbx⟩; have mx := Mo.next (by assumption) hbx)))
          all_goals
            go_wp2_with fail
            go_roundw
            case rel => exact ⟨j + 1, _, rfl, by go_num, by omega, mx, Lib.hid (by rw [HP3.out, if_neg (by omega)])⟩
            case measure => simp [RowKit.intOf]; omega
      · obtain rfl : j = l.length := by omega
        have hP2 := hP.out
        rw [drop_none, List.append_nil] at hP2
        have hOs : O.size ≤ 8000000 := by
          have := congrArg List.length hP2
          simp only [List.length_cons] at this
          omega
        have hCs : (⟨#[CL]⟩ : ByteArray).size = 1 := rfl
        have z10 : (⟨#[10]⟩ : ByteArray).size = 1 := rfl
        obtain ⟨G1, hG1⟩ : ∃ G1, G1 = O ++ (⟨#[10]⟩ : ByteArray) := ⟨_, rfl⟩
        obtain ⟨G2, hG2⟩ : ∃ G2, G2 = G1 ++ B := ⟨_, rfl⟩
        obtain ⟨G3, hG3⟩ : ∃ G3, G3 = G2 ++ (⟨#[CL]⟩ : ByteArray) := ⟨_, rfl⟩
        have zG1 : G1.size = O.size + 1 := by rw [hG1, ByteArray.size_append, z10]
        have zG2 : G2.size = G1.size + B.size := by rw [hG2, ByteArray.size_append]
        have zG3 : G3.size = G2.size + 1 := by rw [hG3, ByteArray.size_append, hCs]
        have pG := add_run _ _ _ hG1.symm (by omega)
        have pH := add_run _ _ _ hG2.symm (by omega)
        have pI := add_run _ _ _ hG3.symm (by omega)
        have hO : G3 = ⟨(OP :: (T ++ 10 :: B.data.toList ++ [CL])).toArray⟩ := by
          apply ByteArray.ext
          apply Array.toList_inj.1
          rw [hG3, hG2, hG1, cat_bytes, cat_bytes, cat_bytes, ← hP2]
          simp
        have HO := Lib.hid hO
        clear hP hP2 hO HIT HIH HNM HLN hG1 hG2 hG3 zG1 zG2 zG3 hOs
        go_wp2_with fail
        go_ret
        exact ⟨by rw [← HO.out]; rfl, hm.bel⟩
  ·
    go_enter Tryd.func15, Tryd.ntmps15
    go_wp2_with (first
      | (refine wpList_fetch _ rfl _ rfl w.heap.size _ rfl hst.box rfl ?_)
      | (go_at_call 22; (with_reducible refine (HBR.out _).mono ?_); rintro e w2 ⟨rfl, hb2⟩; have m2 := hst.next hb2; have y3 := Box.cell m2.box 3; simp at y3))
    clear hst hb2 HBR y3 hl1
    go_loopw [5, 22] (fun o i wr => ∃ (j : Nat) (O : ByteArray), o = .string O ∧ i = .int .i64 (j : Int) ∧ j ≤ l.length ∧ Mo w [.int .i64 5, .int .i64 n, .string s, .slice a l.length cap, c4] wr ∧ Hid (OP :: T = O.data.toList ++ tl [32, 32] [58, 32] (l.drop j) ob (ns.drop j) (if j = 0 then [] else [44]) N))
      (fun _ i _ => l.length - (RowKit.intOf i).toNat)
    case atStart => exact ⟨0, _, rfl, by go_num, Nat.zero_le _, m2, Lib.hid (by rw [HT.out]; rfl)⟩
    case round =>
      clear m2
      obtain ⟨j, O, rfl, rfl, hj, hm, hP⟩ := hrel
      have hOl : O.data.toList.length = O.size := by simp
      by_cases hlt : j < l.length
      · obtain ⟨bb, off, rfl, ds, hrg, hin⟩ := HIT.out j hlt
        rw [Nat.mul_comm 5 j] at hrg
        have hP2 := hP.out
        rw [drop_step _ _ _ _ _ _ _ j hlt] at hP2
        have hPL := congrArg List.length hP2
        simp only [List.length_append, List.length_cons] at hPL
        have HN0 : ∀ W', Mo w [.int .i64 5, .int .i64 n, .string s, .slice (some ⟨bb, off, none⟩) l.length cap, c4] W' → Calls Tryd.prog 23 #[.agg #[.int .i64 5, .int .i64 n, .string s, .slice (some ⟨bb, off, none⟩) l.length cap, c4], .int .i64 (j : Int), .string ⟨#[58, 32]⟩] W' fun e w' => e = .returned (.string ⟨(nmT [58, 32] ob (ns.getD j ⟨#[]⟩)).toArray⟩) ∧ Below W'.heap.size W' w' := fun W' h => HNM.out W' h.bel j hlt
        have HX0 : ∀ W', Mo w [.int .i64 5, .int .i64 n, .string s, .slice (some ⟨bb, off, none⟩) l.length cap, c4] W' → Calls Tryd.prog 15 #[.agg ds.toArray, .string B2] W' fun e w' => e = .returned (.string ⟨(tv [32, 32] [58, 32] (l.getD j V0) N).toArray⟩) ∧ Below W'.heap.size W' w' := fun W' h => by
          have := HIH.out _ (mem_get hlt) B2 ds W' (InV_next h.bel _ _ hin) (by have := HLN.out _ (mem_get hlt); omega) (by rw [HB2.out]; omega)
          rwa [HB2.out] at this
        obtain ⟨z1, z2, z3, rfl⟩ := InV_cells hin
        have FX : ∀ {a x : _} {W : World}, Mo w [.int .i64 5, .int .i64 n, .string s, .slice (some ⟨bb, off, none⟩) l.length cap, c4] W → w.cell? a = some x → W.cell? a = some x := fun hb hc => (hb.bel.cell (Strs.cell_lt hc)).trans hc
        have q0 : ∀ W, Mo w [.int .i64 5, .int .i64 n, .string s, .slice (some ⟨bb, off, none⟩) l.length cap, c4] W → W.cell? ⟨w.heap.size, 0, none⟩ = some (.int .i64 5) := fun W hb => Box.cell hb.box 0
        have q1 : ∀ W, Mo w [.int .i64 5, .int .i64 n, .string s, .slice (some ⟨bb, off, none⟩) l.length cap, c4] W → W.cell? ⟨w.heap.size, 1, none⟩ = some (.int .i64 n) := fun W hb => Box.cell hb.box 1
        have q2 : ∀ W, Mo w [.int .i64 5, .int .i64 n, .string s, .slice (some ⟨bb, off, none⟩) l.length cap, c4] W → W.cell? ⟨w.heap.size, 2, none⟩ = some (.string s) := fun W hb => Box.cell hb.box 2
        have q3 : ∀ W, Mo w [.int .i64 5, .int .i64 n, .string s, .slice (some ⟨bb, off, none⟩) l.length cap, c4] W → W.cell? ⟨w.heap.size, 3, none⟩ = some (.slice (some ⟨bb, off, none⟩) l.length cap) := fun W hb => Box.cell hb.box 3
        have q4 : ∀ W, Mo w [.int .i64 5, .int .i64 n, .string s, .slice (some ⟨bb, off, none⟩) l.length cap, c4] W → W.cell? ⟨w.heap.size, 4, none⟩ = some c4 := fun W hb => Box.cell hb.box 4
        have r0 : ∀ W, Mo w [.int .i64 5, .int .i64 n, .string s, .slice (some ⟨bb, off, none⟩) l.length cap, c4] W → W.cell? ⟨bb, off + j * 5, none⟩ = some (.int .i64 (l.getD j V0).k) := fun W hb => FX hb (hrg 0 _ rfl)
        have r1 := fun W (hb : Mo w [.int .i64 5, .int .i64 n, .string s, .slice (some ⟨bb, off, none⟩) l.length cap, c4] W) => FX hb (hrg 1 _ rfl)
        have r2 := fun W (hb : Mo w [.int .i64 5, .int .i64 n, .string s, .slice (some ⟨bb, off, none⟩) l.length cap, c4] W) => FX hb (hrg 2 _ rfl)
        have r3 := fun W (hb : Mo w [.int .i64 5, .int .i64 n, .string s, .slice (some ⟨bb, off, none⟩) l.length cap, c4] W) => FX hb (hrg 3 _ rfl)
        have r4 := fun W (hb : Mo w [.int .i64 5, .int .i64 n, .string s, .slice (some ⟨bb, off, none⟩) l.length cap, c4] W) => FX hb (hrg 4 _ rfl)
        have hmd : Mo w [.int .i64 5, .int .i64 n, .string s, .slice (some ⟨bb, off, none⟩) l.length cap, c4] wr.drew := ⟨hm.box, hm.bel.drew⟩
        have hns : (⟨(nmT [58, 32] ob (ns.getD j ⟨#[]⟩)).toArray⟩ : ByteArray).size = (nmT [58, 32] ob (ns.getD j ⟨#[]⟩)).length := size_list _
        have hxs : (⟨(tv [32, 32] [58, 32] (l.getD j V0) N).toArray⟩ : ByteArray).size = (tv [32, 32] [58, 32] (l.getD j V0) N).length := size_list _
        have hnd : (⟨(nmT [58, 32] ob (ns.getD j ⟨#[]⟩)).toArray⟩ : ByteArray).data.toList = nmT [58, 32] ob (ns.getD j ⟨#[]⟩) := by simp
        have hxd : (⟨(tv [32, 32] [58, 32] (l.getD j V0) N).toArray⟩ : ByteArray).data.toList = tv [32, 32] [58, 32] (l.getD j V0) N := by simp
        have HXD := Lib.hid hxd
        have HND := Lib.hid hnd
        have HN := Lib.hid HN0
        have HX := Lib.hid HX0
        clear hnd hxd HN0 HX0 FX hrg hin hP HIT HIH HNM HLN
        generalize (⟨(nmT [58, 32] ob (ns.getD j ⟨#[]⟩)).toArray⟩ : ByteArray) = NM at *
        generalize (⟨(tv [32, 32] [58, 32] (l.getD j V0) N).toArray⟩ : ByteArray) = XT at *
        have hNl : N.length = B.size + 3 := by rw [HNE.out]; simp [hBl]
        obtain ⟨LN, hLN⟩ : ∃ LN, LN = L1 ++ NM := ⟨_, rfl⟩
        obtain ⟨LX, hLX⟩ : ∃ LX, LX = LN ++ XT := ⟨_, rfl⟩
        have zLN : LN.size = L1.size + NM.size := by rw [hLN, ByteArray.size_append]
        have zLX : LX.size = LN.size + XT.size := by rw [hLX, ByteArray.size_append]
        have hC1 : (⟨#[44]⟩ : ByteArray).size = 1 := rfl
        have hOC : (O ++ ⟨#[44]⟩).size = O.size + 1 := ByteArray.size_append
        have hb1 : O.size + NM.size + XT.size + N.length + 1 ≤ 8000000 := by rw [hns, hxs]; omega
        have pC := add_run _ _ _ hLN.symm (by omega)
        have pE := add_run _ _ _ hLX.symm (by omega)
        obtain ⟨O1, hO1⟩ : ∃ O1, O1 = O ++ LX := ⟨_, rfl⟩
        obtain ⟨O3, hO3⟩ : ∃ O3, O3 = O ++ ⟨#[44]⟩ ++ LX := ⟨_, rfl⟩
        have zO1 : O1.size ≤ 8388608 := by rw [hO1, ByteArray.size_append]; omega
        have zO3 : O3.size ≤ 8388608 := by rw [hO3, ByteArray.size_append]; omega
        have p2 := add_run _ _ _ hO1.symm zO1
        have p3 := add_run _ _ _ hO3.symm zO3
        have dLX : LX.data.toList = N ++ nmT [58, 32] ob (ns.getD j ⟨#[]⟩) ++ tv [32, 32] [58, 32] (l.getD j V0) N := by rw [hLX, hLN, cat_bytes, cat_bytes, HL1.out, HND.out, HXD.out]
        have s3 : (O.size : Int) ≤ 8388608 := by omega
        clear hb1 zLN zLX hLN hLX zO1 zO3 hNl
        by_cases hj0 : j = 0
        · have g1 : decide ((0 : Int) < (j : Int)) = false := decide_eq_false (by omega)
          have g2 : decide (0 < j) = false := decide_eq_false (by omega)
          have hP3 : OP :: T = O1.data.toList ++ tl [32, 32] [58, 32] (l.drop (j + 1)) ob (ns.drop (j + 1)) [44] N := by
            rw [hP2, if_pos hj0, hO1, cat_bytes, dLX]; simp
          have HP3 := Lib.hid hP3
          clear hP2 hP3 hPL hns hxs hj0 dLX hO1 hO3
          generalize (l.getD j V0).k = k' at *
          generalize (l.getD j V0).n = n' at *
          generalize (l.getD j V0).s = s' at *
          generalize (l.getD j V0).l.length = l' at *
          go_wp2_with fail
          go_region_held3 (Mo w [.int .i64 5, .int .i64 n, .string s, .slice (some ⟨bb, off, none⟩) l.length cap, c4]) (first | exact hmd | assumption)
            ((first
              | (go_at_call 23; (with_reducible refine (HN.out _ (by assumption)).mono ?_); rintro e wx ⟨rfl, hbx⟩; have mx := Mo.next (by assumption) hbx)
              | (go_at_call 15; (with_reducible refine (HX.out _ (by assumption)).mono ?_); rintro e wx ⟨rfl, hbx⟩; have mx := Mo.next (by assumption) hbx)))
          all_goals
            go_wp2_with fail
            go_roundw
            case rel => exact ⟨j + 1, _, rfl, by go_num, by omega, mx, Lib.hid (by rw [HP3.out, if_neg (by omega)])⟩
            case measure => simp [RowKit.intOf]; omega
        · have g1 : decide ((0 : Int) < (j : Int)) = true := decide_eq_true (by omega)
          have g2 : decide (0 < j) = true := decide_eq_true (by omega)
          have hP3 : OP :: T = O3.data.toList ++ tl [32, 32] [58, 32] (l.drop (j + 1)) ob (ns.drop (j + 1)) [44] N := by
            rw [hP2, if_neg hj0, hO3, cat_bytes, cat_bytes, dLX]; simp
          have HP3 := Lib.hid hP3
          clear hP2 hP3 hPL hns hxs hj0 dLX hO1 hO3
          generalize (l.getD j V0).k = k' at *
          generalize (l.getD j V0).n = n' at *
          generalize (l.getD j V0).s = s' at *
          generalize (l.getD j V0).l.length = l' at *
          go_wp2_with fail
          clear hOC
          generalize O ++ ⟨#[44]⟩ = O2 at *
          go_region_held3 (Mo w [.int .i64 5, .int .i64 n, .string s, .slice (some ⟨bb, off, none⟩) l.length cap, c4]) (first | exact hmd | assumption)
            ((first
              | (go_at_call 23; (with_reducible refine (HN.out _ (by assumption)).mono ?_); rintro e wx ⟨rfl, hbx⟩; have mx := Mo.next (by assumption) hbx)
              | (go_at_call 15; (with_reducible refine (HX.out _ (by assumption)).mono ?_); rintro e wx ⟨rfl, hbx⟩; have mx := Mo.next (by assumption) hbx)))
          all_goals
            go_wp2_with fail
            go_roundw
            case rel => exact ⟨j + 1, _, rfl, by go_num, by omega, mx, Lib.hid (by rw [HP3.out, if_neg (by omega)])⟩
            case measure => simp [RowKit.intOf]; omega
      · obtain rfl : j = l.length := by omega
        have hP2 := hP.out
        rw [drop_none, List.append_nil] at hP2
        have hOs : O.size ≤ 8000000 := by
          have := congrArg List.length hP2
          simp only [List.length_cons] at this
          omega
        have hCs : (⟨#[CL]⟩ : ByteArray).size = 1 := rfl
        have z10 : (⟨#[10]⟩ : ByteArray).size = 1 := rfl
        obtain ⟨G1, hG1⟩ : ∃ G1, G1 = O ++ (⟨#[10]⟩ : ByteArray) := ⟨_, rfl⟩
        obtain ⟨G2, hG2⟩ : ∃ G2, G2 = G1 ++ B := ⟨_, rfl⟩
        obtain ⟨G3, hG3⟩ : ∃ G3, G3 = G2 ++ (⟨#[CL]⟩ : ByteArray) := ⟨_, rfl⟩
        have zG1 : G1.size = O.size + 1 := by rw [hG1, ByteArray.size_append, z10]
        have zG2 : G2.size = G1.size + B.size := by rw [hG2, ByteArray.size_append]
        have zG3 : G3.size = G2.size + 1 := by rw [hG3, ByteArray.size_append, hCs]
        have pG := add_run _ _ _ hG1.symm (by omega)
        have pH := add_run _ _ _ hG2.symm (by omega)
        have pI := add_run _ _ _ hG3.symm (by omega)
        have hO : G3 = ⟨(OP :: (T ++ 10 :: B.data.toList ++ [CL])).toArray⟩ := by
          apply ByteArray.ext
          apply Array.toList_inj.1
          rw [hG3, hG2, hG1, cat_bytes, cat_bytes, cat_bytes, ← hP2]
          simp
        have HO := Lib.hid hO
        clear hP hP2 hO HIT HIH HNM HLN hG1 hG2 hG3 zG1 zG2 zG3 hOs
        go_wp2_with fail
        go_ret
        exact ⟨by rw [← HO.out]; rfl, hm.bel⟩
end Go.Proofs.YtbpofhlnnldceaaDoor.Ren
