/- The contract of the document's short. Conditions: as each theorem states. -/
import Derived.Test.YtbpofhlnnldceaaDoorRenI
import Derived.Test.YtbpofhlnnldceaaDoorRenC
import Derived.Test.YtbpofhlnnldceaaDoorTreRb
namespace Go.Proofs.YtbpofhlnnldceaaDoor.Ren
open Go.RowKit Go.Lib Go.Proofs.YtbpofhlnnldceaaDoor.Byt Go.Proofs.YtbpofhlnnldceaaDoor.Utf Go.Proofs.YtbpofhlnnldceaaDoor.Quo Go.Proofs.YtbpofhlnnldceaaDoor.Lx
open Go.Proofs.YtbpofhlnnldceaaDoor.Tre (Vt V0 wi hdB textB nmB noneB scal dep cnt OkT okV InV InV_iff InV_next InV_cells Box Box.lt Box.cell Box.next box_new box_after wpList_fetch range_next mem_get)

/-- What short gives of a value that stands in any world. -/
def PS (v : Vt) : Prop := ∀ (cs : List Value) (W : World), InV W v cs → Calls Tryd.prog 14 #[.agg cs.toArray] W fun e w' => e = .returned (.string ⟨(tv [] [58] v []).toArray⟩) ∧ Below W.heap.size W w'
/-- What a walk of short or wide knows of its own value. -/
structure Mo (w : World) (cs : List Value) (W : World) : Prop where
  box : Box W w.heap.size cs.toArray
  bel : Below w.heap.size w W
theorem Mo.start (w : World) (cs : List Value) : Mo w cs (w.alloc (.cells cs.toArray 25)) := ⟨box_new _ _, (Below.refl _ _).alloc (Nat.le_refl _) _⟩
theorem Mo.next {w W W' : World} {cs : List Value} (h : Mo w cs W) (hb : Below W.heap.size W W') : Mo w cs W' := ⟨h.box.next hb h.box.lt, h.bel.trans (hb.mono h.bel.size)⟩
theorem short_leaf (v : Vt) (hv : Sc v) (h4 : v.k ≠ 4) (h5 : v.k ≠ 5) : PS v := by
  intro cs W h
  have HS := Lib.hid fun (W' : World) (hb : Below W.heap.size W W') => scalar_any [] [58] [] v hv h4 h5 cs W' (InV_next hb v cs h)
  obtain ⟨a, cap, c4, rfl, _, _⟩ := (InV_iff W v cs).1 h
  have B0 := Lib.hid fun o : Obj => (Below.refl W.heap.size W).alloc (Nat.le_refl _) o
  have e4 : (v.k != 4) = true := by rw [bne_iff_ne]; exact h4
  have e5 : (v.k != 5) = true := by rw [bne_iff_ne]; exact h5
  clear hv h h4 h5
  generalize (⟨(tv [] [58] v []).toArray⟩ : ByteArray) = T at *
  generalize v.k = k at *
  generalize v.n = n at *
  generalize v.s = s at *
  generalize v.l.length = l at *
  go_enter Tryd.func14, Tryd.ntmps14
  go_wp2_with (first
    | (refine wpList_fetch _ rfl _ rfl W.heap.size _ rfl (box_new _ _) rfl ?_)
    | (go_at_call 21; (with_reducible refine (HS.out _ (B0.out _)).mono ?_); rintro e w2 ⟨rfl, hb2⟩))
  go_ret
  exact ⟨rfl, (box_after hb2).2⟩
set_option maxRecDepth 100000 in
set_option maxHeartbeats 4000000 in
theorem short_in (k n : Int) (s : ByteArray) (l : List Vt) (ns : List ByteArray) (ob : Bool) (OP CL : UInt8) (hk : k = 4 ∨ k = 5) (hmx : l.length ≤ 9223372036854775807)
    (htv : tv [] [58] (.mk k n s l ns) [] = OP :: (tl [] [58] l ob ns [] [] ++ [CL])) (hroom : (tv [] [58] (.mk k n s l ns) []).length ≤ 8000000)
    (hbr : ∀ (c3 c4 : Value) (W : World), Calls Tryd.prog 22 #[.agg #[.int .i64 k, .int .i64 n, .string s, c3, c4]] W fun e w' => e = .returned (.tuple #[.string ⟨#[OP]⟩, .string ⟨#[CL]⟩]) ∧ Below W.heap.size W w')
    (hnm : ∀ (cs : List Value) (w W : World), InV w (.mk k n s l ns) cs → Below w.heap.size w W → ∀ j, j < l.length → Calls Tryd.prog 23 #[.agg cs.toArray, .int .i64 (j : Int), .string ⟨#[58]⟩] W fun e w' => e = .returned (.string ⟨(nmT [58] ob (ns.getD j ⟨#[]⟩)).toArray⟩) ∧ Below W.heap.size W w')
    (ih : ∀ u ∈ l, PS u) : PS (.mk k n s l ns) := by
  intro cs w h
  rw [htv] at hroom ⊢
  have HNM := Lib.hid fun W hb => hnm cs w W h hb
  obtain ⟨a, cap, c4, hcs, hit, hrow⟩ := (InV_iff w _ cs).1 h
  replace hcs : cs = [.int .i64 k, .int .i64 n, .string s, .slice a l.length cap, c4] := hcs
  have HIT := Lib.hid (show ∀ j, j < l.length → ∃ b off, a = some ⟨b, off, none⟩ ∧ ∃ ds, w.rangeAt b (off + 5 * j) ds ∧ InV w (l.getD j V0) ds from hit)
  subst hcs
  have HBR := Lib.hid (hbr (.slice a l.length cap) c4)
  have HIH := Lib.hid ih
  have hst := Mo.start w [.int .i64 k, .int .i64 n, .string s, .slice a l.length cap, c4]
  obtain ⟨T, hT⟩ : ∃ T, T = tl [] [58] l ob ns [] [] := ⟨_, rfl⟩
  rw [← hT] at hroom ⊢
  have HT := Lib.hid hT
  have hroom2 : T.length + 2 ≤ 8000000 := by simpa using hroom
  clear hT hit h hnm hbr ih htv hroom hrow
  rcases hk with rfl | rfl
  ·
    go_enter Tryd.func14, Tryd.ntmps14
    go_wp2_with (first
      | (refine wpList_fetch _ rfl _ rfl w.heap.size _ rfl hst.box rfl ?_)
      | (go_at_call 22; (with_reducible refine (HBR.out _).mono ?_); rintro e w2 ⟨rfl, hb2⟩; have m2 := hst.next hb2; have y3 := Box.cell m2.box 3; simp at y3))
    clear hst hb2 HBR y3
    go_loopw [3, 24] (fun o i wr => ∃ (j : Nat) (O : ByteArray), o = .string O ∧ i = .int .i64 (j : Int) ∧ j ≤ l.length ∧ Mo w [.int .i64 4, .int .i64 n, .string s, .slice a l.length cap, c4] wr ∧ Hid (OP :: T = O.data.toList ++ tl [] [58] (l.drop j) ob (ns.drop j) (if j = 0 then [] else [44]) []))
      (fun _ i _ => l.length - (RowKit.intOf i).toNat)
    case atStart => exact ⟨0, _, rfl, by go_num, Nat.zero_le _, m2, Lib.hid (by rw [HT.out]; rfl)⟩
    case round =>
      clear m2
      obtain ⟨j, O, rfl, rfl, hj, hm, hP⟩ := hrel
      have hOl : O.data.toList.length = O.size := by simp
      by_cases hlt : j < l.length
      · obtain ⟨bb, off, rfl, ds, hrg, hin⟩ := HIT.out j hlt
        rw [Nat.mul_comm 5 j] at hrg
        have hP2 := hP.out
        rw [drop_step _ _ _ _ _ _ _ j hlt] at hP2
        have hPL := congrArg List.length hP2
        simp only [List.length_append, List.length_cons, List.length_nil] at hPL
        have HN0 : ∀ W', Mo w [.int .i64 4, .int .i64 n, .string s, .slice (some ⟨bb, off, none⟩) l.length cap, c4] W' → Calls Tryd.prog 23 #[.agg #[.int .i64 4, .int .i64 n, .string s, .slice (some ⟨bb, off, none⟩) l.length cap, c4], .int .i64 (j : Int), .string ⟨#[58]⟩] W' fun e w' => e = .returned (.string ⟨(nmT [58] ob (ns.getD j ⟨#[]⟩)).toArray⟩) ∧ Below W'.heap.size W' w' := fun W' h => HNM.out W' h.bel j hlt
        have HX0 : ∀ W', Mo w [.int .i64 4, .int .i64 n, .string s, .slice (some ⟨bb, off, none⟩) l.length cap, c4] W' → Calls Tryd.prog 14 #[.agg ds.toArray] W' fun e w' => e = .returned (.string ⟨(tv [] [58] (l.getD j V0) []).toArray⟩) ∧ Below W'.heap.size W' w' := fun W' h => HIH.out _ (mem_get hlt) ds W' (InV_next h.bel _ _ hin)
        obtain ⟨z1, z2, z3, rfl⟩ := InV_cells hin
        have FX : ∀ {a x : _} {W : World}, Mo w [.int .i64 4, .int .i64 n, .string s, .slice (some ⟨bb, off, none⟩) l.length cap, c4] W → w.cell? a = some x → W.cell? a = some x := fun hb hc => (hb.bel.cell (Strs.cell_lt hc)).trans hc
        have q0 : ∀ W, Mo w [.int .i64 4, .int .i64 n, .string s, .slice (some ⟨bb, off, none⟩) l.length cap, c4] W → W.cell? ⟨w.heap.size, 0, none⟩ = some (.int .i64 4) := fun W hb => Box.cell hb.box 0
        have q1 : ∀ W, Mo w [.int .i64 4, .int .i64 n, .string s, .slice (some ⟨bb, off, none⟩) l.length cap, c4] W → W.cell? ⟨w.heap.size, 1, none⟩ = some (.int .i64 n) := fun W hb => Box.cell hb.box 1
        have q2 : ∀ W, Mo w [.int .i64 4, .int .i64 n, .string s, .slice (some ⟨bb, off, none⟩) l.length cap, c4] W → W.cell? ⟨w.heap.size, 2, none⟩ = some (.string s) := fun W hb => Box.cell hb.box 2
        have q3 : ∀ W, Mo w [.int .i64 4, .int .i64 n, .string s, .slice (some ⟨bb, off, none⟩) l.length cap, c4] W → W.cell? ⟨w.heap.size, 3, none⟩ = some (.slice (some ⟨bb, off, none⟩) l.length cap) := fun W hb => Box.cell hb.box 3
        have q4 : ∀ W, Mo w [.int .i64 4, .int .i64 n, .string s, .slice (some ⟨bb, off, none⟩) l.length cap, c4] W → W.cell? ⟨w.heap.size, 4, none⟩ = some c4 := fun W hb => Box.cell hb.box 4
        have r0 : ∀ W, Mo w [.int .i64 4, .int .i64 n, .string s, .slice (some ⟨bb, off, none⟩) l.length cap, c4] W → W.cell? ⟨bb, off + j * 5, none⟩ = some (.int .i64 (l.getD j V0).k) := fun W hb => FX hb (hrg 0 _ rfl)
        have r1 := fun W (hb : Mo w [.int .i64 4, .int .i64 n, .string s, .slice (some ⟨bb, off, none⟩) l.length cap, c4] W) => FX hb (hrg 1 _ rfl)
        have r2 := fun W (hb : Mo w [.int .i64 4, .int .i64 n, .string s, .slice (some ⟨bb, off, none⟩) l.length cap, c4] W) => FX hb (hrg 2 _ rfl)
        have r3 := fun W (hb : Mo w [.int .i64 4, .int .i64 n, .string s, .slice (some ⟨bb, off, none⟩) l.length cap, c4] W) => FX hb (hrg 3 _ rfl)
        have r4 := fun W (hb : Mo w [.int .i64 4, .int .i64 n, .string s, .slice (some ⟨bb, off, none⟩) l.length cap, c4] W) => FX hb (hrg 4 _ rfl)
        have hmd : Mo w [.int .i64 4, .int .i64 n, .string s, .slice (some ⟨bb, off, none⟩) l.length cap, c4] wr.drew := ⟨hm.box, hm.bel.drew⟩
        have hns : (⟨(nmT [58] ob (ns.getD j ⟨#[]⟩)).toArray⟩ : ByteArray).size = (nmT [58] ob (ns.getD j ⟨#[]⟩)).length := size_list _
        have hxs : (⟨(tv [] [58] (l.getD j V0) []).toArray⟩ : ByteArray).size = (tv [] [58] (l.getD j V0) []).length := size_list _
        have hnd : (⟨(nmT [58] ob (ns.getD j ⟨#[]⟩)).toArray⟩ : ByteArray).data.toList = nmT [58] ob (ns.getD j ⟨#[]⟩) := by simp
        have hxd : (⟨(tv [] [58] (l.getD j V0) []).toArray⟩ : ByteArray).data.toList = tv [] [58] (l.getD j V0) [] := by simp
        have HXD := Lib.hid hxd
        have HND := Lib.hid hnd
        have HN := Lib.hid HN0
        have HX := Lib.hid HX0
        clear hnd hxd HN0 HX0 FX hrg hin hP HIT HIH HNM
        generalize (⟨(nmT [58] ob (ns.getD j ⟨#[]⟩)).toArray⟩ : ByteArray) = NM at *
        generalize (⟨(tv [] [58] (l.getD j V0) []).toArray⟩ : ByteArray) = XT at *
        have hNX : (NM ++ XT).size = NM.size + XT.size := ByteArray.size_append
        have hC1 : (⟨#[44]⟩ : ByteArray).size = 1 := rfl
        have hOC : (O ++ ⟨#[44]⟩).size = O.size + 1 := ByteArray.size_append
        have hb1 : O.size + NM.size + XT.size + 1 ≤ 8000001 := by rw [hns, hxs]; omega
        have s1 : (NM.size : Int) ≤ 8388608 := by omega
        have s2 : (XT.size : Int) ≤ 8388608 := by omega
        have s3 : (O.size : Int) ≤ 8388608 := by omega
        have s4 : ((NM ++ XT).size : Int) ≤ 8388608 := by omega
        have s5 : ((O ++ ⟨#[44]⟩).size : Int) ≤ 8388608 := by omega
        have p1 : ∀ W, (Op.stringOp .add NM XT).run Tryd.prog W = .ok (.string (NM ++ XT)) W := fun W => run_string_add W NM XT s1 s2
        have p2 : ∀ W, (Op.stringOp .add O (NM ++ XT)).run Tryd.prog W = .ok (.string (O ++ (NM ++ XT))) W := fun W => run_string_add W O (NM ++ XT) s3 s4
        have p3 : ∀ W, (Op.stringOp .add (O ++ ⟨#[44]⟩) (NM ++ XT)).run Tryd.prog W = .ok (.string (O ++ ⟨#[44]⟩ ++ (NM ++ XT))) W := fun W => run_string_add W _ (NM ++ XT) s5 s4
        clear hNX hb1 s1 s2 s4 s5
        by_cases hj0 : j = 0
        · have g1 : decide ((0 : Int) < (j : Int)) = false := decide_eq_false (by omega)
          have g2 : decide (0 < j) = false := decide_eq_false (by omega)
          have hP3 : OP :: T = (O ++ (NM ++ XT)).data.toList ++ tl [] [58] (l.drop (j + 1)) ob (ns.drop (j + 1)) [44] [] := by
            rw [hP2, if_pos hj0, cat_bytes, cat_bytes, HND.out, HXD.out]; simp
          have HP3 := Lib.hid hP3
          clear hP2 hP3 hPL hns hxs hj0
          generalize (l.getD j V0).k = k' at *
          generalize (l.getD j V0).n = n' at *
          generalize (l.getD j V0).s = s' at *
          generalize (l.getD j V0).l.length = l' at *
          go_wp2_with fail
          go_region_held3 (Mo w [.int .i64 4, .int .i64 n, .string s, .slice (some ⟨bb, off, none⟩) l.length cap, c4]) (first | exact hmd | assumption)
            ((first
              | (go_at_call 23; (with_reducible refine (HN.out _ (by assumption)).mono ?_); rintro e wx ⟨rfl, hbx⟩; have mx := Mo.next (by assumption) hbx)
              | (go_at_call 14; (with_reducible refine (HX.out _ (by assumption)).mono ?_); rintro e wx ⟨rfl, hbx⟩; have mx := Mo.next (by assumption) hbx)))
          all_goals
            go_wp2_with fail
            go_roundw
            case rel => exact ⟨j + 1, _, rfl, by go_num, by omega, mx, Lib.hid (by rw [HP3.out, if_neg (by omega)])⟩
            case measure => simp [RowKit.intOf]; omega
        · have g1 : decide ((0 : Int) < (j : Int)) = true := decide_eq_true (by omega)
          have g2 : decide (0 < j) = true := decide_eq_true (by omega)
          have hP3 : OP :: T = (O ++ ⟨#[44]⟩ ++ (NM ++ XT)).data.toList ++ tl [] [58] (l.drop (j + 1)) ob (ns.drop (j + 1)) [44] [] := by
            rw [hP2, if_neg hj0, cat_bytes, cat_bytes, cat_bytes, HND.out, HXD.out]; simp
          have HP3 := Lib.hid hP3
          clear hP2 hP3 hPL hns hxs hj0
          generalize (l.getD j V0).k = k' at *
          generalize (l.getD j V0).n = n' at *
          generalize (l.getD j V0).s = s' at *
          generalize (l.getD j V0).l.length = l' at *
          go_wp2_with fail
          clear hOC
          generalize O ++ ⟨#[44]⟩ = O2 at *
          go_region_held3 (Mo w [.int .i64 4, .int .i64 n, .string s, .slice (some ⟨bb, off, none⟩) l.length cap, c4]) (first | exact hmd | assumption)
            ((first
              | (go_at_call 23; (with_reducible refine (HN.out _ (by assumption)).mono ?_); rintro e wx ⟨rfl, hbx⟩; have mx := Mo.next (by assumption) hbx)
              | (go_at_call 14; (with_reducible refine (HX.out _ (by assumption)).mono ?_); rintro e wx ⟨rfl, hbx⟩; have mx := Mo.next (by assumption) hbx)))
          all_goals
            go_wp2_with fail
            go_roundw
            case rel => exact ⟨j + 1, _, rfl, by go_num, by omega, mx, Lib.hid (by rw [HP3.out, if_neg (by omega)])⟩
            case measure => simp [RowKit.intOf]; omega
      · obtain rfl : j = l.length := by omega
        have hP2 := hP.out
        rw [drop_none, List.append_nil] at hP2
        have hO : O ++ ⟨#[CL]⟩ = ⟨(OP :: (T ++ [CL])).toArray⟩ := by
          have e : (⟨O.data.toList.toArray⟩ : ByteArray) = O := by cases O; simp
          rw [← e, ← hP2]
          exact lists_cat (OP :: T) [CL]
        have HO := Lib.hid hO
        have hCs : (⟨#[CL]⟩ : ByteArray).size = 1 := rfl
        have hOs : O.size ≤ 8000000 := by
          have := congrArg List.length hP2
          simp only [List.length_cons] at this
          omega
        clear hP hP2 hO HIT HIH HNM
        go_wp2_with fail
        go_ret
        exact ⟨by rw [← HO.out]; rfl, hm.bel⟩
  ·
    go_enter Tryd.func14, Tryd.ntmps14
    go_wp2_with (first
      | (refine wpList_fetch _ rfl _ rfl w.heap.size _ rfl hst.box rfl ?_)
      | (go_at_call 22; (with_reducible refine (HBR.out _).mono ?_); rintro e w2 ⟨rfl, hb2⟩; have m2 := hst.next hb2; have y3 := Box.cell m2.box 3; simp at y3))
    clear hst hb2 HBR y3
    go_loopw [3, 24] (fun o i wr => ∃ (j : Nat) (O : ByteArray), o = .string O ∧ i = .int .i64 (j : Int) ∧ j ≤ l.length ∧ Mo w [.int .i64 5, .int .i64 n, .string s, .slice a l.length cap, c4] wr ∧ Hid (OP :: T = O.data.toList ++ tl [] [58] (l.drop j) ob (ns.drop j) (if j = 0 then [] else [44]) []))
      (fun _ i _ => l.length - (RowKit.intOf i).toNat)
    case atStart => exact ⟨0, _, rfl, by go_num, Nat.zero_le _, m2, Lib.hid (by rw [HT.out]; rfl)⟩
    case round =>
      clear m2
      obtain ⟨j, O, rfl, rfl, hj, hm, hP⟩ := hrel
      have hOl : O.data.toList.length = O.size := by simp
      by_cases hlt : j < l.length
      · obtain ⟨bb, off, rfl, ds, hrg, hin⟩ := HIT.out j hlt
        rw [Nat.mul_comm 5 j] at hrg
        have hP2 := hP.out
        rw [drop_step _ _ _ _ _ _ _ j hlt] at hP2
        have hPL := congrArg List.length hP2
        simp only [List.length_append, List.length_cons, List.length_nil] at hPL
        have HN0 : ∀ W', Mo w [.int .i64 5, .int .i64 n, .string s, .slice (some ⟨bb, off, none⟩) l.length cap, c4] W' → Calls Tryd.prog 23 #[.agg #[.int .i64 5, .int .i64 n, .string s, .slice (some ⟨bb, off, none⟩) l.length cap, c4], .int .i64 (j : Int), .string ⟨#[58]⟩] W' fun e w' => e = .returned (.string ⟨(nmT [58] ob (ns.getD j ⟨#[]⟩)).toArray⟩) ∧ Below W'.heap.size W' w' := fun W' h => HNM.out W' h.bel j hlt
        have HX0 : ∀ W', Mo w [.int .i64 5, .int .i64 n, .string s, .slice (some ⟨bb, off, none⟩) l.length cap, c4] W' → Calls Tryd.prog 14 #[.agg ds.toArray] W' fun e w' => e = .returned (.string ⟨(tv [] [58] (l.getD j V0) []).toArray⟩) ∧ Below W'.heap.size W' w' := fun W' h => HIH.out _ (mem_get hlt) ds W' (InV_next h.bel _ _ hin)
        obtain ⟨z1, z2, z3, rfl⟩ := InV_cells hin
        have FX : ∀ {a x : _} {W : World}, Mo w [.int .i64 5, .int .i64 n, .string s, .slice (some ⟨bb, off, none⟩) l.length cap, c4] W → w.cell? a = some x → W.cell? a = some x := fun hb hc => (hb.bel.cell (Strs.cell_lt hc)).trans hc
        have q0 : ∀ W, Mo w [.int .i64 5, .int .i64 n, .string s, .slice (some ⟨bb, off, none⟩) l.length cap, c4] W → W.cell? ⟨w.heap.size, 0, none⟩ = some (.int .i64 5) := fun W hb => Box.cell hb.box 0
        have q1 : ∀ W, Mo w [.int .i64 5, .int .i64 n, .string s, .slice (some ⟨bb, off, none⟩) l.length cap, c4] W → W.cell? ⟨w.heap.size, 1, none⟩ = some (.int .i64 n) := fun W hb => Box.cell hb.box 1
        have q2 : ∀ W, Mo w [.int .i64 5, .int .i64 n, .string s, .slice (some ⟨bb, off, none⟩) l.length cap, c4] W → W.cell? ⟨w.heap.size, 2, none⟩ = some (.string s) := fun W hb => Box.cell hb.box 2
        have q3 : ∀ W, Mo w [.int .i64 5, .int .i64 n, .string s, .slice (some ⟨bb, off, none⟩) l.length cap, c4] W → W.cell? ⟨w.heap.size, 3, none⟩ = some (.slice (some ⟨bb, off, none⟩) l.length cap) := fun W hb => Box.cell hb.box 3
        have q4 : ∀ W, Mo w [.int .i64 5, .int .i64 n, .string s, .slice (some ⟨bb, off, none⟩) l.length cap, c4] W → W.cell? ⟨w.heap.size, 4, none⟩ = some c4 := fun W hb => Box.cell hb.box 4
        have r0 : ∀ W, Mo w [.int .i64 5, .int .i64 n, .string s, .slice (some ⟨bb, off, none⟩) l.length cap, c4] W → W.cell? ⟨bb, off + j * 5, none⟩ = some (.int .i64 (l.getD j V0).k) := fun W hb => FX hb (hrg 0 _ rfl)
        have r1 := fun W (hb : Mo w [.int .i64 5, .int .i64 n, .string s, .slice (some ⟨bb, off, none⟩) l.length cap, c4] W) => FX hb (hrg 1 _ rfl)
        have r2 := fun W (hb : Mo w [.int .i64 5, .int .i64 n, .string s, .slice (some ⟨bb, off, none⟩) l.length cap, c4] W) => FX hb (hrg 2 _ rfl)
        have r3 := fun W (hb : Mo w [.int .i64 5, .int .i64 n, .string s, .slice (some ⟨bb, off, none⟩) l.length cap, c4] W) => FX hb (hrg 3 _ rfl)
        have r4 := fun W (hb : Mo w [.int .i64 5, .int .i64 n, .string s, .slice (some ⟨bb, off, none⟩) l.length cap, c4] W) => FX hb (hrg 4 _ rfl)
        have hmd : Mo w [.int .i64 5, .int .i64 n, .string s, .slice (some ⟨bb, off, none⟩) l.length cap, c4] wr.drew := ⟨hm.box, hm.bel.drew⟩
        have hns : (⟨(nmT [58] ob (ns.getD j ⟨#[]⟩)).toArray⟩ : ByteArray).size = (nmT [58] ob (ns.getD j ⟨#[]⟩)).length := size_list _
        have hxs : (⟨(tv [] [58] (l.getD j V0) []).toArray⟩ : ByteArray).size = (tv [] [58] (l.getD j V0) []).length := size_list _
        have hnd : (⟨(nmT [58] ob (ns.getD j ⟨#[]⟩)).toArray⟩ : ByteArray).data.toList = nmT [58] ob (ns.getD j ⟨#[]⟩) := by simp
        have hxd : (⟨(tv [] [58] (l.getD j V0) []).toArray⟩ : ByteArray).data.toList = tv [] [58] (l.getD j V0) [] := by simp
        have HXD := Lib.hid hxd
        have HND := Lib.hid hnd
        have HN := Lib.hid HN0
        have HX := Lib.hid HX0
        clear hnd hxd HN0 HX0 FX hrg hin hP HIT HIH HNM
        generalize (⟨(nmT [58] ob (ns.getD j ⟨#[]⟩)).toArray⟩ : ByteArray) = NM at *
        generalize (⟨(tv [] [58] (l.getD j V0) []).toArray⟩ : ByteArray) = XT at *
        have hNX : (NM ++ XT).size = NM.size + XT.size := ByteArray.size_append
        have hC1 : (⟨#[44]⟩ : ByteArray).size = 1 := rfl
        have hOC : (O ++ ⟨#[44]⟩).size = O.size + 1 := ByteArray.size_append
        have hb1 : O.size + NM.size + XT.size + 1 ≤ 8000001 := by rw [hns, hxs]; omega
        have s1 : (NM.size : Int) ≤ 8388608 := by omega
        have s2 : (XT.size : Int) ≤ 8388608 := by omega
        have s3 : (O.size : Int) ≤ 8388608 := by omega
        have s4 : ((NM ++ XT).size : Int) ≤ 8388608 := by omega
        have s5 : ((O ++ ⟨#[44]⟩).size : Int) ≤ 8388608 := by omega
        have p1 : ∀ W, (Op.stringOp .add NM XT).run Tryd.prog W = .ok (.string (NM ++ XT)) W := fun W => run_string_add W NM XT s1 s2
        have p2 : ∀ W, (Op.stringOp .add O (NM ++ XT)).run Tryd.prog W = .ok (.string (O ++ (NM ++ XT))) W := fun W => run_string_add W O (NM ++ XT) s3 s4
        have p3 : ∀ W, (Op.stringOp .add (O ++ ⟨#[44]⟩) (NM ++ XT)).run Tryd.prog W = .ok (.string (O ++ ⟨#[44]⟩ ++ (NM ++ XT))) W := fun W => run_string_add W _ (NM ++ XT) s5 s4
        clear hNX hb1 s1 s2 s4 s5
        by_cases hj0 : j = 0
        · have g1 : decide ((0 : Int) < (j : Int)) = false := decide_eq_false (by omega)
          have g2 : decide (0 < j) = false := decide_eq_false (by omega)
          have hP3 : OP :: T = (O ++ (NM ++ XT)).data.toList ++ tl [] [58] (l.drop (j + 1)) ob (ns.drop (j + 1)) [44] [] := by
            rw [hP2, if_pos hj0, cat_bytes, cat_bytes, HND.out, HXD.out]; simp
          have HP3 := Lib.hid hP3
          clear hP2 hP3 hPL hns hxs hj0
          generalize (l.getD j V0).k = k' at *
          generalize (l.getD j V0).n = n' at *
          generalize (l.getD j V0).s = s' at *
          generalize (l.getD j V0).l.length = l' at *
          go_wp2_with fail
          go_region_held3 (Mo w [.int .i64 5, .int .i64 n, .string s, .slice (some ⟨bb, off, none⟩) l.length cap, c4]) (first | exact hmd | assumption)
            ((first
              | (go_at_call 23; (with_reducible refine (HN.out _ (by assumption)).mono ?_); rintro e wx ⟨rfl, hbx⟩; have mx := Mo.next (by assumption) hbx)
              | (go_at_call 14; (with_reducible refine (HX.out _ (by assumption)).mono ?_); rintro e wx ⟨rfl, hbx⟩; have mx := Mo.next (by assumption) hbx)))
          all_goals
            go_wp2_with fail
            go_roundw
            case rel => exact ⟨j + 1, _, rfl, by go_num, by omega, mx, Lib.hid (by rw [HP3.out, if_neg (by omega)])⟩
            case measure => simp [RowKit.intOf]; omega
        · have g1 : decide ((0 : Int) < (j : Int)) = true := decide_eq_true (by omega)
          have g2 : decide (0 < j) = true := decide_eq_true (by omega)
          have hP3 : OP :: T = (O ++ ⟨#[44]⟩ ++ (NM ++ XT)).data.toList ++ tl [] [58] (l.drop (j + 1)) ob (ns.drop (j + 1)) [44] [] := by
            rw [hP2, if_neg hj0, cat_bytes, cat_bytes, cat_bytes, HND.out, HXD.out]; simp
          have HP3 := Lib.hid hP3
          clear hP2 hP3 hPL hns hxs hj0
          generalize (l.getD j V0).k = k' at *
          generalize (l.getD j V0).n = n' at *
          generalize (l.getD j V0).s = s' at *
          generalize (l.getD j V0).l.length = l' at *
          go_wp2_with fail
          clear hOC
          generalize O ++ ⟨#[44]⟩ = O2 at *
          go_region_held3 (Mo w [.int .i64 5, .int .i64 n, .string s, .slice (some ⟨bb, off, none⟩) l.length cap, c4]) (first | exact hmd | assumption)
            ((first
              | (go_at_call 23; (with_reducible refine (HN.out _ (by assumption)).mono ?_); rintro e wx ⟨rfl, hbx⟩; have mx := Mo.next (by assumption) hbx)
              | (go_at_call 14; (with_reducible refine (HX.out _ (by assumption)).mono ?_); rintro e wx ⟨rfl, hbx⟩; have mx := Mo.next (by assumption) hbx)))
          all_goals
            go_wp2_with fail
            go_roundw
            case rel => exact ⟨j + 1, _, rfl, by go_num, by omega, mx, Lib.hid (by rw [HP3.out, if_neg (by omega)])⟩
            case measure => simp [RowKit.intOf]; omega
      · obtain rfl : j = l.length := by omega
        have hP2 := hP.out
        rw [drop_none, List.append_nil] at hP2
        have hO : O ++ ⟨#[CL]⟩ = ⟨(OP :: (T ++ [CL])).toArray⟩ := by
          have e : (⟨O.data.toList.toArray⟩ : ByteArray) = O := by cases O; simp
          rw [← e, ← hP2]
          exact lists_cat (OP :: T) [CL]
        have HO := Lib.hid hO
        have hCs : (⟨#[CL]⟩ : ByteArray).size = 1 := rfl
        have hOs : O.size ≤ 8000000 := by
          have := congrArg List.length hP2
          simp only [List.length_cons] at this
          omega
        clear hP hP2 hO HIT HIH HNM
        go_wp2_with fail
        go_ret
        exact ⟨by rw [← HO.out]; rfl, hm.bel⟩
end Go.Proofs.YtbpofhlnnldceaaDoor.Ren
