/- The contract of the writer's putItems, of an object. Conditions: the two tables of unicode/utf8 and the table of powers are as the library's text lays them; as each theorem states. -/
import Derived.Test.YtbpofhlnnldceaaDoorRenC
import Derived.Deep.CutRange
namespace Go.Proofs.YtbpofhlnnldceaaDoor.Ren
open Go.RowKit Go.Lib Go.Proofs.YtbpofhlnnldceaaDoor.Byt Go.Proofs.YtbpofhlnnldceaaDoor.Utf Go.Proofs.YtbpofhlnnldceaaDoor.Quo
open Go.Proofs.YtbpofhlnnldceaaDoor.Lx (nL2 sL dcL dcF bl)
open Go.Proofs.YtbpofhlnnldceaaDoor.Tre (Vt V0 wi wiL hdB textB nmB noneB scal dep depL cnt OkT okV InV InV_iff InV_next InV_five InS_one Box Box.lt Box.cell box_new wpList_take wpList_keep wpList_fetch range_next size_toArray mem_get)

set_option maxRecDepth 100000 in
set_option maxHeartbeats 2000000 in
theorem items_obj (w0 : World) (hE : En w0) (n : Int) (s : ByteArray) (l : List Vt) (ns : List ByteArray) (hok : okV (.mk 5 n s l ns)) (hns : ns.length = l.length) (htx : ∀ u ∈ ns, textB u = true) (ih : ∀ u ∈ l, PV w0 u) : PI w0 (.mk 5 n s l ns) := by
  intro b x y z ln acc cs W h
  obtain ⟨hws, hinv, hroom, hsm, hln⟩ := h
  have hlt := hws.lt
  obtain ⟨a, cap, c4, hcs, hit, hrow⟩ := (InV_iff w0 _ cs).1 hinv
  replace hrow : Strs.Row w0 c4 ns := hrow
  obtain ⟨na, ncap, rfl, hnm⟩ := hrow.open_
  replace hcs : cs = [.int .i64 5, .int .i64 n, .string s, .slice a l.length cap, .slice na ns.length ncap] := hcs
  subst hcs
  have hmx : l.length ≤ 9223372036854775807 := by have := hok.2.2.2.1; have h2 : (Vt.mk 5 n s l ns).l = l := rfl; rw [h2] at this; omega
  have hsmp := fun u (hu : u ∈ l) => Nat.le_trans (wg_part (v := .mk 5 n s l ns) hu) hsm
  have hlnp := fun u (hu : u ∈ l) => line_part (v := .mk 5 n s l ns) (.inr rfl) hu hln
  have hN0 : ln.size + y.size ≤ 1000 ∨ l = [] := by
    cases l with
    | nil => exact .inr rfl
    | cons u l => have := hlnp u List.mem_cons_self; exact .inl (by omega)
  have HIT := Lib.hid (show ∀ j, j < l.length → ∃ b off, a = some ⟨b, off, none⟩ ∧ ∃ ds, w0.rangeAt b (off + 5 * j) ds ∧ InV w0 (l.getD j V0) ds from hit)
  have hinn : inn y.data.toList z.data.toList (.mk 5 n s l ns) ln.data.toList = tl y.data.toList z.data.toList l true ns [] (ln.data.toList ++ y.data.toList) ++ (if l.isEmpty then [] else ln.data.toList) := rfl
  have B0 : Below W.heap.size W (W.alloc (.cells #[.int .i64 5, .int .i64 n, .string s, .slice a l.length cap, .slice na ns.length ncap] 25)) := (Below.refl _ _).alloc (Nat.le_refl _) _
  have ws1 := hws.next B0
  have bx1 : Box (W.alloc (.cells #[.int .i64 5, .int .i64 n, .string s, .slice a l.length cap, .slice na ns.length ncap] 25)) W.heap.size _ := box_new _ _
  have KB0 : Kp b W (W.alloc (.cells #[.int .i64 5, .int .i64 n, .string s, .slice a l.length cap, .slice na ns.length ncap] 25)) := Kp.below B0
  have HNM := Lib.hid hnm
  have HTX := Lib.hid htx
  have HNS := Lib.hid hns
  have hsz : ∀ u ∈ ns, u.size ≤ 8000000 := fun u hu => by
    have := sum_mem hu
    rw [wg] at hsm
    omega
  have HSZ := Lib.hid hsz
  clear hit hinv hok hws hln hsm hnm hrow htx hns hsz
  by_cases h0 : l = []
  · have hin : inn y.data.toList z.data.toList (.mk 5 n s l ns) ln.data.toList = [] := by rw [hinn, h0, tl]; rfl
    rw [hin, List.append_nil]
    have hl0 : ((l.length : Int) == 0) = true := by rw [h0]; rfl
    clear hinn hin hroom HIT hN0 hsmp hlnp h0
    go_enter Tryd.func31, Tryd.ntmps31
    go_wp2_with fail
    refine bodyPost_ret (results_none rfl _ _ _) rfl ?_
    exact ⟨rfl, ws1, KB0⟩
  · have hpos := List.length_pos_iff.2 h0
    have hle : l.isEmpty = false := by simpa using h0
    rw [hle, if_neg (by decide)] at hinn
    rw [hinn] at hroom ⊢
    have hN1 : ln.size + y.size ≤ 1000 := by rcases hN0 with h | h; exact h; exact absurd h h0
    have hl0 : ((l.length : Int) == 0) = false := by rw [beq_eq_false_iff_ne]; omega
    have hst := ws1.wr.open_.2.2.2.1
    have hNl := cat_bytes ln y
    have hNs : (ln ++ y).size = ln.size + y.size := ByteArray.size_append
    obtain ⟨T, hT⟩ : ∃ T, T = tl y.data.toList z.data.toList l true ns [] (ln.data.toList ++ y.data.toList) := ⟨_, rfl⟩
    rw [← hT] at hroom ⊢
    rw [List.length_append] at hroom
    rw [← hNl] at hT
    have HT := Lib.hid hT
    have HIH := Lib.hid ih
    have HSM := Lib.hid hsmp
    have HLN := Lib.hid hlnp
    have hll : ln.data.toList.length = ln.size := by simp
    clear hinn hT ih hsmp hlnp hle hN0 hNl
    go_enter Tryd.func31, Tryd.ntmps31
    go_wp2_with fail
    have hGb : W.heap.size ≠ b := by omega
    clear hlt hst B0
    generalize W.alloc (.cells #[.int .i64 5, .int .i64 n, .string s, .slice a l.length cap, .slice na ns.length ncap] 25) = W1 at *
    generalize W.heap.size = G at *
    obtain ⟨N, hNN⟩ : ∃ N, N = ln ++ y := ⟨_, rfl⟩
    rw [← hNN] at HT hNs ⊢
    have HNN := Lib.hid hNN
    have hNl : N.data.toList.length = N.size := by simp
    clear hNN
    go_loopw [7, 24] (fun c i wr => ∃ (j : Nat) (C : ByteArray) (P : List UInt8), c = .string C ∧ i = .int .i64 (j : Int) ∧ j ≤ l.length ∧ C.size ≤ 1 ∧ Ws w0 b x y z (acc ++ P) wr ∧ Kp b W1 wr ∧ Hid (T = P ++ tl y.data.toList z.data.toList (l.drop j) true (ns.drop j) C.data.toList N.data.toList))
      (fun _ i _ => l.length - (RowKit.intOf i).toNat)
    case atStart => exact ⟨0, ⟨#[]⟩, [], rfl, by go_num, Nat.zero_le _, by decide, by simpa using ws1, OthersKept.refl _ _ _, Lib.hid HT.out⟩
    case round =>
      obtain ⟨j, C, P, rfl, rfl, hj, hC, hw, hk, hP⟩ := hrel
      have bxG := box_kept bx1 hGb hk
      have hwb := hw.lt
      by_cases hlt : j < l.length
      · obtain ⟨bb, off, rfl, ds, hrg, hin⟩ := HIT.out j hlt
        have hrg2 := range_next hrg hw.bel
        rw [Nat.mul_comm 5 j] at hrg2
        have h5 := InV_five hin
        have h5' := size_toArray ds h5
        have h1 := InS_one hin
        have hP2 := hP.out
        rw [drop_step _ _ _ _ _ _ _ j hlt] at hP2
        obtain ⟨nb, noff, rfl, hnc⟩ := HNM.out j (by rw [HNS.out]; exact hlt)
        have hmem : ns.getD j ⟨#[]⟩ ∈ ns := by
          have hjn : j < ns.length := by rw [HNS.out]; exact hlt
          rw [List.getD_eq_getElem?_getD, List.getElem?_eq_getElem hjn]
          exact List.getElem_mem hjn
        have hmt := HTX.out _ hmem
        have hmz := HSZ.out _ hmem
        have hjn : (j : Int) < (ns.length : Int) := by rw [HNS.out]; omega
        generalize ns.getD j ⟨#[]⟩ = nm at *
        have HQ := Lib.hid (fun W' (hT : Tabs W') => quoted_any nm W' hT hmz hmt)
        have hnT : nmT z.data.toList true nm = qQ nm.data.toList ++ z.data.toList := if_pos rfl
        rw [hnT] at hP2
        generalize qQ nm.data.toList = Q at *
        have hrm : acc.length + P.length + C.data.toList.length + N.data.toList.length + Q.length + z.data.toList.length + (tv y.data.toList z.data.toList (l.getD j V0) N.data.toList).length ≤ 100000000 := by
          have := congrArg List.length hP2
          simp only [List.length_append] at this
          omega
        have hCl : C.data.toList.length = C.size := by simp
        have hzl : z.data.toList.length = z.size := by simp
        have HV : Hid (∀ W', Ws w0 b x y z (acc ++ P ++ (C.data.toList ++ N.data.toList) ++ (Q ++ z.data.toList)) W' → Calls Tryd.prog 18 #[.pointer (some ⟨b, 0, none⟩), .agg ds.toArray, .string N] W' fun e w' => e = .returned (.tuple #[]) ∧ Ws w0 b x y z (acc ++ P ++ (C.data.toList ++ N.data.toList) ++ (Q ++ z.data.toList) ++ tv y.data.toList z.data.toList (l.getD j V0) N.data.toList) w' ∧ Kp b W' w') :=
          Lib.hid fun W' h => HIH.out _ (mem_get hlt) b x y z N _ ds W' ⟨h, hin, by simp only [List.length_append]; omega, HSM.out _ (mem_get hlt), by have := HLN.out _ (mem_get hlt); omega⟩
        have HA := Lib.hid (fun W' g (hg : g = W'.heap.size) (h : Ws w0 b x y z (acc ++ P) W') => two_at C N W' g hg h (by rw [List.length_append]; omega))
        have HA2 : Hid (∀ (W' : World) (g : Nat), g = W'.heap.size → Ws w0 b x y z (acc ++ P ++ (C.data.toList ++ N.data.toList)) W' → Calls Tryd.prog 19 #[.pointer (some ⟨b, 0, none⟩), .slice (some ⟨g, 0, none⟩) 2 2] (W'.alloc (.cells #[.string ⟨Q.toArray⟩, .string z] 9)) fun e w' => e = .returned (.tuple #[]) ∧ Ws w0 b x y z (acc ++ P ++ (C.data.toList ++ N.data.toList) ++ (Q ++ z.data.toList)) w' ∧ Kp b W' w') :=
          Lib.hid fun W' g hg h => by
            have hq : (⟨Q.toArray⟩ : ByteArray).size = Q.length := by show Q.toArray.size = _; simp
            have := two_at ⟨Q.toArray⟩ z W' g hg h (by simp only [List.length_append]; omega)
            simpa using this
        have HP2 := Lib.hid hP2
        clear hP hP2 hrg hin HIT hmem hmt hmz hnT HIH HSM HLN HNM HTX HSZ
        go_upto_region 9 with (first
          | (refine wpList_take _ rfl _ rfl bb (off + j * 5) ds rfl hrg2 h5 ?_)
          | (refine wpList_keep _ rfl _ _ rfl wr.heap.size wr ((Below.refl _ wr).alloc (Nat.le_refl _) _) wr.heap.size (Nat.le_refl _) ds.toArray _ rfl rfl (box_new _ _) rfl h5' (by simpa using h1) ?_; intro w2 bx2 hb2 _ hs2; clear hs2; have ws2 := hw.next hb2)
          | (go_at_call 19; (with_reducible refine (HA.out _ _ rfl ws2).mono ?_); rintro e w3 ⟨rfl, h3, k3⟩; have bx3 := box_kept bx2 (by omega) k3; have bxg3 := box_kept (box_kept bxG hGb (Kp.below hb2)) hGb k3; have y0 := Box.cell bxg3 0; have y4 := Box.cell bxg3 4; have y5 := h3.wr.open_.2.2.2.2; have y6 := (h3.bel.cell (Strs.cell_lt hnc)).trans hnc; simp at y0 y4))
        have hd3 := h3.drew
        have T3 : Tabs w3.drew := hE.tabs.next hd3.bel
        have bxd3 : Box w3.drew wr.heap.size ds.toArray := bx3
        have bxgd3 : Box w3.drew G #[.int .i64 5, .int .i64 n, .string s, .slice (some ⟨bb, off, none⟩) l.length cap, .slice (some ⟨nb, noff, none⟩) ns.length ncap] := bxg3
        have hwG : wr.heap.size ≠ b := by omega
        have k3d : Kp b wr w3.drew := (Kp.below hb2).trans k3.drew
        clear y0 bx3 bxg3 hb2 bx2 ws2 k3
        go_region_with (first
          | (go_at_call 30; (with_reducible refine (HQ.out _ T3).mono ?_); rintro e w4 ⟨rfl, hb4⟩; have ws4 := hd3.next hb4; have bx4 := box_kept bxd3 hwG (Kp.below hb4); have k4 := k3d.trans (Kp.below hb4); have v4 := Box.cell (box_kept bxgd3 hGb (Kp.below hb4)) 4; have v5 := ws4.wr.open_.2.2.2.2; have v6 := (ws4.bel.cell (Strs.cell_lt hnc)).trans hnc; simp at v4)
          | (go_at_call 19; (with_reducible refine (HA2.out _ _ rfl ws4).mono ?_); rintro e w5 ⟨rfl, h5w, k5⟩; have bx5 := box_kept bx4 hwG k5))
        all_goals
          go_wp2_with (first
            | (refine wpList_fetch _ rfl _ rfl wr.heap.size ds.toArray rfl bx5 h5' ?_)
            | (go_at_call 18; (with_reducible refine (HV.out _ h5w).mono ?_); rintro e w6 ⟨rfl, h6, k6⟩))
          go_roundw
          case rel => exact ⟨j + 1, ⟨#[44]⟩, P ++ (C.data.toList ++ N.data.toList ++ (Q ++ z.data.toList) ++ tv y.data.toList z.data.toList (l.getD j V0) N.data.toList), rfl, by go_num, by omega, by decide, by simpa using h6, hk.trans (k4.trans (k5.trans k6)), Lib.hid (by rw [HP2.out]; simp)⟩
          case measure => simp [RowKit.intOf]; omega
      · obtain rfl : j = l.length := by omega
        have hP2 := hP.out
        rw [drop_none, List.append_nil] at hP2
        subst hP2
        have HA := Lib.hid (fun W' g (hg : g = W'.heap.size) (h : Ws w0 b x y z (acc ++ T) W') => one_at ln W' g hg h (by rw [List.length_append]; omega))
        clear hP HIT
        go_wp2_with (go_at_call 19; (with_reducible refine (HA.out _ _ rfl hw).mono ?_); rintro e w3 ⟨rfl, h3, k3⟩)
        go_end0
        exact ⟨rfl, by simpa using h3, KB0.trans (hk.trans k3)⟩
end Go.Proofs.YtbpofhlnnldceaaDoor.Ren
