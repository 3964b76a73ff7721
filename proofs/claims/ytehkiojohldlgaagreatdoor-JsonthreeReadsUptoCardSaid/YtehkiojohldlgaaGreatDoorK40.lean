/- Texts of my own, packed: ThrN. Conditions: as each theorem states. -/
import Derived.Test.YtehkiojohldlgaaGreatDoorK33
import Derived.Test.YtehkiojohldlgaaGreatDoorK37
namespace Go.Proofs.YtehkiojohldlgaaGreatDoor.Thr
open Go.RowKit Go.Lib
open Go.Proofs.YtehkiojohldlgaaGreatDoor.Rul (Ru zero Row Own ruC ruL rga chk Bx bx_new)
open Go.Proofs.YtehkiojohldlgaaGreatDoor.Ren (Pw)
open Go.Proofs.YtehkiojohldlgaaGreatDoor.Sn (Seen hasB seen_made run_makeHint)

def ids (L : List Ru) (i : Nat) : List ByteArray := (L.take i).map (·.id)
theorem ids_has (L : List Ru) (i : Nat) : hasB (ids L i) (ga L i).id = tw L i := by
  unfold hasB ids tw
  rw [List.any_map]; rfl
theorem ids_next (L : List Ru) {i : Nat} (h : i < L.length) : ids L i ++ [(ga L i).id] = ids L (i + 1) := by
  unfold ids
  rw [List.take_add_one, List.map_append, List.getElem?_eq_getElem h, ga_at h]; rfl
theorem id_size {r : Ru} (h : (chk r).2 = 0) : r.id.size ≤ 64 := ((Ide.idL_iff _).1 ((Rul.chk_zero r).1 h).id).2.1

set_option maxHeartbeats 8000000 in
set_option maxRecDepth 100000 in
theorem check_any : CkP := by
  intro L v w hr h5 hm hE
  obtain ⟨a, cap, rfl, -, hc⟩ := hr.open_
  by_cases hmany : 4096 < L.length
  · rw [sck_many hmany]
    clear hc hr
    go_enter Tryz.func42, Tryz.ntmps42
    go_wp2_with fail
    go_ret2
    exact ⟨rfl, Below.refl _ _⟩
  rw [sck_few hmany]
  have HC := Lib.hid hc
  have HEV := Lib.hid hE
  have HI := Lib.hid fun (i : Nat) (h : i < L.length) W (hW : Pw W) => at_any i (by omega) W hW
  have HZ := Lib.hid fun (i : Nat) (h : i < L.length) => (show (at_ i).size ≤ 22 by
    have := itoa_size i (by omega)
    show (⟨#[47]⟩ ++ ⟨(Lib.itoa (i : Int)).toArray⟩ : ByteArray).size ≤ 22
    rw [ByteArray.size_append]
    show 1 + _ ≤ 22
    omega)
  have HK := Lib.hid fun (i : Nat) (h : i < L.length) W (hW : Ev W) => Rul.chk_at (ga L i) (chk (ga L i)).1 (chk (ga L i)).2 rfl (hm _ (ga_mem h)).1 (hm _ (ga_mem h)).2.1 (hm _ (ga_mem h)).2.2 W hW.tab hW.utf
  have HKS := Lib.hid fun (i : Nat) => chk_size (ga L i)
  have HRB := Lib.hid fun i => @round_bad L i
  have HST := Lib.hid fun i => @step_at L i
  have HIS := Lib.hid fun i => @id_size (ga L i)
  have HTW := Lib.hid fun i (h : (chk (ga L i)).2 = 0) (k : tw L i = true) => nx_twice h k
  have HOK := Lib.hid fun i (h : (chk (ga L i)).2 = 0) (k : tw L i = false) => nx_ok h k
  have HEN := Lib.hid (nxs_len L)
  have hmk := run_makeHint (L.length : Int)
  clear hc hr hm hE
  go_enter Tryz.func42, Tryz.ntmps42
  go_wp2_with fail
  go_loopw [17] (fun i wr => ∃ m : Nat, i = .int .i64 (m : Int) ∧ m ≤ L.length ∧ Hid (Below w.heap.size w wr) ∧ Hid (Seen wr w.heap.size m (ids L m)) ∧ Hid (Rul.fst (nxs L) = Rul.fst ((nxs L).drop m))) (fun i _ => L.length - (RowKit.intOf i).toNat)
  case atStart => exact ⟨0, rfl, Nat.zero_le _, Lib.hid ((Below.refl _ _).alloc (Nat.le_refl _) _), Lib.hid (seen_made _), Lib.hid rfl⟩
  case round =>
    obtain ⟨m, rfl, hk, HB, HS, HF⟩ := hrel
    by_cases hlt : m < L.length
    · obtain ⟨b, off, rfl, hcl⟩ := HC.out m hlt
      rw [rga_ga] at hcl
      have HCM := Lib.hid (Rul.rangeAt_next hcl HB.out)
      clear hcl
      have HEW := Lib.hid (HEV.out.next HB.out)
      have HI2 := Lib.hid (HI.out m hlt)
      have HZ2 := HZ.out m hlt
      have HK2 := Lib.hid (HK.out m hlt)
      have HKS2 := HKS.out m
      have HRB2 := Lib.hid (HRB.out m hlt HF.out)
      have HIS2 := Lib.hid (HIS.out m)
      have HST2 := Lib.hid (HST.out m hlt HF.out)
      have HTW2 := Lib.hid fun h => by
        have := HTW.out m h
        rw [← ids_has] at this
        exact this
      have HOK2 := Lib.hid fun h => by
        have := HOK.out m h
        rw [← ids_has] at this
        exact this
      have HIN := Lib.hid (ids_next L hlt)
      have hpre : pre m Rul.p1 = at_ m ++ ⟨#[47, 105, 100]⟩ := rfl
      rw [hpre] at HTW2
      clear hpre
      generalize at_ m = A at *
      generalize nx L m = Y at *
      obtain ⟨X, hX⟩ : ∃ X, ga L m = X := ⟨_, rfl⟩
      rw [hX] at HCM HK2 HKS2 HRB2 HIS2 HTW2 HOK2 HIN
      have HX := Lib.hid hX
      clear hX
      generalize chk X = c at *
      obtain ⟨p, E⟩ := c
      dsimp only at HKS2 HRB2 HK2 HIS2 HTW2 HOK2
      by_cases hE : E = 0
      · subst hE
        have hid := HIS2.out rfl
        have HTW3 := Lib.hid (HTW2.out rfl)
        have HOK3 := Lib.hid (HOK2.out rfl)
        cases hh : hasB (ids L m) X.id with
        | true =>
          have e1 := HTW3.out hh
          have e2 := HST2.out.2 (by rw [e1]; exact (by decide : (11 : Int) ≠ 0))
          have HZZ := Lib.hid (e2.trans e1)
          clear e1 e2
          go_wp2_with (first
            | (refine Rul.wpList_take _ rfl _ rfl b (off + m * 13) X rfl HCM.out ?_)
            | (refine Rul.wpList_keep _ rfl _ _ rfl wr.heap.size wr ((Below.refl _ _).alloc (Nat.le_refl _) _) _ (Nat.le_refl _) X _ rfl rfl (bx_new _ _) rfl ?_; intro w4 hk4 hb4 ho4; have K4 := Lib.hid hk4; have B4 := Lib.hid hb4; clear hk4 hb4 ho4)
            | (refine Rul.wpList_fetch _ rfl _ rfl wr.heap.size _ rfl K4.out rfl ?_)
            | (go_at_call 80; (with_reducible refine (HK2.out _ (HEW.out.next B4.out)).mono ?_); rintro e w5 ⟨rfl, hb5⟩; have B5 := Lib.hid (B4.out.trans (hb5.mono B4.out.size)); have c5 : w5.cell? ⟨wr.heap.size, 0, none⟩ = some (.string X.id) := (hb5.cell K4.out.lt).trans (K4.out.cell 0); have hlook := (HS.out.next B5.out).look X.id (by omega); rw [hh] at hlook; clear hb5)
            | (go_at_call 81; (with_reducible refine (HI2.out _ (HEW.out.next B5.out).pow).mono ?_); rintro e w6 ⟨rfl, hb6⟩; have B6 := Lib.hid (HB.out.trans ((B5.out.trans (hb6.mono B5.out.size)).mono HB.out.size)); clear hb6))
          go_ret2
          rw [HZZ.out]
          exact ⟨rfl, B6.out⟩
        | false =>
          have e1 := HOK3.out hh
          have HF2 := Lib.hid (HST2.out.1 (by rw [e1]))
          clear e1
          go_wp2_with (first
            | (refine Rul.wpList_take _ rfl _ rfl b (off + m * 13) X rfl HCM.out ?_)
            | (refine Rul.wpList_keep _ rfl _ _ rfl wr.heap.size wr ((Below.refl _ _).alloc (Nat.le_refl _) _) _ (Nat.le_refl _) X _ rfl rfl (bx_new _ _) rfl ?_; intro w4 hk4 hb4 ho4; have K4 := Lib.hid hk4; have B4 := Lib.hid hb4; clear hk4 hb4 ho4)
            | (refine Rul.wpList_fetch _ rfl _ rfl wr.heap.size _ rfl K4.out rfl ?_)
            | (go_at_call 80; (with_reducible refine (HK2.out _ (HEW.out.next B4.out)).mono ?_); rintro e w5 ⟨rfl, hb5⟩; have B5 := Lib.hid (B4.out.trans (hb5.mono B4.out.size)); have c5 : w5.cell? ⟨wr.heap.size, 0, none⟩ = some (.string X.id) := (hb5.cell K4.out.lt).trans (K4.out.cell 0); have HS5 := Lib.hid (HS.out.next B5.out); have hlook := HS5.out.look X.id (by omega); rw [hh] at hlook; have BW5 := Lib.hid (HB.out.trans (B5.out.mono HB.out.size)); clear hb5)
            | (refine Sn.wpList_put _ rfl _ _ _ rfl w.heap.size m (ids L m) rfl X.id rfl rfl HS5.out (by omega) (by omega) w w.heap.size (Nat.le_refl _) BW5.out ?_; intro w6 hS6 hb6))
          go_roundw
          case rel => exact ⟨m + 1, by go_num, by omega, Lib.hid hb6, Lib.hid (by rw [← HIN.out]; exact hS6), HF2⟩
          case measure => simp [RowKit.intOf]; omega
      · have HZZ := Lib.hid (HRB2.out hE)
        have b1 : (E != 0) = true := by simpa using hE
        clear hE
        go_wp2_with (first
          | (refine Rul.wpList_take _ rfl _ rfl b (off + m * 13) X rfl HCM.out ?_)
          | (refine Rul.wpList_keep _ rfl _ _ rfl wr.heap.size wr ((Below.refl _ _).alloc (Nat.le_refl _) _) _ (Nat.le_refl _) X _ rfl rfl (bx_new _ _) rfl ?_; intro w4 hk4 hb4 ho4; have K4 := Lib.hid hk4; have B4 := Lib.hid hb4; clear hk4 hb4 ho4)
          | (refine Rul.wpList_fetch _ rfl _ rfl wr.heap.size _ rfl K4.out rfl ?_)
          | (go_at_call 80; (with_reducible refine (HK2.out _ (HEW.out.next B4.out)).mono ?_); rintro e w5 ⟨rfl, hb5⟩; have B5 := Lib.hid (B4.out.trans (hb5.mono B4.out.size)); clear hb5)
          | (go_at_call 81; (with_reducible refine (HI2.out _ (HEW.out.next B5.out).pow).mono ?_); rintro e w6 ⟨rfl, hb6⟩; have B6 := Lib.hid (HB.out.trans ((B5.out.trans (hb6.mono B5.out.size)).mono HB.out.size)); clear hb6))
        go_ret2
        rw [HZZ.out]
        exact ⟨rfl, B6.out⟩
    · obtain rfl : m = L.length := by omega
      have HN := HF.out
      rw [List.drop_of_length_le (by rw [HEN.out]; exact Nat.le_refl _)] at HN
      go_wp2_with fail
      go_ret2
      rw [HN]
      exact ⟨rfl, HB.out⟩
end Go.Proofs.YtehkiojohldlgaaGreatDoor.Thr
