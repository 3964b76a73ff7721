/- Texts of my own, packed: ThrP2. Conditions: as each theorem states. -/
import Derived.Lib.ItoaLen
import Derived.Test.YtehkiojohldlgaaGreatDoorK28
import Derived.Test.YtehkiojohldlgaaGreatDoorK31
import Derived.Test.YtehkiojohldlgaaGreatDoorK32
namespace Go.Proofs.YtehkiojohldlgaaGreatDoor.Thr
open Go.RowKit Go.Lib
open Go.Proofs.YtehkiojohldlgaaGreatDoor.Rul (Ru zero Row Own ruC ruL rga chk)
open Go.Proofs.YtehkiojohldlgaaGreatDoor.Ren (Pw)

theorem itoa_at (n : Int) (h1 : -9223372036854775808 ≤ n) (h2 : n ≤ 9223372036854775807) (W : World) (hP : Pw W) :
    Calls Tryz.prog 35 #[.int .i64 n] W fun e w' => e = .returned (.string ⟨(Lib.itoa n).toArray⟩) ∧ Below W.heap.size W w' := by
  refine (Tryz.strconv_Itoa n h1 h2 W hP).mono ?_
  rintro e w' ⟨rfl, k, os, rfl⟩
  exact ⟨rfl, Lib.below_grow _ W (Nat.le_refl _) k os⟩
theorem fst_size (n : Nat) : ∀ l : List (ByteArray × Int), (∀ x ∈ l, x.1.size ≤ n) → (Rul.fst l).1.size ≤ n
  | [], _ => Nat.zero_le _
  | (p, e) :: l, h => by
    by_cases he : e = 0
    · rw [Rul.fst_no l he]; exact fst_size n l fun x hx => h x (List.mem_cons_of_mem _ hx)
    · rw [Rul.fst_yes l he]; exact h _ List.mem_cons_self
theorem path_size : ∀ p ∈ [Rul.p1, Rul.p2, Rul.p3, Rul.p4, Rul.p5, Rul.f1, Rul.f2, Rul.f3, Rul.f4, Rul.f5, Rul.f6, Rul.f7, Rul.f8], p.size ≤ 9 := by decide
theorem chk_size (r : Ru) : (chk r).1.size ≤ 9 := by
  refine fst_size 9 _ fun x hx => ?_
  unfold Rul.errs Rul.nums at hx
  simp only [List.mem_cons, List.not_mem_nil, or_false] at hx
  rcases hx with rfl | rfl | rfl | rfl | rfl | rfl | rfl | rfl | rfl | rfl | rfl | rfl | rfl <;> exact path_size _ (by simp only [List.mem_cons, true_or, or_true])
/-- A rule's place, as a path. -/
def at_ (i : Nat) : ByteArray := ⟨#[47]⟩ ++ ⟨(Lib.itoa (i : Int)).toArray⟩
theorem pre_at (i : Nat) (p : ByteArray) : pre i p = at_ i ++ p := rfl
theorem itoa_size (i : Nat) (h : i ≤ 5000) : (⟨(Lib.itoa (i : Int)).toArray⟩ : ByteArray).size ≤ 21 := by
  have := Lib.itoa_length_le (i : Int) (by omega) (by omega)
  show (Lib.itoa (i : Int)).toArray.size ≤ 21
  rwa [List.size_toArray]
/-- What the loop over the rules has told so far. -/
theorem step_at {L : List Ru} {i : Nat} (hi : i < L.length) (hf : Rul.fst (nxs L) = Rul.fst ((nxs L).drop i)) :
    ((nx L i).2 = 0 → Rul.fst (nxs L) = Rul.fst ((nxs L).drop (i + 1))) ∧ ((nx L i).2 ≠ 0 → Rul.fst (nxs L) = nx L i) := by
  rw [nxs_drop L hi] at hf
  rcases hx : nx L i with ⟨p, e⟩
  rw [hx] at hf
  exact ⟨fun h => by rw [hf, Rul.fst_no _ h], fun h => by rw [hf, Rul.fst_yes _ h]⟩
/-- The three ends of a round. -/
theorem round_bad {L : List Ru} {i : Nat} (hi : i < L.length) (hf : Rul.fst (nxs L) = Rul.fst ((nxs L).drop i)) (h : (chk (ga L i)).2 ≠ 0) : Rul.fst (nxs L) = (at_ i ++ (chk (ga L i)).1, (chk (ga L i)).2) := by
  have e := nx_bad h
  have := (step_at hi hf).2 (by rw [e]; exact h)
  rw [this, e, pre_at]
theorem round_twice {L : List Ru} {i k : Nat} (hi : i < L.length) (hf : Rul.fst (nxs L) = Rul.fst ((nxs L).drop i)) (h : (chk (ga L i)).2 = 0) (hk : k < i) (he : (ga L k).id = (ga L i).id) : Rul.fst (nxs L) = (at_ i ++ ⟨#[47, 105, 100]⟩, 11) := by
  have e := nx_twice h (tw_yes hi hk he)
  have := (step_at hi hf).2 (by rw [e]; exact (by decide : (11 : Int) ≠ 0))
  rw [this, e]; rfl
theorem round_ok {L : List Ru} {i : Nat} (hi : i < L.length) (hf : Rul.fst (nxs L) = Rul.fst ((nxs L).drop i)) (h : (chk (ga L i)).2 = 0) (hn : ∀ k, k < i → (ga L k).id ≠ (ga L i).id) : Rul.fst (nxs L) = Rul.fst ((nxs L).drop (i + 1)) := by
  have e := nx_ok h ((tw_iff hi).2 hn)
  exact (step_at hi hf).1 (by rw [e])
theorem sck_many {L : List Ru} (h : 4096 < L.length) : sck L = (⟨#[]⟩, 12) := by unfold sck; rw [if_pos h]
theorem sck_few {L : List Ru} (h : ¬ 4096 < L.length) : sck L = Rul.fst (nxs L) := by unfold sck; rw [if_neg h]

set_option maxHeartbeats 8000000 in
set_option maxRecDepth 100000 in
theorem rcheck_any (L : List Ru) (v : Value) (w : World) (hr : Row w v L) (hl : L.length ≤ 9223372036854775807) (hs : ∀ r ∈ L, r.id.size ≤ 140737488355328 ∧ r.no.size ≤ 140737488355328 ∧ r.ro.size ≤ 140737488355328) (hP : Pw w) :
    Calls Tryz.prog 57 #[v] w fun e w' => e = .returned (.tuple #[.string (sck L).1, .int .i64 (sck L).2]) ∧ Below w.heap.size w w' := by
  obtain ⟨a, cap, rfl, -, hc⟩ := hr.open_
  by_cases hm : 4096 < L.length
  · rw [sck_many hm]
    clear hc hr
    go_enter Tryz.func57, Tryz.ntmps57
    go_wp2_with fail
    go_ret2
    exact ⟨rfl, Below.refl _ _⟩
  rw [sck_few hm]
  have HC := Lib.hid hc
  have HPW := Lib.hid hP
  have HI := Lib.hid fun (i : Nat) (h : i < L.length) W (hW : Pw W) => itoa_at (i : Int) (by omega) (by omega) W hW
  have HZ := Lib.hid fun (i : Nat) (h : i < L.length) => itoa_size i (by omega)
  have HK := Lib.hid fun (i : Nat) (h : i < L.length) W => Rul.rchk_any (ga L i) W (hs _ (ga_mem h)).1 (hs _ (ga_mem h)).2.1 (hs _ (ga_mem h)).2.2
  have HKS := Lib.hid fun (i : Nat) => chk_size (ga L i)
  have HRB := Lib.hid fun i => @round_bad L i
  have HRT := Lib.hid fun i k => @round_twice L i k
  have HRO := Lib.hid fun i => @round_ok L i
  have HEN := nxs_len L
  have HEN := Lib.hid HEN
  clear hc hr hs hP
  go_enter Tryz.func57, Tryz.ntmps57
  go_wp2_with fail
  go_loopw [14] (fun i wr => ∃ m : Nat, i = .int .i64 (m : Int) ∧ m ≤ L.length ∧ Hid (Below w.heap.size w wr) ∧ Hid (Rul.fst (nxs L) = Rul.fst ((nxs L).drop m))) (fun i _ => L.length - (RowKit.intOf i).toNat)
  case atStart => exact ⟨0, rfl, Nat.zero_le _, Lib.hid (Below.refl _ _), Lib.hid rfl⟩
  case round =>
    obtain ⟨m, rfl, hk, HB, HF⟩ := hrel
    by_cases hlt : m < L.length
    · obtain ⟨b, off, rfl, hcl⟩ := HC.out m hlt
      rw [rga_ga] at hcl
      have HCM := Lib.hid hcl
      have c0 : w.cell? ⟨b, off + m * 13, none⟩ = some (.string (ga L m).id) := hcl 0 _ rfl
      have HI2 := Lib.hid (HI.out m hlt)
      have HZ2 := HZ.out m hlt
      have HK2 := Lib.hid (HK.out m hlt)
      have HKS2 := HKS.out m
      have HRB2 := Lib.hid (HRB.out m hlt HF.out)
      have HRT2 := Lib.hid fun k => HRT.out m k hlt HF.out
      have HRO2 := Lib.hid (HRO.out m hlt HF.out)
      have hat : (⟨#[47]⟩ : ByteArray) ++ ⟨(Lib.itoa (m : Int)).toArray⟩ = at_ m := rfl
      have hats : (at_ m).size ≤ 22 := by rw [← hat, ByteArray.size_append]; show 1 + _ ≤ 22; omega
      clear hcl
      generalize (⟨(Lib.itoa (m : Int)).toArray⟩ : ByteArray) = it at *
      generalize at_ m = A at *
      obtain ⟨X, hX⟩ : ∃ X, ga L m = X := ⟨_, rfl⟩
      rw [hX] at HCM HK2 HKS2 HRB2 HRT2 HRO2 c0
      have HX := Lib.hid hX
      clear hX
      generalize chk X = c at *
      obtain ⟨p, E⟩ := c
      dsimp only at HKS2 HRB2 HRT2 HRO2 HK2
      by_cases hE : E = 0
      · subst hE
        go_wp2_with (first
          | (refine Rul.wpList_take _ rfl _ rfl b (off + m * 13) X rfl (Rul.rangeAt_next HCM.out B1.out) ?_)
          | (go_at_call 35; (with_reducible refine (HI2.out _ (HPW.out.next HB.out)).mono ?_); rintro e w1 ⟨rfl, hb1⟩; have B1 := Lib.hid (HB.out.trans (hb1.mono HB.out.size)); clear hb1)
          | (go_at_call 95; (with_reducible refine (HK2.out _).mono ?_); rintro e w2 ⟨rfl, hb2⟩; have B2 := Lib.hid (B1.out.trans (hb2.mono B1.out.size)); clear hb2))
        go_loopw [35] (fun i wr => ∃ k : Nat, i = .int .i64 (k : Int) ∧ k ≤ m ∧ Hid (Below w.heap.size w wr) ∧ Hid (∀ j, j < k → (ga L j).id ≠ X.id)) (fun i _ => m - (RowKit.intOf i).toNat)
        case atStart => exact ⟨0, rfl, Nat.zero_le _, B2, Lib.hid fun j hj => absurd hj (Nat.not_lt_zero _)⟩
        case round =>
          obtain ⟨k, rfl, hkm, HBQ, HA⟩ := hrel
          by_cases hlk : k < m
          · obtain ⟨b', off', hab, hck⟩ := HC.out k (by omega)
            injection hab with hab
            injection hab with e1 e2
            subst e1 e2
            rw [rga_ga] at hck
            have d0 : wr.cell? ⟨b, off + k * 13, none⟩ = some (.string (ga L k).id) := (HBQ.out.cell (Rul.lt_of_cell (hck 0 _ rfl))).trans (hck 0 _ rfl)
            have d1 : wr.cell? ⟨b, off + m * 13, none⟩ = some (.string X.id) := (HBQ.out.cell (Rul.lt_of_cell c0)).trans c0
            clear hck
            have HRT3 := Lib.hid fun h => HRT2.out k (by first | rfl | trivial) hlk h
            have HX3 := Lib.hid fun (h : (ga L k).id ≠ X.id) j (hj : j < k + 1) => by
              by_cases q : j < k
              · exact HA.out j q
              · obtain rfl : j = k := by omega
                exact h
            generalize (ga L k).id = y at *
            generalize X.id = x at *
            by_cases hz : y = x
            · have E := Lib.hid (HRT3.out hz)
              have hq : (y.toList == x.toList) = true := by rw [hz]; exact beq_self_eq_true _
              clear hz
              go_wp2_with fail
              go_region
              go_wp2_with fail
              go_ret2
              rw [E.out]
              exact ⟨rfl, HBQ.out.drew⟩
            · have HX4 := Lib.hid (HX3.out hz)
              have hq : (y.toList == x.toList) = false := Rul.str_ne hz
              clear hz
              go_wp2_with fail
              go_region
              go_wp2_with fail
              go_roundw
              case rel => exact ⟨k + 1, by go_num, by omega, Lib.hid HBQ.out.drew, HX4⟩
              case measure => simp [RowKit.intOf]; omega
          · obtain rfl : k = m := by omega
            have HF2 := Lib.hid (HRO2.out (by first | rfl | trivial) fun j hj => HA.out j hj)
            go_wp2_with fail
            go_roundw
            case rel => exact ⟨k + 1, by go_num, by omega, HBQ, HF2⟩
            case measure => simp [RowKit.intOf]; omega
      · have HZZ := Lib.hid (HRB2.out hE)
        have b1 : (E != 0) = true := by simpa using hE
        clear hE
        go_wp2_with (first
          | (refine Rul.wpList_take _ rfl _ rfl b (off + m * 13) X rfl (Rul.rangeAt_next HCM.out B1.out) ?_)
          | (go_at_call 35; (with_reducible refine (HI2.out _ (HPW.out.next HB.out)).mono ?_); rintro e w1 ⟨rfl, hb1⟩; have B1 := Lib.hid (HB.out.trans (hb1.mono HB.out.size)); clear hb1)
          | (go_at_call 95; (with_reducible refine (HK2.out _).mono ?_); rintro e w2 ⟨rfl, hb2⟩; have B2 := Lib.hid (B1.out.trans (hb2.mono B1.out.size)); clear hb2))
        go_ret2
        rw [HZZ.out]
        exact ⟨rfl, B2.out⟩
    · obtain rfl : m = L.length := by omega
      have HN := HF.out
      rw [List.drop_of_length_le (by rw [HEN.out]; exact Nat.le_refl _)] at HN
      go_wp2_with fail
      go_ret2
      rw [HN]
      exact ⟨rfl, HB.out⟩
end Go.Proofs.YtehkiojohldlgaaGreatDoor.Thr

namespace Go.Proofs.YtehkiojohldlgaaGreatDoor.Thr
open Go.RowKit Go.Lib
open Go.Proofs.YtehkiojohldlgaaGreatDoor.Rul (Ru zero Row Own ruC ruL rga chk can cn)
open Go.Proofs.YtehkiojohldlgaaGreatDoor.Ren (Pw)

/-- The first m of them, in their canonical form, by rising ids. -/
def fm (L : List Ru) (m : Nat) : List Ru := ((L.take m).map can).foldl (fun l r => ins r l) []
theorem fm_zero (L : List Ru) : fm L 0 = [] := rfl
theorem fm_next {L : List Ru} {m : Nat} (h : m < L.length) : fm L (m + 1) = ins (can (ga L m)) (fm L m) := by
  unfold fm
  rw [List.take_add_one, List.getElem?_eq_getElem h, Option.toList_some, List.map_append, List.foldl_append, ga_at h]
  rfl
theorem fm_all (L : List Ru) : fm L L.length = srt (L.map can) := by unfold fm srt; rw [List.take_length]
theorem fm_len (L : List Ru) {m : Nat} (h : m ≤ L.length) : (fm L m).length = m := by
  have := (fold_perm ((L.take m).map can) []).length_eq
  unfold fm
  rw [this, List.append_nil, List.length_map, List.length_take]
  omega
/-- Texts of at most 2^47 bytes. -/
def Mod (L : List Ru) : Prop := ∀ r ∈ L, r.id.size ≤ 140737488355328 ∧ r.no.size ≤ 140737488355328 ∧ r.ro.size ≤ 140737488355328

set_option maxHeartbeats 8000000 in
set_option maxRecDepth 100000 in
theorem rcanon_any (L : List Ru) (v : Value) (w : World) (hr : Row w v L) (hl : L.length ≤ 9223372036854775807) (hs : Mod L) (hP : Pw w) :
    Calls Tryz.prog 29 #[v] w fun e w' => ∃ v', e = .returned (.tuple #[v', .string (sck L).1, .int .i64 (sck L).2]) ∧ Row w' v' (scn L) ∧ Below w.heap.size w w' := by
  have HCH := Lib.hid (rcheck_any L v w hr hl hs hP)
  have HR := Lib.hid hr
  obtain ⟨a, cap, rfl, -, hc⟩ := hr.open_
  by_cases hz : (sck L).2 = 0
  · have hrs := (sck_zero L).1 hz
    have h4096 := hrs.len
    rw [scn_ok hrs]
    rw [sck_ok hrs] at HCH ⊢
    have HC := Lib.hid hc
    have HCN := Lib.hid fun (i : Nat) (h : i < L.length) W => (show Calls Tryz.prog 58 #[.agg (ruC (ga L i))] W fun e w' => e = .returned (.tuple #[.agg (ruC (can (ga L i))), .string ⟨#[]⟩, .int .i64 0]) ∧ Below W.heap.size W w' by
      have := Rul.rcanon_any (ga L i) W (hs _ (ga_mem h)).1 (hs _ (ga_mem h)).2.1 (hs _ (ga_mem h)).2.2
      have hk := Rul.chk_ok (hrs.rt _ (ga_mem h))
      rw [Rul.cn_ok (by rw [hk]), hk] at this
      exact this)
    have HFN := Lib.hid fun m => @fm_next L m
    have HFA := Lib.hid (fm_all L)
    have HFL := Lib.hid fun m => @fm_len L m
    have HF0 := Lib.hid (fm_zero L)
    have HWI := Lib.hid fun M u r W (h : Row W u M) (k : M.length ≤ 1000000) => rwith_any M u r W h k
    clear hc hr hs hP hz hrs
    go_enter Tryz.func29, Tryz.ntmps29
    go_wp2_with (go_at_call 57; (with_reducible refine HCH.out.mono ?_); rintro e w1 ⟨rfl, hb1⟩; have B1 := Lib.hid hb1; clear hb1)
    go_loopw [23, 7] (fun i u wr => ∃ m : Nat, i = .int .i64 (m : Int) ∧ m ≤ L.length ∧ Hid (Below w.heap.size w wr) ∧ Hid (Row wr u (fm L m))) (fun i _ _ => L.length - (RowKit.intOf i).toNat)
    case atStart => exact ⟨0, rfl, Nat.zero_le _, B1, Lib.hid (Rul.Row.nil _)⟩
    case round =>
      obtain ⟨m, rfl, hk, HB, HF⟩ := hrel
      by_cases hlt : m < L.length
      · obtain ⟨b, off, rfl, hcl⟩ := HC.out m hlt
        rw [rga_ga] at hcl
        have HCM := Lib.hid hcl
        have HN2 := Lib.hid (HCN.out m hlt)
        have HFN2 := Lib.hid (HFN.out m hlt)
        have HL2 := Lib.hid (HFL.out m hk)
        clear hcl
        generalize ga L m = X at *
        generalize can X = c at *
        obtain ⟨id, no, ro, pr, ki, ra, pe, bu, co, mx, fa, wa, pb⟩ := c
        have HWX := Lib.hid fun u W (h : Row W u (fm L m)) => HWI.out _ u ⟨id, no, ro, pr, ki, ra, pe, bu, co, mx, fa, wa, pb⟩ W h (by rw [HL2.out]; omega)
        rw [show ruC ⟨id, no, ro, pr, ki, ra, pe, bu, co, mx, fa, wa, pb⟩ = #[.string id, .string no, .string ro, .int .i64 pr, .int .i64 ki, .int .i64 ra, .int .i64 pe, .int .i64 bu, .int .i64 co, .int .i64 mx, .int .i64 fa, .int .i64 wa, .int .i64 pb] from rfl] at HN2 HWX
        go_wp2_with (first
          | (refine Rul.wpList_take _ rfl _ rfl b (off + m * 13) X rfl (Rul.rangeAt_next HCM.out HB.out) ?_)
          | (go_at_call 58; (with_reducible refine (HN2.out _).mono ?_); rintro e w2 ⟨rfl, hb2⟩; have HF1 := Lib.hid ((HF.out.next hb2).next ((Below.refl w2.heap.size w2).alloc (Nat.le_refl _) (.cells #[.string id, .string no, .string ro, .int .i64 pr, .int .i64 ki, .int .i64 ra, .int .i64 pe, .int .i64 bu, .int .i64 co, .int .i64 mx, .int .i64 fa, .int .i64 wa, .int .i64 pb] 49))); have B2 := Lib.hid (HB.out.trans (hb2.mono HB.out.size)); clear hb2)
          | (go_at_call 59; (with_reducible refine (HWX.out _ _ HF1.out).mono ?_); rintro e w3 ⟨v3, rfl, ho3, hb3⟩))
        go_roundw
        case rel => exact ⟨m + 1, by go_num, by omega, Lib.hid ((B2.out.alloc B2.out.size _).trans (hb3.mono (by have := B2.out.size; simp; omega))), Lib.hid (by rw [HFN2.out]; exact ho3.row)⟩
        case measure => simp [RowKit.intOf]; omega
      · obtain rfl : m = L.length := by omega
        go_wp2_with fail
        go_ret3
        have hrow := HF.out
        rw [HFA.out] at hrow
        exact ⟨_, rfl, hrow, HB.out⟩
  · rw [scn_no hz]
    have b1 : ((sck L).2 != 0) = true := by simpa using hz
    clear hc hr hs hP hz
    generalize sck L = x at *
    obtain ⟨p, E⟩ := x
    dsimp only at b1 HCH ⊢
    go_enter Tryz.func29, Tryz.ntmps29
    go_wp2_with (go_at_call 57; (with_reducible refine HCH.out.mono ?_); rintro e w1 ⟨rfl, hb1⟩; have B1 := Lib.hid hb1; clear hb1)
    go_ret3
    exact ⟨_, rfl, Rul.Row.nil _, B1.out⟩

end Go.Proofs.YtehkiojohldlgaaGreatDoor.Thr
