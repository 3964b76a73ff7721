/- Contracts of the document's names, within, Right. Conditions: as each theorem states. -/
import Derived.Test.YtbpofhlnnldceaaGreatDoorTreG3
import Derived.Test.YtbpofhlnnldceaaGreatDoorTreG1
import Derived.Test.YtbpofhlnnldceaaGreatDoorUtfG1
namespace Go.Proofs.YtbpofhlnnldceaaGreatDoor.Tre
open Go.RowKit Go.Lib Go.Proofs.YtbpofhlnnldceaaGreatDoor.Byt Go.Proofs.YtbpofhlnnldceaaGreatDoor.Utf

set_option maxHeartbeats 4000000 in
set_option maxRecDepth 100000 in
theorem rnames_any (ns : List ByteArray) (c : Value) (w : World) (hr : Strs.Row w c ns) (hl : ns.length * 16 ≤ 140737488351232) (hm : ∀ m ∈ ns, m.size ≤ 140737488351232) :
    Calls Tryz.prog 24 #[c] w fun e w' => e = .returned (.bool (nmB ns)) ∧ Below w.heap.size w w' := by
  obtain ⟨a, cap, rfl, hc⟩ := hr.open_
  have HC := Lib.hid hc
  have HM := Lib.hid hm
  clear hc hr hm
  have hmx : ns.length ≤ 9223372036854775807 := by omega
  go_enter Tryz.func24, Tryz.ntmps24
  go_wp2_with fail
  go_loopw [7] (fun x wr => ∃ i : Nat, x = .int .i64 (i : Int) ∧ i ≤ ns.length ∧ Below w.heap.size w wr ∧ Hid (nmB (ns.take i) = true))
    (fun x _ => ns.length - (RowKit.intOf x).toNat)
  case atStart => exact ⟨0, by go_num, by omega, Below.refl _ _, Lib.hid (by rw [List.take_zero]; rfl)⟩
  case round =>
    obtain ⟨i, rfl, hi, hb, hz⟩ := hrel
    have hsz := hb.size
    by_cases hlt : i < ns.length
    · obtain ⟨b, off, rfl, hcell⟩ := HC.out i hlt
      have hcell2 := (hb.cell (Strs.cell_lt hcell)).trans hcell
      have hst := nm_next ns i hlt
      rw [hz.out, Bool.true_and] at hst
      have hsm := HM.out _ (ns_mem hlt)
      obtain ⟨s, hs⟩ : ∃ s, s = ns.getD i ⟨#[]⟩ := ⟨_, rfl⟩
      rw [← hs] at hst hsm hcell2
      have HS := Lib.hid hs
      have HB := Lib.hid fun W => rbad_any s W (by omega)
      have HST := Lib.hid hst
      clear hs hst hcell
      cases ht : textB s with
      | false =>
        have hz0 : decide (0 ≤ bI (badL s.data.toList)) = true := by
          unfold textB at ht
          rw [decide_eq_false_iff_not] at ht
          cases hq : badL s.data.toList with
          | none => exact absurd hq ht
          | some k => exact decide_eq_true (by show (0 : Int) ≤ (k : Int); omega)
        generalize bI (badL s.data.toList) = z at *
        have HF := Lib.hid (nm_whole ns (i + 1) (by rw [HST.out, ht]; rfl))
        clear ht
        go_wp2_with (go_at_call 23; (with_reducible refine (HB.out _).mono ?_); rintro e w2 ⟨rfl, rfl⟩)
        go_ret
        exact ⟨by rw [HF.out]; rfl, hb⟩
      | true =>
        have hz0 : decide (0 ≤ bI (badL s.data.toList)) = false := by
          unfold textB at ht
          rw [decide_eq_true_eq] at ht
          rw [ht]; rfl
        generalize bI (badL s.data.toList) = z at *
        have HT := Lib.hid ht
        clear ht
        have HB1 := Lib.hid hb
        have HCC := Lib.hid hcell2
        clear hb
        go_wp2_with (go_at_call 23; (with_reducible refine (HB.out _).mono ?_); rintro e w2 ⟨rfl, rfl⟩)
        clear hcell2
        go_loopw [17] (fun x wr2 => ∃ k : Nat, x = .int .i64 (k : Int) ∧ k ≤ i ∧ Below wr.heap.size wr wr2 ∧ Hid (hasB (ns.take k) s = false))
          (fun x _ => i - (RowKit.intOf x).toNat)
        case atStart => exact ⟨0, by go_num, by omega, Below.refl _ _, Lib.hid (by rw [List.take_zero]; rfl)⟩
        case round =>
          obtain ⟨k, rfl, hk, hb2, hq⟩ := hrel
          have f1 := (hb2.cell (Strs.cell_lt HCC.out)).trans HCC.out
          by_cases hki : k < i
          · obtain ⟨b', off', eb, hck⟩ := HC.out k (by omega)
            injection eb with eb
            injection eb with eb1 eb2
            subst eb1 eb2
            have hck1 := (HB1.out.cell (Strs.cell_lt hck)).trans hck
            have f0 := (hb2.cell (Strs.cell_lt hck1)).trans hck1
            have hnx := take_next ns k (by omega)
            obtain ⟨t, htt⟩ : ∃ t, t = ns.getD k ⟨#[]⟩ := ⟨_, rfl⟩
            rw [← htt] at f0 hnx
            have hmt : hasB (ns.take (k + 1)) s = (hasB (ns.take k) s || decide (t = s)) := by rw [hnx, hasB_app]
            rw [hq.out, Bool.false_or] at hmt
            have HMT := Lib.hid hmt
            clear hck hck1 hnx htt hmt
            by_cases hts : t = s
            · have e1 : (t.toList == s.toList) = true := by rw [beq_iff_eq, hts]
              have HF : Hid (nmB ns = false) := by
                refine Lib.hid (nm_whole ns (i + 1) ?_)
                rw [HST.out]
                have : hasB (ns.take i) s = true := by
                  have h1 : hasB (ns.take (k + 1)) s = true := by rw [HMT.out]; exact decide_eq_true hts
                  unfold hasB at h1 ⊢
                  rw [List.any_eq_true] at h1 ⊢
                  obtain ⟨x, hx, hx2⟩ := h1
                  exact ⟨x, (List.take_subset_take_left ns (show k + 1 ≤ i by omega)) hx, hx2⟩
                rw [this]; simp
              clear hts
              go_wp2_with fail
              go_region
              all_goals
                go_wp2_with fail
                go_ret
                exact ⟨by rw [HF.out]; rfl, HB1.out.trans ((hb2.drew).mono HB1.out.size)⟩
            · have e1 : (t.toList == s.toList) = false := Byt.str_neq hts
              have HN := Lib.hid (show hasB (ns.take (k + 1)) s = false by rw [HMT.out]; exact decide_eq_false hts)
              clear hts
              go_wp2_with fail
              go_region
              all_goals
                go_wp2_with fail
                go_roundw
                case rel => exact ⟨k + 1, by go_num, by omega, hb2.drew, HN⟩
                case measure => simp [RowKit.intOf]; omega
          · obtain rfl : k = i := by omega
            go_wp2_with fail
            go_roundw
            case rel => exact ⟨k + 1, by go_num, by omega, HB1.out.trans (hb2.mono HB1.out.size), Lib.hid (by rw [HST.out, HT.out, hq.out]; rfl)⟩
            case measure => simp [RowKit.intOf]; omega
    · obtain rfl : i = ns.length := by omega
      have hzz := hz.out
      rw [List.take_length] at hzz
      have HZZ := Lib.hid hzz
      clear hz hzz
      go_wp2_with fail
      go_ret
      exact ⟨by rw [HZZ.out]; rfl, hb⟩

theorem gt0 (n : Nat) : decide ((0 : Int) < (n : Int)) = !((n : Int) == 0) := by
  rw [Bool.eq_iff_iff]
  simp only [decide_eq_true_eq, Bool.not_eq_true', beq_eq_false_iff_ne]
  omega
theorem lt0 (s : ByteArray) : decide (bI (badL s.data.toList) < 0) = textB s := by
  unfold textB
  cases badL s.data.toList with
  | none => rfl
  | some k => show decide ((k : Int) < 0) = decide (some k = none); rw [decide_eq_false (show ¬ ((k : Int) < 0) by omega), decide_eq_false (by simp)]
theorem hdF_m (k : Int) (bz b1 bs bi bn tx eq nm : Bool) (h : k = 4 ∨ k = 5) : hdF k bz b1 bs bi bn tx eq nm = (bz && bs && (if k = 4 then bn else eq && nm)) := by
  rcases h with rfl | rfl
  · simp only [hdF]; cases bz <;> cases bs <;> cases bn <;> rfl
  · simp only [hdF]; cases bz <;> cases bs <;> cases eq <;> cases nm <;> rfl

set_option maxHeartbeats 8000000 in
set_option maxRecDepth 100000 in
theorem rwithin_leaf (v : Vt) (m : Int) (cs : List Value) (w : World) (h : InV w v cs) (hv : okV v) (hk : ¬ (v.k = 4 ∨ v.k = 5)) :
    Calls Tryz.prog 14 #[.agg cs.toArray, .int .i64 m] w fun e w' => e = .returned (.bool (wi v m)) ∧ Below w.heap.size w w' := by
  have hC : wi v m = hdB v.k v.n v.s v.l v.ns 1 := by
    rw [wi_parts, hd_m, decide_eq_false hk]
    cases hq : hdB v.k v.n v.s v.l v.ns 1 with
    | false => rfl
    | true => rw [hd_leaf hq hk]; rfl
  rw [hC, hdF_is]
  clear hC
  have HSC := Lib.hid fun (W : World) (hb : Below w.heap.size w W) => rscalar_any v cs W (InV_next hb v cs h)
  have HTX := Lib.hid fun (W : World) => rbad_any v.s W (by have := hv.2.2.1; omega)
  have htx := lt0 v.s
  have hsc : scal v.l v.ns = (((v.l.length : Int) == 0) && ((v.ns.length : Int) == 0)) := by
    unfold scal
    rw [Bool.eq_iff_iff]
    simp only [Bool.and_eq_true, List.isEmpty_iff_length_eq_zero, beq_iff_eq]
    omega
  rw [hsc] at HSC
  obtain ⟨a, cap, c4, rfl, _, hr⟩ := (InV_iff w v cs).1 h
  obtain ⟨a2, cap2, rfl, _⟩ := hr.open_
  clear h hr hv hsc
  generalize bI (badL v.s.data.toList) = z at *
  generalize nmB v.ns = nm at *
  generalize textB v.s = tx at *
  generalize v.l.length = ll at *
  generalize v.ns.length = nl at *
  generalize v.k = k at *
  generalize v.n = n at *
  generalize v.s = s at *
  generalize h1 : (n == 0) = bz
  generalize h2 : (n == 1) = b1
  generalize h3 : (s.toList == []) = bs
  generalize ((ll : Int) == 0) = bi at *
  generalize ((nl : Int) == 0) = bn at *
  generalize ((nl : Int) == (ll : Int)) = eq at *
  generalize hbb : (bi && bn) = bb at *
  have B0 := Lib.hid fun o : Obj => (Below.refl w.heap.size w).alloc (Nat.le_refl _) o
  by_cases k0 : k = 0
  · subst k0
    clear hk
    cases bz <;> cases bs
    all_goals
      go_enter Tryz.func14, Tryz.ntmps14
      go_wp2_with (first
        | (refine wpList_fetch_g _ (by rfl) _ rfl w.heap.size _ rfl (box_new _ _) rfl ?_)
        | (go_at_call 23; (with_reducible refine (HTX.out _).mono ?_); rintro e w1 ⟨rfl, rfl⟩)
        | (go_at_call 22; (with_reducible refine (HSC.out _ (B0.out _)).mono ?_); rintro e w2 ⟨rfl, hb2⟩))
      go_ret
      first
        | exact ⟨by simp [hdF, hbb], B0.out _⟩
        | exact ⟨by simp [hdF, hbb], (box_after hb2).2⟩
  by_cases k1 : k = 1
  · subst k1
    clear hk
    cases bz <;> cases b1 <;> cases bs
    all_goals
      go_enter Tryz.func14, Tryz.ntmps14
      go_wp2_with (first
        | (refine wpList_fetch_g _ (by rfl) _ rfl w.heap.size _ rfl (box_new _ _) rfl ?_)
        | (go_at_call 23; (with_reducible refine (HTX.out _).mono ?_); rintro e w1 ⟨rfl, rfl⟩)
        | (go_at_call 22; (with_reducible refine (HSC.out _ (B0.out _)).mono ?_); rintro e w2 ⟨rfl, hb2⟩))
      go_ret
      first
        | exact ⟨by simp [hdF, hbb], B0.out _⟩
        | exact ⟨by simp [hdF, hbb], (box_after hb2).2⟩
  by_cases k2 : k = 2
  · subst k2
    clear hk
    cases bs
    all_goals
      go_enter Tryz.func14, Tryz.ntmps14
      go_wp2_with (first
        | (refine wpList_fetch_g _ (by rfl) _ rfl w.heap.size _ rfl (box_new _ _) rfl ?_)
        | (go_at_call 23; (with_reducible refine (HTX.out _).mono ?_); rintro e w1 ⟨rfl, rfl⟩)
        | (go_at_call 22; (with_reducible refine (HSC.out _ (B0.out _)).mono ?_); rintro e w2 ⟨rfl, hb2⟩))
      go_ret
      first
        | exact ⟨by simp [hdF, hbb], B0.out _⟩
        | exact ⟨by simp [hdF, hbb], (box_after hb2).2⟩
  by_cases k3 : k = 3
  · subst k3
    clear hk
    cases bz <;> cases tx
    all_goals
      go_enter Tryz.func14, Tryz.ntmps14
      go_wp2_with (first
        | (refine wpList_fetch_g _ (by rfl) _ rfl w.heap.size _ rfl (box_new _ _) rfl ?_)
        | (go_at_call 23; (with_reducible refine (HTX.out _).mono ?_); rintro e w1 ⟨rfl, rfl⟩)
        | (go_at_call 22; (with_reducible refine (HSC.out _ (B0.out _)).mono ?_); rintro e w2 ⟨rfl, hb2⟩))
      go_ret
      first
        | exact ⟨by simp [hdF, hbb], B0.out _⟩
        | exact ⟨by simp [hdF, hbb], (box_after hb2).2⟩
  have f0 : (k == 0) = false := beq_eq_false_iff_ne.2 k0
  have f1 : (k == 1) = false := beq_eq_false_iff_ne.2 k1
  have f2 : (k == 2) = false := beq_eq_false_iff_ne.2 k2
  have f3 : (k == 3) = false := beq_eq_false_iff_ne.2 k3
  have k4 : ¬ k = 4 := fun q => hk (.inl q)
  have k5 : ¬ k = 5 := fun q => hk (.inr q)
  have f4 : (k == 4) = false := beq_eq_false_iff_ne.2 k4
  have f5 : (k == 5) = false := beq_eq_false_iff_ne.2 k5
  rw [show hdF k bz b1 bs bi bn tx eq nm = false by unfold hdF; rw [if_neg k0, if_neg k1, if_neg k2, if_neg k3, if_neg k4, if_neg k5]]
  clear k0 k1 k2 k3 k4 k5 hk
  go_enter Tryz.func14, Tryz.ntmps14
  go_wp2_with fail
  go_ret
  exact ⟨rfl, B0.out _⟩

set_option maxHeartbeats 8000000 in
set_option maxRecDepth 100000 in
theorem rwithin_node (v : Vt) (m : Int) (hm : 0 ≤ m ∧ m ≤ 64) (cs : List Value) (w : World) (h : InV w v cs) (hv : okV v) (hk : v.k = 4 ∨ v.k = 5)
    (ih : ∀ x ∈ v.l, ∀ m : Int, 0 ≤ m ∧ m ≤ 64 → ∀ cs w, InV w x cs → Calls Tryz.prog 14 #[.agg cs.toArray, .int .i64 m] w fun e w' => e = .returned (.bool (wi x m)) ∧ Below w.heap.size w w') :
    Calls Tryz.prog 14 #[.agg cs.toArray, .int .i64 m] w fun e w' => e = .returned (.bool (wi v m)) ∧ Below w.heap.size w w' := by
  have hC : wi v m = (hdB v.k v.n v.s v.l v.ns 1 && decide (1 ≤ m) && wiL v.l (m - 1)) := by
    rw [wi_parts, hd_m, decide_eq_true hk]; rfl
  rw [hdF_is, hdF_m _ _ _ _ _ _ _ _ _ hk] at hC
  obtain ⟨a, cap, c4, rfl, hit, hr⟩ := (InV_iff w v cs).1 h
  have HNM := Lib.hid fun (W : World) (hb : Below w.heap.size w W) => rnames_any v.ns c4 W (hr.next hb) hv.2.2.2.2.1 hv.2.2.2.2.2
  have HIT := Lib.hid hit
  have HIH := Lib.hid ih
  obtain ⟨a2, cap2, rfl, _⟩ := hr.open_
  have hmx : v.l.length ≤ 9223372036854775807 := by have := hv.2.2.2.1; omega
  clear h hr hv hit ih
  have hgt := gt0 v.ns.length
  have hne : ((v.ns.length : Int) != (v.l.length : Int)) = !((v.ns.length : Int) == (v.l.length : Int)) := rfl
  have hnz : ((v.n : Int) != 0) = !(v.n == 0) := rfl
  generalize nmB v.ns = nm at *
  generalize v.ns.length = nl at *
  generalize wi v m = C at *
  generalize v.l = l at *
  generalize v.k = k at *
  generalize v.n = n at *
  generalize v.s = s at *
  generalize h1 : (n == 0) = bz at *
  generalize h3 : (s.toList == []) = bs at *
  generalize h5 : ((nl : Int) == 0) = bn at *
  generalize h6 : ((nl : Int) == (l.length : Int)) = eq at *
  have B0 := Lib.hid fun o : Obj => (Below.refl w.heap.size w).alloc (Nat.le_refl _) o
  rcases hk with rfl | rfl
  · rw [if_pos rfl] at hC
    clear HNM hne h6
    cases bn
    case false =>
      have hg2 : decide ((0 : Int) < (nl : Int)) = true := hgt
      have hg3 : 0 < nl := by have := of_decide_eq_true hg2; omega
      have : C = false := by rw [hC]; simp
      subst this
      clear hC HIT HIH hgt
      go_enter Tryz.func14, Tryz.ntmps14
      go_wp2_with fail
      go_ret
      exact ⟨rfl, B0.out _⟩
    have hg2 : decide ((0 : Int) < (nl : Int)) = false := hgt
    have hg3 : ¬ 0 < nl := by have := of_decide_eq_false hg2; omega
    clear hgt
    cases bz
    case false =>
      have hn2 : ((n : Int) != 0) = true := hnz
      have : C = false := by rw [hC]; simp
      subst this
      clear hC HIT HIH hnz
      go_enter Tryz.func14, Tryz.ntmps14
      go_wp2_with fail
      go_ret
      exact ⟨rfl, B0.out _⟩
    have hn2 : ((n : Int) != 0) = false := hnz
    clear hnz
    cases bs
    case false =>
      have : C = false := by rw [hC]; simp
      subst this
      clear hC HIT HIH
      go_enter Tryz.func14, Tryz.ntmps14
      go_wp2_with fail
      go_ret
      exact ⟨rfl, B0.out _⟩
    by_cases hm1 : m < 1
    · have hm2 : decide (m < 1) = true := decide_eq_true hm1
      have : C = false := by rw [hC, decide_eq_false (show ¬ (1 ≤ m) by omega)]; simp
      subst this
      clear hC HIT HIH hm1
      go_enter Tryz.func14, Tryz.ntmps14
      go_wp2_with fail
      go_ret
      exact ⟨rfl, B0.out _⟩
    · have hm2 : decide (m < 1) = false := decide_eq_false hm1
      have HC := Lib.hid (show C = wiL l (m - 1) by rw [hC, decide_eq_true (show 1 ≤ m by omega)]; simp)
      clear hC
      go_enter Tryz.func14, Tryz.ntmps14
      go_wp2_with fail
      skip
      go_loopw [101] (fun x wr => ∃ i : Nat, x = .int .i64 (i : Int) ∧ i ≤ l.length ∧ Box wr w.heap.size #[.int .i64 4, .int .i64 n, .string s, .slice a l.length cap, .slice a2 nl cap2] ∧ Below w.heap.size w wr ∧ Hid (∀ j, j < i → wi (l.getD j V0) (m - 1) = true))
        (fun x _ => l.length - (RowKit.intOf x).toNat)
      case atStart => exact ⟨0, by go_num, by omega, box_new _ _, B0.out _, Lib.hid fun j hj => absurd hj (Nat.not_lt_zero _)⟩
      case round =>
        obtain ⟨i, rfl, hi, bx, hb, hzz⟩ := hrel
        have hsz := hb.size
        have bl := bx.lt
        by_cases hlt : i < l.length
        · obtain ⟨b, off, rfl, ds, hrg, hin⟩ := HIT.out i hlt
          have x3 : wr.cell? ⟨w.heap.size, 3, none⟩ = some (.slice (some ⟨b, off, none⟩) l.length cap) := bx.cell 3
          have hrg2 := range_next hrg hb
          rw [Nat.mul_comm 5 i] at hrg2
          have hin2 := InV_next hb _ ds hin
          have HX := Lib.hid (HIH.out _ (mem_get hlt) (m - 1) (by omega) ds wr hin2)
          have h5 := InV_five hin
          have hstep : wi (l.getD i V0) (m - 1) = true → ∀ j, j < i + 1 → wi (l.getD j V0) (m - 1) = true := by
            intro q j hj
            by_cases hji : j < i
            · exact hzz.out j hji
            · obtain rfl : j = i := by omega
              exact q
          have HST := Lib.hid hstep
          have HSP := Lib.hid (wiL_stop (m := m - 1) hlt)
          clear hstep hin hin2 hrg HIT HIH hzz
          cases hs : wi (l.getD i V0) (m - 1)
          all_goals
            rw [hs] at HX
            have HS := Lib.hid hs
            clear hs
            go_wp2_with (first
              | (refine wpList_take _ rfl _ rfl b (off + i * 5) ds rfl hrg2 h5 ?_)
              | (go_at_call 14; (with_reducible refine HX.out.mono ?_); rintro e w3 ⟨rfl, hb3⟩))
          · go_ret
            exact ⟨by rw [HC.out, HSP.out HS.out]; rfl, hb.trans (hb3.mono hsz)⟩
          · go_roundw
            case rel => exact ⟨i + 1, by go_num, by omega, bx.next hb3 bl, hb.trans (hb3.mono hsz), Lib.hid (HST.out HS.out)⟩
            case measure => simp [RowKit.intOf]; omega
        · obtain rfl : i = l.length := by omega
          have HZZ := Lib.hid ((wiL_at l (m - 1)).2 hzz.out)
          clear hzz
          go_wp2_with fail
          go_ret
          exact ⟨by rw [HC.out, HZZ.out]; rfl, hb⟩
  · rw [if_neg (by decide)] at hC
    clear h5 hgt
    cases eq
    case false =>
      have hne2 : ((nl : Int) != (l.length : Int)) = true := hne
      have : C = false := by rw [hC]; simp
      subst this
      clear hC HNM HIT HIH hne
      go_enter Tryz.func14, Tryz.ntmps14
      go_wp2_with fail
      go_ret
      exact ⟨rfl, B0.out _⟩
    have hne2 : ((nl : Int) != (l.length : Int)) = false := hne
    clear hne
    cases nm
    case false =>
      have : C = false := by rw [hC]; simp
      subst this
      clear hC HIT HIH
      go_enter Tryz.func14, Tryz.ntmps14
      go_wp2_with (go_at_call 24; (with_reducible refine (HNM.out _ (B0.out _)).mono ?_); rintro e w2 ⟨rfl, hb2⟩; have bx2 : Box w2 w.heap.size #[.int .i64 5, .int .i64 n, .string s, .slice a l.length cap, .slice a2 nl cap2] := (box_after hb2).1; have hw2 := (box_after hb2).2; have y1 : w2.cell? ⟨w.heap.size, 1, none⟩ = some (.int .i64 n) := bx2.cell 1; have y2 : w2.cell? ⟨w.heap.size, 2, none⟩ = some (.string s) := bx2.cell 2; have y3 : w2.cell? ⟨w.heap.size, 3, none⟩ = some (.slice a l.length cap) := bx2.cell 3)
      go_ret
      exact ⟨rfl, hw2⟩
    cases bz
    case false =>
      have hn2 : ((n : Int) != 0) = true := hnz
      have : C = false := by rw [hC]; simp
      subst this
      clear hC HIT HIH hnz
      go_enter Tryz.func14, Tryz.ntmps14
      go_wp2_with (go_at_call 24; (with_reducible refine (HNM.out _ (B0.out _)).mono ?_); rintro e w2 ⟨rfl, hb2⟩; have bx2 : Box w2 w.heap.size #[.int .i64 5, .int .i64 n, .string s, .slice a l.length cap, .slice a2 nl cap2] := (box_after hb2).1; have hw2 := (box_after hb2).2; have y1 : w2.cell? ⟨w.heap.size, 1, none⟩ = some (.int .i64 n) := bx2.cell 1; have y2 : w2.cell? ⟨w.heap.size, 2, none⟩ = some (.string s) := bx2.cell 2; have y3 : w2.cell? ⟨w.heap.size, 3, none⟩ = some (.slice a l.length cap) := bx2.cell 3)
      go_ret
      exact ⟨rfl, hw2⟩
    have hn2 : ((n : Int) != 0) = false := hnz
    clear hnz
    cases bs
    case false =>
      have : C = false := by rw [hC]; simp
      subst this
      clear hC HIT HIH
      go_enter Tryz.func14, Tryz.ntmps14
      go_wp2_with (go_at_call 24; (with_reducible refine (HNM.out _ (B0.out _)).mono ?_); rintro e w2 ⟨rfl, hb2⟩; have bx2 : Box w2 w.heap.size #[.int .i64 5, .int .i64 n, .string s, .slice a l.length cap, .slice a2 nl cap2] := (box_after hb2).1; have hw2 := (box_after hb2).2; have y1 : w2.cell? ⟨w.heap.size, 1, none⟩ = some (.int .i64 n) := bx2.cell 1; have y2 : w2.cell? ⟨w.heap.size, 2, none⟩ = some (.string s) := bx2.cell 2; have y3 : w2.cell? ⟨w.heap.size, 3, none⟩ = some (.slice a l.length cap) := bx2.cell 3)
      go_ret
      exact ⟨rfl, hw2⟩
    by_cases hm1 : m < 1
    · have hm2 : decide (m < 1) = true := decide_eq_true hm1
      have : C = false := by rw [hC, decide_eq_false (show ¬ (1 ≤ m) by omega)]; simp
      subst this
      clear hC HIT HIH hm1
      go_enter Tryz.func14, Tryz.ntmps14
      go_wp2_with (go_at_call 24; (with_reducible refine (HNM.out _ (B0.out _)).mono ?_); rintro e w2 ⟨rfl, hb2⟩; have bx2 : Box w2 w.heap.size #[.int .i64 5, .int .i64 n, .string s, .slice a l.length cap, .slice a2 nl cap2] := (box_after hb2).1; have hw2 := (box_after hb2).2; have y1 : w2.cell? ⟨w.heap.size, 1, none⟩ = some (.int .i64 n) := bx2.cell 1; have y2 : w2.cell? ⟨w.heap.size, 2, none⟩ = some (.string s) := bx2.cell 2; have y3 : w2.cell? ⟨w.heap.size, 3, none⟩ = some (.slice a l.length cap) := bx2.cell 3)
      go_ret
      exact ⟨rfl, hw2⟩
    · have hm2 : decide (m < 1) = false := decide_eq_false hm1
      have HC := Lib.hid (show C = wiL l (m - 1) by rw [hC, decide_eq_true (show 1 ≤ m by omega)]; simp)
      clear hC
      go_enter Tryz.func14, Tryz.ntmps14
      go_wp2_with (go_at_call 24; (with_reducible refine (HNM.out _ (B0.out _)).mono ?_); rintro e w2 ⟨rfl, hb2⟩; have bx2 : Box w2 w.heap.size #[.int .i64 5, .int .i64 n, .string s, .slice a l.length cap, .slice a2 nl cap2] := (box_after hb2).1; have hw2 := (box_after hb2).2; have y1 : w2.cell? ⟨w.heap.size, 1, none⟩ = some (.int .i64 n) := bx2.cell 1; have y2 : w2.cell? ⟨w.heap.size, 2, none⟩ = some (.string s) := bx2.cell 2; have y3 : w2.cell? ⟨w.heap.size, 3, none⟩ = some (.slice a l.length cap) := bx2.cell 3)
      clear y1 y2 y3
      go_loopw [101] (fun x wr => ∃ i : Nat, x = .int .i64 (i : Int) ∧ i ≤ l.length ∧ Box wr w.heap.size #[.int .i64 5, .int .i64 n, .string s, .slice a l.length cap, .slice a2 nl cap2] ∧ Below w.heap.size w wr ∧ Hid (∀ j, j < i → wi (l.getD j V0) (m - 1) = true))
        (fun x _ => l.length - (RowKit.intOf x).toNat)
      case atStart => exact ⟨0, by go_num, by omega, bx2, hw2, Lib.hid fun j hj => absurd hj (Nat.not_lt_zero _)⟩
      case round =>
        obtain ⟨i, rfl, hi, bx, hb, hzz⟩ := hrel
        have hsz := hb.size
        have bl := bx.lt
        by_cases hlt : i < l.length
        · obtain ⟨b, off, rfl, ds, hrg, hin⟩ := HIT.out i hlt
          have x3 : wr.cell? ⟨w.heap.size, 3, none⟩ = some (.slice (some ⟨b, off, none⟩) l.length cap) := bx.cell 3
          have hrg2 := range_next hrg hb
          rw [Nat.mul_comm 5 i] at hrg2
          have hin2 := InV_next hb _ ds hin
          have HX := Lib.hid (HIH.out _ (mem_get hlt) (m - 1) (by omega) ds wr hin2)
          have h5 := InV_five hin
          have hstep : wi (l.getD i V0) (m - 1) = true → ∀ j, j < i + 1 → wi (l.getD j V0) (m - 1) = true := by
            intro q j hj
            by_cases hji : j < i
            · exact hzz.out j hji
            · obtain rfl : j = i := by omega
              exact q
          have HST := Lib.hid hstep
          have HSP := Lib.hid (wiL_stop (m := m - 1) hlt)
          clear hstep hin hin2 hrg HIT HIH hzz
          cases hs : wi (l.getD i V0) (m - 1)
          all_goals
            rw [hs] at HX
            have HS := Lib.hid hs
            clear hs
            go_wp2_with (first
              | (refine wpList_take _ rfl _ rfl b (off + i * 5) ds rfl hrg2 h5 ?_)
              | (go_at_call 14; (with_reducible refine HX.out.mono ?_); rintro e w3 ⟨rfl, hb3⟩))
          · go_ret
            exact ⟨by rw [HC.out, HSP.out HS.out]; rfl, hb.trans (hb3.mono hsz)⟩
          · go_roundw
            case rel => exact ⟨i + 1, by go_num, by omega, bx.next hb3 bl, hb.trans (hb3.mono hsz), Lib.hid (HST.out HS.out)⟩
            case measure => simp [RowKit.intOf]; omega
        · obtain rfl : i = l.length := by omega
          have HZZ := Lib.hid ((wiL_at l (m - 1)).2 hzz.out)
          clear hzz
          go_wp2_with fail
          go_ret
          exact ⟨by rw [HC.out, HZZ.out]; rfl, hb⟩
theorem rwithin (v : Vt) (hv : OkT v) : ∀ (m : Int), 0 ≤ m ∧ m ≤ 64 → ∀ (cs : List Value) (w : World), InV w v cs → Calls Tryz.prog 14 #[.agg cs.toArray, .int .i64 m] w fun e w' => e = .returned (.bool (wi v m)) ∧ Below w.heap.size w w' := by
  revert hv
  refine vt_ind (p := fun v => OkT v → ∀ (m : Int), 0 ≤ m ∧ m ≤ 64 → ∀ (cs : List Value) (w : World), InV w v cs → Calls Tryz.prog 14 #[.agg cs.toArray, .int .i64 m] w fun e w' => e = .returned (.bool (wi v m)) ∧ Below w.heap.size w w') ?_ v
  intro v ih hv m hm cs w h
  obtain ⟨_, h1, h2⟩ := hv
  by_cases hk : v.k = 4 ∨ v.k = 5
  · exact rwithin_node v m hm cs w h h1 hk fun x hx => ih x hx (h2 x hx)
  · exact rwithin_leaf v m cs w h h1 hk
theorem rright (v : Vt) (hv : OkT v) (cs : List Value) (w : World) (h : InV w v cs) :
    Calls Tryz.prog 6 #[.agg cs.toArray] w fun e w' => e = .returned (.bool (wi v 64)) ∧ Below w.heap.size w w' := by
  have HW := Lib.hid fun (W : World) (hb : Below w.heap.size w W) => rwithin v hv 64 (by omega) cs W (InV_next hb v cs h)
  have B0 := Lib.hid fun o : Obj => (Below.refl w.heap.size w).alloc (Nat.le_refl _) o
  obtain ⟨a, cap, c4, rfl, _⟩ := (InV_iff w v cs).1 h
  clear h hv
  generalize wi v 64 = C at *
  generalize v.l.length = l at *
  generalize v.k = k at *
  generalize v.n = n at *
  generalize v.s = s at *
  go_enter Tryz.func6, Tryz.ntmps6
  go_wp2_with (first
    | (refine wpList_fetch _ rfl _ rfl w.heap.size _ rfl (box_new _ _) rfl ?_)
    | (go_at_call 14; (with_reducible refine (HW.out _ (B0.out _)).mono ?_); rintro e w2 ⟨rfl, hb2⟩))
  go_ret
  exact ⟨rfl, (box_after hb2).2⟩
end Go.Proofs.YtbpofhlnnldceaaGreatDoor.Tre
