/- Texts of my own, packed: JsnA. Conditions: as each theorem states. -/
import Derived.Test.YtehkiojohldlgaaGreatDoorK08
import Derived.Test.YtehkiojohldlgaaGreatDoorK13
import Derived.Test.YtehkiojohldlgaaGreatDoorK22
namespace Go.Proofs.YtehkiojohldlgaaGreatDoor.Jsn
open Go.RowKit Go.Lib
open Go.Proofs.YtehkiojohldlgaaGreatDoor.Tre (Vt V0 find OkT OkT_iff InV InV_iff InV_next InV_five InS_one Box box_new wpList_keep wpList_fetch wpList_take)

theorem tx_none' {v : Vt} {s : ByteArray} (h : find v s = none) : tx v s = (⟨#[]⟩, 16) := by unfold tx; rw [h]
theorem tx_some {v x : Vt} {s : ByteArray} (h : find v s = some x) : tx v s = if x.k = 3 then (x.s, 0) else (⟨#[]⟩, 15) := by unfold tx; rw [h]
theorem nu_none' {v : Vt} {s : ByteArray} (h : find v s = none) : nu v s = (0, 16) := by unfold nu; rw [h]
theorem nu_some {v x : Vt} {s : ByteArray} (h : find v s = some x) : nu v s = if x.k = 2 then (x.n, 0) else (0, 15) := by unfold nu; rw [h]

set_option maxHeartbeats 4000000 in
set_option maxRecDepth 100000 in
theorem rtext_any (v : Vt) (hv : OkT v) (s : ByteArray) (cs : List Value) (w : World) (h : InV w v cs) :
    Calls Tryz.prog 17 #[.agg cs.toArray, .string s] w fun e w' => e = .returned (.tuple #[.string (tx v s).1, .int .i64 (tx v s).2]) ∧ Below w.heap.size w w' := by
  have HF := Lib.hid fun cs W (h : InV W v cs) => Tre.rfind v hv s cs W h
  obtain ⟨a, cap, c4, rfl, hit, hr⟩ := (InV_iff w v cs).1 h
  obtain ⟨a2, cap2, rfl, -⟩ := hr.open_
  have HI := Lib.hid fun W (hb : Below w.heap.size w W) => InV_next hb v _ h
  have hA := Lib.hid fun o => (Below.refl w.heap.size w).alloc (Nat.le_refl _) o
  have HN := Lib.hid (@tx_none' v s)
  have HS := Lib.hid fun x => @tx_some v x s
  generalize tx v s = y at *
  generalize find v s = f at *
  generalize v.k = vk at *
  generalize v.n = vn at *
  generalize v.s = vs at *
  generalize v.l.length = vl at *
  generalize v.ns.length = vm at *
  clear h hit hr hv
  cases f with
  | none =>
    obtain rfl := HN.out rfl
    go_enter Tryz.func17, Tryz.ntmps17
    go_wp2_with (first
      | (refine wpList_fetch _ rfl _ rfl _ _ rfl (box_new _ _) rfl ?_)
      | (go_at_call 40; (with_reducible refine (HF.out _ _ (HI.out _ (hA.out _))).mono ?_); rintro e w1 ⟨ds, rfl, hi1, hb1⟩; have e1 := Lib.hid (InS_one hi1); obtain ⟨a', cap', c4', rfl, -, hr'⟩ := (InV_iff _ _ _).1 hi1; obtain ⟨a2', cap2', rfl, -⟩ := hr'.open_; have B1 := Lib.hid ((hA.out _).trans (hb1.mono (by simp))); clear hi1 hb1 hr')
      | (refine wpList_keep _ rfl _ _ rfl w.heap.size w (B1.out.alloc B1.out.size _) _ B1.out.size _ _ rfl rfl (box_new _ _) rfl rfl (by simpa using e1.out) ?_; intro w2 hk2 hb2 ho2 hs2; clear hs2))
    go_ret2
    exact ⟨rfl, hb2⟩
  | some x =>
    have hy := HS.out x rfl
    by_cases hk : x.k = 3
    · rw [if_pos hk] at hy
      subst hy
      have heq : (x.k != 3) = false := by simp [hk]
      clear hk HS HN
      go_enter Tryz.func17, Tryz.ntmps17
      go_wp2_with (first
        | (refine wpList_fetch _ rfl _ rfl _ _ rfl (box_new _ _) rfl ?_)
        | (go_at_call 40; (with_reducible refine (HF.out _ _ (HI.out _ (hA.out _))).mono ?_); rintro e w1 ⟨ds, rfl, hi1, hb1⟩; have e1 := Lib.hid (InS_one hi1); obtain ⟨a', cap', c4', rfl, -, hr'⟩ := (InV_iff _ _ _).1 hi1; obtain ⟨a2', cap2', rfl, -⟩ := hr'.open_; have B1 := Lib.hid ((hA.out _).trans (hb1.mono (by simp))); clear hi1 hb1 hr')
        | (refine wpList_keep _ rfl _ _ rfl w.heap.size w (B1.out.alloc B1.out.size _) _ B1.out.size _ _ rfl rfl (box_new _ _) rfl rfl (by simpa using e1.out) ?_; intro w2 hk2 hb2 ho2 hs2; have c0 : w2.cell? ⟨w1.heap.size, 0, none⟩ = some (.int .i64 x.k) := hk2.cell 0
           have c2 : w2.cell? ⟨w1.heap.size, 2, none⟩ = some (.string x.s) := hk2.cell 2
           clear hs2))
      go_ret2
      exact ⟨rfl, hb2⟩
    · rw [if_neg hk] at hy
      subst hy
      have hne : (x.k != 3) = true := by simpa using hk
      go_enter Tryz.func17, Tryz.ntmps17
      go_wp2_with (first
        | (refine wpList_fetch _ rfl _ rfl _ _ rfl (box_new _ _) rfl ?_)
        | (go_at_call 40; (with_reducible refine (HF.out _ _ (HI.out _ (hA.out _))).mono ?_); rintro e w1 ⟨ds, rfl, hi1, hb1⟩; have e1 := Lib.hid (InS_one hi1); obtain ⟨a', cap', c4', rfl, -, hr'⟩ := (InV_iff _ _ _).1 hi1; obtain ⟨a2', cap2', rfl, -⟩ := hr'.open_; have B1 := Lib.hid ((hA.out _).trans (hb1.mono (by simp))); clear hi1 hb1 hr')
        | (refine wpList_keep _ rfl _ _ rfl w.heap.size w (B1.out.alloc B1.out.size _) _ B1.out.size _ _ rfl rfl (box_new _ _) rfl rfl (by simpa using e1.out) ?_; intro w2 hk2 hb2 ho2 hs2; have c0 : w2.cell? ⟨w1.heap.size, 0, none⟩ = some (.int .i64 x.k) := hk2.cell 0; clear hs2))
      go_ret2
      exact ⟨rfl, hb2⟩
set_option maxHeartbeats 4000000 in
set_option maxRecDepth 100000 in
theorem rnumber_any (v : Vt) (hv : OkT v) (s : ByteArray) (cs : List Value) (w : World) (h : InV w v cs) :
    Calls Tryz.prog 19 #[.agg cs.toArray, .string s] w fun e w' => e = .returned (.tuple #[.int .i64 (nu v s).1, .int .i64 (nu v s).2]) ∧ Below w.heap.size w w' := by
  have HF := Lib.hid fun cs W (h : InV W v cs) => Tre.rfind v hv s cs W h
  obtain ⟨a, cap, c4, rfl, hit, hr⟩ := (InV_iff w v cs).1 h
  obtain ⟨a2, cap2, rfl, -⟩ := hr.open_
  have HI := Lib.hid fun W (hb : Below w.heap.size w W) => InV_next hb v _ h
  have hA := Lib.hid fun o => (Below.refl w.heap.size w).alloc (Nat.le_refl _) o
  have HN := Lib.hid (@nu_none' v s)
  have HS := Lib.hid fun x => @nu_some v x s
  generalize nu v s = y at *
  generalize find v s = f at *
  generalize v.k = vk at *
  generalize v.n = vn at *
  generalize v.s = vs at *
  generalize v.l.length = vl at *
  generalize v.ns.length = vm at *
  clear h hit hr hv
  cases f with
  | none =>
    obtain rfl := HN.out rfl
    go_enter Tryz.func19, Tryz.ntmps19
    go_wp2_with (first
      | (refine wpList_fetch _ rfl _ rfl _ _ rfl (box_new _ _) rfl ?_)
      | (go_at_call 40; (with_reducible refine (HF.out _ _ (HI.out _ (hA.out _))).mono ?_); rintro e w1 ⟨ds, rfl, hi1, hb1⟩; have e1 := Lib.hid (InS_one hi1); obtain ⟨a', cap', c4', rfl, -, hr'⟩ := (InV_iff _ _ _).1 hi1; obtain ⟨a2', cap2', rfl, -⟩ := hr'.open_; have B1 := Lib.hid ((hA.out _).trans (hb1.mono (by simp))); clear hi1 hb1 hr')
      | (refine wpList_keep _ rfl _ _ rfl w.heap.size w (B1.out.alloc B1.out.size _) _ B1.out.size _ _ rfl rfl (box_new _ _) rfl rfl (by simpa using e1.out) ?_; intro w2 hk2 hb2 ho2 hs2; clear hs2))
    go_ret2
    exact ⟨rfl, hb2⟩
  | some x =>
    have hy := HS.out x rfl
    by_cases hk : x.k = 2
    · rw [if_pos hk] at hy
      subst hy
      have heq : (x.k != 2) = false := by simp [hk]
      clear hk HS HN
      go_enter Tryz.func19, Tryz.ntmps19
      go_wp2_with (first
        | (refine wpList_fetch _ rfl _ rfl _ _ rfl (box_new _ _) rfl ?_)
        | (go_at_call 40; (with_reducible refine (HF.out _ _ (HI.out _ (hA.out _))).mono ?_); rintro e w1 ⟨ds, rfl, hi1, hb1⟩; have e1 := Lib.hid (InS_one hi1); obtain ⟨a', cap', c4', rfl, -, hr'⟩ := (InV_iff _ _ _).1 hi1; obtain ⟨a2', cap2', rfl, -⟩ := hr'.open_; have B1 := Lib.hid ((hA.out _).trans (hb1.mono (by simp))); clear hi1 hb1 hr')
        | (refine wpList_keep _ rfl _ _ rfl w.heap.size w (B1.out.alloc B1.out.size _) _ B1.out.size _ _ rfl rfl (box_new _ _) rfl rfl (by simpa using e1.out) ?_; intro w2 hk2 hb2 ho2 hs2; have c0 : w2.cell? ⟨w1.heap.size, 0, none⟩ = some (.int .i64 x.k) := hk2.cell 0
           have c2 : w2.cell? ⟨w1.heap.size, 1, none⟩ = some (.int .i64 x.n) := hk2.cell 1
           clear hs2))
      go_ret2
      exact ⟨rfl, hb2⟩
    · rw [if_neg hk] at hy
      subst hy
      have hne : (x.k != 2) = true := by simpa using hk
      go_enter Tryz.func19, Tryz.ntmps19
      go_wp2_with (first
        | (refine wpList_fetch _ rfl _ rfl _ _ rfl (box_new _ _) rfl ?_)
        | (go_at_call 40; (with_reducible refine (HF.out _ _ (HI.out _ (hA.out _))).mono ?_); rintro e w1 ⟨ds, rfl, hi1, hb1⟩; have e1 := Lib.hid (InS_one hi1); obtain ⟨a', cap', c4', rfl, -, hr'⟩ := (InV_iff _ _ _).1 hi1; obtain ⟨a2', cap2', rfl, -⟩ := hr'.open_; have B1 := Lib.hid ((hA.out _).trans (hb1.mono (by simp))); clear hi1 hb1 hr')
        | (refine wpList_keep _ rfl _ _ rfl w.heap.size w (B1.out.alloc B1.out.size _) _ B1.out.size _ _ rfl rfl (box_new _ _) rfl rfl (by simpa using e1.out) ?_; intro w2 hk2 hb2 ho2 hs2; have c0 : w2.cell? ⟨w1.heap.size, 0, none⟩ = some (.int .i64 x.k) := hk2.cell 0; clear hs2))
      go_ret2
      exact ⟨rfl, hb2⟩

/-! ### Known -/
theorem isin_step (names : List ByteArray) (s : ByteArray) {k : Nat} (h : k < names.length) : (isin (names.take k) s || decide (names.getD k ⟨#[]⟩ = s)) = isin (names.take (k + 1)) s := by
  unfold isin
  rw [List.take_add_one, List.getElem?_eq_getElem h, Option.toList_some, List.any_append, List.getD_eq_getElem?_getD, List.getElem?_eq_getElem h]
  simp
theorem unk_step (ns names : List ByteArray) {i : Nat} (h : i < ns.length) (hi : isin names (ns.getD i ⟨#[]⟩) = true) (hu : unk ns names = unk (ns.drop i) names) : unk ns names = unk (ns.drop (i + 1)) names := by
  rw [hu, List.drop_eq_getElem_cons h]
  unfold unk
  rw [List.getD_eq_getElem?_getD, List.getElem?_eq_getElem h] at hi
  rw [List.find?_cons_of_neg (by rw [show isin names ns[i] = true from hi]; decide)]
theorem unk_stop (ns names : List ByteArray) {i : Nat} (h : i < ns.length) (hi : isin names (ns.getD i ⟨#[]⟩) = false) (hu : unk ns names = unk (ns.drop i) names) : unk ns names = some (ns.getD i ⟨#[]⟩) := by
  rw [hu, List.drop_eq_getElem_cons h]
  unfold unk
  rw [List.getD_eq_getElem?_getD, List.getElem?_eq_getElem h] at hi
  rw [List.find?_cons_of_pos (by rw [show isin names ns[i] = false from hi]; decide), List.getD_eq_getElem?_getD, List.getElem?_eq_getElem h]; rfl
theorem unk_end (ns names : List ByteArray) (hu : unk ns names = unk (ns.drop ns.length) names) : unk ns names = none := by rw [hu, List.drop_length]; rfl
set_option maxHeartbeats 4000000 in
set_option maxRecDepth 100000 in
theorem rknown_any (v : Vt) (cs : List Value) (names : List ByteArray) (nv : Value) (w : World) (h : InV w v cs) (hn : Strs.Row w nv names) (hl : v.ns.length ≤ 9223372036854775807) (hm : names.length ≤ 9223372036854775807) :
    Calls Tryz.prog 21 #[.agg cs.toArray, nv] w fun e w' => e = .returned (.tuple #[.string ((unk v.ns names).getD ⟨#[]⟩), .bool (unk v.ns names).isNone]) ∧ Below w.heap.size w w' := by
  obtain ⟨a, cap, c4, rfl, hit, hr⟩ := (InV_iff w v cs).1 h
  obtain ⟨a2, cap2, rfl, hs⟩ := hr.open_
  obtain ⟨a3, cap3, rfl, hs3⟩ := hn.open_
  have HS := Lib.hid hs
  have HM := Lib.hid hs3
  have hA := Lib.hid fun o => (Below.refl w.heap.size w).alloc (Nat.le_refl _) o
  have X0 := Lib.hid (box_new w #[.int .i64 v.k, .int .i64 v.n, .string v.s, .slice a v.l.length cap, .slice a2 v.ns.length cap2])
  have HST := Lib.hid fun i => @unk_step v.ns names i
  have HSP := Lib.hid fun i => @unk_stop v.ns names i
  have HEN := Lib.hid (unk_end v.ns names)
  have HIS := Lib.hid fun s k => @isin_step names s k
  generalize v.k = vk at *
  generalize v.n = vn at *
  generalize v.s = vs at *
  generalize v.l.length = vl at *
  generalize v.ns = ns at *
  clear h hit hr hn hs hs3
  go_enter Tryz.func21, Tryz.ntmps21
  go_wp2_with fail
  have HB0 := Lib.hid (hA.out (.cells #[.int .i64 vk, .int .i64 vn, .string vs, .slice a vl cap, .slice a2 ns.length cap2] 26))
  generalize w.alloc (.cells #[.int .i64 vk, .int .i64 vn, .string vs, .slice a vl cap, .slice a2 ns.length cap2] 26) = w0 at *
  go_loopw [12] (fun i wr => ∃ k : Nat, i = .int .i64 (k : Int) ∧ k ≤ ns.length ∧ Hid (Below w0.heap.size w0 wr) ∧ Hid (unk ns names = unk (ns.drop k) names)) (fun i _ => ns.length - (RowKit.intOf i).toNat)
  case atStart => exact ⟨0, rfl, Nat.zero_le _, Lib.hid (Below.refl _ _), Lib.hid rfl⟩
  case round =>
    obtain ⟨k, rfl, hk, HB, HU⟩ := hrel
    have X1 := Lib.hid (X0.out.next HB.out X0.out.lt)
    have HW := Lib.hid (HB0.out.trans (HB.out.mono HB0.out.size))
    by_cases hlt : k < ns.length
    · obtain ⟨b2, o2, rfl, hc2⟩ := HS.out k hlt
      have HST2 := Lib.hid fun hi => HST.out k hlt hi HU.out
      have HSP2 := Lib.hid fun hi => HSP.out k hlt hi HU.out
      have hc2' := Lib.hid hc2
      clear hc2
      generalize ns.getD k ⟨#[]⟩ = s at *
      have HIS2 := Lib.hid fun j => HIS.out s j
      go_wp2_with fail
      go_loopw [17, 7] (fun i u wr' => ∃ j : Nat, i = .int .i64 (j : Int) ∧ j ≤ names.length ∧ u = .bool (isin (names.take j) s) ∧ Hid (Below wr.heap.size wr wr')) (fun i _ _ => names.length - (RowKit.intOf i).toNat)
      case atStart => exact ⟨0, rfl, Nat.zero_le _, rfl, Lib.hid (Below.refl _ _)⟩
      case round =>
        obtain ⟨j, rfl, hj, rfl, HB2⟩ := hrel
        have HW2 := Lib.hid (HW.out.trans (HB2.out.mono HW.out.size))
        have k4 : wr.cell? ⟨w.heap.size, 4, none⟩ = some (.slice (some ⟨b2, o2, none⟩) ns.length cap2) := (X1.out.next HB2.out X1.out.lt).cell 4
        by_cases hlj : j < names.length
        · obtain ⟨b3, o3, rfl, hc3⟩ := HM.out j hlj
          have c3 := (HW2.out.cell (Strs.cell_lt hc3)).trans hc3
          have c2 := (HW2.out.cell (Strs.cell_lt hc2'.out)).trans hc2'.out
          have HIS3 := Lib.hid (HIS2.out j hlj)
          clear hc3
          generalize names.getD j ⟨#[]⟩ = z at *
          cases hb : isin (names.take j) s with
          | true =>
            rw [hb] at HIS3
            have e := HIS3.out
            clear hb HIS3
            rw [Bool.true_or] at e
            replace e := Lib.hid e
            go_wp2_with fail
            go_region
            go_wp2_with fail
            go_roundw
            case rel => exact ⟨j + 1, by go_num, by omega, by rw [← e.out], Lib.hid HB2.out.drew⟩
            case measure => simp [RowKit.intOf]; omega
          | false =>
            rw [hb] at HIS3
            have e := HIS3.out
            clear hb HIS3
            rw [Bool.false_or] at e
            by_cases hz : z = s
            · subst hz
              have q1 : (z.toList == z.toList) = true := beq_self_eq_true _
              rw [decide_eq_true rfl] at e
              replace e := Lib.hid e
              go_wp2_with fail
              go_region
              go_wp2_with fail
              go_roundw
              case rel => exact ⟨j + 1, by go_num, by omega, by rw [← e.out], Lib.hid HB2.out.drew⟩
              case measure => simp [RowKit.intOf]; omega
            · have q1 : (z.toList == s.toList) = false := Byt.str_neq hz
              rw [decide_eq_false hz] at e
              replace e := Lib.hid e
              clear hz
              go_wp2_with fail
              go_region
              go_wp2_with fail
              go_roundw
              case rel => exact ⟨j + 1, by go_num, by omega, by rw [← e.out], Lib.hid HB2.out.drew⟩
              case measure => simp [RowKit.intOf]; omega
        · obtain rfl : j = names.length := by omega
          rw [List.take_length]
          have c2 := (HW2.out.cell (Strs.cell_lt hc2'.out)).trans hc2'.out
          have HB3 := Lib.hid (HB.out.trans (HB2.out.mono HB.out.size))
          clear hlj HIS2
          cases hb : isin names s with
          | true =>
            have e := Lib.hid (HST2.out hb)
            clear hb
            go_wp2_with fail
            go_roundw
            case rel => exact ⟨k + 1, by go_num, by omega, HB3, e⟩
            case measure => simp [RowKit.intOf]; omega
          | false =>
            have e := Lib.hid (HSP2.out hb)
            clear hb
            go_wp2_with fail
            go_ret2
            rw [e.out]
            exact ⟨rfl, HW2.out⟩
    · obtain rfl : k = ns.length := by omega
      have e := Lib.hid (HEN.out HU.out)
      go_wp2_with fail
      go_ret2
      rw [e.out]
      exact ⟨rfl, HW.out⟩
end Go.Proofs.YtehkiojohldlgaaGreatDoor.Jsn
