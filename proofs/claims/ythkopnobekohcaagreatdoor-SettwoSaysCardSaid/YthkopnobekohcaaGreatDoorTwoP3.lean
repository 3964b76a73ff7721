/- Contract of the document's plain of sets of rules of version 2: a right rule in its canonical form. Conditions: the rule is right. · Contract of the document's Canon of sets of rules of version 2. Conditions: the rules can be read, Mod; the table of powers reads as the library lays it. · Contract of the law's same of sets of rules of version 2: two rules compared. Conditions: the rules can be read. -/
import Derived.Test.YthkopnobekohcaaGreatDoorTwoP2
import Derived.Test.YthkopnobekohcaaGreatDoorTwoP1
import Derived.Laws.StructEq
namespace Go.Proofs.YthkopnobekohcaaGreatDoor.Two
open Go.RowKit Go.Lib
open Go.Proofs.YthkopnobekohcaaGreatDoor.Uni (okT tV nN nU tE_ok)

theorem two_new (w : World) (o1 o2 : Obj) : ((w.alloc o1).alloc o2).heap[w.heap.size + 1]? = some o2 := by
  have := Go.heap_alloc_new (w.alloc o1) o2
  rw [World.size_alloc] at this
  exact this
theorem two_below (w : World) (o1 o2 : Obj) : Below w.heap.size w ((w.alloc o1).alloc o2) := ((Below.refl _ _).alloc (Nat.le_refl _) _).alloc (by simp) _
/-- The call's two variables: the rule that came in, and the result's. -/
structure Bxs (w : World) (cs zs : Array Value) (W : World) : Prop where
  one : Bx W w.heap.size cs
  two : Bx W (w.heap.size + 1) zs
  bel : Below w.heap.size w W
theorem Bxs.new (w : World) (cs zs : Array Value) : Bxs w cs zs ((w.alloc (.cells cs 35)).alloc (.cells zs 35)) :=
  ⟨bx_old (bx_new w cs) _, two_new w _ _, two_below w _ _⟩
theorem Bxs.next {w W W' : World} {cs zs : Array Value} (h : Bxs w cs zs W) (hb : Below W.heap.size W W') : Bxs w cs zs W' :=
  ⟨h.one.next hb h.one.lt, h.two.next hb h.two.lt, h.bel.trans (hb.mono h.bel.size)⟩
theorem Bxs.set {w W : World} {cs zs : Array Value} (h : Bxs w cs zs W) (j : Nat) (v : Value) : Bxs w (cs.setIfInBounds j v) zs (W.setCell ⟨w.heap.size, j, none⟩ v) :=
  ⟨h.one.set j v, (heap_setCell_other W ⟨w.heap.size, j, none⟩ (w.heap.size + 1) v (show w.heap.size + 1 ≠ w.heap.size by omega)).trans h.two, h.bel.setCell (p := ⟨w.heap.size, j, none⟩) (Nat.le_refl _) v⟩

theorem win {n u : Int} (h : okT n u = true) : -9223372036854775808 ≤ n ∧ n ≤ 9223372036854775807 := by
  have := (Uni.okT_iff n u).1 h
  omega
set_option maxHeartbeats 8000000 in
set_option maxRecDepth 100000 in
theorem rplain_any (r : Rw) (w : World) (hr : Rt r) :
    Calls Tryz.prog 28 #[.agg (ruC r)] w fun e w' => e = .returned (.agg (ruC (can r))) ∧ Below w.heap.size w w' := by
  have T0 := Lib.hid (Bxs.new w (ruC r) (ruC zero))
  rcases hr.ki with ⟨hk, hli, hok, hbu⟩ | ⟨hk, hli, h0, h1, h2⟩
  · rw [can_one hk]
    have HT := Lib.hid fun W => (Uni.rticks_any r.wi r.un W (win hok).1 (win hok).2).mono (R' := fun e w' => e = .returned (.tuple #[.int .i64 (tV r.wi r.un), .int .i64 (Uni.tE r.wi r.un 15 2)]) ∧ Below W.heap.size W w') fun e w' h => ⟨h.1, h.2 ▸ Below.refl _ _⟩
    rw [tE_ok hok] at HT
    have HN := Lib.hid fun W => (Uni.rnorm_any (tV r.wi r.un) W).mono (R' := fun e w' => e = .returned (.tuple #[.int .i64 (nN (tV r.wi r.un)), .int .i64 (nU (tV r.wi r.un))]) ∧ Below W.heap.size W w') fun e w' h => ⟨h.1, h.2 ▸ Below.refl _ _⟩
    obtain ⟨id, no, ma, rk, ki, li, wi, un, bu⟩ := r
    dsimp only at hk hli hbu HT HN ⊢
    subst hk
    clear hr hok
    generalize nN (tV wi un) = n' at *
    generalize nU (tV wi un) = u' at *
    generalize tV wi un = tv at *
    rw [show ∀ x : Int, ruC ⟨id, no, ma, rk, 1, li, n', u', x⟩ = #[.string id, .string no, .string ma, .int .i64 rk, .int .i64 1, .int .i64 li, .int .i64 n', .int .i64 u', .int .i64 x] from fun _ => rfl]
    dsimp only [ruC, zero] at T0 ⊢
    by_cases hb : bu = 0
    · subst hb
      rw [if_pos rfl]
      go_enter Tryz.func28, Tryz.ntmps28
      go_wp2_with (first
        | (refine wpList_fetch _ rfl _ rfl _ _ rfl i5.out.one rfl ?_)
        | (refine wpList_keep _ rfl _ _ rfl w.heap.size w i5.out.bel _ (by omega) ⟨id, no, ma, rk, 1, li, n', u', max li 1⟩ _ rfl rfl i5.out.two rfl ?_; intro w4 hk4 hb4 ho4)
        | (go_at_call 44; (with_reducible refine (HT.out _).mono ?_); rintro e w1 ⟨rfl, hb1⟩; have i1 := Lib.hid (T0.out.next hb1))
        | (go_at_call 45; (with_reducible refine (HN.out _).mono ?_); rintro e w2 ⟨rfl, hb2⟩; have i2 := Lib.hid (i1.out.next hb2)
           have i3 := Lib.hid (i2.out.set 6 (.int .i64 n')); have i4 := Lib.hid (i3.out.set 7 (.int .i64 u')); have i5 := Lib.hid (i4.out.set 8 (.int .i64 (max li 1)))
           have k6 : w2.cell? ⟨w.heap.size, 6, none⟩ = some (.int .i64 wi) := i2.out.one.cell 6
           have f6 := i2.out.one.free 6; have f7 := i2.out.one.free 7; have f8 := i2.out.one.free 8
           have k7 : (w2.setCell ⟨w.heap.size, 6, none⟩ (.int .i64 n')).cell? ⟨w.heap.size, 7, none⟩ = some (.int .i64 un) := i3.out.one.cell 7
           have k8 : ((w2.setCell ⟨w.heap.size, 6, none⟩ (.int .i64 n')).setCell ⟨w.heap.size, 7, none⟩ (.int .i64 u')).cell? ⟨w.heap.size, 8, none⟩ = some (.int .i64 0) := i4.out.one.cell 8
           have k5 : ((w2.setCell ⟨w.heap.size, 6, none⟩ (.int .i64 n')).setCell ⟨w.heap.size, 7, none⟩ (.int .i64 u')).cell? ⟨w.heap.size, 5, none⟩ = some (.int .i64 li) := i4.out.one.cell 5))
      refine bodyPost_ret (results_one rfl _ _ _ _ rfl hk4 rfl) rfl ?_
      exact ⟨rfl, hb4⟩
    · rw [if_neg hb]
      have hne : (bu == 0) = false := by simpa using hb
      clear hb
      go_enter Tryz.func28, Tryz.ntmps28
      go_wp2_with (first
        | (refine wpList_fetch _ rfl _ rfl _ _ rfl i4.out.one rfl ?_)
        | (refine wpList_keep _ rfl _ _ rfl w.heap.size w i4.out.bel _ (by omega) ⟨id, no, ma, rk, 1, li, n', u', bu⟩ _ rfl rfl i4.out.two rfl ?_; intro w4 hk4 hb4 ho4)
        | (go_at_call 44; (with_reducible refine (HT.out _).mono ?_); rintro e w1 ⟨rfl, hb1⟩; have i1 := Lib.hid (T0.out.next hb1))
        | (go_at_call 45; (with_reducible refine (HN.out _).mono ?_); rintro e w2 ⟨rfl, hb2⟩; have i2 := Lib.hid (i1.out.next hb2)
           have i3 := Lib.hid (i2.out.set 6 (.int .i64 n')); have i4 := Lib.hid (i3.out.set 7 (.int .i64 u'))
           have k6 : w2.cell? ⟨w.heap.size, 6, none⟩ = some (.int .i64 wi) := i2.out.one.cell 6
           have f6 := i2.out.one.free 6; have f7 := i2.out.one.free 7
           have k7 : (w2.setCell ⟨w.heap.size, 6, none⟩ (.int .i64 n')).cell? ⟨w.heap.size, 7, none⟩ = some (.int .i64 un) := i3.out.one.cell 7
           have k8 : ((w2.setCell ⟨w.heap.size, 6, none⟩ (.int .i64 n')).setCell ⟨w.heap.size, 7, none⟩ (.int .i64 u')).cell? ⟨w.heap.size, 8, none⟩ = some (.int .i64 bu) := i4.out.one.cell 8))
      refine bodyPost_ret (results_one rfl _ _ _ _ rfl hk4 rfl) rfl ?_
      exact ⟨rfl, hb4⟩
  · rw [can_two (by omega)]
    obtain ⟨id, no, ma, rk, ki, li, wi, un, bu⟩ := r
    dsimp only at hk
    subst hk
    clear hr hli h0 h1 h2
    dsimp only [ruC, zero] at T0 ⊢
    go_enter Tryz.func28, Tryz.ntmps28
    go_wp2_with (first
      | (refine wpList_fetch _ rfl _ rfl _ _ rfl T0.out.one rfl ?_)
      | (refine wpList_keep _ rfl _ _ rfl w.heap.size w T0.out.bel _ (by omega) ⟨id, no, ma, rk, 2, li, wi, un, bu⟩ _ rfl rfl T0.out.two rfl ?_; intro w4 hk4 hb4 ho4))
    refine bodyPost_ret (results_one rfl _ _ _ _ rfl hk4 rfl) rfl ?_
    exact ⟨rfl, hb4⟩
end Go.Proofs.YthkopnobekohcaaGreatDoor.Two

namespace Go.Proofs.YthkopnobekohcaaGreatDoor.Two
open Go.RowKit Go.Lib
open Go.Proofs.YthkopnobekohcaaGreatDoor.Ren (Pw)
open Go.Proofs.YthkopnobekohcaaGreatDoor.Ide (lt)

/-- The first m of them, in their canonical form, by rising names. -/
def fm (L : List Rw) (m : Nat) : List Rw := ((L.take m).map can).foldl (fun l r => ins r l) []
theorem fm_zero (L : List Rw) : fm L 0 = [] := rfl
theorem fm_next {L : List Rw} {m : Nat} (h : m < L.length) : fm L (m + 1) = ins (can (ga L m)) (fm L m) := by
  unfold fm
  rw [List.take_add_one, List.getElem?_eq_getElem h, Option.toList_some, List.map_append, List.foldl_append, ga_at h]
  rfl
theorem fm_all (L : List Rw) : fm L L.length = srt (L.map can) := by unfold fm srt; rw [List.take_length]
theorem fm_len (L : List Rw) {m : Nat} (h : m ≤ L.length) : (fm L m).length = m := by
  have := (fold_perm ((L.take m).map can) []).length_eq
  unfold fm
  rw [this, List.append_nil, List.length_map, List.length_take]
  omega
theorem nil_row (w : World) (a : Option Addr) (cap : Nat) : Row w (.slice a 0 cap) [] := .inl ⟨rfl, _, _, rfl⟩
theorem nil_drop (w : World) (a : Option Addr) (c : Nat) (L : List Rw) (k : Nat) (h : L.length ≤ k) : Row w (.slice a 0 c) (L.drop k) := .inl ⟨List.drop_of_length_le h, a, c, rfl⟩

set_option maxHeartbeats 16000000 in
set_option maxRecDepth 100000 in
theorem rcanon_any (L : List Rw) (v : Value) (w : World) (hr : Row w v L) (hl : L.length ≤ 9223372036854775807) (hs : Mod L) (hP : Pw w) :
    Calls Tryz.prog 10 #[v] w fun e w' => ∃ v', e = .returned (.tuple #[v', .string (sck L).1, .int .i64 (sck L).2]) ∧ Row w' v' (scn L) ∧ Below w.heap.size w w' := by
  have HCH := Lib.hid (rcheck_any L v w hr hl hs hP)
  obtain ⟨a, cap, rfl, -, hc⟩ := hr.open_
  by_cases hz : (sck L).2 = 0
  · have hrs := (sck_zero L).1 hz
    have h4096 := hrs.len
    rw [scn_ok hrs]
    rw [sck_ok hrs] at HCH ⊢
    have HC := Lib.hid hc
    have HPL := Lib.hid fun (i : Nat) (h : i < L.length) W => rplain_any (ga L i) W (hrs.rt _ (ga_mem h))
    have HID := Lib.hid fun (i : Nat) (h : i < L.length) => (can_keeps (hrs.rt _ (ga_mem h))).1
    have HFN := Lib.hid fun m => @fm_next L m
    have HFA := Lib.hid (fm_all L)
    have HFL := Lib.hid fun m => @fm_len L m
    clear hc hr hs hP hz hrs
    go_enter Tryz.func10, Tryz.ntmps10
    go_wp2_with (go_at_call 8; (with_reducible refine HCH.out.mono ?_); rintro e w1 ⟨rfl, hb1⟩; have B1 := Lib.hid hb1; clear hb1)
    go_loopw [22, 7] (fun i u wr => ∃ m : Nat, i = .int .i64 (m : Int) ∧ m ≤ L.length ∧ Hid (Below w.heap.size w wr) ∧ Hid (Row wr u (fm L m)) ∧ (m = 0 → u = .slice none 0 0)) (fun i _ _ => L.length - (RowKit.intOf i).toNat)
    case atStart => exact ⟨0, rfl, Nat.zero_le _, B1, Lib.hid (Row.nil _), fun _ => rfl⟩
    case round =>
      obtain ⟨m, rfl, hk, HB, HF, HU⟩ := hrel
      generalize wr = wo at *
      by_cases hlt : m < L.length
      · obtain ⟨b0, off0, rfl, hcl⟩ := HC.out m hlt
        rw [rga_ga] at hcl
        have HCM := Lib.hid (rangeAt_next hcl HB.out)
        have HFN2 := Lib.hid (HFN.out m hlt)
        have hfl := HFL.out m hk
        have HP1 := Lib.hid (HPL.out m hlt)
        have hid1 := HID.out m hlt
        rw [ins_split] at HFN2
        clear hcl
        generalize ga L m = X at *
        generalize can X = C at *
        obtain ⟨id', no', ma', rk', ki', li', wi', un', bu'⟩ := C
        dsimp only at hid1 HFN2
        subst hid1
        rw [show ruC ⟨X.id, no', ma', rk', ki', li', wi', un', bu'⟩ = #[.string X.id, .string no', .string ma', .int .i64 rk', .int .i64 ki', .int .i64 li', .int .i64 wi', .int .i64 un', .int .i64 bu'] from rfl] at HP1
        have hX0 : wo.cell? ⟨b0, off0 + m * 9, none⟩ = some (.string X.id) := HCM.out 0 _ rfl
        obtain ⟨fa, fcap, rfl, hfc, hfr⟩ := HF.out.open_
        have HFC := Lib.hid hfr
        have HF := Lib.hid HF.out
        clear hfr
        generalize hFg : fm L m = F at *
        clear hFg
        have hF4 : F.length ≤ 4096 := by omega
        have HFLn := Lib.hid hfl
        clear hfl
        have HP := Lib.hid fun k => @pl_is F X.id k
        go_wp2_with fail
        go_loopw [9] (fun i wr => ∃ k : Nat, i = .int .i64 (k : Int) ∧ k ≤ F.length ∧ Hid (Below wo.heap.size wo wr) ∧ Hid (∀ j, j < k → lt (ga F j).id X.id = true)) (fun i _ => F.length - (RowKit.intOf i).toNat)
        case atStart => exact ⟨0, rfl, Nat.zero_le _, Lib.hid (Below.refl _ _), Lib.hid fun j hj => absurd hj (Nat.not_lt_zero _)⟩
        case round =>
          obtain ⟨k, rfl, hkF, HB7, HA⟩ := hrel
          have HW7 := HB7
          by_cases hlt2 : k < F.length
          · obtain ⟨b, off, rfl, hcl⟩ := HFC.out k hlt2
            have c0 : wr.cell? ⟨b, off + k * 9, none⟩ = some (.string (ga F k).id) := (HW7.out.cell (lt_of_cell (hcl 0 _ rfl))).trans (hcl 0 _ rfl)
            have r0 : wr.cell? ⟨b0, off0 + m * 9, none⟩ = some (.string X.id) := (HW7.out.cell (lt_of_cell hX0)).trans hX0
            clear hcl
            have HX := Lib.hid fun (h : lt (ga F k).id X.id = true) j (hj : j < k + 1) => by
              by_cases q : j < k
              · exact HA.out j q
              · obtain rfl : j = k := by omega
                exact h
            have HP2 := Lib.hid fun (h : lt (ga F k).id X.id = false) => HP.out k hkF HA.out fun _ => h
            unfold lt at HX HP2
            generalize (ga F k).id = z at *
            cases hq : Op.bytesLess z.toList X.id.toList with
            | true =>
              have HX2 := Lib.hid (HX.out hq)
              go_wp2_with fail
              go_region
              go_wp2_with fail
              go_roundw
              case rel => exact ⟨k + 1, by go_num, by omega, Lib.hid HB7.out.drew, HX2⟩
              case measure => simp [RowKit.intOf]; omega
            | false =>
              have E := Lib.hid (HP2.out hq)
              have HBd := Lib.hid HW7.out.drew
              have HRd := Lib.hid (Row.take (HF.out.next (HW7.out.drew)) k hkF)
              have HL1 := Lib.hid (show ([] : List Rw).length + (F.take k).length ≤ 1000000000 by (try rw [List.length_take]); simp; try omega)
              have HL2 := Lib.hid (show (F.take k).length + [(Rw.mk X.id no' ma' rk' ki' li' wi' un' bu')].length ≤ 1000000000 by (try rw [List.length_take]); show _ + 1 ≤ _; (try simp); try omega)
              have HL3 := Lib.hid (show (F.take k ++ [(Rw.mk X.id no' ma' rk' ki' li' wi' un' bu')]).length + (F.drop k).length ≤ 1000000000 by rw [List.length_append]; (try rw [List.length_take, List.length_drop]); show _ + 1 + _ ≤ _; (try simp); try omega)
              go_wp2_with fail
              go_region
              go_wp2_with (first
                | (refine wpList_push0 _ rfl _ _ rfl wo.heap.size wo (.slice none 0 0) (.slice (some ⟨b, off, none⟩) k fcap) [] (F.take k) rfl rfl (Own.nil _ _) HBd.out (Nat.le_refl _) HRd.out HL1.out ?_; intro v1 w2 own1 hb2 hg2; rw [List.nil_append] at own1; have O1 := Lib.hid own1; have Bq2 := Lib.hid hb2; have HC2 := Lib.hid (rangeAt_next HCM.out hb2); clear own1 hb2 hg2)
                | (refine wpList_take _ rfl _ rfl b0 (off0 + m * 9) X rfl HC2.out ?_)
                | (go_at_call 28; (with_reducible refine (HP1.out _).mono ?_); rintro e w3 ⟨rfl, hb3⟩; have O1b := Lib.hid (O1.out.next hb3); have Bq3 := Lib.hid (Bq2.out.trans (hb3.mono Bq2.out.size)); have O2 := Lib.hid (row_one w3 ⟨X.id, no', ma', rk', ki', li', wi', un', bu'⟩); clear hb3)
                | (refine wpList_push0 _ rfl _ _ rfl wo.heap.size wo v1 (.slice (some ⟨w3.heap.size, 0, none⟩) 1 1) (F.take k) [⟨X.id, no', ma', rk', ki', li', wi', un', bu'⟩] rfl rfl (O1b.out.alloc _) (Bq3.out.alloc Bq3.out.size _) (Nat.le_refl _) O2.out HL2.out ?_; intro v3 w4 own3 hb3 hg3; have O3 := Lib.hid own3; have Bq4 := Lib.hid hb3; have HD3 := Lib.hid (Row.drop (HF.out.next hb3) k hkF); clear own3 hb3 hg3)
                | (refine wpList_push0 _ rfl _ _ rfl wo.heap.size wo v3 (.slice (some ⟨b, off + k * 9, none⟩) (F.length - k) (fcap - k)) (F.take k ++ [⟨X.id, no', ma', rk', ki', li', wi', un', bu'⟩]) (F.drop k) rfl rfl O3.out Bq4.out (Nat.le_refl _) HD3.out HL3.out ?_; intro v4 w5 own4 hb4 hg4))
              rw [List.append_assoc] at own4
              go_roundw
              case rel => exact ⟨m + 1, by go_num, by omega, Lib.hid (HB.out.trans (hb4.mono HB.out.size)), Lib.hid (by rw [HFN2.out, E.out]; exact own4.row), fun h => absurd h (Nat.succ_ne_zero m)⟩
              case measure => simp [RowKit.intOf]; omega
          · have hke : k = F.length := by omega
            have E := Lib.hid (HP.out k hkF HA.out fun h => absurd h hlt2)
            by_cases h0 : 0 < F.length
            · obtain ⟨b, off, rfl, -⟩ := HFC.out 0 h0
              have hge : F.length ≤ k := by omega
              clear hke
              by_cases hkc : k < fcap
              · skip
                have HBd := Lib.hid HW7.out.drew
                have HRd := Lib.hid (Row.take (HF.out.next (HW7.out.drew)) k hkF)
                have HL1 := Lib.hid (show ([] : List Rw).length + (F.take k).length ≤ 1000000000 by (try rw [List.length_take]); simp; try omega)
                have HL2 := Lib.hid (show (F.take k).length + [(Rw.mk X.id no' ma' rk' ki' li' wi' un' bu')].length ≤ 1000000000 by (try rw [List.length_take]); show _ + 1 ≤ _; (try simp); try omega)
                have HL3 := Lib.hid (show (F.take k ++ [(Rw.mk X.id no' ma' rk' ki' li' wi' un' bu')]).length + (F.drop k).length ≤ 1000000000 by rw [List.length_append]; (try rw [List.length_take, List.length_drop]); show _ + 1 + _ ≤ _; (try simp); try omega)
                go_wp2_with fail
                go_region
                go_wp2_with (first
                  | (refine wpList_push0 _ rfl _ _ rfl wo.heap.size wo (.slice none 0 0) (.slice (some ⟨b, off, none⟩) k fcap) [] (F.take k) rfl rfl (Own.nil _ _) HBd.out (Nat.le_refl _) HRd.out HL1.out ?_; intro v1 w2 own1 hb2 hg2; rw [List.nil_append] at own1; have O1 := Lib.hid own1; have Bq2 := Lib.hid hb2; have HC2 := Lib.hid (rangeAt_next HCM.out hb2); clear own1 hb2 hg2)
                  | (refine wpList_take _ rfl _ rfl b0 (off0 + m * 9) X rfl HC2.out ?_)
                  | (go_at_call 28; (with_reducible refine (HP1.out _).mono ?_); rintro e w3 ⟨rfl, hb3⟩; have O1b := Lib.hid (O1.out.next hb3); have Bq3 := Lib.hid (Bq2.out.trans (hb3.mono Bq2.out.size)); have O2 := Lib.hid (row_one w3 ⟨X.id, no', ma', rk', ki', li', wi', un', bu'⟩); clear hb3)
                  | (refine wpList_push0 _ rfl _ _ rfl wo.heap.size wo v1 (.slice (some ⟨w3.heap.size, 0, none⟩) 1 1) (F.take k) [⟨X.id, no', ma', rk', ki', li', wi', un', bu'⟩] rfl rfl (O1b.out.alloc _) (Bq3.out.alloc Bq3.out.size _) (Nat.le_refl _) O2.out HL2.out ?_; intro v3 w4 own3 hb3 hg3; have O3 := Lib.hid own3; have Bq4 := Lib.hid hb3; have HD3 := Lib.hid (nil_drop w4 (some ⟨b, off + k * 9, none⟩) (fcap - k) F k hge); clear own3 hb3 hg3)
                  | (refine wpList_push0 _ rfl _ _ rfl wo.heap.size wo v3 (.slice (some ⟨b, off + k * 9, none⟩) 0 (fcap - k)) (F.take k ++ [⟨X.id, no', ma', rk', ki', li', wi', un', bu'⟩]) (F.drop k) rfl rfl O3.out Bq4.out (Nat.le_refl _) HD3.out HL3.out ?_; intro v4 w5 own4 hb4 hg4))
                rw [List.append_assoc] at own4
                go_roundw
                case rel => exact ⟨m + 1, by go_num, by omega, Lib.hid (HB.out.trans (hb4.mono HB.out.size)), Lib.hid (by rw [HFN2.out, E.out]; exact own4.row), fun h => absurd h (Nat.succ_ne_zero m)⟩
                case measure => simp [RowKit.intOf]; omega
              · obtain rfl : k = fcap := by omega
                have HBd := Lib.hid HW7.out.drew
                have HRd := Lib.hid (Row.take (HF.out.next (HW7.out.drew)) k hkF)
                have HL1 := Lib.hid (show ([] : List Rw).length + (F.take k).length ≤ 1000000000 by (try rw [List.length_take]); simp; try omega)
                have HL2 := Lib.hid (show (F.take k).length + [(Rw.mk X.id no' ma' rk' ki' li' wi' un' bu')].length ≤ 1000000000 by (try rw [List.length_take]); show _ + 1 ≤ _; (try simp); try omega)
                have HL3 := Lib.hid (show (F.take k ++ [(Rw.mk X.id no' ma' rk' ki' li' wi' un' bu')]).length + (F.drop k).length ≤ 1000000000 by rw [List.length_append]; (try rw [List.length_take, List.length_drop]); show _ + 1 + _ ≤ _; (try simp); try omega)
                go_wp2_with fail
                go_region
                go_wp2_with (first
                  | (refine wpList_push0 _ rfl _ _ rfl wo.heap.size wo (.slice none 0 0) (.slice (some ⟨b, off, none⟩) k k) [] (F.take k) rfl rfl (Own.nil _ _) HBd.out (Nat.le_refl _) HRd.out HL1.out ?_; intro v1 w2 own1 hb2 hg2; rw [List.nil_append] at own1; have O1 := Lib.hid own1; have Bq2 := Lib.hid hb2; have HC2 := Lib.hid (rangeAt_next HCM.out hb2); clear own1 hb2 hg2)
                  | (refine wpList_take _ rfl _ rfl b0 (off0 + m * 9) X rfl HC2.out ?_)
                  | (go_at_call 28; (with_reducible refine (HP1.out _).mono ?_); rintro e w3 ⟨rfl, hb3⟩; have O1b := Lib.hid (O1.out.next hb3); have Bq3 := Lib.hid (Bq2.out.trans (hb3.mono Bq2.out.size)); have O2 := Lib.hid (row_one w3 ⟨X.id, no', ma', rk', ki', li', wi', un', bu'⟩); clear hb3)
                  | (refine wpList_push0 _ rfl _ _ rfl wo.heap.size wo v1 (.slice (some ⟨w3.heap.size, 0, none⟩) 1 1) (F.take k) [⟨X.id, no', ma', rk', ki', li', wi', un', bu'⟩] rfl rfl (O1b.out.alloc _) (Bq3.out.alloc Bq3.out.size _) (Nat.le_refl _) O2.out HL2.out ?_; intro v3 w4 own3 hb3 hg3; have O3 := Lib.hid own3; have Bq4 := Lib.hid hb3; have HD3 := Lib.hid (nil_drop w4 (some ⟨b, off, none⟩) 0 F k hge); clear own3 hb3 hg3)
                  | (refine wpList_push0 _ rfl _ _ rfl wo.heap.size wo v3 (.slice (some ⟨b, off, none⟩) 0 0) (F.take k ++ [⟨X.id, no', ma', rk', ki', li', wi', un', bu'⟩]) (F.drop k) rfl rfl O3.out Bq4.out (Nat.le_refl _) HD3.out HL3.out ?_; intro v4 w5 own4 hb4 hg4))
                rw [List.append_assoc] at own4
                go_roundw
                case rel => exact ⟨m + 1, by go_num, by omega, Lib.hid (HB.out.trans (hb4.mono HB.out.size)), Lib.hid (by rw [HFN2.out, E.out]; exact own4.row), fun h => absurd h (Nat.succ_ne_zero m)⟩
                case measure => simp [RowKit.intOf]; omega
            · have hF0 : F.length = 0 := by omega
              have hu := HU (by have := HFLn.out; omega)
              injection hu with hu1 hu2 hu3
              obtain rfl : F = [] := List.eq_nil_of_length_eq_zero hF0
              obtain rfl : k = 0 := by simpa using hke
              subst hu1 hu3
              clear hke hkF hlt2 h0 hfc HU hu2 hF0
              have HBd := Lib.hid HW7.out.drew
              have HRd := Lib.hid (nil_row wr.drew none 0)
              have HL1 := Lib.hid (show ([] : List Rw).length + ([] : List Rw).length ≤ 1000000000 by (try rw [List.length_take]); simp; try omega)
              have HL2 := Lib.hid (show ([] : List Rw).length + [(Rw.mk X.id no' ma' rk' ki' li' wi' un' bu')].length ≤ 1000000000 by (try rw [List.length_take]); show _ + 1 ≤ _; (try simp); try omega)
              have HL3 := Lib.hid (show (([] : List Rw) ++ [(Rw.mk X.id no' ma' rk' ki' li' wi' un' bu')]).length + ([] : List Rw).length ≤ 1000000000 by rw [List.length_append]; (try rw [List.length_take, List.length_drop]); show _ + 1 + _ ≤ _; (try simp); try omega)
              go_wp2_with fail
              go_region
              go_wp2_with (first
                | (refine wpList_push0 _ rfl _ _ rfl wo.heap.size wo (.slice none 0 0) (.slice none 0 0) [] ([] : List Rw) rfl rfl (Own.nil _ _) HBd.out (Nat.le_refl _) HRd.out HL1.out ?_; intro v1 w2 own1 hb2 hg2; rw [List.nil_append] at own1; have O1 := Lib.hid own1; have Bq2 := Lib.hid hb2; have HC2 := Lib.hid (rangeAt_next HCM.out hb2); clear own1 hb2 hg2)
                | (refine wpList_take _ rfl _ rfl b0 (off0 + m * 9) X rfl HC2.out ?_)
                | (go_at_call 28; (with_reducible refine (HP1.out _).mono ?_); rintro e w3 ⟨rfl, hb3⟩; have O1b := Lib.hid (O1.out.next hb3); have Bq3 := Lib.hid (Bq2.out.trans (hb3.mono Bq2.out.size)); have O2 := Lib.hid (row_one w3 ⟨X.id, no', ma', rk', ki', li', wi', un', bu'⟩); clear hb3)
                | (refine wpList_push0 _ rfl _ _ rfl wo.heap.size wo v1 (.slice (some ⟨w3.heap.size, 0, none⟩) 1 1) ([] : List Rw) [⟨X.id, no', ma', rk', ki', li', wi', un', bu'⟩] rfl rfl (O1b.out.alloc _) (Bq3.out.alloc Bq3.out.size _) (Nat.le_refl _) O2.out HL2.out ?_; intro v3 w4 own3 hb3 hg3; have O3 := Lib.hid own3; have Bq4 := Lib.hid hb3; have HD3 := Lib.hid (nil_row w4 none 0); clear own3 hb3 hg3)
                | (refine wpList_push0 _ rfl _ _ rfl wo.heap.size wo v3 (.slice none 0 0) (([] : List Rw) ++ [⟨X.id, no', ma', rk', ki', li', wi', un', bu'⟩]) ([] : List Rw) rfl rfl O3.out Bq4.out (Nat.le_refl _) HD3.out HL3.out ?_; intro v4 w5 own4 hb4 hg4))
              rw [List.append_assoc] at own4
              go_roundw
              case rel => exact ⟨m + 1, by go_num, by omega, Lib.hid (HB.out.trans (hb4.mono HB.out.size)), Lib.hid (by rw [HFN2.out, E.out]; exact own4.row), fun h => absurd h (Nat.succ_ne_zero m)⟩
              case measure => simp [RowKit.intOf]; omega
      · obtain rfl : m = L.length := by omega
        go_wp2_with fail
        go_ret3
        have hrow := HF.out
        rw [HFA.out] at hrow
        exact ⟨_, rfl, hrow, HB.out⟩
  · rw [scn_no hz]
    have b1 : ((sck L).2 != 0) = true := by simpa using hz
    clear hc hr hs hP hz
    generalize sck L = x at *
    obtain ⟨p, E⟩ := x
    dsimp only at b1 HCH ⊢
    go_enter Tryz.func10, Tryz.ntmps10
    go_wp2_with (go_at_call 8; (with_reducible refine HCH.out.mono ?_); rintro e w1 ⟨rfl, hb1⟩; have B1 := Lib.hid hb1; clear hb1)
    go_ret3
    exact ⟨_, rfl, Row.nil _, B1.out⟩
end Go.Proofs.YthkopnobekohcaaGreatDoor.Two

namespace Go.Proofs.YthkopnobekohcaaGreatDoor.Two
open Go.RowKit Go.Lib

theorem toList_eq {a b : ByteArray} : a.toList = b.toList ↔ a = b := by
  constructor
  · intro h
    rw [Byt.toList_data, Byt.toList_data] at h
    exact ByteArray.ext (Array.toList_inj.1 h)
  · rintro rfl; rfl
set_option maxRecDepth 100000 in
theorem run_eql (x y : Rw) (W : World) : (binOp .eql 35 (.agg #[.string x.id, .string x.no, .string x.ma, .int .i64 x.rk, .int .i64 x.ki, .int .i64 x.li, .int .i64 x.wi, .int .i64 x.un, .int .i64 x.bu]) (.agg #[.string y.id, .string y.no, .string y.ma, .int .i64 y.rk, .int .i64 y.ki, .int .i64 y.li, .int .i64 y.wi, .int .i64 y.un, .int .i64 y.bu])).run Tryz.prog W = .ok (.bool (rE x y)) W := by
  have h := rE_iff x y
  cases hb : rE x y with
  | true =>
    obtain rfl := h.1 hb
    go_simp
  | false =>
    have hne : ¬ x = y := fun e => by rw [h.2 e] at hb; cases hb
    go_simp
    simp only [toList_eq]
    intro h0 h1 h2 h3 h4 h5 h6 h7 h8
    refine hne ?_
    obtain ⟨a0, a1, a2, a3, a4, a5, a6, a7, a8⟩ := x
    obtain ⟨b0, b1, b2, b3, b4, b5, b6, b7, b8⟩ := y
    dsimp only at *
    subst h0; subst h1; subst h2; subst h3; subst h4; subst h5; subst h6; subst h7; subst h8
    rfl
set_option maxRecDepth 100000 in
theorem run_neq (x y : Rw) (W : World) : (binOp .neq 35 (.agg #[.string x.id, .string x.no, .string x.ma, .int .i64 x.rk, .int .i64 x.ki, .int .i64 x.li, .int .i64 x.wi, .int .i64 x.un, .int .i64 x.bu]) (.agg #[.string y.id, .string y.no, .string y.ma, .int .i64 y.rk, .int .i64 y.ki, .int .i64 y.li, .int .i64 y.wi, .int .i64 y.un, .int .i64 y.bu])).run Tryz.prog W = .ok (.bool (!rE x y)) W := by
  have h := rE_iff x y
  cases hb : rE x y with
  | true =>
    obtain rfl := h.1 hb
    go_simp
  | false =>
    have hne : ¬ x = y := fun e => by rw [h.2 e] at hb; cases hb
    go_simp
    simp only [toList_eq]
    intro h0 h1 h2 h3 h4 h5 h6 h7 h8
    refine hne ?_
    obtain ⟨a0, a1, a2, a3, a4, a5, a6, a7, a8⟩ := x
    obtain ⟨b0, b1, b2, b3, b4, b5, b6, b7, b8⟩ := y
    dsimp only at *
    subst h0; subst h1; subst h2; subst h3; subst h4; subst h5; subst h6; subst h7; subst h8
    rfl

theorem same_len {l m : List Rw} (h : l.length ≠ m.length) : sm l m = false := sm_no_len h
set_option maxHeartbeats 4000000 in
set_option maxRecDepth 100000 in
theorem same_any (L M : List Rw) (v1 v2 : Value) (w : World) (h1 : Row w v1 L) (h2 : Row w v2 M) (hl : L.length ≤ 9223372036854775807) (_hm : M.length ≤ 9223372036854775807) :
    Calls Tryz.prog 11 #[v1, v2] w fun e w' => e = .returned (.bool (sm L M)) ∧ Below w.heap.size w w' := by
  obtain ⟨a1, cap1, rfl, _, c1⟩ := h1.open_
  obtain ⟨a2, cap2, rfl, _, c2⟩ := h2.open_
  have C1 := Lib.hid c1
  have C2 := Lib.hid c2
  clear c1 c2 h1 h2
  by_cases hlen : L.length = M.length
  · have HY := Lib.hid (@sm_yes L M hlen)
    have HNO := Lib.hid fun i => @sm_no_at L M i
    have hM : M.length = L.length := hlen.symm
    have C2' := Lib.hid fun j (hj : j < L.length) => C2.out j (hM ▸ hj)
    rw [hM]
    clear C2 hlen hM
    go_enter Tryz.func11, Tryz.ntmps11
    go_wp2_with fail
    go_loopw [13] (fun i wr => ∃ k : Nat, i = .int .i64 (k : Int) ∧ k ≤ L.length ∧ Hid (Below w.heap.size w wr) ∧ Hid (∀ j, j < k → ga L j = ga M j)) (fun i _ => L.length - (RowKit.intOf i).toNat)
    case atStart => exact ⟨0, rfl, Nat.zero_le _, Lib.hid (Below.refl _ _), Lib.hid fun j hj => absurd hj (Nat.not_lt_zero _)⟩
    case round =>
      obtain ⟨k, rfl, hk, HB, HA⟩ := hrel
      by_cases hlt : k < L.length
      · obtain ⟨b1, o1, rfl, x1⟩ := C1.out k hlt
        obtain ⟨b2, o2, rfl, x2⟩ := C2'.out k hlt
        have y1 := range_cells (fun j v hj => (HB.out.cell (lt_of_cell (x1 j v hj))).trans (x1 j v hj))
        have y2 := range_cells (fun j v hj => (HB.out.cell (lt_of_cell (x2 j v hj))).trans (x2 j v hj))
        rw [show ∀ (N : List Rw) i, rga N i = ga N i from fun _ _ => rfl] at y1 y2
        clear x1 x2
        have HQ := run_neq (ga L k) (ga M k)
        have HNK := Lib.hid (HNO.out k)
        have HX := Lib.hid fun (h : ga L k = ga M k) j (hj : j < k + 1) => by
          by_cases q : j < k
          · exact HA.out j q
          · obtain rfl : j = k := by omega
            exact h
        have HE := Lib.hid (rE_iff (ga L k) (ga M k))
        generalize ga L k = x at *
        generalize ga M k = y at *
        obtain ⟨p0, p1, p2, p3, p4, p5, p6, p7, p8⟩ := y1
        obtain ⟨q0, q1, q2, q3, q4, q5, q6, q7, q8⟩ := y2
        have HN : ∀ (_ : rE x y = false), ¬ x = y := fun h e => by rw [HE.out.2 e] at h; cases h
        have HN := Lib.hid HN
        cases hb : rE x y with
        | true =>
          have HX2 := Lib.hid (HX.out (HE.out.1 hb))
          rw [hb] at HQ
          clear hb HE HN HX HNK
          go_wp2_with fail
          go_region
          go_wp2_with fail
          go_roundw
          case rel => exact ⟨k + 1, by go_num, by omega, Lib.hid HB.out.drew, HX2⟩
          case measure => simp [RowKit.intOf]; omega
        | false =>
          have HZ := Lib.hid (HNK.out (HN.out hb))
          rw [hb] at HQ
          clear hb HE HN HX HNK
          go_wp2_with fail
          go_region
          go_wp2_with fail
          go_ret
          rw [HZ.out]
          exact ⟨rfl, HB.out.drew⟩
      · obtain rfl : k = L.length := by omega
        have HZ := Lib.hid (HY.out HA.out)
        go_wp2_with fail
        go_ret
        rw [HZ.out]
        exact ⟨rfl, HB.out⟩
  · rw [same_len hlen]
    have b1 : ((L.length : Int) != (M.length : Int)) = true := by rw [bne_iff_ne]; omega
    go_enter Tryz.func11, Tryz.ntmps11
    go_wp2_with fail
    go_ret
    exact ⟨rfl, Below.refl _ _⟩
end Go.Proofs.YthkopnobekohcaaGreatDoor.Two
