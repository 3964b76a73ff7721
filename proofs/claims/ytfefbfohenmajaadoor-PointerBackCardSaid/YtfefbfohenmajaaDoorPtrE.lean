/- The contract of pointer's Find. Conditions: strconv's two errors are there, the table of powers is as the library's text lays it, MaxLen holds some number (Env); as each theorem states. -/
import Derived.Test.YtfefbfohenmajaaDoorPtrD
namespace Go.Proofs.YtfefbfohenmajaaDoor.Ptr
open Go.RowKit Go.Lib Go.Proofs.YtfefbfohenmajaaDoor.Byt
open Go.Proofs.YtfefbfohenmajaaDoor.Tre (Vt V0 find cnt OkT okV OkT_iff InV InV_iff InV_next InV_five InV_zero InS InS_in InS_five InS_one InS_upd InS_zero Box box_new OwnR wpList_keep wpList_fetch wpList_take zeroC results_val results_val2 size_toArray two_boxes box_after TB run_vpush own_in)

section
variable {ops : Array Oper} {rest : List Oper} {o : Oper} {a : Act} {Q : Exit → Act → World → Prop}
/-- 'append(l, v)' of a value. -/
theorem wpList_vpush (W : World) (hg : o.guard = none) (s x : Operand) (ho : o.op = .call { callee := .builtin .append, args := #[s, x], argTypes := #[23, 23] })
    (B : Nat) (v : Value) (C : List (List Value)) (hs : a.eval s = v) (hown : OwnR W B v C) (hB : B ≤ W.heap.size)
    (g c : Nat) (hx : a.eval x = .slice (some ⟨g, 0, none⟩) 1 c) (cs : List Value) (hblk : Box W g cs.toArray) (h5 : cs.length = 5) (h1 : ∀ u ∈ cs, u.oneCell' = true) (hlim : (C.length + 1) * 80 ≤ 140737488355328)
    (h : ∀ v' w', OwnR w' B v' (C ++ [cs]) → W.grownBy w' v.ownBlock → wpList Tryd.prog ops Q rest (a.put o.dst v') w') : wpList Tryd.prog ops Q (o :: rest) a W := by
  obtain ⟨v', w', hr, h2, h3, _⟩ := run_vpush W o.type B v C hown hB g c cs hblk h5 h1 hlim
  refine wpList_plain hg fun K hK => ?_
  unfold Oper.wp execOp
  simp only [ho, resolve, invoke, builtin, Sem.run_bind, Sem.run_pure, Result.andThen_ok, List.map_toArray, List.map_cons, List.map_nil, hs, hx, hr]
  exact hK _ _ (h v' w' h2 h3)
end
theorem own_lit1 (w : World) (B : Nat) (c : List Value) (h5 : c.length = 5) (hB : B ≤ w.heap.size) : OwnR (w.alloc (.cells c.toArray 25)) B (.slice (some ⟨w.heap.size, 0, none⟩) 1 1) [c] := by
  refine ⟨fun x hx => by rw [List.mem_singleton.1 hx]; exact h5, ?_⟩
  have := World.ownsRow_lit (base := B) (e := 25) (size := 5) w c.toArray 1 hB (by decide) (by simpa using h5)
  simpa using this
theorem TB_grown {w W W' : World} {x y : Obj} {v : Value} {C : List (List Value)} (h : TB w x y W) (ho : OwnR W (w.heap.size + 2) v C) (hg : W.grownBy W' v.ownBlock) : TB w x y W' := by
  have hs : w.heap.size + 2 ≤ W.heap.size := by
    have := h
    unfold TB at this
    have := this.size
    simp at this
    exact this
  unfold TB at *
  have e : ((w.alloc x).alloc y).heap.size = w.heap.size + 2 := by simp
  exact h.grown hg (by omega) fun k hk => by rw [e]; exact (own_in ho hk).1
theorem TB_size {w W : World} {x y : Obj} (h : TB w x y W) : w.heap.size + 2 ≤ W.heap.size := by
  unfold TB at h
  have := h.size
  simpa using this
theorem items_of {w : World} {x : Vt} {k m : Int} {s : ByteArray} {a a2 : Option Addr} {l p l2 p2 : Nat} (h : InV w x [.int .i64 k, .int .i64 m, .string s, .slice a l p, .slice a2 l2 p2]) :
    l = x.l.length ∧ ∀ j, j < l → ∃ b off, a = some ⟨b, off, none⟩ ∧ ∃ ds, w.rangeAt b (off + j * 5) ds ∧ InV w (x.l.getD j V0) ds := by
  obtain ⟨a9, p9, c9, heq, hit, _⟩ := (InV_iff w x _).1 h
  simp only [List.cons.injEq, Value.slice.injEq] at heq
  obtain ⟨_, _, _, ⟨ea, el, _⟩, _⟩ := heq
  subst ea
  refine ⟨el, fun j hj => ?_⟩
  obtain ⟨b, off, e, ds, h1, h2⟩ := hit j (by omega)
  exact ⟨b, off, e, ds, by rw [Nat.mul_comm j 5]; exact h1, h2⟩
/-- How far the path has been gone. -/
def Fs (w : World) (v : Vt) (l : List ByteArray) (c0 : Array Value) (W : World) (k : Nat) (pv : Value) (D : List (List Value)) (c : List Value) (x : Vt) : Prop :=
  TB w (.cells c0 25) (.cells zeroC.toArray 25) W ∧ OwnR W (w.heap.size + 2) pv (D ++ [c]) ∧ D.length = k ∧ InV w x c ∧ OkT x ∧ fdP v l = fdP x (l.drop k)
theorem Fs.start {w : World} {v : Vt} {l : List ByteArray} {cs : List Value} (h : InV w v cs) (hv : OkT v) :
    Fs w v l cs.toArray ((((w.alloc (.cells cs.toArray 25)).alloc (.cells zeroC.toArray 25))).alloc (.cells cs.toArray 25)) 0 (.slice (some ⟨w.heap.size + 2, 0, none⟩) 1 1) [] cs v := by
  have e : ((w.alloc (.cells cs.toArray 25)).alloc (.cells zeroC.toArray 25)).heap.size = w.heap.size + 2 := by simp
  have h2 := own_lit1 ((w.alloc (.cells cs.toArray 25)).alloc (.cells zeroC.toArray 25)) (w.heap.size + 2) cs (InV_five h) (by omega)
  rw [e] at h2
  exact ⟨(TB.start w _ _).next ((Below.refl _ _).alloc (Nat.le_refl _) _), h2, rfl, h, hv, rfl⟩
theorem Fs.step {w : World} {v : Vt} {l : List ByteArray} {c0 : Array Value} {W W5 W6 : World} {k : Nat} {pv pv' : Value} {D : List (List Value)} {c ds : List Value} {x y : Vt} (h : Fs w v l c0 W k pv D c x) (hk : k < l.length)
    (hs : stp1 x (l.getD k ⟨#[]⟩) = some y) (hd : InV w y ds) (hb : TB w (.cells c0 25) (.cells zeroC.toArray 25) W5) (ho : OwnR W5 (w.heap.size + 2) pv (D ++ [c])) (ho' : OwnR W6 (w.heap.size + 2) pv' (D ++ [c] ++ [ds])) (hg : W5.grownBy W6 pv.ownBlock) :
    Fs w v l c0 W6 (k + 1) pv' (D ++ [c]) ds y := by
  obtain ⟨_, _, h3, _, h5, h6⟩ := h
  have hmem := stp1_mem hs
  refine ⟨TB_grown hb ho hg, ho', by rw [List.length_append, h3]; rfl, hd, ((OkT_iff x).1 h5).2 y hmem, ?_⟩
  rw [h6, List.drop_eq_getElem_cons hk, fdP]
  have e : l[k] = l.getD k ⟨#[]⟩ := by rw [List.getD_eq_getElem?_getD, List.getElem?_eq_getElem hk]; rfl
  rw [e, hs]
  rfl
theorem Fs.stop {w : World} {v : Vt} {l : List ByteArray} {c0 : Array Value} {W : World} {k : Nat} {pv : Value} {D : List (List Value)} {c : List Value} {x : Vt} (h : Fs w v l c0 W k pv D c x) (hk : k < l.length) (hs : stp1 x (l.getD k ⟨#[]⟩) = none) : fdP v l = none := by
  obtain ⟨_, _, _, _, _, h6⟩ := h
  rw [h6, List.drop_eq_getElem_cons hk, fdP]
  have e : l[k] = l.getD k ⟨#[]⟩ := by rw [List.getD_eq_getElem?_getD, List.getElem?_eq_getElem hk]; rfl
  rw [e, hs]
  rfl
theorem Fs.end_ {w : World} {v : Vt} {l : List ByteArray} {c0 : Array Value} {W : World} {pv : Value} {D : List (List Value)} {c : List Value} {x : Vt} (h : Fs w v l c0 W l.length pv D c x) : fdP v l = some x := by
  rw [h.2.2.2.2.2, List.drop_length]; rfl
set_option maxHeartbeats 8000000 in
set_option maxRecDepth 100000 in
theorem pfindp (v : Vt) (hv : OkT v) (l : List ByteArray) (lv : Value) (cs : List Value) (w : World) (h : InV w v cs) (hr : Strs.Row w lv l) (hE : Env w) (hf : ∀ x ∈ l, x.size ≤ 8000000) (hl : l.length ≤ 100000) :
    Calls Tryd.prog 11 #[.agg cs.toArray, lv] w fun e w' => ∃ ds : List Value, e = .returned (.tuple #[.agg ds.toArray, .bool (fdP v l).isSome]) ∧ InS (fun b => w.heap.size ≤ b) w' ((fdP v l).getD V0) ds ∧ Below w.heap.size w w' := by
  obtain ⟨a, cap, rfl, hc⟩ := hr.open_
  have HS := Lib.hid (Fs.start (l := l) h hv)
  have HC := Lib.hid hc
  have HF := Lib.hid hf
  have HE := Lib.hid hE
  have hmx : l.length ≤ 9223372036854775807 := by omega
  obtain ⟨F, hF⟩ : ∃ F, fdP v l = F := ⟨_, rfl⟩
  have HFD := Lib.hid hF
  rw [hF]
  obtain ⟨k0, m0, s0, a5, l5, p5, a6, l6, p6, rfl⟩ := Tre.InV_shp h
  clear hc hr hf hE h hv hF
  go_enter Tryd.func11, Tryd.ntmps11
  go_wp2_with fail
  go_loopw [6, 15] (fun pv i wr => ∃ (k : Nat) (D : List (List Value)) (c : List Value) (x : Vt), i = .int .i64 (k : Int) ∧ k ≤ l.length ∧ Hid (Fs w v l #[.int .i64 k0, .int .i64 m0, .string s0, .slice a5 l5 p5, .slice a6 l6 p6] wr k pv D c x)) (fun _ i _ => l.length - (RowKit.intOf i).toNat)
  case atStart => exact ⟨0, _, _, _, rfl, Nat.zero_le _, HS⟩
  case round =>
    obtain ⟨k, D, c, x, rfl, hk, HFs⟩ := hrel
    obtain ⟨tb, hown, hDl, hin, hok, _⟩ := HFs.out
    obtain ⟨km, nm, sm, a7, l7, p7, a8, l8, p8, rfl⟩ := Tre.InV_shp hin
    have HL := Lib.hid (last_any _ D _ (w.heap.size + 2) wr hown (Tre.InV_shp hin) (by omega))
    have TB0 := Lib.hid tb
    have HO0 := Lib.hid hown
    by_cases hlt : k < l.length
    · obtain ⟨b, off, rfl, hc0⟩ := HC.out k hlt
      have hcl := (tb.below.cell (Strs.cell_lt hc0)).trans hc0
      have hpz : (l.getD k ⟨#[]⟩).size ≤ 8000000 := by
        rw [List.getD_eq_getElem?_getD, List.getElem?_eq_getElem hlt]
        exact HF.out _ (List.getElem_mem hlt)
      have HP := Lib.hid fun (W : World) (hb : Below w.heap.size w W) => place_any x ((OkT_iff x).1 hok).1 (l.getD k ⟨#[]⟩) hpz _ W (InV_next hb _ _ hin) (HE.out.next hb)
      have hbd := plV_bd x (l.getD k ⟨#[]⟩) ((OkT_iff x).1 hok).1
      obtain ⟨hl7, hit⟩ := items_of hin
      have hst := stp1_is x (l.getD k ⟨#[]⟩)
      have HFST := Lib.hid fun y ds pv' W5 W6 hs hd hb ho ho' hg => Fs.step (y := y) (ds := ds) (pv' := pv') (W5 := W5) (W6 := W6) HFs.out hlt hs hd hb ho ho' hg
      have HFSP := Lib.hid (HFs.out.stop hlt)
      have hmxl : x.l.length ≤ 9223372036854775807 := by have := ((OkT_iff x).1 hok).1.2.2.2.1; omega
      rw [← hl7] at hst hmxl
      have HIT := Lib.hid hit
      clear hc0 hpz HFs hit tb hown hin hok hl7
      generalize l.getD k ⟨#[]⟩ = p at *
      generalize plV x p = PL at *
      rcases hst with ⟨h0, h1, h2⟩ | ⟨hno, h2⟩
      · obtain ⟨i, rfl⟩ : ∃ i : Nat, PL = (i : Int) := ⟨PL.toNat, by omega⟩
        have hil : i < l7 := by omega
        rw [Int.toNat_natCast] at h2
        obtain ⟨b', off', rfl, ds, hrg, hind⟩ := HIT.out i hil
        have HST := Lib.hid fun pv' W5 W6 hb ho ho' hg => HFST.out _ ds pv' W5 W6 h2 hind hb ho ho' hg
        have HRG := Lib.hid fun (W : World) (hb : Below w.heap.size w W) => Tre.range_next hrg hb
        have h5 := InV_five hind
        have e1 := Lib.hid (InS_one hind)
        have g0 : decide ((i : Int) < 0) = false := decide_eq_false (by omega)
        have g1 : decide (l7 ≤ i) = false := decide_eq_false (by omega)
        obtain ⟨ki, ni, si, ai, li, pi, bi, mi, qi, rfl⟩ := Tre.InV_shp hind
        clear HIT HFST HFSP hrg hind h2 h0 h1
        go_wp2_with (first
          | (go_at_call 24; (with_reducible refine HL.out.mono ?_); rintro e w2 ⟨rfl, hb2⟩; have TB2 := Lib.hid (TB0.out.next hb2); have HO2 := Lib.hid (HO0.out.next hb2))
          | (go_at_call 25; (with_reducible refine (HP.out _ ((TB2.out.next ((Below.refl _ _).alloc (Nat.le_refl _) _)).below)).mono ?_); rintro e w4 ⟨rfl, hb4⟩; have TB4 := Lib.hid ((TB2.out.next ((Below.refl _ _).alloc (Nat.le_refl _) _)).next hb4); have HO4 := Lib.hid ((HO2.out.alloc _).next hb4); have b9 := (box_after hb4).1; have c9 := Box.cell b9 3; clear b9 hb4)
          | (refine wpList_take _ rfl _ rfl b' (off' + i * 5) _ rfl (HRG.out _ TB4.out.below) h5 ?_)
          | (refine wpList_vpush _ rfl _ _ rfl (w.heap.size + 2) _ _ rfl (HO4.out.alloc _) (by have := TB_size TB4.out; simp; omega) _ _ rfl _ (box_new _ _) h5 e1.out (by rw [List.length_append, hDl]; simp; omega) ?_; intro pv' w6 ho6 hg6))
        go_roundw
        case rel => exact ⟨k + 1, _, _, _, by go_num, by omega, Lib.hid (HST.out _ _ _ (TB4.out.next ((Below.refl _ _).alloc (Nat.le_refl _) _)) (HO4.out.alloc _) ho6 hg6)⟩
        case measure => simp [RowKit.intOf]; omega
      · obtain rfl : F = none := by rw [← HFD.out]; exact HFSP.out h2
        have hb2 : (decide (PL < 0) = true) ∨ (decide (PL < 0) = false ∧ decide ((l7 : Int) ≤ PL) = true) := by
          by_cases q : PL < 0
          · exact .inl (decide_eq_true q)
          · exact .inr ⟨decide_eq_false q, decide_eq_true (hno.resolve_left q)⟩
        clear hno h2 HFSP HFST HIT
        rcases hb2 with i0 | ⟨i0, i1⟩
        all_goals
          go_wp2_with (first
            | (go_at_call 24; (with_reducible refine HL.out.mono ?_); rintro e w2 ⟨rfl, hb2⟩; have TB2 := Lib.hid (TB0.out.next hb2))
            | (go_at_call 25; (with_reducible refine (HP.out _ ((TB2.out.next ((Below.refl _ _).alloc (Nat.le_refl _) _)).below)).mono ?_); rintro e w4 ⟨rfl, hb4⟩; have TB4 := Lib.hid ((TB2.out.next ((Below.refl _ _).alloc (Nat.le_refl _) _)).next hb4); have b9 := (box_after hb4).1; have c9 := Box.cell b9 3; clear b9 hb4)
            | (refine wpList_keep _ rfl _ _ rfl w.heap.size w TB4.out.below (w.heap.size + 1) (by omega) zeroC.toArray _ rfl rfl TB4.out.two rfl rfl (InS_one (InV_zero w)) ?_; intro w9 bx9 hb9 hk9 hs9; clear hs9))
          (try simp only [Exit.inBlock, Exit.then])
          refine bodyPost_ret (results_val2 rfl _ _ _ _ rfl bx9 rfl) rfl ?_
          exact ⟨zeroC, rfl, InS_zero _ _, hb9⟩
    · obtain rfl : k = l.length := by omega
      obtain rfl : F = some x := by rw [← HFD.out]; exact HFs.out.end_
      have HCP := Lib.hid fun (W : World) (hb : Below w.heap.size w W) => pcopy_any x hok _ W (InV_next hb _ _ hin)
      clear HFs tb hown hin hok HC HF HE
      go_wp2_with (first
        | (go_at_call 24; (with_reducible refine HL.out.mono ?_); rintro e w2 ⟨rfl, hb2⟩; have TB2 := Lib.hid (TB0.out.next hb2))
        | (go_at_call 26; (with_reducible refine (HCP.out _ TB2.out.below).mono ?_); rintro e w3 ⟨ds, rfl, hS3, hb3⟩; have TB3 := Lib.hid (TB2.out.next hb3); have hz2 := TB_size TB2.out; have e1 := Lib.hid (InS_one (InS_in _ _ hS3)); have d5 := InS_five hS3)
        | (refine wpList_keep _ rfl _ _ rfl w.heap.size w TB3.out.below (w.heap.size + 1) (by omega) ds.toArray _ rfl rfl TB3.out.two rfl (size_toArray ds d5) (by simpa using e1.out) ?_; intro w9 bx9 hb9 hk9 hs9; clear hs9))
      (try simp only [Exit.inBlock, Exit.then])
      refine bodyPost_ret (results_val2 rfl _ _ _ _ rfl bx9 (size_toArray ds d5)) rfl ?_
      exact ⟨ds, rfl, InS_upd (fun b hb hl => ⟨hk9 b (by omega), by omega⟩) _ _ hS3, hb9⟩
end Go.Proofs.YtfefbfohenmajaaDoor.Ptr
