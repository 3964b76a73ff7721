/- Texts of my own, packed: JsnD. Conditions: as each theorem states. -/
import Derived.Deep.RegionLaw
import Derived.Deep.CutRange
import Derived.Test.YtehkiojohldlgaaGreatDoorK27
import Derived.Test.YtehkiojohldlgaaGreatDoorK28
namespace Go.Proofs.YtehkiojohldlgaaGreatDoor.Jsn
open Go.RowKit Go.Lib
open Go.Proofs.YtehkiojohldlgaaGreatDoor.Tre (Vt V0 find OkT OkT_iff InV InV_iff InV_next InV_five InS_one Box box_new)
open Go.Proofs.YtehkiojohldlgaaGreatDoor.Rul (Ru ruC fst fst_yes fst_no fst_app Bx kO)

/-- A value's variable, and the result's. -/
structure Duo (w : World) (cs zs : Array Value) (W : World) : Prop where
  one : Box W w.heap.size cs
  two : Bx W (w.heap.size + 1) zs
  bel : Below w.heap.size w W
theorem Duo.next {w W W' : World} {cs zs : Array Value} (h : Duo w cs zs W) (hb : Below W.heap.size W W') : Duo w cs zs W' :=
  ⟨h.one.next hb h.one.lt, h.two.next hb h.two.lt, h.bel.trans (hb.mono h.bel.size)⟩
theorem Duo.new (w : World) (cs zs : Array Value) : Duo w cs zs ((w.alloc (.cells cs 26)).alloc (.cells zs 49)) := by
  have b0 : Below w.heap.size w (w.alloc (.cells cs 26)) := (Below.refl _ _).alloc (Nat.le_refl _) _
  refine ⟨?_, ?_, b0.alloc (by simp) _⟩
  · have h0 := box_new w cs
    exact h0.next ((Below.refl _ _).alloc (Nat.le_refl _) (.cells zs 49)) h0.lt
  · have h0 := Rul.bx_new (w.alloc (.cells cs 26)) zs
    rw [World.size_alloc] at h0
    exact h0
theorem Duo.drew {w W : World} {cs zs : Array Value} (h : Duo w cs zs W) : Duo w cs zs W.drew := h.next ⟨rfl, rfl, rfl, Nat.le_refl _, fun _ _ => rfl⟩
theorem Tri.keep {w W W' : World} {g : Nat} {cs zs rs : Array Value} (h : Tri w g cs zs rs W) (qs : Array Value) (hk : Bx W' g qs) (hb : Below w.heap.size w W') (ho : ∀ k, k ≠ g → W'.heap[k]? = W.heap[k]?) : Tri w g cs zs qs W' :=
  ⟨(ho _ (by have := h.lt; omega)).trans h.one, (ho _ (by have := h.lt; omega)).trans h.two, hk, h.lt, hb⟩
/-- One variable more. -/
theorem Duo.tri {w W : World} {cs zs : Array Value} (h : Duo w cs zs W) (rs : Array Value) : Tri w W.heap.size cs zs rs (W.alloc (.cells rs 49)) :=
  ⟨h.one.next ((Below.refl _ _).alloc (Nat.le_refl _) _) h.one.lt, h.two.next ((Below.refl _ _).alloc (Nat.le_refl _) _) h.two.lt, Rul.bx_new W rs, h.two.lt, h.bel.alloc h.bel.size _⟩
theorem row_cells {W : World} {g n : Nat} {xs : List ByteArray} (h : Strs.Row W (.slice (some ⟨g, 0, none⟩) n n) xs) : ∀ j, j < xs.length → W.cell? ⟨g, j, none⟩ = some (.string (xs.getD j ⟨#[]⟩)) := by
  obtain ⟨a, cap, e, hc⟩ := h.open_
  injection e with e1 _ _
  intro j hj
  obtain ⟨b, off, hb, hcell⟩ := hc j hj
  rw [← e1] at hb
  injection hb with hb
  injection hb with h1 h2
  subst h1 h2
  rwa [Nat.zero_add] at hcell
theorem keep_cell {W W' : World} {b : Nat} (h : W'.heap[b]? = W.heap[b]?) (o : Nat) : W'.cell? ⟨b, o, none⟩ = W.cell? ⟨b, o, none⟩ := by simp [World.cell?, h]
theorem keep_lt {W W' : World} {b : Nat} (h : W'.heap[b]? = W.heap[b]?) (hl : b < W.heap.size) : b < W'.heap.size := by
  rcases Nat.lt_or_ge b W'.heap.size with k | k
  · exact k
  · rw [Array.getElem?_eq_none k, Array.getElem?_eq_getElem hl] at h
    cases h
theorem kO_in3 (s : ByteArray) : 0 ≤ kO s ∧ kO s ≤ 3 := by
  unfold kO
  split
  · decide
  · split
    · decide
    · split <;> decide
/-- What is wrong with a value, as a rule's object. -/
def rdX (v : Vt) : ByteArray × Int := if v.k = 5 then rdE v else (⟨#[]⟩, 15)
/-- The rule with its first numbers alone. -/
def par (v : Vt) (j : Nat) : Ru :=
  let a := fun i => if i < j then (nu v (nm (5 + i))).1 else 0
  ⟨(tx v (nm 0)).1, (tx v (nm 1)).1, (tx v (nm 2)).1, (nu v (nm 3)).1, kO (tx v (nm 4)).1, a 0, a 1, a 2, a 3, a 4, a 5, a 6, a 7⟩
theorem par_next (v : Vt) {j : Nat} (h : j < 8) : setN (par v j) (5 + j) (nu v (nm (5 + j))).1 = par v (j + 1) := by
  rcases (show j = 0 ∨ j = 1 ∨ j = 2 ∨ j = 3 ∨ j = 4 ∨ j = 5 ∨ j = 6 ∨ j = 7 by omega) with rfl | rfl | rfl | rfl | rfl | rfl | rfl | rfl <;> rfl
def ws (v : Vt) : List (ByteArray × Int) := (List.range 8).map fun j => (nm (5 + j), wr (nu v (nm (5 + j))).2 (wan (kO (tx v (nm 4)).1) (5 + j)))
theorem rdL_is (v : Vt) : rdL v = [(nm 0, (tx v (nm 0)).2), (nm 1, only (tx v (nm 1)).2), (nm 2, (tx v (nm 2)).2)] ++ ((nm 3, only (nu v (nm 3)).2) :: (nm 4, (tx v (nm 4)).2) :: ws v) := rfl
theorem rdL_fst (v : Vt) : fst (rdL v) = if (wdE v).2 = 0 then fst ((nm 3, only (nu v (nm 3)).2) :: (nm 4, (tx v (nm 4)).2) :: ws v) else wdE v := by
  rw [rdL_is, fst_app]; rfl
theorem ws_drop (v : Vt) {j : Nat} (h : j < 8) : (ws v).drop j = (nm (5 + j), wr (nu v (nm (5 + j))).2 (wan (kO (tx v (nm 4)).1) (5 + j))) :: (ws v).drop (j + 1) := by
  have hl : (ws v).length = 8 := by unfold ws; rw [List.length_map, List.length_range]
  rw [List.drop_eq_getElem_cons (by rw [hl]; exact h)]
  congr 1
  unfold ws
  rw [List.getElem_map, List.getElem_range]
theorem ws_end (v : Vt) : (ws v).drop 8 = [] := by
  refine List.drop_of_length_le ?_
  unfold ws
  rw [List.length_map, List.length_range]
  exact Nat.le_refl _
theorem all_drop (j : Nat) : all.getD (5 + j) ⟨#[]⟩ = nm (5 + j) := rfl

set_option maxHeartbeats 8000000 in
set_option maxRecDepth 100000 in
theorem rread_any (v : Vt) (hv : OkT v) (cs : List Value) (w : World) (h : InV w v cs) :
    Calls Tryz.prog 36 #[.agg cs.toArray] w fun e w' => e = .returned (.tuple #[.agg (ruC (okR (rdX v).2 (rdR v))), .string (rdX v).1, .int .i64 (rdX v).2]) ∧ Below w.heap.size w w' := by
  have HTX := Lib.hid fun s cs W (h : InV W v cs) => rtext_any v hv s cs W h
  have HNU := Lib.hid fun s cs W (h : InV W v cs) => rnumber_any v hv s cs W h
  have hok := ((OkT_iff v).1 hv).1
  have HKN := Lib.hid fun cs nv W (h : InV W v cs) (k : Strs.Row W nv all) => rknown_any v cs all nv W h k (by have := hok.2.2.2.2; omega) (by decide)
  have HWD := Lib.hid fun cs W (h : InV W v cs) => rwords_any v hv cs W h
  have HAL := Lib.hid fun W => rall_any W
  obtain ⟨a, cap, c4, rfl, hit, hr⟩ := (InV_iff w v cs).1 h
  obtain ⟨a2, cap2, rfl, -⟩ := hr.open_
  have HI := Lib.hid fun W (hb : Below w.heap.size w W) => InV_next hb v _ h
  have D0 := Lib.hid (Duo.new w #[.int .i64 v.k, .int .i64 v.n, .string v.s, .slice a v.l.length cap, .slice a2 v.ns.length cap2] (ruC Rul.zero))
  dsimp only [ruC, Rul.zero] at D0
  have hX : rdX v = if v.k = 5 then (match unk v.ns all with | some s => (s, 17) | none => fst (rdL v)) else (⟨#[]⟩, 15) := rfl
  by_cases h5 : v.k = 5
  · rw [if_pos h5] at hX
    have b5 : (v.k != 5) = false := by simp [h5]
    obtain ⟨U, hU⟩ : ∃ U, unk v.ns all = U := ⟨_, rfl⟩
    rw [hU] at hX HKN
    replace hX := Lib.hid hX
    clear h5 hU h hit hr hv hok
    generalize v.k = vk at *
    generalize v.n = vn at *
    generalize v.s = vs at *
    generalize v.l.length = vl at *
    generalize v.ns.length = vm at *
    go_enter Tryz.func36, Tryz.ntmps36
    go_upto_region 3 with (fail)
    generalize (w.alloc (.cells #[.int .i64 vk, .int .i64 vn, .string vs, .slice a vl cap, .slice a2 vm cap2] 26)).alloc (.cells #[.string ⟨#[]⟩, .string ⟨#[]⟩, .string ⟨#[]⟩, .int .i64 0, .int .i64 0, .int .i64 0, .int .i64 0, .int .i64 0, .int .i64 0, .int .i64 0, .int .i64 0, .int .i64 0, .int .i64 0] 49) = W0 at *
    go_cut [5, 6] from 18 to 23 (fun s b wx => s = .string (U.getD ⟨#[]⟩) ∧ b = .bool U.isNone ∧ Hid (Duo w #[.int .i64 vk, .int .i64 vn, .string vs, .slice a vl cap, .slice a2 vm cap2] #[.string ⟨#[]⟩, .string ⟨#[]⟩, .string ⟨#[]⟩, .int .i64 0, .int .i64 0, .int .i64 0, .int .i64 0, .int .i64 0, .int .i64 0, .int .i64 0, .int .i64 0, .int .i64 0, .int .i64 0] wx))
    case first =>
      have DD := Lib.hid D0.out.drew
      have p0 : W0.drew.cell? ⟨w.heap.size, 0, none⟩ = some (.int .i64 vk) := DD.out.one.cell 0
      have p1 : W0.drew.cell? ⟨w.heap.size, 1, none⟩ = some (.int .i64 vn) := DD.out.one.cell 1
      have p2 : W0.drew.cell? ⟨w.heap.size, 2, none⟩ = some (.string vs) := DD.out.one.cell 2
      have p3 : W0.drew.cell? ⟨w.heap.size, 3, none⟩ = some (.slice a vl cap) := DD.out.one.cell 3
      have p4 : W0.drew.cell? ⟨w.heap.size, 4, none⟩ = some (.slice a2 vm cap2) := DD.out.one.cell 4
      go_region_law (first
        | (go_simp; go_at_call 71; (with_reducible refine (HAL.out _).mono ?_); rintro e w1 ⟨rfl, hra, hba⟩; have D1 := Lib.hid (DD.out.next hba); have RA : Hid (Strs.Row w1 (.slice (some ⟨W0.heap.size, 0, none⟩) 13 13) all) := Lib.hid hra; have q0 := (hba.cell (Strs.cell_lt p0)).trans p0; have q1 := (hba.cell (Strs.cell_lt p1)).trans p1; have q2 := (hba.cell (Strs.cell_lt p2)).trans p2; have q3 := (hba.cell (Strs.cell_lt p3)).trans p3; have q4 := (hba.cell (Strs.cell_lt p4)).trans p4; clear hra hba)
        | (go_simp; go_at_call 21; (with_reducible refine (HKN.out _ _ _ (HI.out _ D1.out.bel) RA.out).mono ?_); rintro e w2 ⟨rfl, hbk⟩; have D2 := Lib.hid (D1.out.next hbk); clear hbk))
      all_goals
        go_wp2_with fail
        go_meet
        exact ⟨rfl, rfl, D2⟩
    case rest =>
      rename World => W3
      obtain ⟨rfl, rfl, D2⟩ := hcut
      clear HKN D0
      cases U with
      | some s =>
        rw [show (some s).getD ⟨#[]⟩ = s from rfl, show (some s).isNone = false from rfl]
        replace hX : rdX v = (s, 17) := hX.out
        have HXE := Lib.hid hX; have HOK := Lib.hid (show okR 17 (rdR v) = Rul.zero from rfl)
        clear hX HTX HNU HWD
        go_wp2_with (first
          | (refine Rul.wpList_keep _ rfl _ _ rfl w.heap.size w D2.out.bel _ (Nat.le_succ _) Rul.zero _ rfl rfl D2.out.two rfl ?_; intro w9 hk9 hb9 ho9))
        refine bodyPost_ret (Rul.results_three rfl _ _ _ _ rfl hk9 rfl) rfl ?_
        (try rw [HXE.out]); (try rw [HOK.out])
        exact ⟨rfl, hb9⟩
      | none =>
        rw [show (none : Option ByteArray).getD ⟨#[]⟩ = ⟨#[]⟩ from rfl, show (none : Option ByteArray).isNone = true from rfl]
        replace hX : rdX v = fst (rdL v) := hX.out
        rw [rdL_fst] at hX
        by_cases hw : (wdE v).2 = 0
        · have hw' : wdE v = (⟨#[]⟩, 0) := Rul.fst_ok _ hw
          rw [if_pos hw] at hX
          rw [hw', show okR ((⟨#[]⟩, (0 : Int)) : ByteArray × Int).2 (wdR v) = wdR v from rfl] at HWD
          clear hw hw'
          dsimp only at HWD
          have H3 := Lib.hid (HNU.out (nm 3))
          have H4 := Lib.hid (HTX.out (nm 4))
          obtain ⟨x3, hx3⟩ : ∃ x, nu v (nm 3) = x := ⟨_, rfl⟩
          obtain ⟨x4, hx4⟩ : ∃ x, tx v (nm 4) = x := ⟨_, rfl⟩
          rw [hx3] at hX H3
          rw [hx4] at hX H4
          have HX3 := Lib.hid hx3
          have HX4 := Lib.hid hx4
          obtain ⟨n3, e3⟩ := x3
          obtain ⟨s4, e4⟩ := x4
          dsimp only at H3 H4 hX
          rw [show nm 3 = ⟨#[112, 114, 105, 111, 114, 105, 116, 121]⟩ from rfl] at H3 hX
          rw [show nm 4 = ⟨#[107, 105, 110, 100]⟩ from rfl] at H4 hX
          clear hx3 hx4
          by_cases h3 : e3 = 15
          · subst h3
            rw [fst_yes _ (show only 15 ≠ 0 by decide), show only 15 = 15 from rfl] at hX
            have HXE := Lib.hid hX; have HOK := Lib.hid (show okR 15 (rdR v) = Rul.zero from rfl)
            clear hX
            go_wp2_with (first
              | (first | refine Tre.wpList_fetch _ rfl _ rfl _ _ rfl T6.out.one rfl ?_ | refine Tre.wpList_fetch _ rfl _ rfl _ _ rfl T4.out.one rfl ?_ | refine Tre.wpList_fetch _ rfl _ rfl _ _ rfl D2.out.one rfl ?_)
              | (go_at_call 72; (with_reducible refine (HWD.out _ _ (HI.out _ D2.out.bel)).mono ?_); rintro e w3 ⟨rfl, hb3⟩; have D3 := Lib.hid (D2.out.next hb3); have T3 := Lib.hid (D3.out.tri #[.string ⟨#[]⟩, .string ⟨#[]⟩, .string ⟨#[]⟩, .int .i64 0, .int .i64 0, .int .i64 0, .int .i64 0, .int .i64 0, .int .i64 0, .int .i64 0, .int .i64 0, .int .i64 0, .int .i64 0]); clear hb3)
              | (refine Rul.wpList_keep _ rfl _ _ rfl w.heap.size w T5.out.bel (w.heap.size + 1) (Nat.le_succ _) Rul.zero _ rfl rfl T5.out.two rfl ?_; intro w9 hk9 hb9 ho9)
              | (refine Rul.wpList_keep _ rfl _ _ rfl w.heap.size w T3.out.bel w3.heap.size (by have := T3.out.lt; omega) (wdR v) _ rfl rfl T3.out.thr rfl ?_; intro w4 hk4 hb4 ho4; have T4 := Lib.hid (T3.out.keep _ hk4 hb4 ho4); clear hk4 hb4 ho4)
              | (go_at_call 19; (with_reducible refine (H3.out _ _ (HI.out _ T4.out.bel)).mono ?_); rintro e w5 ⟨rfl, hb5⟩; have T5 := Lib.hid (T4.out.next hb5); clear hb5))
            refine bodyPost_ret (Rul.results_three rfl _ _ _ _ rfl hk9 rfl) rfl ?_
            rw [HXE.out, HOK.out]
            exact ⟨rfl, hb9⟩
          · rw [fst_no _ (show only e3 = 0 from if_neg h3)] at hX
            have b3 : (e3 == 15) = false := by simpa using h3
            clear h3
            by_cases h4 : e4 = 0
            · subst h4
              rw [fst_no _ rfl] at hX
              have HWN := Lib.hid fun k i W k0 k3 h5 hi => rwanted_any k i W k0 k3 h5 hi
              have HWI := Lib.hid fun r i n h5 hi W => rwith_any r i n h5 hi W
              have HKF := Lib.hid fun W => Rul.rkindof_any s4 W
              clear HTX
              have HXF0 := Lib.hid hX
              clear hX
              obtain ⟨F, hF⟩ : ∃ F, fst (ws v) = F := ⟨_, rfl⟩
              have HXF : Hid (rdX v = F) := Lib.hid (by rw [HXF0.out, hF])
              have hXX := Lib.hid (show F = fst ((ws v).drop 0) by rw [← hF]; rfl)
              clear hF
              go_wp2_with (first
                | (first | refine Tre.wpList_fetch _ rfl _ rfl _ _ rfl T6.out.one rfl ?_ | refine Tre.wpList_fetch _ rfl _ rfl _ _ rfl T4.out.one rfl ?_ | refine Tre.wpList_fetch _ rfl _ rfl _ _ rfl D2.out.one rfl ?_)
                | (go_at_call 72; (with_reducible refine (HWD.out _ _ (HI.out _ D2.out.bel)).mono ?_); rintro e w3 ⟨rfl, hb3⟩; have D3 := Lib.hid (D2.out.next hb3); have T3 := Lib.hid (D3.out.tri #[.string ⟨#[]⟩, .string ⟨#[]⟩, .string ⟨#[]⟩, .int .i64 0, .int .i64 0, .int .i64 0, .int .i64 0, .int .i64 0, .int .i64 0, .int .i64 0, .int .i64 0, .int .i64 0, .int .i64 0]); clear hb3)
                | (refine Rul.wpList_keep _ rfl _ _ rfl w.heap.size w T3.out.bel w3.heap.size (by have := T3.out.lt; omega) (wdR v) _ rfl rfl T3.out.thr rfl ?_; intro w4 hk4 hb4 ho4; have T4 := Lib.hid (T3.out.keep _ hk4 hb4 ho4); clear hk4 hb4 ho4)
                | (go_at_call 19; (with_reducible refine (H3.out _ _ (HI.out _ T4.out.bel)).mono ?_); rintro e w5 ⟨rfl, hb5⟩; have T5 := Lib.hid (T4.out.next hb5); have c3 : w5.cell? ⟨w3.heap.size, 3, none⟩ = some (.int .i64 0) := T5.out.thr.cell 3; have f3 := T5.out.thr.free 3; have T6 := Lib.hid (T5.out.set 3 (.int .i64 n3)); clear hb5)
                | (go_at_call 17; (with_reducible refine (H4.out _ _ (HI.out _ T6.out.bel)).mono ?_); rintro e w6 ⟨rfl, hb6⟩; have T7 := Lib.hid (T6.out.next hb6); have c4 : w6.cell? ⟨w3.heap.size, 4, none⟩ = some (.int .i64 0) := T7.out.thr.cell 4; have f4 := T7.out.thr.free 4; clear hb6)
                | (go_at_call 73; (with_reducible refine (HKF.out _).mono ?_); rintro e w7 ⟨rfl, rfl⟩; have T8 := Lib.hid (T7.out.set 4 (.int .i64 (kO s4))))
                | (go_at_call 71; (with_reducible refine (HAL.out _).mono ?_); rintro e w8 ⟨rfl, hra, hba⟩; have T9 := Lib.hid (T8.out.next hba); have NM0 := Lib.hid (row_cells (show Strs.Row w8 (.slice (some ⟨w6.heap.size, 0, none⟩) 13 13) all by simpa using hra)); clear hra hba))
              have HG := Lib.hid T7.out.thr.lt
              have T9 : Hid (Tri w w3.heap.size _ _ (ruC (par v 0)) w8) := Lib.hid (by
                have e : ((ruC (wdR v)).setIfInBounds 3 (.int .i64 n3)).setIfInBounds 4 (.int .i64 (kO s4)) = ruC (par v 0) := by
                  unfold par
                  rw [HX3.out, HX4.out]; rfl
                rw [← e]; exact T9.out)
              clear c3 f3 c4 f4 T3 T4 T5 T6 T7 T8 D3
              have HL0 := Lib.hid (Strs.cell_lt (NM0.out 0 (by decide)))
              have NM9 := Lib.hid fun (q : Nat) (hq : q < 8) => NM0.out (5 + q) (by show 5 + q < 13; omega)
              clear NM0
              go_loopw [65] (fun i wr => ∃ j : Nat, i = .int .i64 (j : Int) ∧ j ≤ 8 ∧ Hid (Tri w w3.heap.size _ _ (ruC (par v j)) wr) ∧ Hid (∀ q : Nat, q < 8 → wr.cell? ⟨w6.heap.size, 5 + q, none⟩ = some (.string (all.getD (5 + q) ⟨#[]⟩))) ∧ Hid (F = fst ((ws v).drop j)) ∧ Hid (w6.heap.size < wr.heap.size)) (fun i _ => 8 - (RowKit.intOf i).toNat)
              case atStart => exact ⟨0, rfl, Nat.zero_le _, T9, NM9, hXX, HL0⟩
              case round =>
                obtain ⟨j, rfl, hj, HT, NM, HX, HL⟩ := hrel
                by_cases hlt : j < 8
                · have cj := NM.out j hlt
                  rw [all_drop] at cj
                  have HDR := HX.out
                  rw [ws_drop v hlt] at HDR
                  have HNj := Lib.hid (HNU.out (nm (5 + j)))
                  have HPN := Lib.hid (par_next v hlt)
                  obtain ⟨y, hy⟩ : ∃ y, nu v (nm (5 + j)) = y := ⟨_, rfl⟩
                  rw [hy] at HDR HNj HPN
                  obtain ⟨nj, ej⟩ := y
                  dsimp only at HDR HNj HPN
                  have HWNj := Lib.hid (HWN.out (kO (tx v (nm 4)).1) (5 + j))
                  have HWNj := Lib.hid fun W => HWNj.out W (kO_in3 _).1 (kO_in3 _).2 (by omega) (by omega)
                  have HWIj := Lib.hid fun W => HWI.out (par v j) (5 + j) nj (by omega) (by omega) W
                  have HDR := Lib.hid HDR
                  clear hy
                  generalize wan (kO (tx v (nm 4)).1) (5 + j) = wn0 at *
                  generalize nm (5 + j) = sj at *
                  by_cases h15 : ej = 15
                  · subst h15
                    have EX := Lib.hid (show F = (sj, 15) by rw [HDR.out, fst_yes _ (show Jsn.wr 15 wn0 ≠ 0 from (by decide : (15 : Int) ≠ 0))]; rfl)
                    go_wp2_with (first
                      | (refine Tre.wpList_fetch _ rfl _ rfl _ _ rfl HT.out.one rfl ?_)
                      | (go_at_call 19; (with_reducible refine (HNj.out _ _ (HI.out _ HT.out.bel)).mono ?_); rintro e wn ⟨rfl, hbn⟩; have TN := Lib.hid (HT.out.next hbn); have kn : wn.cell? ⟨w3.heap.size, 4, none⟩ = some (.int .i64 (kO (tx v (nm 4)).1)) := TN.out.thr.cell 4; have NMn := Lib.hid fun q hq => (hbn.cell (Strs.cell_lt (NM.out q hq))).trans (NM.out q hq); have HLn := Lib.hid (Nat.lt_of_lt_of_le HL.out hbn.size); clear hbn)
                      | (refine Rul.wpList_keep _ rfl _ _ rfl w.heap.size w TN.out.bel (w.heap.size + 1) (Nat.le_succ _) Rul.zero _ rfl rfl TN.out.two rfl ?_; intro w9 hk9 hb9 ho9))
                    refine bodyPost_ret (Rul.results_three rfl _ _ _ _ rfl hk9 rfl) rfl ?_
                    rw [HXF.out, EX.out, show okR 15 (rdR v) = Rul.zero from rfl]
                    exact ⟨rfl, hb9⟩
                  by_cases h16 : ej = 16
                  · subst h16
                    cases wn0 with
                    | true =>
                      have EX := Lib.hid (show F = (sj, 16) by rw [HDR.out, fst_yes _ (show Jsn.wr 16 true ≠ 0 by decide)]; rfl)
                      go_wp2_with (first
                        | (refine Tre.wpList_fetch _ rfl _ rfl _ _ rfl HT.out.one rfl ?_)
                        | (go_at_call 19; (with_reducible refine (HNj.out _ _ (HI.out _ HT.out.bel)).mono ?_); rintro e wn ⟨rfl, hbn⟩; have TN := Lib.hid (HT.out.next hbn); have kn : wn.cell? ⟨w3.heap.size, 4, none⟩ = some (.int .i64 (kO (tx v (nm 4)).1)) := TN.out.thr.cell 4; have NMn := Lib.hid fun q hq => (hbn.cell (Strs.cell_lt (NM.out q hq))).trans (NM.out q hq); have HLn := Lib.hid (Nat.lt_of_lt_of_le HL.out hbn.size); clear hbn)
                        | (go_at_call 74; (with_reducible refine (HWNj.out _).mono ?_); rintro e wq ⟨rfl, hbq⟩; have TQ := Lib.hid (TN.out.next hbq); have NMq := Lib.hid fun q hq => (hbq.cell (Strs.cell_lt (NMn.out q hq))).trans (NMn.out q hq); have HLq := Lib.hid (Nat.lt_of_lt_of_le HLn.out hbq.size); clear hbq)
                        | (refine Rul.wpList_keep _ rfl _ _ rfl w.heap.size w TQ.out.bel (w.heap.size + 1) (Nat.le_succ _) Rul.zero _ rfl rfl TQ.out.two rfl ?_; intro w9 hk9 hb9 ho9))
                      refine bodyPost_ret (Rul.results_three rfl _ _ _ _ rfl hk9 rfl) rfl ?_
                      rw [HXF.out, EX.out, show okR 16 (rdR v) = Rul.zero from rfl]
                      exact ⟨rfl, hb9⟩
                    | false =>
                      have EX := Lib.hid (show F = fst ((ws v).drop (j + 1)) by rw [HDR.out, fst_no _ (show Jsn.wr 16 false = 0 by decide)])
                      go_wp2_with (first
                        | (refine Tre.wpList_fetch _ rfl _ rfl _ _ rfl HT.out.one rfl ?_)
                        | (go_at_call 19; (with_reducible refine (HNj.out _ _ (HI.out _ HT.out.bel)).mono ?_); rintro e wn ⟨rfl, hbn⟩; have TN := Lib.hid (HT.out.next hbn); have kn : wn.cell? ⟨w3.heap.size, 4, none⟩ = some (.int .i64 (kO (tx v (nm 4)).1)) := TN.out.thr.cell 4; have NMn := Lib.hid fun q hq => (hbn.cell (Strs.cell_lt (NM.out q hq))).trans (NM.out q hq); have HLn := Lib.hid (Nat.lt_of_lt_of_le HL.out hbn.size); clear hbn)
                        | (go_at_call 74; (with_reducible refine (HWNj.out _).mono ?_); rintro e wq ⟨rfl, hbq⟩; have TQ := Lib.hid (TN.out.next hbq); have NMq := Lib.hid fun q hq => (hbq.cell (Strs.cell_lt (NMn.out q hq))).trans (NMn.out q hq); have HLq := Lib.hid (Nat.lt_of_lt_of_le HLn.out hbq.size); clear hbq)
                        | (refine Rul.wpList_fetch _ rfl _ rfl _ _ rfl TQ.out.thr rfl ?_)
                        | (go_at_call 75; (with_reducible refine (HWIj.out _).mono ?_); rintro e wi ⟨rfl, hbi⟩; have TI := Lib.hid (TQ.out.next hbi); have NMi := Lib.hid fun q hq => (hbi.cell (Strs.cell_lt (NMq.out q hq))).trans (NMq.out q hq); have HLi := Lib.hid (Nat.lt_of_lt_of_le HLq.out hbi.size); clear hbi)
                        | (refine Rul.wpList_keep _ rfl _ _ rfl w.heap.size w TI.out.bel w3.heap.size (by have := TI.out.lt; omega) (setN (par v j) (5 + j) nj) _ rfl rfl TI.out.thr rfl ?_; intro w9 hk9 hb9 ho9))
                      go_roundw
                      case rel =>
                        refine ⟨j + 1, by go_num, by omega, Lib.hid ?_, Lib.hid fun q hq => ?_, EX, Lib.hid ?_⟩
                        · have := TI.out.keep _ hk9 hb9 ho9
                          rw [HPN.out] at this
                          exact this
                        · exact (keep_cell (ho9 _ (by have := HG.out; omega)) _).trans (NMi.out q hq)
                        · exact keep_lt (ho9 _ (by have := HG.out; omega)) HLi.out
                      case measure => simp [RowKit.intOf]; omega
                  have g15 : (ej == 15) = false := by simpa using h15
                  have g16 : (ej == 16) = false := by simpa using h16
                  have EX := Lib.hid (show F = fst ((ws v).drop (j + 1)) by rw [HDR.out, fst_no _ (show Jsn.wr ej wn0 = 0 from if_neg (by rintro (h | h); exact h15 h; exact h16 h.1))])
                  clear h15 h16
                  go_wp2_with (first
                    | (refine Tre.wpList_fetch _ rfl _ rfl _ _ rfl HT.out.one rfl ?_)
                    | (go_at_call 19; (with_reducible refine (HNj.out _ _ (HI.out _ HT.out.bel)).mono ?_); rintro e wn ⟨rfl, hbn⟩; have TN := Lib.hid (HT.out.next hbn); have kn : wn.cell? ⟨w3.heap.size, 4, none⟩ = some (.int .i64 (kO (tx v (nm 4)).1)) := TN.out.thr.cell 4; have NMn := Lib.hid fun q hq => (hbn.cell (Strs.cell_lt (NM.out q hq))).trans (NM.out q hq); have HLn := Lib.hid (Nat.lt_of_lt_of_le HL.out hbn.size); clear hbn)
                    | (refine Rul.wpList_fetch _ rfl _ rfl _ _ rfl TN.out.thr rfl ?_)
                    | (go_at_call 75; (with_reducible refine (HWIj.out _).mono ?_); rintro e wi ⟨rfl, hbi⟩; have TI := Lib.hid (TN.out.next hbi); have NMi := Lib.hid fun q hq => (hbi.cell (Strs.cell_lt (NMn.out q hq))).trans (NMn.out q hq); have HLi := Lib.hid (Nat.lt_of_lt_of_le HLn.out hbi.size); clear hbi)
                    | (refine Rul.wpList_keep _ rfl _ _ rfl w.heap.size w TI.out.bel w3.heap.size (by have := TI.out.lt; omega) (setN (par v j) (5 + j) nj) _ rfl rfl TI.out.thr rfl ?_; intro w9 hk9 hb9 ho9))
                  go_roundw
                  case rel =>
                    refine ⟨j + 1, by go_num, by omega, Lib.hid ?_, Lib.hid fun q hq => ?_, EX, Lib.hid ?_⟩
                    · have := TI.out.keep _ hk9 hb9 ho9
                      rw [HPN.out] at this
                      exact this
                    · exact (keep_cell (ho9 _ (by have := HG.out; omega)) _).trans (NMi.out q hq)
                    · exact keep_lt (ho9 _ (by have := HG.out; omega)) HLi.out
                  case measure => simp [RowKit.intOf]; omega
                · obtain rfl : j = 8 := by omega
                  have EX := Lib.hid (show F = fst ([] : List (ByteArray × Int)) by have := HX.out; rw [ws_end] at this; exact this)
                  go_wp2_with (first
                    | (refine Rul.wpList_fetch _ rfl _ rfl _ _ rfl HT.out.thr rfl ?_)
                    | (refine Rul.wpList_keep _ rfl _ _ rfl w.heap.size w HT.out.bel (w.heap.size + 1) (Nat.le_succ _) (par v 8) _ rfl rfl HT.out.two rfl ?_; intro w9 hk9 hb9 ho9))
                  refine bodyPost_ret (Rul.results_three rfl _ _ _ _ rfl hk9 rfl) rfl ?_
                  (try rw [HXF.out]); (try rw [EX.out]); (try rw [show okR (fst ([] : List (ByteArray × Int))).2 (rdR v) = par v 8 from rfl])
                  exact ⟨rfl, hb9⟩
            · rw [fst_yes _ h4] at hX
              have b4 : (e4 != 0) = true := by simpa using h4
              have HXE := Lib.hid hX; have HOK := Lib.hid (show okR e4 (rdR v) = Rul.zero from if_neg h4)
              clear hX h4
              go_wp2_with (first
                | (first | refine Tre.wpList_fetch _ rfl _ rfl _ _ rfl T6.out.one rfl ?_ | refine Tre.wpList_fetch _ rfl _ rfl _ _ rfl T4.out.one rfl ?_ | refine Tre.wpList_fetch _ rfl _ rfl _ _ rfl D2.out.one rfl ?_)
                | (go_at_call 72; (with_reducible refine (HWD.out _ _ (HI.out _ D2.out.bel)).mono ?_); rintro e w3 ⟨rfl, hb3⟩; have D3 := Lib.hid (D2.out.next hb3); have T3 := Lib.hid (D3.out.tri #[.string ⟨#[]⟩, .string ⟨#[]⟩, .string ⟨#[]⟩, .int .i64 0, .int .i64 0, .int .i64 0, .int .i64 0, .int .i64 0, .int .i64 0, .int .i64 0, .int .i64 0, .int .i64 0, .int .i64 0]); clear hb3)
                | (refine Rul.wpList_keep _ rfl _ _ rfl w.heap.size w T7.out.bel (w.heap.size + 1) (Nat.le_succ _) Rul.zero _ rfl rfl T7.out.two rfl ?_; intro w9 hk9 hb9 ho9)
                | (refine Rul.wpList_keep _ rfl _ _ rfl w.heap.size w T3.out.bel w3.heap.size (by have := T3.out.lt; omega) (wdR v) _ rfl rfl T3.out.thr rfl ?_; intro w4 hk4 hb4 ho4; have T4 := Lib.hid (T3.out.keep _ hk4 hb4 ho4); clear hk4 hb4 ho4)
                | (go_at_call 19; (with_reducible refine (H3.out _ _ (HI.out _ T4.out.bel)).mono ?_); rintro e w5 ⟨rfl, hb5⟩; have T5 := Lib.hid (T4.out.next hb5); have c3 : w5.cell? ⟨w3.heap.size, 3, none⟩ = some (.int .i64 0) := T5.out.thr.cell 3; have f3 := T5.out.thr.free 3; have T6 := Lib.hid (T5.out.set 3 (.int .i64 n3)); clear hb5)
                | (go_at_call 17; (with_reducible refine (H4.out _ _ (HI.out _ T6.out.bel)).mono ?_); rintro e w6 ⟨rfl, hb6⟩; have T7 := Lib.hid (T6.out.next hb6); have c4 : w6.cell? ⟨w3.heap.size, 4, none⟩ = some (.int .i64 0) := T7.out.thr.cell 4; have f4 := T7.out.thr.free 4; clear hb6))
              refine bodyPost_ret (Rul.results_three rfl _ _ _ _ rfl hk9 rfl) rfl ?_
              rw [HXE.out, HOK.out]
              exact ⟨rfl, hb9⟩
        · rw [if_neg hw] at hX
          have HXE := Lib.hid hX; have HOK := Lib.hid (show okR (wdE v).2 (rdR v) = Rul.zero from if_neg hw)
          rw [show okR (wdE v).2 (wdR v) = Rul.zero from if_neg hw] at HWD
          have b1 : ((wdE v).2 != 0) = true := by simpa using hw
          clear hX hw
          generalize wdE v = x at *
          obtain ⟨p, E⟩ := x
          dsimp only at b1 HWD ⊢
          go_wp2_with (first
            | (first | refine Tre.wpList_fetch _ rfl _ rfl _ _ rfl T6.out.one rfl ?_ | refine Tre.wpList_fetch _ rfl _ rfl _ _ rfl T4.out.one rfl ?_ | refine Tre.wpList_fetch _ rfl _ rfl _ _ rfl D2.out.one rfl ?_)
            | (go_at_call 72; (with_reducible refine (HWD.out _ _ (HI.out _ D2.out.bel)).mono ?_); rintro e w3 ⟨rfl, hb3⟩; have D3 := Lib.hid (D2.out.next hb3); have T3 := Lib.hid (D3.out.tri #[.string ⟨#[]⟩, .string ⟨#[]⟩, .string ⟨#[]⟩, .int .i64 0, .int .i64 0, .int .i64 0, .int .i64 0, .int .i64 0, .int .i64 0, .int .i64 0, .int .i64 0, .int .i64 0, .int .i64 0]); clear hb3)
            | (refine Rul.wpList_keep _ rfl _ _ rfl w.heap.size w T4.out.bel (w.heap.size + 1) (Nat.le_succ _) Rul.zero _ rfl rfl T4.out.two rfl ?_; intro w9 hk9 hb9 ho9)
            | (refine Rul.wpList_keep _ rfl _ _ rfl w.heap.size w T3.out.bel w3.heap.size (by have := T3.out.lt; omega) Rul.zero _ rfl rfl T3.out.thr rfl ?_; intro w4 hk4 hb4 ho4; have T4 := Lib.hid (T3.out.keep _ hk4 hb4 ho4); clear hk4 hb4 ho4))
          refine bodyPost_ret (Rul.results_three rfl _ _ _ _ rfl hk9 rfl) rfl ?_
          rw [HXE.out, HOK.out]
          exact ⟨rfl, hb9⟩
  · rw [if_neg h5] at hX
    rw [hX, show okR 15 (rdR v) = Rul.zero from rfl]
    have b5 : (v.k != 5) = true := by simpa using h5
    clear hX h5
    go_enter Tryz.func36, Tryz.ntmps36
    go_wp2_with (first
      | (refine Rul.wpList_keep _ rfl _ _ rfl w.heap.size w D0.out.bel _ (Nat.le_succ _) Rul.zero _ rfl rfl D0.out.two rfl ?_; intro w9 hk9 hb9 ho9))
    refine bodyPost_ret (Rul.results_three rfl _ _ _ _ rfl hk9 rfl) rfl ?_
    exact ⟨rfl, hb9⟩
end Go.Proofs.YtehkiojohldlgaaGreatDoor.Jsn
