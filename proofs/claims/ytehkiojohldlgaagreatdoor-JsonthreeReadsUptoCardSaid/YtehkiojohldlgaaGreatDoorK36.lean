/- Texts of my own, packed: JsnI. Conditions: as each theorem states. -/
import Derived.Deep.RegionLaw
import Derived.Test.YtehkiojohldlgaaGreatDoorK08
import Derived.Test.YtehkiojohldlgaaGreatDoorK13
import Derived.Test.YtehkiojohldlgaaGreatDoorK34
import Derived.Test.YtehkiojohldlgaaGreatDoorK35
namespace Go.Proofs.YtehkiojohldlgaaGreatDoor.Jsn
open Go.RowKit Go.Lib
open Go.Proofs.YtehkiojohldlgaaGreatDoor.Tre (Vt V0 InV InS InS_upd InS_in InS_one InV_five InV_cells OwnR Box box_new box_set set_other own_in step_vpush)
open Go.Proofs.YtehkiojohldlgaaGreatDoor.Rul (Ru ruC Row rga range_cells rangeAt_next)
open Go.Proofs.YtehkiojohldlgaaGreatDoor.Thr (sck scn ga Mod rga_ga)
open Go.Proofs.YtehkiojohldlgaaGreatDoor.Ren (Pw)

/-- The list's variable and its row, while objects are put on. -/
structure Pt (w1 : World) (C : List Ru) (W : World) (i : Nat) (c3 : Value) (D : List (List Value)) : Prop where
  r3 : OwnR W (w1.heap.size + 1) c3 D
  len : D.length = i
  it : ∀ j, j < i → InS (fun b => w1.heap.size + 1 ≤ b ∧ c3.ownBlock ≠ some b) W (one (ga C j)) (D.getD j [])
  bx : Box W w1.heap.size #[.int .i64 4, .int .i64 0, .string ⟨#[]⟩, c3, .slice none 0 0]
  bel : Below w1.heap.size w1 W
  sz : w1.heap.size + 1 ≤ W.heap.size
theorem Pt.start (w1 : World) (C : List Ru) : Pt w1 C (w1.alloc (.cells #[.int .i64 4, .int .i64 0, .string ⟨#[]⟩, .slice none 0 0, .slice none 0 0] 26)) 0 (.slice none 0 0) [] :=
  ⟨OwnR.nil _ _, rfl, fun _ hj => absurd hj (Nat.not_lt_zero _), box_new _ _, (Below.refl _ _).alloc (Nat.le_refl _) _, by simp⟩
theorem Pt.step {w1 W w2 w4 : World} {C : List Ru} {i : Nat} {c3 v' : Value} {D : List (List Value)} {es : List Value} {o : Obj} (h : Pt w1 C W i c3 D) (hb2 : Below W.heap.size W w2) (hS : InS (fun b => W.heap.size ≤ b) w2 (one (ga C i)) es)
    (hv : OwnR w4 (w1.heap.size + 1) v' (D ++ [es])) (hg : (w2.alloc o).grownBy w4 c3.ownBlock) (hk : ∀ b, v'.ownBlock = some b → c3.ownBlock = some b ∨ b = (w2.alloc o).heap.size) :
    Box w4 w1.heap.size #[.int .i64 4, .int .i64 0, .string ⟨#[]⟩, c3, .slice none 0 0] ∧ Pt w1 C (w4.setCell ⟨w1.heap.size, 3, none⟩ v') (i + 1) v' (D ++ [es]) := by
  obtain ⟨h1, h2, h3, h4, h7, h8⟩ := h
  have hs2 := hb2.size
  have hs3 : (w2.alloc o).heap.size = w2.heap.size + 1 := by simp
  have hs4 := hg.size
  have keep : ∀ b, b < w2.heap.size → c3.ownBlock ≠ some b → w4.heap[b]? = w2.heap[b]? := fun b hb hne => (hg.block b (by omega) (fun q => hne q.symm)).trans (Below.heap_alloc _ _ _ hb)
  have low : ∀ b, b < w1.heap.size + 1 → w4.heap[b]? = W.heap[b]? := fun b hb => (keep b (by omega) (fun q => by have := (own_in h1 q).1; omega)).trans (hb2.block b (by omega))
  have fin : ∀ b, w1.heap.size + 1 ≤ b → (w4.setCell ⟨w1.heap.size, 3, none⟩ v').heap[b]? = w4.heap[b]? := fun b hb => set_other v' (by omega)
  have b3 : Box w4 w1.heap.size #[.int .i64 4, .int .i64 0, .string ⟨#[]⟩, c3, .slice none 0 0] := (low _ (by omega)).trans h4
  refine ⟨b3, hv.beside fun b hb => fin b (own_in hv hb).1, by rw [List.length_append, h2]; rfl, fun j hj => ?_, box_set b3 v', ?_, by simp; omega⟩
  · rw [Tre.getD_app]
    by_cases hji : j < D.length
    · rw [if_pos hji]
      refine InS_upd (fun b hb hl => ?_) _ _ (h3 j (by omega))
      refine ⟨(fin b hb.1).trans ((keep b (by omega) hb.2).trans (hb2.block b hl)), hb.1, fun q => ?_⟩
      rcases hk b q with q | q
      · exact hb.2 q
      · omega
    · have hj2 : j = D.length := by omega
      rw [if_neg hji, if_pos hj2, hj2, h2]
      refine InS_upd (fun b hb hl => ?_) _ _ hS
      have hne : c3.ownBlock ≠ some b := fun q => by have := (own_in h1 q).2; omega
      refine ⟨(fin b (by omega)).trans (keep b hl hne), by omega, fun q => ?_⟩
      rcases hk b q with q | q
      · exact hne q
      · omega
  · have e1 : Below w1.heap.size w1 w4 := ⟨hg.os.trans (by have := (hb2.alloc (o := o) hs2).os; exact this.trans h7.os), hg.tape.trans ((hb2.alloc (o := o) hs2).tape.trans h7.tape), hg.output.trans ((hb2.alloc (o := o) hs2).output.trans h7.output), by have := h7.size; omega, fun b hb => (low b (by omega)).trans (h7.block b hb)⟩
    exact Byt.below_set e1 (by omega) 3 v'
theorem Pt.made {w1 W : World} {C : List Ru} {c3 : Value} {D : List (List Value)} (h : Pt w1 C W C.length c3 D) : InS (fun b => w1.heap.size + 1 ≤ b) W (putV C) [.int .i64 4, .int .i64 0, .string ⟨#[]⟩, c3, .slice none 0 0] := by
  refine Tre.made 4 0 ⟨#[]⟩ h.r3 ⟨by rw [h.len, List.length_map], fun j hj => ?_⟩ ⟨Strs.Row.nil _, fun q => absurd rfl q⟩ (fun _ hb => hb)
  rw [List.length_map] at hj
  have := h.it j hj
  rw [show (C.map one).getD j V0 = one (ga C j) by rw [List.getD_eq_getElem?_getD, List.getElem?_map, List.getElem?_eq_getElem hj, Thr.ga_at hj]; rfl]
  exact InS_upd (fun b hb _ => ⟨rfl, hb.1⟩) _ _ this
/-- What is put, if the set is right. -/
def putO (L : List Ru) : Vt := if (sck L).2 = 0 then putV (scn L) else V0

theorem zero_in (S : Nat → Prop) (W : World) : InS S W V0 Tre.zeroC :=
  (Tre.InS_iff _ _).2 ⟨none, 0, _, rfl, fun _ hj => absurd hj (Nat.not_lt_zero _), Strs.Row.nil _, fun h => absurd rfl h⟩
/-- What a function hands back whose first result of three is a value in memory. -/
theorem results_valn {fn : Func} {p t u : Tmp} (h : fn.results = #[.cell p 26, .tmp t, .tmp u]) (tmps : Array Value) (w : World) (g : Nat) (cs : Array Value)
    (hp : tmps.getD p undef = .pointer (some ⟨g, 0, none⟩)) (hk : Box w g cs) (h5 : cs.size = 5) : (results fn tmps).run Tryz.prog w = .ok (.tuple #[.agg cs, tmps.getD t undef, tmps.getD u undef]) w := by
  have hl := run_loadVar_row (P := Tryz.prog) w g _ 26 cs _ _ hk Tryz.underlying26 rfl (by rw [Tre.infoV, h5])
  have hp' : tmps[p]?.getD undef = .pointer (some ⟨g, 0, none⟩) := by simpa using hp
  simp [results, h, hp', asAddr, hl]
set_option maxHeartbeats 8000000 in
set_option maxRecDepth 100000 in
theorem rput_any (L : List Ru) (v : Value) (w : World) (hr : Row w v L) (hl : L.length ≤ 9223372036854775807) (hs : Mod L) (hP : Pw w) :
    Calls Tryz.prog 11 #[v] w fun e w' => ∃ cs : List Value, e = .returned (.tuple #[.agg cs.toArray, .string (sck L).1, .int .i64 (sck L).2]) ∧ InS (fun b => w.heap.size ≤ b) w' (putO L) cs ∧ Below w.heap.size w w' := by
  have hA := Lib.hid fun o => (Below.refl w.heap.size w).alloc (Nat.le_refl _) o
  have HCN := Lib.hid fun o => Thr.rcanon_any L v (w.alloc o) (hr.next (hA.out o)) hl hs (hP.next (hA.out o))
  have hbn : (scn L).length ≤ 4096 := by
    by_cases hz : (sck L).2 = 0
    · have hrs := (Thr.sck_zero L).1 hz
      have := Thr.scn_len hrs
      have := hrs.len
      omega
    · rw [Thr.scn_no hz]; exact Nat.zero_le _
  have hp0 : (sck L).2 = 0 → (sck L).1 = ⟨#[]⟩ := fun h => by rw [Thr.sck_ok ((Thr.sck_zero L).1 h)]
  unfold putO
  generalize scn L = C at *
  generalize sck L = x at *
  obtain ⟨p, E⟩ := x
  dsimp only at HCN hp0 ⊢
  clear hr hl hs hP
  by_cases hz : E = 0
  · subst hz
    obtain rfl := hp0 rfl
    clear hp0
    rw [if_pos rfl]
    go_enter Tryz.func11, Tryz.ntmps11
    go_wp2_with (first
      | (go_at_call 29; (with_reducible refine (HCN.out _).mono ?_); rintro e w1 ⟨u1, rfl, hr1, hb1⟩; obtain ⟨a1, cap1, rfl, -, hc1⟩ := hr1.open_; have HC := Lib.hid hc1; obtain ⟨hz1, hw1⟩ := Tre.box_after hb1; have Z1 := Lib.hid (show Box w1 w.heap.size Tre.zeroC.toArray from hz1); have B1 := Lib.hid hw1; have P0 := Lib.hid (Pt.start w1 C); clear hr1 hb1 hc1 hz1 hw1))
    go_loopw [24] (fun i wr => ∃ (k : Nat) (a3 : Option Addr) (n3 p3 : Nat) (D : List (List Value)), i = .int .i64 (k : Int) ∧ k ≤ C.length ∧ Hid (Pt w1 C wr k (.slice a3 n3 p3) D)) (fun i _ => C.length - (RowKit.intOf i).toNat)
    case atStart => exact ⟨0, _, _, _, _, rfl, Nat.zero_le _, P0⟩
    case round =>
      clear P0
      obtain ⟨k, a3, n3, p3, D, rfl, hk, HP⟩ := hrel
      by_cases hlt : k < C.length
      · obtain ⟨b, off, rfl, hcl⟩ := HC.out k hlt
        rw [rga_ga] at hcl
        have hd0 : Below wr.heap.size wr wr.drew := (Below.refl _ _).drew
        obtain ⟨X, hX⟩ : ∃ X, X = ga C k := ⟨_, rfl⟩
        rw [← hX] at hcl
        obtain ⟨x0, x1, x2, x3, x4, x5, x6, x7, x8, x9, x10, x11, x12⟩ := range_cells (rangeAt_next hcl (HP.out.bel.trans (hd0.mono HP.out.bel.size)))
        have HONE := Lib.hid fun W (X : Ru) => (show Calls Tryz.prog 30 #[.agg #[.string X.id, .string X.no, .string X.ro, .int .i64 X.pr, .int .i64 X.ki, .int .i64 X.ra, .int .i64 X.pe, .int .i64 X.bu, .int .i64 X.co, .int .i64 X.mx, .int .i64 X.fa, .int .i64 X.wa, .int .i64 X.pb]] W fun e w' => ∃ cs : List Value, e = .returned (.agg cs.toArray) ∧ InS (fun b => W.heap.size ≤ b) w' (one X) cs ∧ Below W.heap.size W w' from rone_any X W)
        have HON2 := Lib.hid fun W => HONE.out W X
        obtain ⟨Y, hY⟩ : ∃ Y, Y = one X := ⟨_, rfl⟩
        rw [← hY] at HON2
        have HY := Lib.hid (show Y = one (ga C k) by rw [hY, hX])
        clear HONE hcl hY hX
        have y3 : wr.drew.cell? ⟨w1.heap.size, 3, none⟩ = some (.slice a3 n3 p3) := HP.out.bx.cell 3
        have hlim : (D.length + 1) * 80 ≤ 140737488355328 := by have := HP.out.len; omega
        have O1 := Lib.hid HP.out.r3
        have hsz := HP.out.sz
        go_wp2_with fail
        go_region_law (first
          | (refine step_vpush _ (by rfl) (.tmp 28) (.tmp 34) (by rfl) (w1.heap.size + 1) (.slice a3 n3 p3) D (by rfl) (own2.alloc _) (by simp; omega) _ _ (by rfl) _ (by exact box_new _ _) e5 e1 hlim ?_; intro v' w4 hv4 hg4 hk4; obtain ⟨a9, n9, p9, e9⟩ := slc3 hv4; subst e9; have X4 := Pt.step HP.out hb3 (HY.out ▸ hS2.out) hv4 hg4 hk4; have bx4 := X4.1; have S4 := Lib.hid X4.2; have f3 : w4.cell? ⟨w1.heap.size, 3, none⟩ = some (.slice a3 n3 p3) := bx4.cell 3; have ff : ∀ j, w4.frozen? ⟨w1.heap.size, j, none⟩ = false := fun j => bx4.free j; clear X4)
          | (go_simp; go_at_call 30; (with_reducible refine (HON2.out _).mono ?_); rintro e w2 ⟨es, rfl, hS, hb2⟩; have hb3 : Below wr.heap.size wr w2 := hd0.trans hb2; have hS2 := Lib.hid (show InS (fun b => wr.heap.size ≤ b) w2 Y es from hS); have q3 : w2.cell? ⟨w1.heap.size, 3, none⟩ = some (.slice a3 n3 p3) := (hb3.cell (p := ⟨w1.heap.size, 3, none⟩) HP.out.bx.lt).trans (HP.out.bx.cell 3); have qa : ∀ o, (w2.alloc o).cell? ⟨w1.heap.size, 3, none⟩ = some (.slice a3 n3 p3) := fun o => (((Below.refl w2.heap.size w2).alloc (Nat.le_refl _) o).cell (p := ⟨w1.heap.size, 3, none⟩) (Nat.lt_of_lt_of_le HP.out.bx.lt hb3.size)).trans q3; have own2 := O1.out.next hb3; have i2 := InS_in _ _ hS; have e5 := InV_five i2; have e1 := InS_one i2; obtain ⟨ez1, ez2, ez3, ez4, ez5, ez6, ez7, ez8, ez9, hes⟩ := Tre.InV_shp i2; subst hes; have hsz5 : w1.heap.size + 1 ≤ w2.heap.size := Nat.le_trans hsz hb3.size))
        all_goals
          go_wp2_with fail
          go_roundw
          case rel => exact ⟨k + 1, _, _, _, _, by go_num, by omega, S4⟩
          case measure => simp [RowKit.intOf]; omega
      · obtain rfl : k = C.length := by omega
        have HPM := Lib.hid HP.out.made
        have hzx : Box wr w.heap.size Tre.zeroC.toArray := Z1.out.next HP.out.bel Z1.out.lt
        have hbw : Below w.heap.size w wr := B1.out.trans (HP.out.bel.mono B1.out.size)
        have ho5 := Lib.hid (InS_one (InS_in _ _ HPM.out))
        have hlw : w.heap.size < w1.heap.size := Z1.out.lt
        go_wp2_with (first
          | (refine Tre.wpList_fetch _ rfl _ rfl _ _ rfl HP.out.bx rfl ?_)
          | (refine Tre.wpList_keep _ rfl _ _ rfl w.heap.size w hbw w.heap.size (Nat.le_refl _) #[.int .i64 4, .int .i64 0, .string ⟨#[]⟩, .slice a3 n3 p3, .slice none 0 0] _ rfl rfl hzx rfl rfl ho5.out ?_; intro w9 bx9 hb9 hk9 hs9; clear hs9))
        refine bodyPost_ret (results_valn rfl _ _ _ _ rfl bx9 rfl) rfl ?_
        exact ⟨[.int .i64 4, .int .i64 0, .string ⟨#[]⟩, .slice a3 n3 p3, .slice none 0 0], rfl, InS_upd (fun b hb _ => ⟨hk9 b (by omega), by omega⟩) _ _ HPM.out, hb9⟩
  · rw [if_neg hz]
    have b1 : (E != 0) = true := by simpa using hz
    clear hz hp0
    go_enter Tryz.func11, Tryz.ntmps11
    go_wp2_with (first
      | (go_at_call 29; (with_reducible refine (HCN.out _).mono ?_); rintro e w1 ⟨u1, rfl, hr1, hb1⟩; obtain ⟨hz1, hw1⟩ := Tre.box_after hb1; have Z1 := Lib.hid (show Box w1 w.heap.size Tre.zeroC.toArray from hz1); have B1 := Lib.hid hw1; clear hr1 hb1 hz1 hw1)
      | (refine Tre.wpList_keep _ rfl _ _ rfl w.heap.size w B1.out w.heap.size (Nat.le_refl _) Tre.zeroC.toArray _ rfl rfl Z1.out rfl rfl (by intro u hu; simp only [Tre.zeroC, List.mem_cons, List.not_mem_nil, or_false] at hu; rcases hu with rfl | rfl | rfl | rfl | rfl <;> rfl) ?_; intro w9 bx9 hb9 hk9 hs9; clear hs9))
    refine bodyPost_ret (results_valn rfl _ _ _ _ rfl bx9 rfl) rfl ?_
    exact ⟨_, rfl, zero_in _ _, hb9⟩
end Go.Proofs.YtehkiojohldlgaaGreatDoor.Jsn
