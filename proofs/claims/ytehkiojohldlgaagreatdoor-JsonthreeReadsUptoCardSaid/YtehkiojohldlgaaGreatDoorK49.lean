/- Texts of my own, packed: JsnZc. Conditions: as each theorem states. -/
import Derived.Deep.RegionLaw
import Derived.Deep.CutRange
import Derived.Test.YtehkiojohldlgaaGreatDoorK09
import Derived.Test.YtehkiojohldlgaaGreatDoorK29
import Derived.Test.YtehkiojohldlgaaGreatDoorK33
import Derived.Test.YtehkiojohldlgaaGreatDoorK46
namespace Go.Proofs.YtehkiojohldlgaaGreatDoor.Jsn
open Go.RowKit Go.Lib
open Go.Proofs.YtehkiojohldlgaaGreatDoor.Tre (Vt V0 find OkT OkT_iff InV InV_iff InV_next InV_five InS_one Box box_new)
open Go.Proofs.YtehkiojohldlgaaGreatDoor.Rul (Ru ruC fst fst_yes fst_no fst_app Bx kO)

/-- What is told of a rule's object: the path of what is wrong with it. -/
def rp (v : Vt) : ByteArray := if v.k = 5 ∧ (rdE v).2 ≠ 0 then Ptr.jB ⟨#[]⟩ (rdE v).1 else ⟨#[]⟩
theorem rdL_size (v : Vt) : (fst (rdL v)).1.size ≤ 8 := by
  rcases fst_mem (rdL v) with k | ⟨x, hx, k⟩
  · rw [k]; exact Nat.zero_le _
  · rw [k]
    have key : ∃ i, i < 13 ∧ x.1 = nm i := by
      unfold rdL at hx
      simp only [List.mem_cons, List.mem_map] at hx
      rcases hx with rfl | rfl | rfl | rfl | rfl | ⟨i, hi, rfl⟩
      · exact ⟨0, by decide, rfl⟩
      · exact ⟨1, by decide, rfl⟩
      · exact ⟨2, by decide, rfl⟩
      · exact ⟨3, by decide, rfl⟩
      · exact ⟨4, by decide, rfl⟩
      · exact ⟨i, by have : i < 13 := by { simp only [List.not_mem_nil, or_false] at hi; omega }; exact this, rfl⟩
    obtain ⟨i, hi, e⟩ := key
    rw [e]
    exact nm_size i hi

/-! ### the call's two variables -/
structure Qd (w : World) (gr gf : Nat) (o : Value × Value × Value × Value × Value) (r : Ru) (x : ByteArray × Int) (W : World) : Prop where
  rb : Bx W gr (ruC r)
  fb : Rd W gf o x
  rz : Bx W (w.heap.size + 1) (ruC Rul.zero)
  ne : gr ≠ gf
  lr : w.heap.size + 2 ≤ gr
  lf : w.heap.size + 2 ≤ gf
  bel : Below w.heap.size w W
section
variable {w W W' : World} {gr gf : Nat} {o : Value × Value × Value × Value × Value} {r : Ru} {x : ByteArray × Int}
theorem Qd.next (h : Qd w gr gf o r x W) (hb : Below W.heap.size W W') : Qd w gr gf o r x W' :=
  ⟨h.rb.next hb h.rb.lt, h.fb.next hb, h.rz.next hb h.rz.lt, h.ne, h.lr, h.lf, h.bel.trans (hb.mono h.bel.size)⟩
theorem Qd.called {y : ByteArray × Int} (h : Qd w gr gf o r x W) (hr : Rd W' gf o y) (hc : Ch (fun b => b = gf) W W') : Qd w gr gf o r y W' := by
  have := h.lf
  have := h.fb.lt
  refine ⟨(hc.block _ h.rb.lt h.ne).trans h.rb, hr, (hc.block _ h.rz.lt (by omega)).trans h.rz, h.ne, h.lr, h.lf, h.bel.trans ((hc.below (N := gf) (fun b q => Nat.le_of_eq q.symm) (by omega)).mono (by omega))⟩
theorem Qd.set (h : Qd w gr gf o r x W) (j : Nat) (v : Value) (r' : Ru) (hr : (ruC r).setIfInBounds j v = ruC r') : Qd w gr gf o r' x (W.setCell ⟨gr, j, none⟩ v) := by
  have := h.lr
  refine ⟨by rw [← hr]; exact h.rb.set j v, h.fb.keep (Tre.set_other v fun q => h.ne q.symm), (Tre.set_other v (by omega)).trans h.rz, h.ne, h.lr, h.lf, h.bel.setCell (p := ⟨gr, j, none⟩) (by show w.heap.size ≤ gr; omega) v⟩
theorem Qd.new {cs zs : Array Value} (h0 : Duo w cs zs W) (hz : zs = ruC Rul.zero) (hg : W.heap.size = w.heap.size + 2) (hne : gr ≠ gf) (hlr : W.heap.size ≤ gr) (hlf : W.heap.size ≤ gf) (hb : Below W.heap.size W W') (hr : Bx W' gr (ruC Rul.zero)) (hf : Rd W' gf o (⟨#[]⟩, 0)) : Qd w gr gf o Rul.zero (⟨#[]⟩, 0) W' := by
  subst hz
  exact ⟨hr, hf, h0.two.next hb h0.two.lt, hne, by omega, by omega, h0.bel.trans (hb.mono h0.bel.size)⟩
end
theorem par_set (v : Vt) {j : Nat} (h : j < 8) : (ruC (par v j)).setIfInBounds (5 + j) (.int .i64 (nu v (nm (5 + j))).1) = ruC (par v (j + 1)) := by
  obtain rfl | rfl | rfl | rfl | rfl | rfl | rfl | rfl : j = 0 ∨ j = 1 ∨ j = 2 ∨ j = 3 ∨ j = 4 ∨ j = 5 ∨ j = 6 ∨ j = 7 := by omega
  all_goals rfl
theorem par_cell (v : Vt) {j : Nat} (h : j < 8) : (ruC (par v j))[5 + j]? = some (.int .i64 0) := by
  obtain rfl | rfl | rfl | rfl | rfl | rfl | rfl | rfl : j = 0 ∨ j = 1 ∨ j = 2 ∨ j = 3 ∨ j = 4 ∨ j = 5 ∨ j = 6 ∨ j = 7 := by omega
  all_goals rfl
/-- What a store of zero into the result's variable is asked, where zero stands there. -/
theorem zero13 {W : World} {g : Nat} (h : Bx W g (ruC Rul.zero)) : (W.cell? ⟨g, 0, none⟩ = some (.string ⟨#[]⟩) ∧ W.cell? ⟨g, 1, none⟩ = some (.string ⟨#[]⟩) ∧ W.cell? ⟨g, 2, none⟩ = some (.string ⟨#[]⟩) ∧ W.cell? ⟨g, 3, none⟩ = some (.int .i64 0) ∧ W.cell? ⟨g, 4, none⟩ = some (.int .i64 0) ∧ W.cell? ⟨g, 5, none⟩ = some (.int .i64 0) ∧ W.cell? ⟨g, 6, none⟩ = some (.int .i64 0) ∧ W.cell? ⟨g, 7, none⟩ = some (.int .i64 0) ∧ W.cell? ⟨g, 8, none⟩ = some (.int .i64 0) ∧ W.cell? ⟨g, 9, none⟩ = some (.int .i64 0) ∧ W.cell? ⟨g, 10, none⟩ = some (.int .i64 0) ∧ W.cell? ⟨g, 11, none⟩ = some (.int .i64 0) ∧ W.cell? ⟨g, 12, none⟩ = some (.int .i64 0)) ∧ (∀ j, W.frozen? ⟨g, j, none⟩ = false) ∧ (W.setCell ⟨g, 0, none⟩ (.string ⟨#[]⟩) = W ∧ W.setCell ⟨g, 1, none⟩ (.string ⟨#[]⟩) = W ∧ W.setCell ⟨g, 2, none⟩ (.string ⟨#[]⟩) = W ∧ W.setCell ⟨g, 3, none⟩ (.int .i64 0) = W ∧ W.setCell ⟨g, 4, none⟩ (.int .i64 0) = W ∧ W.setCell ⟨g, 5, none⟩ (.int .i64 0) = W ∧ W.setCell ⟨g, 6, none⟩ (.int .i64 0) = W ∧ W.setCell ⟨g, 7, none⟩ (.int .i64 0) = W ∧ W.setCell ⟨g, 8, none⟩ (.int .i64 0) = W ∧ W.setCell ⟨g, 9, none⟩ (.int .i64 0) = W ∧ W.setCell ⟨g, 10, none⟩ (.int .i64 0) = W ∧ W.setCell ⟨g, 11, none⟩ (.int .i64 0) = W ∧ W.setCell ⟨g, 12, none⟩ (.int .i64 0) = W) :=
  ⟨⟨h.cell 0, h.cell 1, h.cell 2, h.cell 3, h.cell 4, h.cell 5, h.cell 6, h.cell 7, h.cell 8, h.cell 9, h.cell 10, h.cell 11, h.cell 12⟩, fun j => h.free j, Rul.setCell_self h rfl, Rul.setCell_self h rfl, Rul.setCell_self h rfl, Rul.setCell_self h rfl, Rul.setCell_self h rfl, Rul.setCell_self h rfl, Rul.setCell_self h rfl, Rul.setCell_self h rfl, Rul.setCell_self h rfl, Rul.setCell_self h rfl, Rul.setCell_self h rfl, Rul.setCell_self h rfl, Rul.setCell_self h rfl⟩
theorem bx_first (w : World) (zs : Array Value) (o : Obj) : Bx ((w.alloc (.cells zs 49)).alloc o) w.heap.size zs := Rul.bx_old (Rul.bx_new w zs) o
theorem bx_second (w : World) (zs : Array Value) (o : Obj) : Bx ((w.alloc o).alloc (.cells zs 49)) (w.heap.size + 1) zs := by
  have h := Rul.bx_new (w.alloc o) zs
  rwa [World.size_alloc] at h
theorem any_first (w : World) (o o2 : Obj) (c : Array Value) (t : TypeId) (h : o = .cells c t) : ((w.alloc o).alloc o2).heap[w.heap.size]? = some (.cells c t (0, 0)) := by
  subst h
  exact (Below.heap_alloc _ _ _ (by simp)).trans (heap_alloc_new w _)
theorem any_second (w : World) (o o2 : Obj) : ((w.alloc o).alloc o2).heap[w.heap.size + 1]? = some o2 := by
  have h := heap_alloc_new (w.alloc o) o2
  rwa [World.size_alloc] at h
theorem two_below (w : World) (o o2 : Obj) : Below w.heap.size w ((w.alloc o).alloc o2) := ((Below.refl _ _).alloc (Nat.le_refl _) o).alloc (by simp) o2

/-- Behind the region that makes the rule's variable and the reader's, in one order or the other. -/
theorem qd_new {w w1 : World} {cs : Array Value} (h : Duo w cs #[.string ⟨#[]⟩, .string ⟨#[]⟩, .string ⟨#[]⟩, .int .i64 0, .int .i64 0, .int .i64 0, .int .i64 0, .int .i64 0, .int .i64 0, .int .i64 0, .int .i64 0, .int .i64 0, .int .i64 0] w1) (k n : Int) (t : ByteArray) (a1 : Option Addr) (n1 p1 : Nat) (a2 : Option Addr) (n2 p2 : Nat) :
    Qd w w1.heap.size (w1.heap.size + 1) (.int .i64 k, .int .i64 n, .string t, .slice a1 n1 p1, .slice a2 n2 p2) Rul.zero (⟨#[]⟩, 0) ((w1.alloc (.cells #[.string ⟨#[]⟩, .string ⟨#[]⟩, .string ⟨#[]⟩, .int .i64 0, .int .i64 0, .int .i64 0, .int .i64 0, .int .i64 0, .int .i64 0, .int .i64 0, .int .i64 0, .int .i64 0, .int .i64 0] 49)).alloc (.cells #[.int .i64 k, .int .i64 n, .string t, .slice a1 n1 p1, .slice a2 n2 p2, .string ⟨#[]⟩, .int .i64 0] 92)).drew ∧
    Qd w (w1.heap.size + 1) w1.heap.size (.int .i64 k, .int .i64 n, .string t, .slice a1 n1 p1, .slice a2 n2 p2) Rul.zero (⟨#[]⟩, 0) ((w1.alloc (.cells #[.int .i64 k, .int .i64 n, .string t, .slice a1 n1 p1, .slice a2 n2 p2, .string ⟨#[]⟩, .int .i64 0] 92)).alloc (.cells #[.string ⟨#[]⟩, .string ⟨#[]⟩, .string ⟨#[]⟩, .int .i64 0, .int .i64 0, .int .i64 0, .int .i64 0, .int .i64 0, .int .i64 0, .int .i64 0, .int .i64 0, .int .i64 0, .int .i64 0] 49)).drew := by
  have h1 := h.two.lt
  have b1 := two_below w1 (.cells #[.string ⟨#[]⟩, .string ⟨#[]⟩, .string ⟨#[]⟩, .int .i64 0, .int .i64 0, .int .i64 0, .int .i64 0, .int .i64 0, .int .i64 0, .int .i64 0, .int .i64 0, .int .i64 0, .int .i64 0] 49) (.cells #[.int .i64 k, .int .i64 n, .string t, .slice a1 n1 p1, .slice a2 n2 p2, .string ⟨#[]⟩, .int .i64 0] 92)
  have b2 := two_below w1 (.cells #[.int .i64 k, .int .i64 n, .string t, .slice a1 n1 p1, .slice a2 n2 p2, .string ⟨#[]⟩, .int .i64 0] 92) (.cells #[.string ⟨#[]⟩, .string ⟨#[]⟩, .string ⟨#[]⟩, .int .i64 0, .int .i64 0, .int .i64 0, .int .i64 0, .int .i64 0, .int .i64 0, .int .i64 0, .int .i64 0, .int .i64 0, .int .i64 0] 49)
  exact ⟨⟨bx_first w1 _ _, any_second w1 _ _, h.two.next b1.drew h1, by omega, by omega, by omega, (h.bel.trans (b1.mono h.bel.size)).drew⟩, ⟨bx_second w1 _ _, any_first w1 _ _ _ _ rfl, h.two.next b2.drew h1, by omega, by omega, by omega, (h.bel.trans (b2.mono h.bel.size)).drew⟩⟩
set_option maxHeartbeats 16000000 in
set_option maxRecDepth 100000 in
theorem ruleof_any (v : Vt) (hv : OkT v) (hz : ∀ n ∈ v.ns, n.size ≤ 4000000) (cs : List Value) (g : Nat) (w : World) (h : InV w v cs) (hK : Kn all g w) (hM : Ptr.Mx w) (hT : Rul.Tab w) :
    Calls Tryz.prog 33 #[.agg cs.toArray, .func (.func 65) #[] #[.pointer (some ⟨g, 0, none⟩)]] w fun e w' => e = .returned (.tuple #[.agg (ruC (okR (rdX v).2 (rdR v))), .string (rp v), .int .i64 (rdX v).2]) ∧ Below w.heap.size w w' := by
  have HKN := Lib.hid fun W (hb : Below w.heap.size w W) (hI : InV W v cs) => allknown_any v hv all cs g W hI (hK.next hb)
  have HJN := Lib.hid fun s (hs : s.size ≤ 4000000) W (hb : Below w.heap.size w W) => Ptr.pjoin2_any ⟨#[]⟩ s W (hM.next hb) (by decide) hs
  have HKO := Lib.hid fun s W (hb : Below w.heap.size w W) => Rul.kindof_any s W (hT.next hb)
  have HUN := Lib.hid fun s (hu : unk v.ns all = some s) => hz s (unk_name hu)
  have HI0 := Lib.hid fun W (hb : Below w.heap.size w W) => InV_next hb v _ h
  have HQX : Hid (∀ (k n s c3 c4 : Value), cs = [k, n, s, c3, c4] → ∀ name m gr gf r x W, Qd w gr gf (k, n, s, c3, c4) r x W → Calls Tryz.prog 66 #[.pointer (some ⟨gf, 0, none⟩), .string name, .bool m] W fun e w' => e = .returned (.string (tx v name).1) ∧ Qd w gr gf (k, n, s, c3, c4) r (hd x name (tx v name).2 m) w' ∧ Ch (fun b => b = gf) W w') :=
    Lib.hid fun k n s c3 c4 hcs name m gr gf r x W q => (rtextm_any v hv name m gf cs k n s c3 c4 hcs x W (HI0.out _ q.bel) q.fb).mono (by rintro e w' ⟨rfl, h1, h2⟩; exact ⟨rfl, q.called h1 h2, h2⟩)
  have HQN : Hid (∀ (k n s c3 c4 : Value), cs = [k, n, s, c3, c4] → ∀ name m gr gf r x W, Qd w gr gf (k, n, s, c3, c4) r x W → Calls Tryz.prog 67 #[.pointer (some ⟨gf, 0, none⟩), .string name, .bool m] W fun e w' => e = .returned (.int .i64 (nu v name).1) ∧ Qd w gr gf (k, n, s, c3, c4) r (hd x name (nu v name).2 m) w' ∧ Ch (fun b => b = gf) W w') :=
    Lib.hid fun k n s c3 c4 hcs name m gr gf r x W q => (rnumberm_any v hv name m gf cs k n s c3 c4 hcs x W (HI0.out _ q.bel) q.fb).mono (by rintro e w' ⟨rfl, h1, h2⟩; exact ⟨rfl, q.called h1 h2, h2⟩)
  obtain ⟨a, cap, c4, rfl, hit, hr⟩ := (InV_iff w v cs).1 h
  obtain ⟨a2, cap2, rfl, -⟩ := hr.open_
  have HI := Lib.hid fun W (hb : Below w.heap.size w W) => InV_next hb v _ h
  have HQX := Lib.hid (HQX.out _ _ _ _ _ rfl)
  have HQN := Lib.hid (HQN.out _ _ _ _ _ rfl)
  have D0 := Lib.hid (Duo.new w #[.int .i64 v.k, .int .i64 v.n, .string v.s, .slice a v.l.length cap, .slice a2 v.ns.length cap2] (ruC Rul.zero))
  dsimp only [ruC, Rul.zero] at D0
  have hX : rdX v = if v.k = 5 then (match unk v.ns all with | some s => (s, 17) | none => fst (rdL v)) else (⟨#[]⟩, 15) := rfl
  have hP : rp v = if v.k = 5 ∧ (rdX v).2 ≠ 0 then Ptr.jB ⟨#[]⟩ (rdX v).1 else ⟨#[]⟩ := by
    unfold rp rdX
    by_cases q : v.k = 5
    · rw [if_pos q]
    · rw [if_neg fun k => q k.1, if_neg fun k => q k.1]
  by_cases h5 : v.k = 5
  · rw [if_pos h5] at hX
    have b5 : (v.k != 5) = false := by simp [h5]
    have hP5 : rp v = if (rdX v).2 ≠ 0 then Ptr.jB ⟨#[]⟩ (rdX v).1 else ⟨#[]⟩ := by
      rw [hP]
      by_cases q : (rdX v).2 ≠ 0
      · rw [if_pos ⟨h5, q⟩, if_pos q]
      · rw [if_neg fun k => q k.2, if_neg q]
    obtain ⟨U, hU⟩ : ∃ U, unk v.ns all = U := ⟨_, rfl⟩
    rw [hU] at hX HKN HUN
    replace hX := Lib.hid hX
    replace hP := Lib.hid hP5
    clear h5 hU h hit hr hv hz hK hM hT hP5 HI0
    generalize rp v = RP at *
    generalize v.k = vk at *
    generalize v.n = vn at *
    generalize v.s = vs at *
    generalize v.l.length = vl at *
    generalize v.ns.length = vm at *
    cases U with
    | some s =>
      rw [show (some s).getD ⟨#[]⟩ = s from rfl, show (some s).isNone = false from rfl] at HKN
      have hs := HUN.out s rfl
      have HJ := Lib.hid (HJN.out s hs)
      have HXE := Lib.hid (show rdX v = (s, 17) from hX.out)
      have HPE := Lib.hid (show RP = Ptr.jB ⟨#[]⟩ s by rw [hP.out, show rdX v = (s, 17) from hX.out]; exact if_pos (show (17 : Int) ≠ 0 by decide))
      clear hX hP HQX HQN HUN HJN HKO
      rw [HXE.out, show okR 17 (rdR v) = Rul.zero from rfl, HPE.out]
      go_enter Tryz.func33, Tryz.ntmps33
      go_wp2_with (first
        | (refine Tre.wpList_fetch _ rfl _ rfl w.heap.size _ rfl D0.out.one rfl ?_)
        | (go_at_call 41; (with_reducible refine (HKN.out _ D0.out.bel (HI.out _ D0.out.bel)).mono ?_); rintro e w1 ⟨rfl, hb1⟩; have D1 := Lib.hid (D0.out.next hb1); clear hb1)
        | (go_at_call 34; (with_reducible refine (HJ.out _ D1.out.bel).mono ?_); rintro e w2 ⟨rfl, hb2⟩; have D2 := Lib.hid (D1.out.next hb2); clear hb2)
        | (refine Rul.wpList_keep _ rfl _ _ rfl w.heap.size w D2.out.bel _ (Nat.le_succ _) Rul.zero _ rfl rfl D2.out.two rfl ?_; intro w9 hk9 hb9 ho9))
      refine bodyPost_ret (Rul.results_three rfl _ _ _ _ rfl hk9 rfl) rfl ?_
      exact ⟨rfl, hb9⟩
    | none =>
      rw [show (none : Option ByteArray).getD ⟨#[]⟩ = ⟨#[]⟩ from rfl, show (none : Option ByteArray).isNone = true from rfl] at HKN
      have HXE := Lib.hid (show rdX v = fst (rdL v) from hX.out)
      have HPE := Lib.hid hP.out
      clear hX hP HUN
      go_enter Tryz.func33, Tryz.ntmps33
      go_upto_region 6 with (first
        | (refine Tre.wpList_fetch _ rfl _ rfl w.heap.size _ rfl D0.out.one rfl ?_)
        | (go_at_call 41; (with_reducible refine (HKN.out _ D0.out.bel (HI.out _ D0.out.bel)).mono ?_); rintro e w1 ⟨rfl, hb1⟩; have D1 := Lib.hid (D0.out.next hb1); clear hb1))
      clear HKN D0
      go_cut [9, 10] from 28 to 30 (fun p q wx => ∃ gr gf, p = .pointer (some ⟨gr, 0, none⟩) ∧ q = .pointer (some ⟨gf, 0, none⟩) ∧ Hid (Qd w gr gf (.int .i64 vk, .int .i64 vn, .string vs, .slice a vl cap, .slice a2 vm cap2) Rul.zero (⟨#[]⟩, 0) wx))
      case first =>
        have DD := Lib.hid D1.out.drew
        have p0 : w1.drew.cell? ⟨w.heap.size, 0, none⟩ = some (.int .i64 vk) := DD.out.one.cell 0
        have p1 : w1.drew.cell? ⟨w.heap.size, 1, none⟩ = some (.int .i64 vn) := DD.out.one.cell 1
        have p2 : w1.drew.cell? ⟨w.heap.size, 2, none⟩ = some (.string vs) := DD.out.one.cell 2
        have p3 : w1.drew.cell? ⟨w.heap.size, 3, none⟩ = some (.slice a vl cap) := DD.out.one.cell 3
        have p4 : w1.drew.cell? ⟨w.heap.size, 4, none⟩ = some (.slice a2 vm cap2) := DD.out.one.cell 4
        obtain ⟨qa, qb⟩ := qd_new D1.out vk vn vs a vl cap a2 vm cap2
        have QA := Lib.hid qa
        have QB := Lib.hid qb
        clear qa qb D1 DD HJN HKO HQX HQN HXE HPE HI
        have pa0 : ∀ o, (w1.alloc o).cell? ⟨w.heap.size, 0, none⟩ = some (.int .i64 vk) := fun o => (((Below.refl w1.heap.size w1).alloc (Nat.le_refl _) o).cell (p := ⟨w.heap.size, 0, none⟩) (Strs.cell_lt p0)).trans p0
        have pb0 : ∀ o o2, ((w1.alloc o).alloc o2).cell? ⟨w.heap.size, 0, none⟩ = some (.int .i64 vk) := fun o o2 => ((two_below w1 o o2).cell (p := ⟨w.heap.size, 0, none⟩) (Strs.cell_lt p0)).trans p0
        have pa1 : ∀ o, (w1.alloc o).cell? ⟨w.heap.size, 1, none⟩ = some (.int .i64 vn) := fun o => (((Below.refl w1.heap.size w1).alloc (Nat.le_refl _) o).cell (p := ⟨w.heap.size, 1, none⟩) (Strs.cell_lt p1)).trans p1
        have pb1 : ∀ o o2, ((w1.alloc o).alloc o2).cell? ⟨w.heap.size, 1, none⟩ = some (.int .i64 vn) := fun o o2 => ((two_below w1 o o2).cell (p := ⟨w.heap.size, 1, none⟩) (Strs.cell_lt p1)).trans p1
        have pa2 : ∀ o, (w1.alloc o).cell? ⟨w.heap.size, 2, none⟩ = some (.string vs) := fun o => (((Below.refl w1.heap.size w1).alloc (Nat.le_refl _) o).cell (p := ⟨w.heap.size, 2, none⟩) (Strs.cell_lt p2)).trans p2
        have pb2 : ∀ o o2, ((w1.alloc o).alloc o2).cell? ⟨w.heap.size, 2, none⟩ = some (.string vs) := fun o o2 => ((two_below w1 o o2).cell (p := ⟨w.heap.size, 2, none⟩) (Strs.cell_lt p2)).trans p2
        have pa3 : ∀ o, (w1.alloc o).cell? ⟨w.heap.size, 3, none⟩ = some (.slice a vl cap) := fun o => (((Below.refl w1.heap.size w1).alloc (Nat.le_refl _) o).cell (p := ⟨w.heap.size, 3, none⟩) (Strs.cell_lt p3)).trans p3
        have pb3 : ∀ o o2, ((w1.alloc o).alloc o2).cell? ⟨w.heap.size, 3, none⟩ = some (.slice a vl cap) := fun o o2 => ((two_below w1 o o2).cell (p := ⟨w.heap.size, 3, none⟩) (Strs.cell_lt p3)).trans p3
        have pa4 : ∀ o, (w1.alloc o).cell? ⟨w.heap.size, 4, none⟩ = some (.slice a2 vm cap2) := fun o => (((Below.refl w1.heap.size w1).alloc (Nat.le_refl _) o).cell (p := ⟨w.heap.size, 4, none⟩) (Strs.cell_lt p4)).trans p4
        have pb4 : ∀ o o2, ((w1.alloc o).alloc o2).cell? ⟨w.heap.size, 4, none⟩ = some (.slice a2 vm cap2) := fun o o2 => ((two_below w1 o o2).cell (p := ⟨w.heap.size, 4, none⟩) (Strs.cell_lt p4)).trans p4
        go_region_law fail
        all_goals
          go_wp2_with fail
          go_meet
          first
            | exact ⟨_, _, rfl, rfl, QA⟩
            | exact ⟨_, _, rfl, rfl, QB⟩
      case rest =>
        rename World => W3
        obtain ⟨gr, gf, rfl, rfl, Q0⟩ := hcut
        clear D1 HI
        have hE0 := tx_e v ⟨#[105, 100]⟩
        have H0 := Lib.hid (HQX.out ⟨#[105, 100]⟩)
        obtain ⟨y0, hy0⟩ : ∃ y, tx v ⟨#[105, 100]⟩ = y := ⟨_, rfl⟩
        rw [hy0] at hE0 H0
        have hE1 := tx_e v ⟨#[110, 111, 116, 101]⟩
        have H1 := Lib.hid (HQX.out ⟨#[110, 111, 116, 101]⟩)
        obtain ⟨y1, hy1⟩ : ∃ y, tx v ⟨#[110, 111, 116, 101]⟩ = y := ⟨_, rfl⟩
        rw [hy1] at hE1 H1
        have hE2 := tx_e v ⟨#[114, 111, 117, 116, 101]⟩
        have H2 := Lib.hid (HQX.out ⟨#[114, 111, 117, 116, 101]⟩)
        obtain ⟨y2, hy2⟩ : ∃ y, tx v ⟨#[114, 111, 117, 116, 101]⟩ = y := ⟨_, rfl⟩
        rw [hy2] at hE2 H2
        have hE3 := nu_e v ⟨#[112, 114, 105, 111, 114, 105, 116, 121]⟩
        have H3 := Lib.hid (HQN.out ⟨#[112, 114, 105, 111, 114, 105, 116, 121]⟩)
        obtain ⟨y3, hy3⟩ : ∃ y, nu v ⟨#[112, 114, 105, 111, 114, 105, 116, 121]⟩ = y := ⟨_, rfl⟩
        rw [hy3] at hE3 H3
        have hE4 := tx_e v ⟨#[107, 105, 110, 100]⟩
        have H4 := Lib.hid (HQX.out ⟨#[107, 105, 110, 100]⟩)
        obtain ⟨y4, hy4⟩ : ∃ y, tx v ⟨#[107, 105, 110, 100]⟩ = y := ⟨_, rfl⟩
        rw [hy4] at hE4 H4
        have F0 : Hid (Hd (fst (rdL v)) (⟨#[]⟩, 0) ((⟨#[105, 100]⟩, y0.2) :: (⟨#[110, 111, 116, 101]⟩, only y1.2) :: (⟨#[114, 111, 117, 116, 101]⟩, y2.2) :: (⟨#[112, 114, 105, 111, 114, 105, 116, 121]⟩, only y3.2) :: (⟨#[107, 105, 110, 100]⟩, y4.2) :: ws v)) := Lib.hid (by rw [← hy0, ← hy1, ← hy2, ← hy3, ← hy4]; exact (if_pos rfl).symm)
        have HFL := Lib.hid (rdL_size v)
        have HP0 : Hid ((⟨y0.1, y1.1, y2.1, y3.1, kO y4.1, 0, 0, 0, 0, 0, 0, 0, 0⟩ : Ru) = par v 0) := Lib.hid (by rw [← hy0, ← hy1, ← hy2, ← hy3, ← hy4]; rfl)
        have HK4 : Hid (kO (tx v (nm 4)).1 = kO y4.1) := Lib.hid (by rw [← hy4]; rfl)
        have HE1 := Lib.hid (he_only hE1)
        have HE3 := Lib.hid (he_only hE3)
        obtain ⟨F, hF⟩ : ∃ F, fst (rdL v) = F := ⟨_, rfl⟩
        rw [hF] at F0 HFL HXE
        clear hF hE0 hE1 hE2 hE3 hE4 hy0 hy1 hy2 hy3 hy4 HQX
        obtain ⟨t0, e0⟩ := y0
        obtain ⟨t1, e1⟩ := y1
        obtain ⟨t2, e2⟩ := y2
        obtain ⟨t3, e3⟩ := y3
        obtain ⟨t4, e4⟩ := y4
        dsimp only at H0 H1 H2 H3 H4 F0 HP0 HK4 HE1 HE3
        go_wp2_with (first
          | (go_at_call 66; (with_reducible refine (H0.out true gr gf Rul.zero _ _ Q0.out).mono ?_); rintro e v0 ⟨rfl, hq, -⟩; have P0 := Lib.hid hq; have F1 := Lib.hid (F0.out.step (he_true _).symm); have k0 : v0.cell? ⟨gr, 0, none⟩ = some (.string ⟨#[]⟩) := hq.rb.cell 0; have f0 := hq.rb.free 0; have Q1 := Lib.hid (hq.set 0 (.string t0) ⟨t0, ⟨#[]⟩, ⟨#[]⟩, 0, 0, 0, 0, 0, 0, 0, 0, 0, 0⟩ rfl); clear hq)
          | (go_at_call 66; (with_reducible refine (H1.out false gr gf ⟨t0, ⟨#[]⟩, ⟨#[]⟩, 0, 0, 0, 0, 0, 0, 0, 0, 0, 0⟩ _ _ Q1.out).mono ?_); rintro e v1 ⟨rfl, hq, -⟩; have P1 := Lib.hid hq; have F2 := Lib.hid (F1.out.step HE1.out); have k1 : v1.cell? ⟨gr, 1, none⟩ = some (.string ⟨#[]⟩) := hq.rb.cell 1; have f1 := hq.rb.free 1; have Q2 := Lib.hid (hq.set 1 (.string t1) ⟨t0, t1, ⟨#[]⟩, 0, 0, 0, 0, 0, 0, 0, 0, 0, 0⟩ rfl); clear hq)
          | (go_at_call 66; (with_reducible refine (H2.out true gr gf ⟨t0, t1, ⟨#[]⟩, 0, 0, 0, 0, 0, 0, 0, 0, 0, 0⟩ _ _ Q2.out).mono ?_); rintro e v2 ⟨rfl, hq, -⟩; have P2 := Lib.hid hq; have F3 := Lib.hid (F2.out.step (he_true _).symm); have k2 : v2.cell? ⟨gr, 2, none⟩ = some (.string ⟨#[]⟩) := hq.rb.cell 2; have f2 := hq.rb.free 2; have Q3 := Lib.hid (hq.set 2 (.string t2) ⟨t0, t1, t2, 0, 0, 0, 0, 0, 0, 0, 0, 0, 0⟩ rfl); clear hq)
          | (go_at_call 67; (with_reducible refine (H3.out false gr gf ⟨t0, t1, t2, 0, 0, 0, 0, 0, 0, 0, 0, 0, 0⟩ _ _ Q3.out).mono ?_); rintro e v3 ⟨rfl, hq, -⟩; have P3 := Lib.hid hq; have F4 := Lib.hid (F3.out.step HE3.out); have k3 : v3.cell? ⟨gr, 3, none⟩ = some (.int .i64 0) := hq.rb.cell 3; have f3 := hq.rb.free 3; have Q4 := Lib.hid (hq.set 3 (.int .i64 t3) ⟨t0, t1, t2, t3, 0, 0, 0, 0, 0, 0, 0, 0, 0⟩ rfl); clear hq)
          | (go_at_call 66; (with_reducible refine (H4.out true gr gf ⟨t0, t1, t2, t3, 0, 0, 0, 0, 0, 0, 0, 0, 0⟩ _ _ Q4.out).mono ?_); rintro e v4 ⟨rfl, hq, -⟩; have P4 := Lib.hid hq; have F5 := Lib.hid (F4.out.step (he_true _).symm); have k4 : v4.cell? ⟨gr, 4, none⟩ = some (.int .i64 0) := hq.rb.cell 4; have f4 := hq.rb.free 4; clear hq)
          | (go_at_call 68; (with_reducible refine (HKO.out t4 _ P4.out.bel).mono ?_); rintro e v5 ⟨rfl, rfl⟩; have Q5 := Lib.hid (P4.out.set 4 (.int .i64 (kO t4)) ⟨t0, t1, t2, t3, (kO t4), 0, 0, 0, 0, 0, 0, 0, 0⟩ rfl))
          | (go_at_call 56; (with_reducible refine (table_any gr _).mono ?_); rintro e v6 ⟨rfl, hb6⟩; have Q6 := Lib.hid (Q5.out.next hb6); clear hb6))
        rw [HP0.out] at Q6
        clear Q0 Q1 Q2 Q3 Q4 Q5 P0 P1 P2 P3 P4 F0 F1 F2 F3 F4 H0 H1 H2 H3 H4 HKO HE1 HE3 HP0
        clear k0 k1 k2 k3 k4 f0 f1 f2 f3 f4
        have HQN := Lib.hid fun j => HQN.out (nm (5 + j))
        have HNE := Lib.hid fun j => nu_e v (nm (5 + j))
        have HWD := Lib.hid fun j => @ws_drop v j
        have HWE := Lib.hid (ws_end v)
        have HWI := Lib.hid fun j => @wan_is (kO t4) j
        have HPS := Lib.hid fun j => @par_set v j
        have HPC := Lib.hid fun j => @par_cell v j
        have HPK : Hid (∀ j, (par v j).ki = kO t4) := Lib.hid fun j => HK4.out
        rw [HK4.out] at HWD
        go_loopw [43] (fun i wr => ∃ (j : Nat) (x : ByteArray × Int), i = .int .i64 (j : Int) ∧ j ≤ 8 ∧ Hid (Qd w gr gf (.int .i64 vk, .int .i64 vn, .string vs, .slice a vl cap, .slice a2 vm cap2) (par v j) x wr) ∧ Hid (Hd F x ((ws v).drop j))) (fun i _ => 8 - (RowKit.intOf i).toNat)
        case atStart => exact ⟨0, _, rfl, by omega, Q6, F5⟩
        case round =>
          clear Q6 F5
          obtain ⟨j, x, rfl, hj, HQ, HF⟩ := hrel
          by_cases hlt : j < 8
          · have hidx := ft_at gr wr j hlt
            have HDR := HF.out
            rw [HWD.out j hlt, HWI.out j hlt] at HDR
            have HDR := Lib.hid HDR
            have HNj := Lib.hid (HQN.out j)
            have HEj := HNE.out j
            have HPSj := Lib.hid (HPS.out j hlt)
            have HPCj := Lib.hid (HPC.out j hlt)
            have HPKj := HPK.out j
            have SA := Lib.hid fun W (hb : Below wr.heap.size wr W) => HQ.out.next hb
            have HGF : Hid (wr.heap.size ≠ gf) := Lib.hid (by have := HQ.out.fb.lt; omega)
            have HGR : Hid (wr.heap.size ≠ gr) := Lib.hid (by have := HQ.out.rb.lt; omega)
            have HPK1 : Hid ((ruC (par v (j + 1)))[4]? = some (.int .i64 (kO t4))) := Lib.hid (by rw [← HPK.out (j + 1)]; rfl)
            obtain ⟨R1, hR1⟩ : ∃ R, par v (j + 1) = R := ⟨_, rfl⟩
            rw [hR1] at HPSj HPK1
            have HR1 := Lib.hid hR1
            clear hR1
            obtain ⟨R0, hR0⟩ : ∃ R, par v j = R := ⟨_, rfl⟩
            rw [hR0] at HPSj HPCj HPKj SA
            obtain ⟨y, hy⟩ : ∃ y, nu v (nm (5 + j)) = y := ⟨_, rfl⟩
            rw [hy] at HDR HNj HEj HPSj
            clear hR0 hy HQ HF HQN HNE HWD HWE HWI HPS HPC HPK HK4 HFL
            obtain ⟨nj, ej⟩ := y
            dsimp only at HDR HNj HEj HPSj
            have HPKj : Hid ((ruC R0)[4]? = some (.int .i64 (kO t4))) := Lib.hid (by rw [← HPKj]; rfl)
            generalize kO t4 = K at *
            generalize kdj j = kd at *
            generalize nm (5 + j) = z at *
            cases hm : msj j with
            | false =>
              rw [hm] at hidx HDR
              rw [Bool.false_and] at HDR
              clear hm
              have HD2 : Hid (Hd F (hd x z ej false) ((ws v).drop (j + 1))) := Lib.hid (HDR.out.step (he_wr HEj false))
              clear HDR HEj
              go_wp2_with (first
                | (refine wpList_line _ rfl _ _ rfl wr.heap.size wr ((Below.refl _ _).alloc (Nat.le_refl _) _) wr.heap.size (Nat.le_refl _) z _ kd false _ rfl rfl (fb_new _ _) rfl ?_; intro wf hf hbf; have SF := Lib.hid (SA.out _ hbf); have FF := Lib.hid hf; have WF := Lib.hid hbf; clear hf hbf))
              have QD := Lib.hid (SF.out.next (Below.refl _ _).drew)
              have g0 : wf.drew.cell? ⟨wr.heap.size, 0, none⟩ = some (.string z) := FF.out.cell 0
              have g1 : wf.drew.cell? ⟨wr.heap.size, 1, none⟩ = some (.pointer (some ⟨gr, 5 + j, none⟩)) := FF.out.cell 1
              have g2 : wf.drew.cell? ⟨wr.heap.size, 2, none⟩ = some (.int .i64 kd) := FF.out.cell 2
              have g3 : wf.drew.cell? ⟨wr.heap.size, 3, none⟩ = some (.bool false) := FF.out.cell 3
              have gk : wf.drew.cell? ⟨gr, 4, none⟩ = some (.int .i64 K) := (QD.out.rb.cell 4).trans HPKj.out
              have gl : wr.heap.size < wf.drew.heap.size := FF.out.lt
              have hs0 := And.intro g0 (And.intro g1 (And.intro g2 (And.intro g3 gk)))
              refine wp_region_held_drew (S := fun w' => w'.cell? ⟨wr.heap.size, 0, none⟩ = some (.string z) ∧ w'.cell? ⟨wr.heap.size, 1, none⟩ = some (.pointer (some ⟨gr, 5 + j, none⟩)) ∧ w'.cell? ⟨wr.heap.size, 2, none⟩ = some (.int .i64 kd) ∧ w'.cell? ⟨wr.heap.size, 3, none⟩ = some (.bool false) ∧ w'.cell? ⟨gr, 4, none⟩ = some (.int .i64 K)) (by kernel_rfl) hs0 (fun hHeld => ?_)
              refine wpAnyH_take (i := 0) (oi := { dst := some 46, op := Op.fieldAddr 81 (Operand.tmp 12) 1, type := 0, pos := "jsonthree.go:181", after := #[], guard := none }) (v := ?_) rfl (by kernel_rfl) (by kernel_rfl) (by kernel_rfl) (fun _ _ _ h => h) (Or.inl ⟨by rfl, ?_⟩) (by assumption) ?_
              rotate_left
              · intro w hSw; (try dsimp only at hSw); go_simp; (try with_reducible rfl)
              try simp only [Act.put, List.setIfInBounds_toArray, List.set_cons_zero, List.set_cons_succ]
              refine wpAnyH_take (i := 1) (oi := { dst := some 47, op := Op.load 79 (Operand.tmp 46), type := 79, pos := "jsonthree.go:181", after := #[{ on := 0, ground := Ground.data }], guard := none }) (v := ?_) rfl (by kernel_rfl) (by kernel_rfl) (by kernel_rfl) (fun _ _ _ h => h) (Or.inl ⟨by rfl, ?_⟩) (by assumption) ?_
              rotate_left
              · intro w hSw; (try dsimp only at hSw); go_simp; (try with_reducible rfl)
              try simp only [Act.put, List.setIfInBounds_toArray, List.set_cons_zero, List.set_cons_succ]
              refine wpAnyH_take (i := 2) (oi := { dst := some 48, op := Op.fieldAddr 81 (Operand.tmp 12) 0, type := 0, pos := "jsonthree.go:181", after := #[], guard := none }) (v := ?_) rfl (by kernel_rfl) (by kernel_rfl) (by kernel_rfl) (fun _ _ _ h => h) (Or.inl ⟨by rfl, ?_⟩) (by assumption) ?_
              rotate_left
              · intro w hSw; (try dsimp only at hSw); go_simp; (try with_reducible rfl)
              try simp only [Act.put, List.setIfInBounds_toArray, List.set_cons_zero, List.set_cons_succ]
              refine wpAnyH_take (i := 3) (oi := { dst := some 49, op := Op.load 9 (Operand.tmp 48), type := 9, pos := "jsonthree.go:181", after := #[{ on := 2, ground := Ground.data }], guard := none }) (v := ?_) rfl (by kernel_rfl) (by kernel_rfl) (by kernel_rfl) (fun _ _ _ h => h) (Or.inl ⟨by rfl, ?_⟩) (by assumption) ?_
              rotate_left
              · intro w hSw; (try dsimp only at hSw); go_simp; (try with_reducible rfl)
              try simp only [Act.put, List.setIfInBounds_toArray, List.set_cons_zero, List.set_cons_succ]
              refine wpAnyH_take (i := 4) (oi := { dst := some 50, op := Op.fieldAddr 81 (Operand.tmp 12) 3, type := 0, pos := "jsonthree.go:181", after := #[], guard := none }) (v := ?_) rfl (by kernel_rfl) (by kernel_rfl) (by kernel_rfl) (fun _ _ _ h => h) (Or.inl ⟨by rfl, ?_⟩) (by assumption) ?_
              rotate_left
              · intro w hSw; (try dsimp only at hSw); go_simp; (try with_reducible rfl)
              try simp only [Act.put, List.setIfInBounds_toArray, List.set_cons_zero, List.set_cons_succ]
              refine wpAnyH_take (i := 5) (oi := { dst := some 51, op := Op.load 4 (Operand.tmp 50), type := 4, pos := "jsonthree.go:181", after := #[{ on := 4, ground := Ground.data }], guard := none }) (v := ?_) rfl (by kernel_rfl) (by kernel_rfl) (by kernel_rfl) (fun _ _ _ h => h) (Or.inl ⟨by rfl, ?_⟩) (by assumption) ?_
              rotate_left
              · intro w hSw; (try dsimp only at hSw); go_simp; (try with_reducible rfl)
              try simp only [Act.put, List.setIfInBounds_toArray, List.set_cons_zero, List.set_cons_succ]
              refine wpAnyH_take (i := 6) (oi := { dst := some 52, op := Op.move (Operand.tmp 51), type := 4, pos := "jsonthree.go:181", after := #[{ on := 5, ground := Ground.data }], guard := none }) (v := ?_) rfl (by kernel_rfl) (by kernel_rfl) (by kernel_rfl) (fun _ _ _ h => h) (Or.inl ⟨by rfl, ?_⟩) (by assumption) ?_
              rotate_left
              · intro w hSw; (try dsimp only at hSw); go_simp; (try with_reducible rfl)
              try simp only [Act.put, List.setIfInBounds_toArray, List.set_cons_zero, List.set_cons_succ]
              refine wpAnyH_take (i := 7) (oi := { dst := some 53, op := Op.fieldAddr 81 (Operand.tmp 12) 2, type := 0, pos := "jsonthree.go:181", after := #[{ on := 6, ground := Ground.guard }], guard := some (6, true) }) (v := undef) rfl (by kernel_rfl) (by kernel_rfl) (by kernel_rfl) (fun _ _ _ h => h) (Or.inr ⟨by rfl, rfl⟩) (by assumption) ?_
              try simp only [Act.put, List.setIfInBounds_toArray, List.set_cons_zero, List.set_cons_succ]
              refine wpAnyH_take (i := 8) (oi := { dst := some 54, op := Op.load 3 (Operand.tmp 53), type := 3, pos := "jsonthree.go:181", after := #[{ on := 7, ground := Ground.data }, { on := 6, ground := Ground.guard }], guard := some (6, true) }) (v := undef) rfl (by kernel_rfl) (by kernel_rfl) (by kernel_rfl) (fun _ _ _ h => h) (Or.inr ⟨by rfl, rfl⟩) (by assumption) ?_
              try simp only [Act.put, List.setIfInBounds_toArray, List.set_cons_zero, List.set_cons_succ]
              refine wpAnyH_take (i := 9) (oi := { dst := some 55, op := Op.fieldAddr 49 (Operand.tmp 9) 4, type := 0, pos := "jsonthree.go:181", after := #[{ on := 6, ground := Ground.guard }], guard := some (6, true) }) (v := undef) rfl (by kernel_rfl) (by kernel_rfl) (by kernel_rfl) (fun _ _ _ h => h) (Or.inr ⟨by rfl, rfl⟩) (by assumption) ?_
              try simp only [Act.put, List.setIfInBounds_toArray, List.set_cons_zero, List.set_cons_succ]
              refine wpAnyH_take (i := 10) (oi := { dst := some 56, op := Op.load 3 (Operand.tmp 55), type := 3, pos := "jsonthree.go:181", after := #[{ on := 9, ground := Ground.data }, { on := 6, ground := Ground.guard }], guard := some (6, true) }) (v := undef) rfl (by kernel_rfl) (by kernel_rfl) (by kernel_rfl) (fun _ _ _ h => h) (Or.inr ⟨by rfl, rfl⟩) (by assumption) ?_
              try simp only [Act.put, List.setIfInBounds_toArray, List.set_cons_zero, List.set_cons_succ]
              refine wpAnyH_take (i := 11) (oi := { dst := some 57, op := Op.binOp BinOp.eql 3 (Operand.tmp 54) (Operand.tmp 56) 3, type := 4, pos := "jsonthree.go:181", after := #[{ on := 8, ground := Ground.data }, { on := 10, ground := Ground.data }, { on := 6, ground := Ground.guard }], guard := some (6, true) }) (v := undef) rfl (by kernel_rfl) (by kernel_rfl) (by kernel_rfl) (fun _ _ _ h => h) (Or.inr ⟨by rfl, rfl⟩) (by assumption) ?_
              try simp only [Act.put, List.setIfInBounds_toArray, List.set_cons_zero, List.set_cons_succ]
              refine wpAnyH_take (i := 12) (oi := { dst := some 58, op := Op.pick (Operand.tmp 52) (Operand.tmp 57) (Operand.const (Value.bool false)), type := 4, pos := "jsonthree.go:181", after := #[{ on := 6, ground := Ground.data }, { on := 11, ground := Ground.data }], guard := none }) (v := ?_) rfl (by kernel_rfl) (by kernel_rfl) (by kernel_rfl) (fun _ _ _ h => h) (Or.inl ⟨by rfl, ?_⟩) (by assumption) ?_
              rotate_left
              · intro w hSw; (try dsimp only at hSw); go_simp; (try with_reducible rfl)
              try simp only [Act.put, List.setIfInBounds_toArray, List.set_cons_zero, List.set_cons_succ]
              refine wpAnyH_ready (rs := [13]) (by kernel_rfl) (by simp) ?_
              refine AllReadyH.cons (o := { dst := some 59, op := Op.call { callee := Callee.value (Operand.func 67), args := #[Operand.tmp 10, Operand.tmp 49, Operand.tmp 58], argTypes := #[92, 9, 4] }, type := 3, pos := "jsonthree.go:181", after := #[{ on := 3, ground := Ground.data }, { on := 12, ground := Ground.data }, { on := 6, ground := Ground.chain }], guard := none }) rfl (fun K hK => ?_) AllReadyH.nil
              go_simp
              (go_at_call 67; (with_reducible refine (HNj.out false gr gf _ _ _ QD.out).mono ?_); rintro e wn ⟨rfl, hq, hc⟩; have sbx := And.intro ((keep_cell (hc.block _ gl HGF.out) 0).trans g0) (And.intro ((keep_cell (hc.block _ gl HGF.out) 1).trans g1) (And.intro ((keep_cell (hc.block _ gl HGF.out) 2).trans g2) (And.intro ((keep_cell (hc.block _ gl HGF.out) 3).trans g3) ((hq.rb.cell 4).trans HPKj.out)))); have nk : wn.cell? ⟨gr, 5 + j, none⟩ = some (.int .i64 0) := (hq.rb.cell (5 + j)).trans HPCj.out; have nf := hq.rb.free (5 + j); have QS := Lib.hid (hq.set (5 + j) (.int .i64 nj) R1 HPSj.out); have sby := And.intro ((keep_cell (Tre.set_other (g := gr) (j := 5 + j) (.int .i64 nj) HGR.out) 0).trans sbx.1) (And.intro ((keep_cell (Tre.set_other (g := gr) (j := 5 + j) (.int .i64 nj) HGR.out) 1).trans sbx.2.1) (And.intro ((keep_cell (Tre.set_other (g := gr) (j := 5 + j) (.int .i64 nj) HGR.out) 2).trans sbx.2.2.1) (And.intro ((keep_cell (Tre.set_other (g := gr) (j := 5 + j) (.int .i64 nj) HGR.out) 3).trans sbx.2.2.2.1) ((QS.out.rb.cell 4).trans HPK1.out)))); clear hq hc)
              refine hK.out _ _ (by assumption) (fun hHeld => ?_)
              clear hK K
              try simp only [Act.put, List.setIfInBounds_toArray, List.set_cons_zero, List.set_cons_succ]
              refine wpAnyH_take (i := 14) (oi := { dst := some 60, op := Op.nilCheck (Operand.tmp 47), type := 0, pos := "jsonthree.go:181", after := #[{ on := 1, ground := Ground.data }, { on := 0, ground := Ground.phase }, { on := 1, ground := Ground.phase }, { on := 2, ground := Ground.phase }, { on := 3, ground := Ground.phase }, { on := 4, ground := Ground.phase }, { on := 5, ground := Ground.phase }, { on := 6, ground := Ground.phase }, { on := 7, ground := Ground.phase }, { on := 8, ground := Ground.phase }, { on := 9, ground := Ground.phase }, { on := 10, ground := Ground.phase }, { on := 11, ground := Ground.phase }, { on := 12, ground := Ground.phase }, { on := 13, ground := Ground.phase }], guard := none }) (v := ?_) rfl (by kernel_rfl) (by kernel_rfl) (by kernel_rfl) (fun _ _ _ h => h) (Or.inl ⟨by rfl, ?_⟩) (by assumption) ?_
              rotate_left
              · intro w hSw; (try dsimp only at hSw); go_simp; (try with_reducible rfl)
              try simp only [Act.put, List.setIfInBounds_toArray, List.set_cons_zero, List.set_cons_succ]
              refine wpAnyH_ready (rs := [15]) (by kernel_rfl) (by simp) ?_
              refine AllReadyH.cons (o := { dst := none, op := Op.store 3 (Operand.tmp 60) (Operand.tmp 59), type := 0, pos := "jsonthree.go:181", after := #[{ on := 14, ground := Ground.data }, { on := 13, ground := Ground.data }, { on := 13, ground := Ground.chain }, { on := 0, ground := Ground.phase }, { on := 1, ground := Ground.phase }, { on := 2, ground := Ground.phase }, { on := 3, ground := Ground.phase }, { on := 4, ground := Ground.phase }, { on := 5, ground := Ground.phase }, { on := 6, ground := Ground.phase }, { on := 7, ground := Ground.phase }, { on := 8, ground := Ground.phase }, { on := 9, ground := Ground.phase }, { on := 10, ground := Ground.phase }, { on := 11, ground := Ground.phase }, { on := 12, ground := Ground.phase }, { on := 13, ground := Ground.phase }], guard := none }) rfl (fun K hK => ?_) AllReadyH.nil
              go_simp
              skip
              refine hK.out _ _ (by assumption) (fun hHeld => ?_)
              clear hK K
              try simp only [Act.put, List.setIfInBounds_toArray, List.set_cons_zero, List.set_cons_succ]
              refine wpAnyH_done (by kernel_rfl) ?_ _
              go_wp2_with fail
              go_roundw
              case rel => exact ⟨j + 1, _, by go_num, by omega, Lib.hid (by rw [HR1.out]; exact QS.out), HD2⟩
              case measure => simp [RowKit.intOf]; omega
            | true =>
              rw [hm] at hidx HDR
              rw [Bool.true_and] at HDR
              clear hm
              by_cases hkk : kd = K
              · have bk : (kd == K) = true := by simpa using hkk
                rw [decide_eq_true hkk] at HDR
                clear hkk
                have HD2 : Hid (Hd F (hd x z ej true) ((ws v).drop (j + 1))) := Lib.hid (HDR.out.step (he_wr HEj true))
                clear HDR HEj
                go_wp2_with (first
                  | (refine wpList_line _ rfl _ _ rfl wr.heap.size wr ((Below.refl _ _).alloc (Nat.le_refl _) _) wr.heap.size (Nat.le_refl _) z _ kd true _ rfl rfl (fb_new _ _) rfl ?_; intro wf hf hbf; have SF := Lib.hid (SA.out _ hbf); have FF := Lib.hid hf; have WF := Lib.hid hbf; clear hf hbf))
                have QD := Lib.hid (SF.out.next (Below.refl _ _).drew)
                have g0 : wf.drew.cell? ⟨wr.heap.size, 0, none⟩ = some (.string z) := FF.out.cell 0
                have g1 : wf.drew.cell? ⟨wr.heap.size, 1, none⟩ = some (.pointer (some ⟨gr, 5 + j, none⟩)) := FF.out.cell 1
                have g2 : wf.drew.cell? ⟨wr.heap.size, 2, none⟩ = some (.int .i64 kd) := FF.out.cell 2
                have g3 : wf.drew.cell? ⟨wr.heap.size, 3, none⟩ = some (.bool true) := FF.out.cell 3
                have gk : wf.drew.cell? ⟨gr, 4, none⟩ = some (.int .i64 K) := (QD.out.rb.cell 4).trans HPKj.out
                have gl : wr.heap.size < wf.drew.heap.size := FF.out.lt
                have hs0 := And.intro g0 (And.intro g1 (And.intro g2 (And.intro g3 gk)))
                refine wp_region_held_drew (S := fun w' => w'.cell? ⟨wr.heap.size, 0, none⟩ = some (.string z) ∧ w'.cell? ⟨wr.heap.size, 1, none⟩ = some (.pointer (some ⟨gr, 5 + j, none⟩)) ∧ w'.cell? ⟨wr.heap.size, 2, none⟩ = some (.int .i64 kd) ∧ w'.cell? ⟨wr.heap.size, 3, none⟩ = some (.bool true) ∧ w'.cell? ⟨gr, 4, none⟩ = some (.int .i64 K)) (by kernel_rfl) hs0 (fun hHeld => ?_)
                refine wpAnyH_take (i := 0) (oi := { dst := some 46, op := Op.fieldAddr 81 (Operand.tmp 12) 1, type := 0, pos := "jsonthree.go:181", after := #[], guard := none }) (v := ?_) rfl (by kernel_rfl) (by kernel_rfl) (by kernel_rfl) (fun _ _ _ h => h) (Or.inl ⟨by rfl, ?_⟩) (by assumption) ?_
                rotate_left
                · intro w hSw; (try dsimp only at hSw); go_simp; (try with_reducible rfl)
                try simp only [Act.put, List.setIfInBounds_toArray, List.set_cons_zero, List.set_cons_succ]
                refine wpAnyH_take (i := 1) (oi := { dst := some 47, op := Op.load 79 (Operand.tmp 46), type := 79, pos := "jsonthree.go:181", after := #[{ on := 0, ground := Ground.data }], guard := none }) (v := ?_) rfl (by kernel_rfl) (by kernel_rfl) (by kernel_rfl) (fun _ _ _ h => h) (Or.inl ⟨by rfl, ?_⟩) (by assumption) ?_
                rotate_left
                · intro w hSw; (try dsimp only at hSw); go_simp; (try with_reducible rfl)
                try simp only [Act.put, List.setIfInBounds_toArray, List.set_cons_zero, List.set_cons_succ]
                refine wpAnyH_take (i := 2) (oi := { dst := some 48, op := Op.fieldAddr 81 (Operand.tmp 12) 0, type := 0, pos := "jsonthree.go:181", after := #[], guard := none }) (v := ?_) rfl (by kernel_rfl) (by kernel_rfl) (by kernel_rfl) (fun _ _ _ h => h) (Or.inl ⟨by rfl, ?_⟩) (by assumption) ?_
                rotate_left
                · intro w hSw; (try dsimp only at hSw); go_simp; (try with_reducible rfl)
                try simp only [Act.put, List.setIfInBounds_toArray, List.set_cons_zero, List.set_cons_succ]
                refine wpAnyH_take (i := 3) (oi := { dst := some 49, op := Op.load 9 (Operand.tmp 48), type := 9, pos := "jsonthree.go:181", after := #[{ on := 2, ground := Ground.data }], guard := none }) (v := ?_) rfl (by kernel_rfl) (by kernel_rfl) (by kernel_rfl) (fun _ _ _ h => h) (Or.inl ⟨by rfl, ?_⟩) (by assumption) ?_
                rotate_left
                · intro w hSw; (try dsimp only at hSw); go_simp; (try with_reducible rfl)
                try simp only [Act.put, List.setIfInBounds_toArray, List.set_cons_zero, List.set_cons_succ]
                refine wpAnyH_take (i := 4) (oi := { dst := some 50, op := Op.fieldAddr 81 (Operand.tmp 12) 3, type := 0, pos := "jsonthree.go:181", after := #[], guard := none }) (v := ?_) rfl (by kernel_rfl) (by kernel_rfl) (by kernel_rfl) (fun _ _ _ h => h) (Or.inl ⟨by rfl, ?_⟩) (by assumption) ?_
                rotate_left
                · intro w hSw; (try dsimp only at hSw); go_simp; (try with_reducible rfl)
                try simp only [Act.put, List.setIfInBounds_toArray, List.set_cons_zero, List.set_cons_succ]
                refine wpAnyH_take (i := 5) (oi := { dst := some 51, op := Op.load 4 (Operand.tmp 50), type := 4, pos := "jsonthree.go:181", after := #[{ on := 4, ground := Ground.data }], guard := none }) (v := ?_) rfl (by kernel_rfl) (by kernel_rfl) (by kernel_rfl) (fun _ _ _ h => h) (Or.inl ⟨by rfl, ?_⟩) (by assumption) ?_
                rotate_left
                · intro w hSw; (try dsimp only at hSw); go_simp; (try with_reducible rfl)
                try simp only [Act.put, List.setIfInBounds_toArray, List.set_cons_zero, List.set_cons_succ]
                refine wpAnyH_take (i := 6) (oi := { dst := some 52, op := Op.move (Operand.tmp 51), type := 4, pos := "jsonthree.go:181", after := #[{ on := 5, ground := Ground.data }], guard := none }) (v := ?_) rfl (by kernel_rfl) (by kernel_rfl) (by kernel_rfl) (fun _ _ _ h => h) (Or.inl ⟨by rfl, ?_⟩) (by assumption) ?_
                rotate_left
                · intro w hSw; (try dsimp only at hSw); go_simp; (try with_reducible rfl)
                try simp only [Act.put, List.setIfInBounds_toArray, List.set_cons_zero, List.set_cons_succ]
                refine wpAnyH_take (i := 7) (oi := { dst := some 53, op := Op.fieldAddr 81 (Operand.tmp 12) 2, type := 0, pos := "jsonthree.go:181", after := #[{ on := 6, ground := Ground.guard }], guard := some (6, true) }) (v := ?_) rfl (by kernel_rfl) (by kernel_rfl) (by kernel_rfl) (fun _ _ _ h => h) (Or.inl ⟨by rfl, ?_⟩) (by assumption) ?_
                rotate_left
                · intro w hSw; (try dsimp only at hSw); go_simp; (try with_reducible rfl)
                try simp only [Act.put, List.setIfInBounds_toArray, List.set_cons_zero, List.set_cons_succ]
                refine wpAnyH_take (i := 8) (oi := { dst := some 54, op := Op.load 3 (Operand.tmp 53), type := 3, pos := "jsonthree.go:181", after := #[{ on := 7, ground := Ground.data }, { on := 6, ground := Ground.guard }], guard := some (6, true) }) (v := ?_) rfl (by kernel_rfl) (by kernel_rfl) (by kernel_rfl) (fun _ _ _ h => h) (Or.inl ⟨by rfl, ?_⟩) (by assumption) ?_
                rotate_left
                · intro w hSw; (try dsimp only at hSw); go_simp; (try with_reducible rfl)
                try simp only [Act.put, List.setIfInBounds_toArray, List.set_cons_zero, List.set_cons_succ]
                refine wpAnyH_take (i := 9) (oi := { dst := some 55, op := Op.fieldAddr 49 (Operand.tmp 9) 4, type := 0, pos := "jsonthree.go:181", after := #[{ on := 6, ground := Ground.guard }], guard := some (6, true) }) (v := ?_) rfl (by kernel_rfl) (by kernel_rfl) (by kernel_rfl) (fun _ _ _ h => h) (Or.inl ⟨by rfl, ?_⟩) (by assumption) ?_
                rotate_left
                · intro w hSw; (try dsimp only at hSw); go_simp; (try with_reducible rfl)
                try simp only [Act.put, List.setIfInBounds_toArray, List.set_cons_zero, List.set_cons_succ]
                refine wpAnyH_take (i := 10) (oi := { dst := some 56, op := Op.load 3 (Operand.tmp 55), type := 3, pos := "jsonthree.go:181", after := #[{ on := 9, ground := Ground.data }, { on := 6, ground := Ground.guard }], guard := some (6, true) }) (v := ?_) rfl (by kernel_rfl) (by kernel_rfl) (by kernel_rfl) (fun _ _ _ h => h) (Or.inl ⟨by rfl, ?_⟩) (by assumption) ?_
                rotate_left
                · intro w hSw; (try dsimp only at hSw); go_simp; (try with_reducible rfl)
                try simp only [Act.put, List.setIfInBounds_toArray, List.set_cons_zero, List.set_cons_succ]
                refine wpAnyH_take (i := 11) (oi := { dst := some 57, op := Op.binOp BinOp.eql 3 (Operand.tmp 54) (Operand.tmp 56) 3, type := 4, pos := "jsonthree.go:181", after := #[{ on := 8, ground := Ground.data }, { on := 10, ground := Ground.data }, { on := 6, ground := Ground.guard }], guard := some (6, true) }) (v := ?_) rfl (by kernel_rfl) (by kernel_rfl) (by kernel_rfl) (fun _ _ _ h => h) (Or.inl ⟨by rfl, ?_⟩) (by assumption) ?_
                rotate_left
                · intro w hSw; (try dsimp only at hSw); go_simp; (try with_reducible rfl)
                try simp only [Act.put, List.setIfInBounds_toArray, List.set_cons_zero, List.set_cons_succ]
                refine wpAnyH_take (i := 12) (oi := { dst := some 58, op := Op.pick (Operand.tmp 52) (Operand.tmp 57) (Operand.const (Value.bool false)), type := 4, pos := "jsonthree.go:181", after := #[{ on := 6, ground := Ground.data }, { on := 11, ground := Ground.data }], guard := none }) (v := ?_) rfl (by kernel_rfl) (by kernel_rfl) (by kernel_rfl) (fun _ _ _ h => h) (Or.inl ⟨by rfl, ?_⟩) (by assumption) ?_
                rotate_left
                · intro w hSw; (try dsimp only at hSw); go_simp; (try with_reducible rfl)
                try simp only [Act.put, List.setIfInBounds_toArray, List.set_cons_zero, List.set_cons_succ]
                refine wpAnyH_ready (rs := [13]) (by kernel_rfl) (by simp) ?_
                refine AllReadyH.cons (o := { dst := some 59, op := Op.call { callee := Callee.value (Operand.func 67), args := #[Operand.tmp 10, Operand.tmp 49, Operand.tmp 58], argTypes := #[92, 9, 4] }, type := 3, pos := "jsonthree.go:181", after := #[{ on := 3, ground := Ground.data }, { on := 12, ground := Ground.data }, { on := 6, ground := Ground.chain }], guard := none }) rfl (fun K hK => ?_) AllReadyH.nil
                go_simp
                (go_at_call 67; (with_reducible refine (HNj.out true gr gf _ _ _ QD.out).mono ?_); rintro e wn ⟨rfl, hq, hc⟩; have sbx := And.intro ((keep_cell (hc.block _ gl HGF.out) 0).trans g0) (And.intro ((keep_cell (hc.block _ gl HGF.out) 1).trans g1) (And.intro ((keep_cell (hc.block _ gl HGF.out) 2).trans g2) (And.intro ((keep_cell (hc.block _ gl HGF.out) 3).trans g3) ((hq.rb.cell 4).trans HPKj.out)))); have nk : wn.cell? ⟨gr, 5 + j, none⟩ = some (.int .i64 0) := (hq.rb.cell (5 + j)).trans HPCj.out; have nf := hq.rb.free (5 + j); have QS := Lib.hid (hq.set (5 + j) (.int .i64 nj) R1 HPSj.out); have sby := And.intro ((keep_cell (Tre.set_other (g := gr) (j := 5 + j) (.int .i64 nj) HGR.out) 0).trans sbx.1) (And.intro ((keep_cell (Tre.set_other (g := gr) (j := 5 + j) (.int .i64 nj) HGR.out) 1).trans sbx.2.1) (And.intro ((keep_cell (Tre.set_other (g := gr) (j := 5 + j) (.int .i64 nj) HGR.out) 2).trans sbx.2.2.1) (And.intro ((keep_cell (Tre.set_other (g := gr) (j := 5 + j) (.int .i64 nj) HGR.out) 3).trans sbx.2.2.2.1) ((QS.out.rb.cell 4).trans HPK1.out)))); clear hq hc)
                refine hK.out _ _ (by assumption) (fun hHeld => ?_)
                clear hK K
                try simp only [Act.put, List.setIfInBounds_toArray, List.set_cons_zero, List.set_cons_succ]
                refine wpAnyH_take (i := 14) (oi := { dst := some 60, op := Op.nilCheck (Operand.tmp 47), type := 0, pos := "jsonthree.go:181", after := #[{ on := 1, ground := Ground.data }, { on := 0, ground := Ground.phase }, { on := 1, ground := Ground.phase }, { on := 2, ground := Ground.phase }, { on := 3, ground := Ground.phase }, { on := 4, ground := Ground.phase }, { on := 5, ground := Ground.phase }, { on := 6, ground := Ground.phase }, { on := 7, ground := Ground.phase }, { on := 8, ground := Ground.phase }, { on := 9, ground := Ground.phase }, { on := 10, ground := Ground.phase }, { on := 11, ground := Ground.phase }, { on := 12, ground := Ground.phase }, { on := 13, ground := Ground.phase }], guard := none }) (v := ?_) rfl (by kernel_rfl) (by kernel_rfl) (by kernel_rfl) (fun _ _ _ h => h) (Or.inl ⟨by rfl, ?_⟩) (by assumption) ?_
                rotate_left
                · intro w hSw; (try dsimp only at hSw); go_simp; (try with_reducible rfl)
                try simp only [Act.put, List.setIfInBounds_toArray, List.set_cons_zero, List.set_cons_succ]
                refine wpAnyH_ready (rs := [15]) (by kernel_rfl) (by simp) ?_
                refine AllReadyH.cons (o := { dst := none, op := Op.store 3 (Operand.tmp 60) (Operand.tmp 59), type := 0, pos := "jsonthree.go:181", after := #[{ on := 14, ground := Ground.data }, { on := 13, ground := Ground.data }, { on := 13, ground := Ground.chain }, { on := 0, ground := Ground.phase }, { on := 1, ground := Ground.phase }, { on := 2, ground := Ground.phase }, { on := 3, ground := Ground.phase }, { on := 4, ground := Ground.phase }, { on := 5, ground := Ground.phase }, { on := 6, ground := Ground.phase }, { on := 7, ground := Ground.phase }, { on := 8, ground := Ground.phase }, { on := 9, ground := Ground.phase }, { on := 10, ground := Ground.phase }, { on := 11, ground := Ground.phase }, { on := 12, ground := Ground.phase }, { on := 13, ground := Ground.phase }], guard := none }) rfl (fun K hK => ?_) AllReadyH.nil
                go_simp
                skip
                refine hK.out _ _ (by assumption) (fun hHeld => ?_)
                clear hK K
                try simp only [Act.put, List.setIfInBounds_toArray, List.set_cons_zero, List.set_cons_succ]
                refine wpAnyH_done (by kernel_rfl) ?_ _
                go_wp2_with fail
                go_roundw
                case rel => exact ⟨j + 1, _, by go_num, by omega, Lib.hid (by rw [HR1.out]; exact QS.out), HD2⟩
                case measure => simp [RowKit.intOf]; omega
              · have bk : (kd == K) = false := by simpa using hkk
                rw [decide_eq_false hkk] at HDR
                clear hkk
                have HD2 : Hid (Hd F (hd x z ej false) ((ws v).drop (j + 1))) := Lib.hid (HDR.out.step (he_wr HEj false))
                clear HDR HEj
                go_wp2_with (first
                  | (refine wpList_line _ rfl _ _ rfl wr.heap.size wr ((Below.refl _ _).alloc (Nat.le_refl _) _) wr.heap.size (Nat.le_refl _) z _ kd true _ rfl rfl (fb_new _ _) rfl ?_; intro wf hf hbf; have SF := Lib.hid (SA.out _ hbf); have FF := Lib.hid hf; have WF := Lib.hid hbf; clear hf hbf))
                have QD := Lib.hid (SF.out.next (Below.refl _ _).drew)
                have g0 : wf.drew.cell? ⟨wr.heap.size, 0, none⟩ = some (.string z) := FF.out.cell 0
                have g1 : wf.drew.cell? ⟨wr.heap.size, 1, none⟩ = some (.pointer (some ⟨gr, 5 + j, none⟩)) := FF.out.cell 1
                have g2 : wf.drew.cell? ⟨wr.heap.size, 2, none⟩ = some (.int .i64 kd) := FF.out.cell 2
                have g3 : wf.drew.cell? ⟨wr.heap.size, 3, none⟩ = some (.bool true) := FF.out.cell 3
                have gk : wf.drew.cell? ⟨gr, 4, none⟩ = some (.int .i64 K) := (QD.out.rb.cell 4).trans HPKj.out
                have gl : wr.heap.size < wf.drew.heap.size := FF.out.lt
                have hs0 := And.intro g0 (And.intro g1 (And.intro g2 (And.intro g3 gk)))
                refine wp_region_held_drew (S := fun w' => w'.cell? ⟨wr.heap.size, 0, none⟩ = some (.string z) ∧ w'.cell? ⟨wr.heap.size, 1, none⟩ = some (.pointer (some ⟨gr, 5 + j, none⟩)) ∧ w'.cell? ⟨wr.heap.size, 2, none⟩ = some (.int .i64 kd) ∧ w'.cell? ⟨wr.heap.size, 3, none⟩ = some (.bool true) ∧ w'.cell? ⟨gr, 4, none⟩ = some (.int .i64 K)) (by kernel_rfl) hs0 (fun hHeld => ?_)
                refine wpAnyH_take (i := 0) (oi := { dst := some 46, op := Op.fieldAddr 81 (Operand.tmp 12) 1, type := 0, pos := "jsonthree.go:181", after := #[], guard := none }) (v := ?_) rfl (by kernel_rfl) (by kernel_rfl) (by kernel_rfl) (fun _ _ _ h => h) (Or.inl ⟨by rfl, ?_⟩) (by assumption) ?_
                rotate_left
                · intro w hSw; (try dsimp only at hSw); go_simp; (try with_reducible rfl)
                try simp only [Act.put, List.setIfInBounds_toArray, List.set_cons_zero, List.set_cons_succ]
                refine wpAnyH_take (i := 1) (oi := { dst := some 47, op := Op.load 79 (Operand.tmp 46), type := 79, pos := "jsonthree.go:181", after := #[{ on := 0, ground := Ground.data }], guard := none }) (v := ?_) rfl (by kernel_rfl) (by kernel_rfl) (by kernel_rfl) (fun _ _ _ h => h) (Or.inl ⟨by rfl, ?_⟩) (by assumption) ?_
                rotate_left
                · intro w hSw; (try dsimp only at hSw); go_simp; (try with_reducible rfl)
                try simp only [Act.put, List.setIfInBounds_toArray, List.set_cons_zero, List.set_cons_succ]
                refine wpAnyH_take (i := 2) (oi := { dst := some 48, op := Op.fieldAddr 81 (Operand.tmp 12) 0, type := 0, pos := "jsonthree.go:181", after := #[], guard := none }) (v := ?_) rfl (by kernel_rfl) (by kernel_rfl) (by kernel_rfl) (fun _ _ _ h => h) (Or.inl ⟨by rfl, ?_⟩) (by assumption) ?_
                rotate_left
                · intro w hSw; (try dsimp only at hSw); go_simp; (try with_reducible rfl)
                try simp only [Act.put, List.setIfInBounds_toArray, List.set_cons_zero, List.set_cons_succ]
                refine wpAnyH_take (i := 3) (oi := { dst := some 49, op := Op.load 9 (Operand.tmp 48), type := 9, pos := "jsonthree.go:181", after := #[{ on := 2, ground := Ground.data }], guard := none }) (v := ?_) rfl (by kernel_rfl) (by kernel_rfl) (by kernel_rfl) (fun _ _ _ h => h) (Or.inl ⟨by rfl, ?_⟩) (by assumption) ?_
                rotate_left
                · intro w hSw; (try dsimp only at hSw); go_simp; (try with_reducible rfl)
                try simp only [Act.put, List.setIfInBounds_toArray, List.set_cons_zero, List.set_cons_succ]
                refine wpAnyH_take (i := 4) (oi := { dst := some 50, op := Op.fieldAddr 81 (Operand.tmp 12) 3, type := 0, pos := "jsonthree.go:181", after := #[], guard := none }) (v := ?_) rfl (by kernel_rfl) (by kernel_rfl) (by kernel_rfl) (fun _ _ _ h => h) (Or.inl ⟨by rfl, ?_⟩) (by assumption) ?_
                rotate_left
                · intro w hSw; (try dsimp only at hSw); go_simp; (try with_reducible rfl)
                try simp only [Act.put, List.setIfInBounds_toArray, List.set_cons_zero, List.set_cons_succ]
                refine wpAnyH_take (i := 5) (oi := { dst := some 51, op := Op.load 4 (Operand.tmp 50), type := 4, pos := "jsonthree.go:181", after := #[{ on := 4, ground := Ground.data }], guard := none }) (v := ?_) rfl (by kernel_rfl) (by kernel_rfl) (by kernel_rfl) (fun _ _ _ h => h) (Or.inl ⟨by rfl, ?_⟩) (by assumption) ?_
                rotate_left
                · intro w hSw; (try dsimp only at hSw); go_simp; (try with_reducible rfl)
                try simp only [Act.put, List.setIfInBounds_toArray, List.set_cons_zero, List.set_cons_succ]
                refine wpAnyH_take (i := 6) (oi := { dst := some 52, op := Op.move (Operand.tmp 51), type := 4, pos := "jsonthree.go:181", after := #[{ on := 5, ground := Ground.data }], guard := none }) (v := ?_) rfl (by kernel_rfl) (by kernel_rfl) (by kernel_rfl) (fun _ _ _ h => h) (Or.inl ⟨by rfl, ?_⟩) (by assumption) ?_
                rotate_left
                · intro w hSw; (try dsimp only at hSw); go_simp; (try with_reducible rfl)
                try simp only [Act.put, List.setIfInBounds_toArray, List.set_cons_zero, List.set_cons_succ]
                refine wpAnyH_take (i := 7) (oi := { dst := some 53, op := Op.fieldAddr 81 (Operand.tmp 12) 2, type := 0, pos := "jsonthree.go:181", after := #[{ on := 6, ground := Ground.guard }], guard := some (6, true) }) (v := ?_) rfl (by kernel_rfl) (by kernel_rfl) (by kernel_rfl) (fun _ _ _ h => h) (Or.inl ⟨by rfl, ?_⟩) (by assumption) ?_
                rotate_left
                · intro w hSw; (try dsimp only at hSw); go_simp; (try with_reducible rfl)
                try simp only [Act.put, List.setIfInBounds_toArray, List.set_cons_zero, List.set_cons_succ]
                refine wpAnyH_take (i := 8) (oi := { dst := some 54, op := Op.load 3 (Operand.tmp 53), type := 3, pos := "jsonthree.go:181", after := #[{ on := 7, ground := Ground.data }, { on := 6, ground := Ground.guard }], guard := some (6, true) }) (v := ?_) rfl (by kernel_rfl) (by kernel_rfl) (by kernel_rfl) (fun _ _ _ h => h) (Or.inl ⟨by rfl, ?_⟩) (by assumption) ?_
                rotate_left
                · intro w hSw; (try dsimp only at hSw); go_simp; (try with_reducible rfl)
                try simp only [Act.put, List.setIfInBounds_toArray, List.set_cons_zero, List.set_cons_succ]
                refine wpAnyH_take (i := 9) (oi := { dst := some 55, op := Op.fieldAddr 49 (Operand.tmp 9) 4, type := 0, pos := "jsonthree.go:181", after := #[{ on := 6, ground := Ground.guard }], guard := some (6, true) }) (v := ?_) rfl (by kernel_rfl) (by kernel_rfl) (by kernel_rfl) (fun _ _ _ h => h) (Or.inl ⟨by rfl, ?_⟩) (by assumption) ?_
                rotate_left
                · intro w hSw; (try dsimp only at hSw); go_simp; (try with_reducible rfl)
                try simp only [Act.put, List.setIfInBounds_toArray, List.set_cons_zero, List.set_cons_succ]
                refine wpAnyH_take (i := 10) (oi := { dst := some 56, op := Op.load 3 (Operand.tmp 55), type := 3, pos := "jsonthree.go:181", after := #[{ on := 9, ground := Ground.data }, { on := 6, ground := Ground.guard }], guard := some (6, true) }) (v := ?_) rfl (by kernel_rfl) (by kernel_rfl) (by kernel_rfl) (fun _ _ _ h => h) (Or.inl ⟨by rfl, ?_⟩) (by assumption) ?_
                rotate_left
                · intro w hSw; (try dsimp only at hSw); go_simp; (try with_reducible rfl)
                try simp only [Act.put, List.setIfInBounds_toArray, List.set_cons_zero, List.set_cons_succ]
                refine wpAnyH_take (i := 11) (oi := { dst := some 57, op := Op.binOp BinOp.eql 3 (Operand.tmp 54) (Operand.tmp 56) 3, type := 4, pos := "jsonthree.go:181", after := #[{ on := 8, ground := Ground.data }, { on := 10, ground := Ground.data }, { on := 6, ground := Ground.guard }], guard := some (6, true) }) (v := ?_) rfl (by kernel_rfl) (by kernel_rfl) (by kernel_rfl) (fun _ _ _ h => h) (Or.inl ⟨by rfl, ?_⟩) (by assumption) ?_
                rotate_left
                · intro w hSw; (try dsimp only at hSw); go_simp; (try with_reducible rfl)
                try simp only [Act.put, List.setIfInBounds_toArray, List.set_cons_zero, List.set_cons_succ]
                refine wpAnyH_take (i := 12) (oi := { dst := some 58, op := Op.pick (Operand.tmp 52) (Operand.tmp 57) (Operand.const (Value.bool false)), type := 4, pos := "jsonthree.go:181", after := #[{ on := 6, ground := Ground.data }, { on := 11, ground := Ground.data }], guard := none }) (v := ?_) rfl (by kernel_rfl) (by kernel_rfl) (by kernel_rfl) (fun _ _ _ h => h) (Or.inl ⟨by rfl, ?_⟩) (by assumption) ?_
                rotate_left
                · intro w hSw; (try dsimp only at hSw); go_simp; (try with_reducible rfl)
                try simp only [Act.put, List.setIfInBounds_toArray, List.set_cons_zero, List.set_cons_succ]
                refine wpAnyH_ready (rs := [13]) (by kernel_rfl) (by simp) ?_
                refine AllReadyH.cons (o := { dst := some 59, op := Op.call { callee := Callee.value (Operand.func 67), args := #[Operand.tmp 10, Operand.tmp 49, Operand.tmp 58], argTypes := #[92, 9, 4] }, type := 3, pos := "jsonthree.go:181", after := #[{ on := 3, ground := Ground.data }, { on := 12, ground := Ground.data }, { on := 6, ground := Ground.chain }], guard := none }) rfl (fun K hK => ?_) AllReadyH.nil
                go_simp
                (go_at_call 67; (with_reducible refine (HNj.out false gr gf _ _ _ QD.out).mono ?_); rintro e wn ⟨rfl, hq, hc⟩; have sbx := And.intro ((keep_cell (hc.block _ gl HGF.out) 0).trans g0) (And.intro ((keep_cell (hc.block _ gl HGF.out) 1).trans g1) (And.intro ((keep_cell (hc.block _ gl HGF.out) 2).trans g2) (And.intro ((keep_cell (hc.block _ gl HGF.out) 3).trans g3) ((hq.rb.cell 4).trans HPKj.out)))); have nk : wn.cell? ⟨gr, 5 + j, none⟩ = some (.int .i64 0) := (hq.rb.cell (5 + j)).trans HPCj.out; have nf := hq.rb.free (5 + j); have QS := Lib.hid (hq.set (5 + j) (.int .i64 nj) R1 HPSj.out); have sby := And.intro ((keep_cell (Tre.set_other (g := gr) (j := 5 + j) (.int .i64 nj) HGR.out) 0).trans sbx.1) (And.intro ((keep_cell (Tre.set_other (g := gr) (j := 5 + j) (.int .i64 nj) HGR.out) 1).trans sbx.2.1) (And.intro ((keep_cell (Tre.set_other (g := gr) (j := 5 + j) (.int .i64 nj) HGR.out) 2).trans sbx.2.2.1) (And.intro ((keep_cell (Tre.set_other (g := gr) (j := 5 + j) (.int .i64 nj) HGR.out) 3).trans sbx.2.2.2.1) ((QS.out.rb.cell 4).trans HPK1.out)))); clear hq hc)
                refine hK.out _ _ (by assumption) (fun hHeld => ?_)
                clear hK K
                try simp only [Act.put, List.setIfInBounds_toArray, List.set_cons_zero, List.set_cons_succ]
                refine wpAnyH_take (i := 14) (oi := { dst := some 60, op := Op.nilCheck (Operand.tmp 47), type := 0, pos := "jsonthree.go:181", after := #[{ on := 1, ground := Ground.data }, { on := 0, ground := Ground.phase }, { on := 1, ground := Ground.phase }, { on := 2, ground := Ground.phase }, { on := 3, ground := Ground.phase }, { on := 4, ground := Ground.phase }, { on := 5, ground := Ground.phase }, { on := 6, ground := Ground.phase }, { on := 7, ground := Ground.phase }, { on := 8, ground := Ground.phase }, { on := 9, ground := Ground.phase }, { on := 10, ground := Ground.phase }, { on := 11, ground := Ground.phase }, { on := 12, ground := Ground.phase }, { on := 13, ground := Ground.phase }], guard := none }) (v := ?_) rfl (by kernel_rfl) (by kernel_rfl) (by kernel_rfl) (fun _ _ _ h => h) (Or.inl ⟨by rfl, ?_⟩) (by assumption) ?_
                rotate_left
                · intro w hSw; (try dsimp only at hSw); go_simp; (try with_reducible rfl)
                try simp only [Act.put, List.setIfInBounds_toArray, List.set_cons_zero, List.set_cons_succ]
                refine wpAnyH_ready (rs := [15]) (by kernel_rfl) (by simp) ?_
                refine AllReadyH.cons (o := { dst := none, op := Op.store 3 (Operand.tmp 60) (Operand.tmp 59), type := 0, pos := "jsonthree.go:181", after := #[{ on := 14, ground := Ground.data }, { on := 13, ground := Ground.data }, { on := 13, ground := Ground.chain }, { on := 0, ground := Ground.phase }, { on := 1, ground := Ground.phase }, { on := 2, ground := Ground.phase }, { on := 3, ground := Ground.phase }, { on := 4, ground := Ground.phase }, { on := 5, ground := Ground.phase }, { on := 6, ground := Ground.phase }, { on := 7, ground := Ground.phase }, { on := 8, ground := Ground.phase }, { on := 9, ground := Ground.phase }, { on := 10, ground := Ground.phase }, { on := 11, ground := Ground.phase }, { on := 12, ground := Ground.phase }, { on := 13, ground := Ground.phase }], guard := none }) rfl (fun K hK => ?_) AllReadyH.nil
                go_simp
                skip
                refine hK.out _ _ (by assumption) (fun hHeld => ?_)
                clear hK K
                try simp only [Act.put, List.setIfInBounds_toArray, List.set_cons_zero, List.set_cons_succ]
                refine wpAnyH_done (by kernel_rfl) ?_ _
                go_wp2_with fail
                go_roundw
                case rel => exact ⟨j + 1, _, by go_num, by omega, Lib.hid (by rw [HR1.out]; exact QS.out), HD2⟩
                case measure => simp [RowKit.intOf]; omega
          · obtain rfl : j = 8 := by omega
            have HD := HF.out
            rw [HWE.out] at HD
            obtain ⟨-, d2, d3⟩ := HD.done
            have c5 := HQ.out.fb.cells.2.1
            have c6 := HQ.out.fb.cells.2.2
            clear HQN HNE HWD HWE HWI HPS HPC HPK HK4 HD HF
            obtain ⟨p, E⟩ := x
            dsimp only at c5 c6 d2 d3
            by_cases hE : E = 0
            · subst hE
              have HF0 := Lib.hid (d3 rfl)
              clear d2 d3
              go_wp2_with (first
                | (refine Rul.wpList_fetch _ rfl _ rfl _ _ rfl HQ.out.rb rfl ?_)
                | (refine Rul.wpList_keep _ rfl _ _ rfl w.heap.size w HQ.out.bel (w.heap.size + 1) (Nat.le_succ _) (par v 8) _ rfl rfl HQ.out.rz rfl ?_; intro w9 hk9 hb9 ho9))
              refine bodyPost_ret (Rul.results_three rfl _ _ _ _ rfl hk9 rfl) rfl ?_
              rw [HPE.out, HXE.out, HF0.out, if_neg (by decide)]
              exact ⟨rfl, hb9⟩
            · have bE : (E != 0) = true := by simpa using hE
              have HF0 := Lib.hid (d2 hE)
              have hps : p.size ≤ 8 := by have := HFL.out; rw [HF0.out] at this; exact this
              have HJ := Lib.hid (HJN.out p (by omega))
              have HOK := Lib.hid (show okR E (rdR v) = Rul.zero from if_neg hE)
              have HIF := Lib.hid (show (if E ≠ 0 then Ptr.jB ⟨#[]⟩ p else ⟨#[]⟩) = Ptr.jB ⟨#[]⟩ p from if_pos hE)
              clear d2 d3 hE hps
              have QD := Lib.hid (HQ.out.next (Below.refl _ _).drew)
              have g5 : wr.drew.cell? ⟨gf, 5, none⟩ = some (.string p) := c5
              have g6 : wr.drew.cell? ⟨gf, 6, none⟩ = some (.int .i64 E) := c6
              go_wp2_with fail
              go_region_law (first
                | (go_simp; go_at_call 34; (with_reducible refine (HJ.out _ QD.out.bel).mono ?_); rintro e wj ⟨rfl, hbj⟩; have QJ := Lib.hid (QD.out.next hbj); have j6 : wj.cell? ⟨gf, 6, none⟩ = some (.int .i64 E) := QJ.out.fb.cells.2.2; obtain ⟨⟨o0, o1, o2, o3, o4, o5, o6, o7, o8, o9, o10, o11, o12⟩, fz, s0, s1, s2, s3, s4, s5, s6, s7, s8, s9, s10, s11, s12⟩ := zero13 QJ.out.rz; clear hbj))
              all_goals
                go_wp2_with fail
                refine bodyPost_ret (Rul.results_three rfl _ _ _ _ rfl QJ.out.rz rfl) rfl ?_
                rw [HPE.out, HXE.out, HF0.out]
                dsimp only
                rw [HOK.out, HIF.out]
                exact ⟨rfl, QJ.out.bel⟩
  · rw [if_neg h5] at hX
    rw [hP, hX, if_neg fun k => h5 k.1, show okR 15 (rdR v) = Rul.zero from rfl]
    have b5 : (v.k != 5) = true := by simpa using h5
    clear hX h5 hP
    go_enter Tryz.func33, Tryz.ntmps33
    go_wp2_with (first
      | (refine Rul.wpList_keep _ rfl _ _ rfl w.heap.size w D0.out.bel _ (Nat.le_succ _) Rul.zero _ rfl rfl D0.out.two rfl ?_; intro w9 hk9 hb9 ho9))
    refine bodyPost_ret (Rul.results_three rfl _ _ _ _ rfl hk9 rfl) rfl ?_
    exact ⟨rfl, hb9⟩
end Go.Proofs.YtehkiojohldlgaaGreatDoor.Jsn
