/- The law PointerGoes. Conditions: strconv's two errors are there, the table of powers is as the library's text lays it, MaxLen holds some number (Env); as each theorem states. -/
import Derived.Test.YtfefbfohenmajaaDoorPtrM
import Derived.Deep.RegionLaw
import Derived.Deep.CutRange
namespace Go.Proofs.YtfefbfohenmajaaDoor.Ptr
open Go.RowKit Go.Lib Go.Proofs.YtfefbfohenmajaaDoor.Byt
open Go.Proofs.YtfefbfohenmajaaDoor.Tre (Vt V0 find cnt OkT okV OkT_iff OkT_zero InV InV_iff InV_next InV_five InV_zero InS InS_in InS_iff InS_upd InS_five InS_one Box Box.next Box.lt Box.cell box_new wpList_keep wpList_fetch wpList_fetch_g wr64 sm_self smB rcount rsame psame zeroC)

/-- A value's variable stands as it stood when strings are put on a row. -/
theorem push_keeps {W w' : World} {B : Nat} {v : Value} {l : List ByteArray} (ho : Strs.Own W B v l) (hg : W.grownBy w' v.ownBlock) {g : Nat} {z : Array Value} (hz : Box W g z) : Box w' g z := by
  refine (hg.block g hz.lt fun q => ?_).trans hz
  obtain ⟨_, c, hc⟩ := ho.cells g q.symm
  have hz2 : W.heap[g]? = some (.cells z 25 (0, 0)) := hz
  rw [hz2] at hc
  injection hc with hc
  injection hc with _ hc _
  exact absurd hc (by decide)
/-- What a call of Find has left in a variable. -/
def Fz (W W2 : World) (x : Vt) (g : Nat) (cs : List Value) : Prop := Box W2 g cs.toArray ∧ InV W2 x cs ∧ Below W.heap.size W W2
theorem Fz.alloc {W w3 : World} {x : Vt} {cs : List Value} (hb : Below W.heap.size W w3) (hi : InV w3 x cs) : Fz W (w3.alloc (.cells cs.toArray 25 (0, 0))) x w3.heap.size cs :=
  ⟨box_new w3 _, InV_next ((Below.refl _ w3).alloc (Nat.le_refl _) _) _ _ hi, hb.alloc hb.size _⟩
theorem Fz.store {W w3 : World} {n : Nat} {x : Vt} {g : Nat} {u0 u1 u2 u3 u4 : Value} {z : Array Value} (hb : Below W.heap.size W w3) (hi : InS (fun b => n ≤ b) w3 x [u0, u1, u2, u3, u4]) (hg : g < n) (hg2 : W.heap.size ≤ g) (hz : Box w3 g z) (h5 : z.size = 5) :
    Fz W (((((w3.setCell ⟨g, 0, none⟩ u0).setCell ⟨g, 1, none⟩ u1).setCell ⟨g, 2, none⟩ u2).setCell ⟨g, 3, none⟩ u3).setCell ⟨g, 4, none⟩ u4) x g [u0, u1, u2, u3, u4] :=
  ⟨Tre.box_nest5 hz h5 u0 u1 u2 u3 u4, InS_in _ _ (InS_upd (S' := fun _ => True) (fun b hb' _ => ⟨Tre.nest5_other w3 g u0 u1 u2 u3 u4 (by omega), trivial⟩) _ _ hi),
    below_set (below_set (below_set (below_set (below_set hb hg2 0 u0) hg2 1 u1) hg2 2 u2) hg2 3 u3) hg2 4 u4⟩
theorem Fz.drew {W w3 : World} {x : Vt} {g : Nat} {cs : List Value} (h : Fz W w3 x g cs) : Fz W w3.drew x g cs := ⟨h.1, InV_next (Below.refl _ _).drew _ _ h.2.1, h.2.2.drew⟩
theorem box_five {W : World} {g : Nat} {z0 z1 z2 z3 z4 : Value} (h : Box W g #[z0, z1, z2, z3, z4]) : W.cell? ⟨g, 0, none⟩ = some z0 ∧ W.cell? ⟨g, 1, none⟩ = some z1 ∧ W.cell? ⟨g, 2, none⟩ = some z2 ∧ W.cell? ⟨g, 3, none⟩ = some z3 ∧ W.cell? ⟨g, 4, none⟩ = some z4 := ⟨h.cell 0, h.cell 1, h.cell 2, h.cell 3, h.cell 4⟩
theorem box_fiveA {W : World} {g : Nat} {z0 z1 z2 z3 z4 : Value} (h : Box W g #[z0, z1, z2, z3, z4]) : (∀ o, (W.alloc o).cell? ⟨g, 0, none⟩ = some z0) ∧ (∀ o, (W.alloc o).cell? ⟨g, 1, none⟩ = some z1) ∧ (∀ o, (W.alloc o).cell? ⟨g, 2, none⟩ = some z2) ∧ (∀ o, (W.alloc o).cell? ⟨g, 3, none⟩ = some z3) ∧ ∀ o, (W.alloc o).cell? ⟨g, 4, none⟩ = some z4 :=
  have k : ∀ o, Box (W.alloc o) g #[z0, z1, z2, z3, z4] := fun o => h.next (bel_al _ o) h.lt
  ⟨fun o => (k o).cell 0, fun o => (k o).cell 1, fun o => (k o).cell 2, fun o => (k o).cell 3, fun o => (k o).cell 4⟩
theorem box_fiveB {W : World} {g : Nat} {z0 z1 z2 z3 z4 : Value} (h : Box W g #[z0, z1, z2, z3, z4]) : (∀ o p, ((W.alloc o).alloc p).cell? ⟨g, 0, none⟩ = some z0) ∧ (∀ o p, ((W.alloc o).alloc p).cell? ⟨g, 1, none⟩ = some z1) ∧ (∀ o p, ((W.alloc o).alloc p).cell? ⟨g, 2, none⟩ = some z2) ∧ (∀ o p, ((W.alloc o).alloc p).cell? ⟨g, 3, none⟩ = some z3) ∧ ∀ o p, ((W.alloc o).alloc p).cell? ⟨g, 4, none⟩ = some z4 :=
  have k : ∀ o p, Box ((W.alloc o).alloc p) g #[z0, z1, z2, z3, z4] := fun o p => (h.next (bel_al _ o) h.lt).next (bel_al _ p) (h.next (bel_al _ o) h.lt).lt
  ⟨fun o p => (k o p).cell 0, fun o p => (k o p).cell 1, fun o p => (k o p).cell 2, fun o p => (k o p).cell 3, fun o p => (k o p).cell 4⟩
/-- A fresh variable of a value: its block, from n on. -/
def Zb (n : Nat) (W : World) (g : Nat) : Prop := Box W g #[.int .i64 0, .int .i64 0, .string ⟨#[]⟩, .slice none 0 0, .slice none 0 0] ∧ n ≤ g
theorem zb_new {n g : Nat} (W : World) (hg : g = W.heap.size) (h : n ≤ g) : Zb n (W.alloc (.cells #[.int .i64 0, .int .i64 0, .string ⟨#[]⟩, .slice none 0 0, .slice none 0 0] 25)) g := by
  subst hg
  exact ⟨box_new _ _, h⟩
theorem Zb.al {n g : Nat} {W : World} (h : Zb n W g) (o : Obj) : Zb n (W.alloc o) g := ⟨h.1.next (bel_al _ _) h.1.lt, h.2⟩
theorem Zb.next {n g : Nat} {W W' : World} (h : Zb n W g) (hb : Below W.heap.size W W') : Zb n W' g := ⟨h.1.next hb h.1.lt, h.2⟩
theorem lit_own (W : World) (B g : Nat) (hg : g = W.heap.size) (hB : B ≤ g) : Strs.Own (W.alloc (.cells #[] 9)) B (.slice (some ⟨g, 0, none⟩) 0 0) [] := by
  subst hg
  exact Strs.Own.lit0 W B hB
section
variable {ops : Array Oper} {rest : List Oper} {o : Oper} {a : Act} {Q : Exit → Act → World → Prop} {K : Act → World → Prop} {E : Prop}
/-- 'append(l, m...)' in a region that draws, beside a fresh variable of a value. -/
theorem step_pushK (W : World) (hg : o.guard = none) (s x : Operand) (ho : o.op = .call { callee := .builtin .append, args := #[s, x], argTypes := #[22, 22] })
    (B : Nat) (w0 : World) (v y : Value) (l ns : List ByteArray) (hs : a.eval s = v) (hx : a.eval x = y) (hown : Strs.Own W B v l) (hb : Below B w0 W) (hB : B ≤ w0.heap.size) (hr : Strs.Row W y ns) (hlim : l.length + ns.length ≤ 8796093022208)
    (h : ∀ v' w', Strs.Own w' B v' (l ++ ns) → Below B w0 w' → (∀ n g, Zb n W g → Zb n w' g) → K (a.put o.dst v') w') : if Region.wanted o (yielded ops a.tmps) = true then Oper.wp Tryd.prog o a W K Q else E :=
  Strs.step_pushRow W hg s x ho B w0 v y l ns hs hx hown hb hB hr hlim fun v' w' h1 h2 h3 => h v' w' h1 h2 fun _ _ hz => ⟨push_keeps hown h3 hz.1, hz.2⟩
end
/-- What the law carries from call to call. -/
structure Sw (w : World) (v : Vt) (cs : List Value) (lv mv : Value) (l m : List ByteArray) (W : World) : Prop where
  env : Env W
  one : Strs.Row W lv l
  two : Strs.Row W mv m
  bel : Below w.heap.size w W
  bv : Bv W w.heap.size v cs
section
variable {w W W' : World} {v : Vt} {cs : List Value} {lv mv : Value} {l m : List ByteArray}
theorem Sw.next (h : Sw w v cs lv mv l m W) (hb : Below W.heap.size W W') : Sw w v cs lv mv l m W' := ⟨h.env.next hb, h.one.next hb, h.two.next hb, h.bel.trans (hb.mono h.bel.size), h.bv.next hb⟩
theorem Sw.al (h : Sw w v cs lv mv l m W) (o : Obj) : Sw w v cs lv mv l m (W.alloc o) := h.next (bel_al W o)
theorem Sw.start (hE : Env w) (hr : Strs.Row w lv l) (hr2 : Strs.Row w mv m) (hi : InV w v cs) : Sw w v cs lv mv l m (w.alloc (.cells cs.toArray 25)) := ⟨hE.next (bel_al _ _), hr.next (bel_al _ _), hr2.next (bel_al _ _), bel_al _ _, Bv.made hi⟩
end
theorem fdP_nil (v : Vt) : fdP v [] = some v := rfl
set_option maxHeartbeats 16000000 in
set_option maxRecDepth 100000 in
theorem goes_any (v : Vt) (hv : OkT v) (cs : List Value) (l m : List ByteArray) (lv mv : Value) (w : World) (h : InV w v cs) (hr : Strs.Row w lv l) (hr2 : Strs.Row w mv m) (hl : l.length ≤ 9223372036854775807) (hm : m.length ≤ 9223372036854775807) (hE : Env w) :
    Calls Tryd.prog 5 #[.agg cs.toArray, lv, mv] w fun e w' => e = .returned (.bool true) ∧ Below w.heap.size w w' := by
  have HAW := Lib.hid awake_any
  have HL1 := Lib.hid fun W (hr : Strs.Row W lv l) => light_any lv l W hr hl
  have HL2 := Lib.hid fun W (hr : Strs.Row W mv m) => light_any mv m W hr hm
  have HCN := Lib.hid (rcount v hv)
  have S0 := Lib.hid (Sw.start hE hr hr2 h)
  obtain ⟨km, nm, sm, a7, l7, p7, a8, l8, p8, rfl⟩ := Tre.InV_shp h
  generalize wr64 (cnt v : Int) = N at *
  by_cases hN : 300 < N
  · have g2 : decide ((300 : Int) < N) = true := decide_eq_true hN
    clear hN
    go_enter Tryd.func5, Tryd.ntmps5
    go_wp2_with (first
      | (go_at_call 7; (with_reducible refine (HCN.out _ _ S0.out.bv.inv).mono ?_); rintro e w2 ⟨rfl, hb2⟩; have s2 := S0.out.next hb2)
      | (go_at_call 8; (with_reducible refine (HAW.out _ s2.env).mono ?_); rintro e w3 ⟨rfl, hb3⟩))
    go_ret
    exact ⟨rfl, (s2.next hb3).bel⟩
  have g2 : decide ((300 : Int) < N) = false := decide_eq_false hN
  by_cases hlg : lgt l = true
  · rw [hlg] at HL1
    by_cases hmg : lgt m = true
    · rw [hmg] at HL2
      obtain ⟨lf1, lf2, lf3⟩ := lgt_fit hlg
      obtain ⟨mf1, mf2, mf3⟩ := lgt_fit hmg
      have lm3 : ∀ x ∈ l ++ m, x.size ≤ 8000000 := fun x hx => by
        rcases List.mem_append.1 hx with hx | hx
        · exact lf3 x hx
        · exact mf3 x hx
      have HF := Lib.hid fun W cs hi hr (h : Env W) => pfindp v hv l lv cs W hi hr h lf3 (by omega)
      have HB := Lib.hid fun W cs bv hi hr (h : Env W) => pfindp v hv (l ++ m) bv cs W hi hr h lm3 (by rw [List.length_append]; omega)
      have HZ := Lib.hid fun W cs hi hr (h : Env W) => pfindp v hv [] (.slice none 0 0) cs W hi hr h (fun x hx => by cases hx) (by simp)
      rw [fdP_nil] at HZ
      have hv2 := ok_at hv (l ++ m)
      have HSV := Lib.hid (psame v hv v hv)
      have HSB := Lib.hid (psame _ hv2 _ hv2)
      rw [sm_self] at HSV HSB
      have HY := Lib.hid fun W cs hi hr (h : Env W) => pfindp _ (ok_at hv l) m mv cs W hi hr h mf3 (by omega)
      have hno : (fdP v l).isSome = false → (fdP v (l ++ m)).isSome = false := fun q => by
        rw [fdP_app]
        cases hx : fdP v l with
        | none => rfl
        | some x => rw [hx] at q; cases q
      have hyes : (fdP v l).isSome = true → (fdP ((fdP v l).getD V0) m).isSome = (fdP v (l ++ m)).isSome ∧ (fdP ((fdP v l).getD V0) m).getD V0 = (fdP v (l ++ m)).getD V0 := fun q => by
        rw [fdP_app]
        cases hx : fdP v l with
        | none => rw [hx] at q; cases q
        | some x => exact ⟨rfl, rfl⟩
      have hlm : l.length + m.length ≤ 8796093022208 := by omega
      have hll : l.length ≤ 8796093022208 := by omega
      clear hv2 lm3 lf1 lf2 mf1 mf2 hlg hmg hN hr hr2 hE h lf3 mf3
      generalize (fdP ((fdP v l).getD V0) m).isSome = o3 at *
      generalize (fdP ((fdP v l).getD V0) m).getD V0 = Y at *
      generalize (fdP v l).isSome = o1 at *
      generalize (fdP v l).getD V0 = X1 at *
      generalize (fdP v (l ++ m)).isSome = o2 at *
      generalize (fdP v (l ++ m)).getD V0 = X at *
      have HNO := Lib.hid hno
      have HYES := Lib.hid hyes
      clear hno hyes
      go_enter Tryd.func5, Tryd.ntmps5
      go_wp2_with (first
        | (go_at_call 7; (with_reducible refine (HCN.out _ _ S0.out.bv.inv).mono ?_); rintro e w2 ⟨rfl, hb2⟩; have s2 := S0.out.next hb2; clear hb2)
        | (go_at_call 6; (with_reducible refine (HL1.out _ s2.one).mono ?_); rintro e w3 ⟨rfl, hw⟩; obtain rfl := hw.symm)
        | (go_at_call 6; (with_reducible refine (HL2.out _ s2.two).mono ?_); rintro e w3 ⟨rfl, hw⟩; obtain rfl := hw.symm)
        | (refine wpList_fetch _ rfl _ rfl w.heap.size _ rfl s2.bv.box rfl ?_)
        | (go_at_call 11; (with_reducible refine (HF.out _ _ s2.bv.inv s2.one s2.env).mono ?_); rintro e w3 ⟨d3, rfl, hS3, hb3⟩; obtain ⟨k3, n3, t3, i3, j3, q3, u3, v3, z3, rfl⟩ := Tre.InV_shp (InS_in _ _ hS3); have m3 := Bv.made (InS_in _ _ hS3); have ha3 := bel_al w3 (.cells #[.int .i64 k3, .int .i64 n3, .string t3, .slice i3 j3 q3, .slice u3 v3 z3] 25); have s3 := (s2.next hb3).next ha3; clear hS3 hb3 ha3 s2))
      generalize w3.alloc (.cells #[.int .i64 k3, .int .i64 n3, .string t3, .slice i3 j3 q3, .slice u3 v3 z3] 25) = w4 at *
      have S4 := Lib.hid s3
      have M3 := Lib.hid m3
      obtain ⟨y0, y1, y2, y3, y4⟩ := box_five s3.bv.box
      obtain ⟨ya0, ya1, ya2, ya3, ya4⟩ := box_fiveA s3.bv.box
      obtain ⟨yb0, yb1, yb2, yb3, yb4⟩ := box_fiveB s3.bv.box
      clear s3 m3
      go_cut [9, 10] from 36 to 81 (fun q ok wx => ok = .bool o2 ∧ ∃ g cx, q = .pointer (some ⟨g, 0, none⟩) ∧ Fz w4 wx X g cx)
      case first =>
        go_region_law (first
          | (refine step_pushK _ (by rfl) (.tmp 37) (.tmp 38) (by rfl) w4.heap.size w4 _ lv [] l (by rfl) (by rfl) (by first | exact lit_own w4 _ _ rfl (Nat.le_refl _) | exact (lit_own w4 _ _ rfl (Nat.le_refl _)).alloc _ | exact lit_own (w4.alloc _) _ _ (by simp) (Nat.le_succ _)) (by first | exact ((Below.refl _ _).alloc (Nat.le_refl _) _).drew | exact (((Below.refl _ _).alloc (Nat.le_refl _) _).alloc (by simp) _).drew) (Nat.le_refl _) (by first | exact S4.out.one.next ((Below.refl _ _).alloc (Nat.le_refl _) _).drew | exact S4.out.one.next (((Below.refl _ _).alloc (Nat.le_refl _) _).alloc (by simp) _).drew) (by simpa using hll) ?_; intro v7 w7 o7 b7 K7; obtain ⟨y0, y1, y2, y3, y4⟩ := box_five (S4.out.next b7).bv.box; obtain ⟨ya0, ya1, ya2, ya3, ya4⟩ := box_fiveA (S4.out.next b7).bv.box)
          | (refine step_pushK _ (by rfl) (.tmp 39) (.tmp 40) (by rfl) w4.heap.size w4 _ mv ([] ++ l) m (by rfl) (by rfl) (by first | exact o7 | exact o7.alloc _) (by first | exact b7 | exact b7.alloc b7.size _) (Nat.le_refl _) (by first | exact S4.out.two.next b7 | exact S4.out.two.next (b7.alloc b7.size _)) (by simpa using hlm) ?_; intro v8 w8 o8 b8 K8; have r8 : Strs.Row w8 v8 (l ++ m) := (by simpa using o8.row); obtain ⟨y0, y1, y2, y3, y4⟩ := box_five (S4.out.next b8).bv.box; obtain ⟨ya0, ya1, ya2, ya3, ya4⟩ := box_fiveA (S4.out.next b8).bv.box)
          | (go_simp; go_at_call 11; (with_reducible refine (HB.out _ _ _ (S4.out.next b8).bv.inv r8 (S4.out.next b8).env).mono ?_); rintro e w9 ⟨d9, rfl, hS9, hb9⟩; obtain ⟨k9, n9, t9, i9, j9, q9, u9, v9, z9, hd9⟩ := Tre.InV_shp (InS_in _ _ hS9); subst hd9; have b9 := b8.trans (hb9.mono b8.size); first
              | (have zb := K8 _ _ (zb_new w7 rfl b7.size); have bz := (zb.next hb9).1; obtain ⟨zc0, zc1, zc2, zc3, zc4, zf⟩ := Tre.box_cells5 bz; have hfo := Fz.store b9 hS9 zb.1.lt zb.2 bz rfl)
              | (have zb := K8 _ _ (K7 _ _ (zb_new (g := w4.heap.size + 1) (w4.alloc (.cells #[] 9)) (by simp) (Nat.le_succ _))); have bz := (zb.next hb9).1; obtain ⟨zc0, zc1, zc2, zc3, zc4, zf⟩ := Tre.box_cells5 bz; have hfo := Fz.store b9 hS9 zb.1.lt zb.2 bz rfl)
              | (have zb := K8 _ _ (K7 _ _ ((zb_new w4 rfl (Nat.le_refl _)).al (.cells #[] 9))); have bz := (zb.next hb9).1; obtain ⟨zc0, zc1, zc2, zc3, zc4, zf⟩ := Tre.box_cells5 bz; have hfo := Fz.store b9 hS9 zb.1.lt zb.2 bz rfl)
              | (have hfo := Fz.alloc b9 (InS_in _ _ hS9)))
          | (go_simp; go_at_call 11; (with_reducible refine (HB.out _ _ _ (S4.out.next (b8.alloc b8.size _)).bv.inv (r8.next (bel_al _ _)) (S4.out.next (b8.alloc b8.size _)).env).mono ?_); rintro e w9 ⟨d9, rfl, hS9, hb9⟩; obtain ⟨k9, n9, t9, i9, j9, q9, u9, v9, z9, hd9⟩ := Tre.InV_shp (InS_in _ _ hS9); subst hd9; have b9 := (b8.alloc b8.size (.cells #[.int .i64 0, .int .i64 0, .string ⟨#[]⟩, .slice none 0 0, .slice none 0 0] 25)).trans (hb9.mono (b8.alloc b8.size _).size); have zb := zb_new w8 rfl b8.size; have bz := (zb.next hb9).1; obtain ⟨zc0, zc1, zc2, zc3, zc4, zf⟩ := Tre.box_cells5 bz; have hfo := Fz.store b9 hS9 zb.1.lt zb.2 bz rfl))
        all_goals
          go_wp2_with fail
          go_meet
          first
            | exact ⟨rfl, _, _, rfl, hfo⟩
            | exact ⟨rfl, _, _, rfl, hfo.drew⟩
      case rest =>
        rename World => wa
        obtain ⟨rfl, g, cx, rfl, hbx, hix, hba⟩ := hcut
        have s5 := S4.out.next hba
        have m5 := M3.out.next hba
        obtain ⟨k9, n9, t9, i9, j9, q9, u9, v9, z9, rfl⟩ := Tre.InV_shp hix
        have b5 : Bv wa g X [.int .i64 k9, .int .i64 n9, .string t9, .slice i9 j9 q9, .slice u9 v9 z9] := ⟨hbx, hix⟩
        clear y0 y1 y2 y3 y4 ya0 ya1 ya2 ya3 ya4 yb0 yb1 yb2 yb3 yb4 S4 M3 hbx hix hba HB HF
        cases o1 with
        | false =>
          obtain rfl := HNO.out rfl
          clear HYES HY HZ HSB HSV
          go_wp2_with (go_at_call 8; (with_reducible refine (HAW.out _ s5.env).mono ?_); rintro e w6 ⟨rfl, hb6⟩)
          go_ret
          exact ⟨rfl, (s5.next hb6).bel⟩
        | true =>
          obtain ⟨e1, e2⟩ := HYES.out rfl
          subst e1 e2
          have e3 : (o3 == o3) = true := beq_self_eq_true _
          clear HYES HNO
          go_wp2_with (first
            | (refine wpList_fetch _ rfl _ rfl w3.heap.size _ rfl m5.box rfl ?_)
            | (go_at_call 11; (with_reducible refine (HY.out _ _ m5.inv s5.two s5.env).mono ?_); rintro e w6 ⟨d6, rfl, hS6, hb6⟩; obtain ⟨k6, n6, t6, i6, j6, q6, u6, v6, z6, rfl⟩ := Tre.InV_shp (InS_in _ _ hS6); have m6 := Bv.made (InS_in _ _ hS6); have ha6 := bel_al w6 (.cells #[.int .i64 k6, .int .i64 n6, .string t6, .slice i6 j6 q6, .slice u6 v6 z6] 25); have s6 := (s5.next hb6).next ha6; have b6 := (b5.next hb6).next ha6; clear hS6 hb6 ha6)
            | (refine wpList_fetch _ rfl _ rfl w.heap.size _ rfl s6.bv.box rfl ?_)
            | (go_at_call 11; (with_reducible refine (HZ.out _ _ s6.bv.inv (Strs.Row.nil _) s6.env).mono ?_); rintro e w7 ⟨d7, rfl, hS7, hb7⟩; obtain ⟨k7, n7, t7, i7, j7, q7, u7, v7, z7, rfl⟩ := Tre.InV_shp (InS_in _ _ hS7); have m7 := Bv.made (InS_in _ _ hS7); have ha7 := bel_al w7 (.cells #[.int .i64 k7, .int .i64 n7, .string t7, .slice i7 j7 q7, .slice u7 v7 z7] 25); have s7 := (s6.next hb7).next ha7; have b7 := (b6.next hb7).next ha7; have p7 := (m6.next hb7).next ha7; clear hS7 hb7 ha7)
            | (refine wpList_fetch_g _ (by rfl) _ rfl w6.heap.size _ rfl p7.box rfl ?_)
            | (refine wpList_fetch_g _ (by rfl) _ rfl g _ rfl b7.box rfl ?_)
            | (go_at_call 19; (with_reducible refine (HSB.out _ _ _ p7.inv b7.inv).mono ?_); rintro e w8 ⟨rfl, hb8⟩; have s8 := s7.next hb8; have m8 := m7.next hb8; clear hb8)
            | (refine wpList_fetch_g _ (by rfl) _ rfl w7.heap.size _ rfl m8.box rfl ?_)
            | (refine wpList_fetch_g _ (by rfl) _ rfl w.heap.size _ rfl s8.bv.box rfl ?_)
            | (go_at_call 19; (with_reducible refine (HSV.out _ _ _ m8.inv s8.bv.inv).mono ?_); rintro e w9 ⟨rfl, hb9⟩; have s9 := s8.next hb9; clear hb9)
            | (go_at_call 8; (with_reducible refine (HAW.out _ s9.env).mono ?_); rintro e w10 ⟨rfl, hb10⟩))
          go_ret
          exact ⟨rfl, (s9.next hb10).bel⟩
    · have hm2 : lgt m = false := by
        cases q : lgt m with
        | false => rfl
        | true => exact absurd q hmg
      rw [hm2] at HL2
      clear hlg hmg hm2 hN
      go_enter Tryd.func5, Tryd.ntmps5
      go_wp2_with (first
        | (go_at_call 7; (with_reducible refine (HCN.out _ _ S0.out.bv.inv).mono ?_); rintro e w2 ⟨rfl, hb2⟩; have s2 := S0.out.next hb2; clear hb2)
        | (go_at_call 6; (with_reducible refine (HL1.out _ s2.one).mono ?_); rintro e w3 ⟨rfl, hw⟩; obtain rfl := hw.symm)
        | (go_at_call 6; (with_reducible refine (HL2.out _ s2.two).mono ?_); rintro e w3 ⟨rfl, hw⟩; obtain rfl := hw.symm)
        | (go_at_call 8; (with_reducible refine (HAW.out _ s2.env).mono ?_); rintro e w4 ⟨rfl, hb4⟩))
      go_ret
      exact ⟨rfl, (s2.next hb4).bel⟩
  · have hl2 : lgt l = false := by
      cases q : lgt l with
      | false => rfl
      | true => exact absurd q hlg
    rw [hl2] at HL1
    clear hlg hl2 hN
    go_enter Tryd.func5, Tryd.ntmps5
    go_wp2_with (first
      | (go_at_call 7; (with_reducible refine (HCN.out _ _ S0.out.bv.inv).mono ?_); rintro e w2 ⟨rfl, hb2⟩; have s2 := S0.out.next hb2; clear hb2)
      | (go_at_call 6; (with_reducible refine (HL1.out _ s2.one).mono ?_); rintro e w3 ⟨rfl, hw⟩; obtain rfl := hw.symm)
      | (go_at_call 6; (with_reducible refine (HL2.out _ s2.two).mono ?_); rintro e w3 ⟨rfl, hw⟩; obtain rfl := hw.symm)
      | (go_at_call 8; (with_reducible refine (HAW.out _ s2.env).mono ?_); rintro e w4 ⟨rfl, hb4⟩))
    go_ret
    exact ⟨rfl, (s2.next hb4).bel⟩
end Go.Proofs.YtfefbfohenmajaaDoor.Ptr
