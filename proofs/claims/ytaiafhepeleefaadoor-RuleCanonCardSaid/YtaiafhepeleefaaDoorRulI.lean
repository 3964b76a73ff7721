/- rule's laws: RuleSays. Conditions: the tables read as the program lays them. -/
import Derived.Test.YtaiafhepeleefaaDoorRulG
import Derived.Test.YtaiafhepeleefaaDoorRulH
import Derived.Deep.RegionHeld3
namespace Go.Proofs.YtaiafhepeleefaaDoor.Rul
open Go.RowKit Go.Lib

/-- What a region's calls keep: the rule that came in, two that were handed back, the tables. -/
structure SQ (w : World) (rv cs : Array Value) (g h : Nat) (W : World) : Prop where
  one : Bx W w.heap.size rv
  two : Bx W g cs
  tre : Bx W h cs
  bel : Below w.heap.size w W
  tab : Tab W
  utf : Utf.Tabs W
theorem SQ.next {w W W' : World} {rv cs : Array Value} {g h : Nat} (k : SQ w rv cs g h W) (hb : Below W.heap.size W W') : SQ w rv cs g h W' :=
  ⟨k.one.next hb k.one.lt, k.two.next hb k.two.lt, k.tre.next hb k.tre.lt, k.bel.trans (hb.mono k.bel.size), k.tab.next hb, Utf.Tabs.next k.utf hb⟩
theorem SQ.drew {w W : World} {rv cs : Array Value} {g h : Nat} (k : SQ w rv cs g h W) : SQ w rv cs g h W.drew := k.next (Below.refl _ _).drew
theorem sq_cells {w : World} {g h : Nat} {r c : Ru} :
    (∀ W, SQ w (ruC r) (ruC c) g h W → W.cell? ⟨g, 0, none⟩ = some (.string c.id))
    ∧ (∀ W, SQ w (ruC r) (ruC c) g h W → W.cell? ⟨g, 1, none⟩ = some (.string c.no))
    ∧ (∀ W, SQ w (ruC r) (ruC c) g h W → W.cell? ⟨g, 2, none⟩ = some (.string c.ro))
    ∧ (∀ W, SQ w (ruC r) (ruC c) g h W → W.cell? ⟨g, 3, none⟩ = some (.int .i64 c.pr))
    ∧ (∀ W, SQ w (ruC r) (ruC c) g h W → W.cell? ⟨g, 4, none⟩ = some (.int .i64 c.ki))
    ∧ (∀ W, SQ w (ruC r) (ruC c) g h W → W.cell? ⟨g, 5, none⟩ = some (.int .i64 c.ra))
    ∧ (∀ W, SQ w (ruC r) (ruC c) g h W → W.cell? ⟨g, 6, none⟩ = some (.int .i64 c.pe))
    ∧ (∀ W, SQ w (ruC r) (ruC c) g h W → W.cell? ⟨g, 7, none⟩ = some (.int .i64 c.bu))
    ∧ (∀ W, SQ w (ruC r) (ruC c) g h W → W.cell? ⟨g, 8, none⟩ = some (.int .i64 c.co))
    ∧ (∀ W, SQ w (ruC r) (ruC c) g h W → W.cell? ⟨g, 9, none⟩ = some (.int .i64 c.mx))
    ∧ (∀ W, SQ w (ruC r) (ruC c) g h W → W.cell? ⟨g, 10, none⟩ = some (.int .i64 c.fa))
    ∧ (∀ W, SQ w (ruC r) (ruC c) g h W → W.cell? ⟨g, 11, none⟩ = some (.int .i64 c.wa))
    ∧ (∀ W, SQ w (ruC r) (ruC c) g h W → W.cell? ⟨g, 12, none⟩ = some (.int .i64 c.pb))
    ∧ (∀ W, SQ w (ruC r) (ruC c) g h W → W.cell? ⟨h, 0, none⟩ = some (.string c.id))
    ∧ (∀ W, SQ w (ruC r) (ruC c) g h W → W.cell? ⟨h, 1, none⟩ = some (.string c.no))
    ∧ (∀ W, SQ w (ruC r) (ruC c) g h W → W.cell? ⟨h, 2, none⟩ = some (.string c.ro))
    ∧ (∀ W, SQ w (ruC r) (ruC c) g h W → W.cell? ⟨h, 3, none⟩ = some (.int .i64 c.pr))
    ∧ (∀ W, SQ w (ruC r) (ruC c) g h W → W.cell? ⟨h, 4, none⟩ = some (.int .i64 c.ki))
    ∧ (∀ W, SQ w (ruC r) (ruC c) g h W → W.cell? ⟨h, 5, none⟩ = some (.int .i64 c.ra))
    ∧ (∀ W, SQ w (ruC r) (ruC c) g h W → W.cell? ⟨h, 6, none⟩ = some (.int .i64 c.pe))
    ∧ (∀ W, SQ w (ruC r) (ruC c) g h W → W.cell? ⟨h, 7, none⟩ = some (.int .i64 c.bu))
    ∧ (∀ W, SQ w (ruC r) (ruC c) g h W → W.cell? ⟨h, 8, none⟩ = some (.int .i64 c.co))
    ∧ (∀ W, SQ w (ruC r) (ruC c) g h W → W.cell? ⟨h, 9, none⟩ = some (.int .i64 c.mx))
    ∧ (∀ W, SQ w (ruC r) (ruC c) g h W → W.cell? ⟨h, 10, none⟩ = some (.int .i64 c.fa))
    ∧ (∀ W, SQ w (ruC r) (ruC c) g h W → W.cell? ⟨h, 11, none⟩ = some (.int .i64 c.wa))
    ∧ (∀ W, SQ w (ruC r) (ruC c) g h W → W.cell? ⟨h, 12, none⟩ = some (.int .i64 c.pb))
    ∧ (∀ W, SQ w (ruC r) (ruC c) g h W → W.cell? ⟨w.heap.size, 4, none⟩ = some (.int .i64 r.ki)) :=
  ⟨fun _ k => k.two.cell 0, fun _ k => k.two.cell 1, fun _ k => k.two.cell 2, fun _ k => k.two.cell 3, fun _ k => k.two.cell 4, fun _ k => k.two.cell 5, fun _ k => k.two.cell 6, fun _ k => k.two.cell 7, fun _ k => k.two.cell 8, fun _ k => k.two.cell 9, fun _ k => k.two.cell 10, fun _ k => k.two.cell 11, fun _ k => k.two.cell 12, fun _ k => k.tre.cell 0, fun _ k => k.tre.cell 1, fun _ k => k.tre.cell 2, fun _ k => k.tre.cell 3, fun _ k => k.tre.cell 4, fun _ k => k.tre.cell 5, fun _ k => k.tre.cell 6, fun _ k => k.tre.cell 7, fun _ k => k.tre.cell 8, fun _ k => k.tre.cell 9, fun _ k => k.tre.cell 10, fun _ k => k.tre.cell 11, fun _ k => k.tre.cell 12, fun _ k => k.one.cell 4⟩

set_option maxHeartbeats 8000000 in
set_option maxRecDepth 100000 in
theorem says_any (r : Ru) (s : ByteArray) (w : World) (hT : Tab w) (hU : Utf.Tabs w) (s1 : r.id.size ≤ 9223372036854775807) (s2 : r.no.size ≤ 9223372036854775807) (s3 : r.ro.size ≤ 9223372036854775807) :
    Calls Tryd.prog 3 #[.agg (ruC r), .string s] w fun e w' => e = .returned (.bool true) ∧ Below w.heap.size w w' := by
  have HL := Lib.hid fun W => light_any r W s1 s2 s3
  have HAW := Lib.hid awake_any
  have hA : ∀ o, Below w.heap.size w (w.alloc o) := fun o => (Below.refl _ _).alloc (Nat.le_refl _) o
  have hA := Lib.hid hA
  have HT := Lib.hid hT; have HU := Lib.hid hU
  clear hT hU
  cases hl : lgt r with
  | false =>
    rw [hl] at HL
    clear hl
    obtain ⟨id, no, ro, pr, ki, ra, pe, bu, co, mx, fa, wa, pb⟩ := r
    dsimp only [ruC] at HL ⊢
    go_enter Tryd.func3, Tryd.ntmps3
    go_wp2_with (first
      | (go_at_call 6; (with_reducible refine (HL.out _).mono ?_); rintro e w1 ⟨rfl, hb1⟩; have B1 := Lib.hid ((hA.out _).trans (hb1.mono (by simp))))
      | (go_at_call 7; (with_reducible refine (HAW.out _ (HT.out.next B1.out) (Utf.Tabs.next HU.out B1.out)).mono ?_); rintro e w2 ⟨rfl, hb2⟩))
    go_ret
    exact ⟨rfl, B1.out.trans (hb2.mono B1.out.size)⟩
  | true =>
  rw [hl] at HL
  obtain ⟨l1, l2, l3⟩ := lgt_yes hl
  have HC1 := Lib.hid fun W hT hU => chk_any r W hT hU (by omega) (by omega) (by omega)
  have HC2 := Lib.hid fun W => rchk_any r W (by omega) (by omega) (by omega)
  have HN1 := Lib.hid fun W hT hU => canon_any r W hT hU (by omega) (by omega) (by omega)
  have HN2 := Lib.hid fun W => rcanon_any r W (by omega) (by omega) (by omega)
  have HK1 := Lib.hid fun W hT => kind_any r.ki W hT
  have HK2 := Lib.hid fun W => rkind_any r.ki W
  have HO1 := Lib.hid fun W hT => kindof_any s W hT
  have HO2 := Lib.hid fun W => rkindof_any s W
  clear hl l1 l2 l3
  generalize chk r = x at *
  obtain ⟨p, E⟩ := x
  generalize cn r = c at *
  generalize kB r.ki = kb at *
  generalize kO s = ko at *
  obtain ⟨id, no, ro, pr, ki, ra, pe, bu, co, mx, fa, wa, pb⟩ := r
  obtain ⟨id', no', ro', pr', ki', ra', pe', bu', co', mx', fa', wa', pb'⟩ := c
  dsimp only [ruC] at HL HC1 HC2 HN1 HN2 HK1 HK2 ⊢
  have q1 : (p.toList == p.toList) = true := beq_self_eq_true _
  have q2 : (kb.toList == kb.toList) = true := beq_self_eq_true _
  have q3 : (id'.toList == id'.toList) = true := beq_self_eq_true _
  have q4 : (no'.toList == no'.toList) = true := beq_self_eq_true _
  have q5 : (ro'.toList == ro'.toList) = true := beq_self_eq_true _
  go_enter Tryd.func3, Tryd.ntmps3
  go_wp2_with (first
    | (refine wpList_fetch _ rfl _ rfl _ _ rfl (X4.out _) rfl ?_)
    | (refine wpList_fetch _ rfl _ rfl _ _ rfl X3.out rfl ?_)
    | (refine wpList_fetch _ rfl _ rfl _ _ rfl X2.out rfl ?_)
    | (refine wpList_fetch _ rfl _ rfl _ _ rfl X1.out rfl ?_)
    | (go_at_call 6; (with_reducible refine (HL.out _).mono ?_); rintro e w1 ⟨rfl, hb1⟩; have B1 := Lib.hid ((hA.out _).trans (hb1.mono (by simp))); have X1 := Lib.hid (box_stay hb1); clear hb1)
    | (go_at_call 8; (with_reducible refine (HC1.out _ (HT.out.next B1.out) (Utf.Tabs.next HU.out B1.out)).mono ?_); rintro e w2 ⟨rfl, hb2⟩; have B2 := Lib.hid (B1.out.trans (hb2.mono B1.out.size)); have X2 := Lib.hid (X1.out.next hb2 X1.out.lt); clear hb2)
    | (go_at_call 9; (with_reducible refine (HC2.out _).mono ?_); rintro e w3 ⟨rfl, hb3⟩; have B3 := Lib.hid (B2.out.trans (hb3.mono B2.out.size)); have X3 := Lib.hid (X2.out.next hb3 X2.out.lt); clear hb3)
    | (go_at_call 10; (with_reducible refine (HN1.out _ (HT.out.next B3.out) (Utf.Tabs.next HU.out B3.out)).mono ?_); rintro e w4 ⟨rfl, hb4⟩; have B4 := Lib.hid (B3.out.trans (hb4.mono B3.out.size)); have X4 := Lib.hid (bx_old (X3.out.next hb4 X3.out.lt)); clear hb4)
    | (go_at_call 11; (with_reducible refine (HN2.out _).mono ?_); rintro e w5 ⟨rfl, hb5⟩; have Y5 := Lib.hid (box_stay hb5)))
  have B5 := Lib.hid ((B4.out.alloc B4.out.size _).trans (hb5.mono (by have := B4.out.size; simp; omega)))
  have K := SQ.mk (rv := ruC ⟨id, no, ro, pr, ki, ra, pe, bu, co, mx, fa, wa, pb⟩) (cs := ruC ⟨id', no', ro', pr', ki', ra', pe', bu', co', mx', fa', wa', pb'⟩)
    (bx_old ((X4.out _).next hb5 (X4.out _).lt) _) (bx_old Y5.out _) (bx_new w5 #[.string id', .string no', .string ro', .int .i64 pr', .int .i64 ki', .int .i64 ra', .int .i64 pe', .int .i64 bu', .int .i64 co', .int .i64 mx', .int .i64 fa', .int .i64 wa', .int .i64 pb']) (B5.out.alloc B5.out.size _) (HT.out.next (B5.out.alloc B5.out.size _)) (Utf.Tabs.next HU.out (B5.out.alloc B5.out.size _))
  have KD := K.drew
  clear X1 X2 X3 X4 B1 B2 B3 B4 B5 Y5 hb5 HL HC1 HC2 HN1 HN2 K
  obtain ⟨a0, a1, a2, a3, a4, a5, a6, a7, a8, a9, a10, a11, a12, b0, b1, b2, b3, b4, b5, b6, b7, b8, b9, b10, b11, b12, k4⟩ := sq_cells (w := w) (g := w4.heap.size) (h := w5.heap.size) (r := ⟨id, no, ro, pr, ki, ra, pe, bu, co, mx, fa, wa, pb⟩) (c := ⟨id', no', ro', pr', ki', ra', pe', bu', co', mx', fa', wa', pb'⟩)
  dsimp only at a0 a1 a2 a3 a4 a5 a6 a7 a8 a9 a10 a11 a12 b0 b1 b2 b3 b4 b5 b6 b7 b8 b9 b10 b11 b12 k4
  generalize ruC ⟨id, no, ro, pr, ki, ra, pe, bu, co, mx, fa, wa, pb⟩ = rv at *
  generalize ruC ⟨id', no', ro', pr', ki', ra', pe', bu', co', mx', fa', wa', pb'⟩ = cv at *
  go_region_held3 (SQ w rv cv w4.heap.size w5.heap.size) (first | exact KD | assumption)
    (first
      | (go_at_call 12; (with_reducible refine (HK1.out _ (SQ.tab (by assumption))).mono ?_); rintro e wx ⟨rfl, rfl⟩)
      | (go_at_call 13; (with_reducible refine (HK2.out _).mono ?_); rintro e wx ⟨rfl, rfl⟩)
      | (go_at_call 14; (with_reducible refine (HO1.out _ (SQ.tab (by assumption))).mono ?_); rintro e wx ⟨rfl, rfl⟩)
      | (go_at_call 15; (with_reducible refine (HO2.out _).mono ?_); rintro e wx ⟨rfl, rfl⟩)
      | (go_at_call 7; (with_reducible refine (HAW.out _ (SQ.tab (by assumption)) (SQ.utf (by assumption))).mono ?_); rintro e wx ⟨rfl, hbx⟩; have sbx := SQ.next (by assumption) hbx; clear hbx))
  go_wp2_with fail
  go_ret
  exact ⟨rfl, SQ.bel (by assumption)⟩
end Go.Proofs.YtaiafhepeleefaaDoor.Rul
