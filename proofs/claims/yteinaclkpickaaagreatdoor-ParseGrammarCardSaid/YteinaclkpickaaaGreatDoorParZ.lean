/- The contract of the document's Parse; the law that Parse and the document's say the same. Conditions: the two tables of unicode/utf8 are as its text lays them, the two sentinels of strconv hold errors; as each theorem states. -/
import Derived.Test.YteinaclkpickaaaGreatDoorParW
import Derived.Test.YteinaclkpickaaaGreatDoorParN
import Derived.Test.YteinaclkpickaaaGreatDoorTreRb
namespace Go.Proofs.YteinaclkpickaaaGreatDoor.Par
open Go.RowKit Go.Lib Go.Proofs.YteinaclkpickaaaGreatDoor.Byt Go.Proofs.YteinaclkpickaaaGreatDoor.Lx
open Go.Proofs.YteinaclkpickaaaGreatDoor.Tre (Vt V0 OkT wi smB sm_self InS InV InV_next InS_upd InS_iff InV_iff)

theorem results_v3 {fn : Func} {p q r : Tmp} (h : fn.results = #[.cell p 26, .tmp q, .tmp r]) (tmps : Array Value) (w : World) (g : Nat) (cs : Array Value)
    (hp : tmps.getD p undef = .pointer (some ⟨g, 0, none⟩)) (hk : Tre.Box w g cs) (h5 : cs.size = 5) : (results fn tmps).run Tryz.prog w = .ok (.tuple #[.agg cs, tmps.getD q undef, tmps.getD r undef]) w := by
  have hl := run_loadVar_row (P := Tryz.prog) w g _ 26 cs _ _ hk Tryz.underlying26 rfl (by rw [Tre.infoV, h5])
  have hp' : tmps[p]?.getD undef = .pointer (some ⟨g, 0, none⟩) := by simpa using hp
  simp [results, h, hp', asAddr, hl]
theorem prS_is (s : ByteArray) : prS s = bnd (nt s.data.toList 0) fun t p => bnd (val (nt s.data.toList) 1000002 t 0 p) fun v q => bnd (nt s.data.toList q) fun t2 q2 => if t2.k = 0 then .ok v q2 else .no t2.o 7 := rfl
theorem box_setsV {w : World} {g : Nat} {cs : Array Value} (h : Tre.Box w g cs) (u0 u1 u2 u3 u4 : Value) (h5 : cs.size = 5) :
    Tre.Box (((((w.setCell ⟨g, 0, none⟩ u0).setCell ⟨g, 1, none⟩ u1).setCell ⟨g, 2, none⟩ u2).setCell ⟨g, 3, none⟩ u3).setCell ⟨g, 4, none⟩ u4).drew g #[u0, u1, u2, u3, u4] := by
  obtain ⟨a0, a1, a2, a3, a4, rfl⟩ : ∃ a0 a1 a2 a3 a4, cs = #[a0, a1, a2, a3, a4] := by
    obtain ⟨l⟩ := cs
    match l, h5 with
    | [a0, a1, a2, a3, a4], _ => exact ⟨_, _, _, _, _, rfl⟩
  have h0 : Tre.Box (((((w.setCell ⟨g, 0, none⟩ u0).setCell ⟨g, 1, none⟩ u1).setCell ⟨g, 2, none⟩ u2).setCell ⟨g, 3, none⟩ u3).setCell ⟨g, 4, none⟩ u4) g #[u0, u1, u2, u3, u4] :=
    heap_setCell_same _ g 4 _ _ u4 (heap_setCell_same _ g 3 _ _ u3 (heap_setCell_same _ g 2 _ _ u2 (heap_setCell_same _ g 1 _ _ u1 (heap_setCell_same w g 0 _ _ u0 h))))
  generalize ((((w.setCell ⟨g, 0, none⟩ u0).setCell ⟨g, 1, none⟩ u1).setCell ⟨g, 2, none⟩ u2).setCell ⟨g, 3, none⟩ u3).setCell ⟨g, 4, none⟩ u4 = w5 at *
  exact h0
theorem sets_bel {w W : World} (h : Below w.heap.size w W) (u0 u1 u2 u3 u4 : Value) : Below w.heap.size w (((((W.setCell ⟨w.heap.size, 0, none⟩ u0).setCell ⟨w.heap.size, 1, none⟩ u1).setCell ⟨w.heap.size, 2, none⟩ u2).setCell ⟨w.heap.size, 3, none⟩ u3).setCell ⟨w.heap.size, 4, none⟩ u4).drew :=
  (((((h.setCell (p := ⟨w.heap.size, 0, none⟩) (Nat.le_refl w.heap.size) u0).setCell (p := ⟨w.heap.size, 1, none⟩) (Nat.le_refl w.heap.size) u1).setCell (p := ⟨w.heap.size, 2, none⟩) (Nat.le_refl w.heap.size) u2).setCell (p := ⟨w.heap.size, 3, none⟩) (Nat.le_refl w.heap.size) u3).setCell (p := ⟨w.heap.size, 4, none⟩) (Nat.le_refl w.heap.size) u4).drew
attribute [local irreducible] prS
set_option maxRecDepth 100000 in
set_option maxHeartbeats 4000000 in
theorem rparse_any (s : ByteArray) (hs : s.size ≤ 1000000) (w : World) : Calls Tryz.prog 7 #[.string s] w (OutP w (prS s)) := by
  obtain ⟨R, hR⟩ : ∃ R, R = prS s := ⟨_, rfl⟩
  rw [← hR]
  have hR2 := hR.trans (prS_is s)
  obtain ⟨n1, n2, n3⟩ := two_new w #[.int .i64 0, .int .i64 0, .string ⟨#[]⟩, .slice none 0 0, .slice none 0 0] #[.string s, .int .i64 0, .int .i64 0, .int .i64 0] 26 45
  have e0 : Below w.heap.size w ((w.alloc (.cells #[.int .i64 0, .int .i64 0, .string ⟨#[]⟩, .slice none 0 0, .slice none 0 0] 26)).alloc (.cells #[.string s, .int .i64 0, .int .i64 0, .int .i64 0] 45)) := ((Below.refl _ _).alloc (Nat.le_refl _) _).alloc (by simp) _
  have hq0 : Qr w (w.heap.size + 1) s 0 0 0 _ := ⟨by omega, n2, e0⟩
  have bH : Tre.Box _ w.heap.size #[.int .i64 0, .int .i64 0, .string ⟨#[]⟩, .slice none 0 0, .slice none 0 0] := n1
  have HN := Lib.hid (next_tie hs _ 0 0 0 (Nat.zero_le _) _ hq0 (.inl ⟨rfl, rfl, hR2⟩))
  have HV := Lib.hid (fun D kI o1 z1 v1 n1 pp oo ee W h hT => value_tie (w0 := w) (b := w.heap.size + 1) (R := R) hs 64 1000002 0 (by omega) (fun t p W h ha hf => rvalue_at w (w.heap.size + 1) s hs 1000002 t 0 p W 64 (by omega) h ha hf (by omega)) (fun p o e W he h => rvalue_bad w (w.heap.size + 1) s 64 p o e he W h) D 0 (by omega) kI o1 z1 v1 n1 pp oo ee W h hT)
  clear hR hR2 n1 n2
  go_enter Tryz.func7, Tryz.ntmps7
  go_wp2_with fail
  refine HN.out.mono ?_
  rintro e w1 ⟨hO1, kI, o1, z1, v1, n1, pp, oo, ee, rfl, hq1, _, _, hT1⟩
  have HX := Lib.hid (HV.out _ kI o1 z1 v1 n1 pp oo ee w1 hq1 hT1)
  have bH1 := hO1.boxV bH (by omega)
  have hl1 := hq1.lt
  clear HN HV hT1 bH hq0 e0 n3 hO1 hq1
  go_wp2_with fail
  refine HX.out.mono ?_
  rintro e w2 ⟨hO2, v, cs, p2, o2, e2, rfl, hI, hq2, hK2⟩
  obtain ⟨q1, q2, q3, q4, rfl⟩ := open5 (Tre.InS_in _ _ hI)
  have ea : Below w2.heap.size w2 (w2.alloc (.cells #[.int .i64 v.k, .int .i64 v.n, .string v.s, .slice q1 v.l.length q2, .slice q3 v.ns.length q4] 26)) := (Below.refl _ _).alloc (Nat.le_refl _) _
  have hqa := hq2.next ea
  have bHa := (hO2.boxV bH1 (by omega)).next ea (hO2.boxV bH1 (by omega)).lt
  have b6 : Tre.Box (w2.alloc (.cells #[.int .i64 v.k, .int .i64 v.n, .string v.s, .slice q1 v.l.length q2, .slice q3 v.ns.length q4] 26)) w2.heap.size #[.int .i64 v.k, .int .i64 v.n, .string v.s, .slice q1 v.l.length q2, .slice q3 v.ns.length q4] := Tre.box_new _ _
  have HM := Lib.hid (next_tie0 (b := w.heap.size + 1) hs _ p2 o2 e2 (fun he => by rcases hK2 with ⟨_, _, _, _, a, _⟩ | ⟨a, _⟩; exact a; exact absurd he a) _ hqa (hK2.map fun h => h.2.2.2))
  have hl2 := hO2.size
  have HIa := Lib.hid (InS_upd (S' := fun k => w1.heap.size ≤ k ∧ k < w2.heap.size) (fun b' hb' hl => ⟨ea.block b' hl, hb', hl⟩) _ _ hI)
  have hg6 : w2.heap.size < (w2.alloc (.cells #[.int .i64 v.k, .int .i64 v.n, .string v.s, .slice q1 v.l.length q2, .slice q3 v.ns.length q4] 26)).heap.size := by simp
  have hne6 : w.heap.size + 1 < w2.heap.size := hq2.lt
  clear HX hO2 bH1 hq2 hK2 ea hI hqa
  go_wp2_with fail
  refine HM.out.mono ?_
  rintro e w3 ⟨hO3, kI3, x3, z3, v3, n3, pp3, oo3, ee3, rfl, hq3, hT3⟩
  have ec : Below w3.heap.size w3 (w3.alloc (.cells #[.int .i64 kI3, .int .i64 (x3 : Int), .int .i64 (z3 : Int), .string v3, .int .i64 n3] 41)) := (Below.refl _ _).alloc (Nat.le_refl _) _
  have bH3 := hO3.boxV bHa (by omega)
  have b63 := hO3.boxV b6 (by omega)
  have bH4 := bH3.next ec bH3.lt
  have b64 := b63.next ec b63.lt
  have hq4 := hq3.next ec
  have bt : Box (w3.alloc (.cells #[.int .i64 kI3, .int .i64 (x3 : Int), .int .i64 (z3 : Int), .string v3, .int .i64 n3] 41)) w3.heap.size #[.int .i64 kI3, .int .i64 (x3 : Int), .int .i64 (z3 : Int), .string v3, .int .i64 n3] := box_new _ _
  have t0 : (w3.alloc (.cells #[.int .i64 kI3, .int .i64 (x3 : Int), .int .i64 (z3 : Int), .string v3, .int .i64 n3] 41)).cell? ⟨w3.heap.size, 0, none⟩ = some (.int .i64 kI3) := bt.cell 0
  have t1 : (w3.alloc (.cells #[.int .i64 kI3, .int .i64 (x3 : Int), .int .i64 (z3 : Int), .string v3, .int .i64 n3] 41)).cell? ⟨w3.heap.size, 1, none⟩ = some (.int .i64 (x3 : Int)) := bt.cell 1
  have HI4 := Lib.hid (InS_upd (S' := fun k => w1.heap.size ≤ k) (fun b' hb' hl => ⟨(ec.block b' (by have := hO3.size; omega)).trans (hO3.at_ hl (by omega)), hb'.1⟩) _ _ HIa.out)
  have HT3 := Lib.hid hT3
  clear hT3 HIa ec hO3 bHa b6 hq3 bH3 b63 HM bt
  by_cases hk : kI3 = 0
  · have hkb : (kI3 != 0) = false := by rw [hk]; rfl
    obtain ⟨rfl, rfl, q5, hR⟩ : ee3 = 0 ∧ oo3 = 0 ∧ ∃ q, R = .ok v q := by
      rcases HT3.out with ⟨a1, a2, t, a3, _, _, _, _, _, _, a4⟩ | ⟨_, a1, _⟩
      · refine ⟨a1, a2, pp3, ?_⟩
        rw [a4]
        exact if_pos (by omega)
      · omega
    have HR := Lib.hid hR
    have c3 : (w3.alloc (.cells #[.int .i64 kI3, .int .i64 (x3 : Int), .int .i64 (z3 : Int), .string v3, .int .i64 n3] 41)).cell? ⟨w.heap.size + 1, 3, none⟩ = some (.int .i64 0) := hq4.c3
    have hb4 := hq4.bel
    clear hR HT3 hq4 hk
    go_wp2_with (first
      | (refine Tre.wpList_fetch _ rfl _ rfl w2.heap.size _ rfl b64 rfl ?_)
      | (refine Tre.wpList_keep _ rfl _ _ rfl w.heap.size _ hb4 w.heap.size (Nat.le_refl _) _ _ rfl rfl bH4 rfl rfl (by intro u hu; simp at hu; rcases hu with rfl | rfl | rfl | rfl | rfl <;> rfl) ?_; intro w9 bx9 hb9 hk9 hs9; clear hs9))
    (try simp only [Exit.inBlock, Exit.then])
    refine bodyPost_ret (results_v3 rfl _ _ _ _ rfl bx9 rfl) rfl ?_
    rw [HR.out]
    exact ⟨⟨_, rfl, InS_upd (fun b' hb' _ => ⟨hk9 b' (by omega), by omega⟩) _ _ HI4.out⟩, hb9⟩
  · have hkb : (kI3 != 0) = true := by rw [bne_iff_ne]; exact hk
    have HF := Lib.hid (fail_tie (s := s) (R := R) x3 7 pp3 oo3 ee3 (by omega) _ hq4 (by
      rcases HT3.out with ⟨a1, a2, t, a3, a5, _, _, _, _, _, a4⟩ | ⟨a, _, _, _, _, _, c⟩
      · refine .inl ⟨a1, a2, ?_⟩
        rw [a4, a5]
        exact if_neg (by omega)
      · exact .inr ⟨a, c⟩))
    clear hk HT3 HI4 b64 t0
    go_wp2_with fail
    refine HF.out.mono ?_
    rintro e w5 ⟨hO5, rfl, o5, e5, hq5, he5, hR5⟩
    have hne5 : ((e5 : Int) != 0) = true := by rw [bne_iff_ne]; omega
    have HR := Lib.hid hR5
    have bH5 := hO5.boxV bH4 (by omega)
    have c2 := hq5.c2
    have c3 := hq5.c3
    have k0 : w5.cell? ⟨w.heap.size, 0, none⟩ = some (.int .i64 0) := bH5.cell 0
    have k1 : w5.cell? ⟨w.heap.size, 1, none⟩ = some (.int .i64 0) := bH5.cell 1
    have k2 : w5.cell? ⟨w.heap.size, 2, none⟩ = some (.string ⟨#[]⟩) := bH5.cell 2
    have k3 : w5.cell? ⟨w.heap.size, 3, none⟩ = some (.slice none 0 0) := bH5.cell 3
    have k4 : w5.cell? ⟨w.heap.size, 4, none⟩ = some (.slice none 0 0) := bH5.cell 4
    have kf := fun j => bH5.free j
    have hbl := hq5.bel
    have BX := Lib.hid (box_setsV bH5 (.int .i64 0) (.int .i64 0) (.string ⟨#[]⟩) (.slice none 0 0) (.slice none 0 0) rfl)
    have BL := Lib.hid (sets_bel hbl (.int .i64 0) (.int .i64 0) (.string ⟨#[]⟩) (.slice none 0 0) (.slice none 0 0))
    have hnb : ¬ w.heap.size = w.heap.size + 1 := by omega
    clear hR5 he5 HF hO5 bH4 hq4 bH5 hq5 hbl t1 hne6 hg6 hl2 hl1
    go_wp2_with fail
    go_region
    all_goals
      go_wp2_with fail
      refine bodyPost_ret (results_v3 rfl _ _ _ _ rfl BX.out rfl) rfl ?_
      rw [HR.out]
      exact ⟨rfl, BL.out⟩

set_option maxRecDepth 100000 in
set_option maxHeartbeats 1000000 in
theorem says_walk (s : ByteArray) (w : World) (hE : Env w) :
    Calls Tryz.prog 3 #[.string s] w fun e w' => e = .returned (.bool true) ∧ Below w.heap.size w w' := by
  have hin : Io w w := ⟨hE, Below.refl _ _⟩
  have HA := Lib.hid (awake_in w)
  clear hE
  by_cases hg : 500 < s.size
  · have hg1 : decide ((500 : Int) < (s.size : Int)) = true := decide_eq_true (by omega)
    go_enter Tryz.func3, Tryz.ntmps3
    go_wp2_with (go_at_call 5; (with_reducible refine (HA.out _ (by assumption)).mono ?_); rintro e wx ⟨rfl, hx⟩)
    go_ret
    exact ⟨rfl, hx.bel⟩
  · have hs : s.size ≤ 500 := by omega
    have hg1 : decide ((500 : Int) < (s.size : Int)) = false := decide_eq_false (by omega)
    have hgd := prS_good s (by omega)
    have H1 : ∀ W, Io w W → Calls Tryz.prog 6 #[.string s] W fun e' w' => ∃ cs : List Value, e' = .returned (.tuple #[.agg cs.toArray, .int .i64 (pO (prS s) : Int), .int .i64 (pE (prS s) : Int)]) ∧ InS (fun k => W.heap.size ≤ k) w' (pV (prS s)) cs ∧ Below W.heap.size W w' :=
      fun W h => (parse_any s (by omega) W h.env).mono fun _ _ k => k.all
    have H2 : ∀ W, Calls Tryz.prog 7 #[.string s] W fun e' w' => ∃ cs : List Value, e' = .returned (.tuple #[.agg cs.toArray, .int .i64 (pO (prS s) : Int), .int .i64 (pE (prS s) : Int)]) ∧ InS (fun k => W.heap.size ≤ k) w' (pV (prS s)) cs ∧ Below W.heap.size W w' :=
      fun W => (rparse_any s (by omega) W).mono fun _ _ k => k.all
    have hOk : OkT (pV (prS s)) := by
      cases hR : prS s with
      | ok v p => rw [hR] at hgd; exact hgd.2.2.1
      | no o e => exact ok_zero
    generalize pO (prS s) = o at *
    generalize pE (prS s) = er at *
    generalize pV (prS s) = v at *
    have HP := Lib.hid H1
    have HR := Lib.hid H2
    have HSm := Lib.hid (fun cs ds W (h : InV W v cs) (k : InV W v ds) => (sm_self v) ▸ Tre.rsame v hOk v hOk cs ds W h k)
    clear H1 H2 hgd hOk
    go_enter Tryz.func3, Tryz.ntmps3
    go_wp2_with fail
    refine (HP.out _ hin).mono ?_
    rintro e w1 ⟨cs, rfl, hI, hb1⟩
    obtain ⟨q1, q2, q3, q4, rfl⟩ := open5 (Tre.InS_in _ _ hI)
    have i1 := (hin.next hb1).alloc (.cells #[.int .i64 v.k, .int .i64 v.n, .string v.s, .slice q1 v.l.length q2, .slice q3 v.ns.length q4] 26)
    have hx1 : Tre.Box (w1.alloc (.cells #[.int .i64 v.k, .int .i64 v.n, .string v.s, .slice q1 v.l.length q2, .slice q3 v.ns.length q4] 26)) w1.heap.size _ := Tre.box_new _ _
    have hl1 : w1.heap.size < (w1.alloc (.cells #[.int .i64 v.k, .int .i64 v.n, .string v.s, .slice q1 v.l.length q2, .slice q3 v.ns.length q4] 26)).heap.size := by simp
    have v1 := InV_next ((Below.refl w1.heap.size w1).alloc (Nat.le_refl _) (.cells #[.int .i64 v.k, .int .i64 v.n, .string v.s, .slice q1 v.l.length q2, .slice q3 v.ns.length q4] 26)) v _ (Tre.InS_in _ _ hI)
    clear hI hb1
    go_wp2_with fail
    generalize w1.alloc (.cells #[.int .i64 v.k, .int .i64 v.n, .string v.s, .slice q1 v.l.length q2, .slice q3 v.ns.length q4] 26) = W1 at *
    generalize w1.heap.size = G at *
    refine (HR.out _).mono ?_
    rintro e w2 ⟨ds, rfl, hI, hb2⟩
    obtain ⟨p1, p2, p3, p4, rfl⟩ := open5 (Tre.InS_in _ _ hI)
    have hbn : Below w2.heap.size w2 (w2.alloc (.cells #[.int .i64 v.k, .int .i64 v.n, .string v.s, .slice p1 v.l.length p2, .slice p3 v.ns.length p4] 26)) := (Below.refl _ _).alloc (Nat.le_refl _) _
    have i2 := (i1.next hb2).next hbn
    have hx2 := (hx1.next hb2 hl1).next hbn (hx1.next hb2 hl1).lt
    have hy2 : Tre.Box (w2.alloc (.cells #[.int .i64 v.k, .int .i64 v.n, .string v.s, .slice p1 v.l.length p2, .slice p3 v.ns.length p4] 26)) w2.heap.size _ := Tre.box_new _ _
    have v2 := InV_next hbn v _ (InV_next hb2 v _ v1)
    have u2 := InV_next hbn v _ (Tre.InS_in _ _ hI)
    have hne : ¬ G = w2.heap.size := by have := (hx1.next hb2 hl1).lt; omega
    clear hI hb2 hbn v1 i1 hx1 hl1
    go_wp2_with (first
      | (refine Tre.wpList_fetch _ rfl _ rfl G _ rfl hx2 rfl ?_)
      | (refine Tre.wpList_fetch _ rfl _ rfl w2.heap.size _ rfl hy2 rfl ?_)
      | (go_at_call 8; refine (HSm.out _ _ _ v2 u2).mono ?_; rintro e w4 ⟨rfl, hb4⟩; have i4 := i2.next hb4)
      | (go_at_call 5; (with_reducible refine (HA.out _ i4).mono ?_); rintro e wx ⟨rfl, hx⟩))
    go_ret
    exact ⟨rfl, hx.bel⟩
end Go.Proofs.YteinaclkpickaaaGreatDoor.Par
