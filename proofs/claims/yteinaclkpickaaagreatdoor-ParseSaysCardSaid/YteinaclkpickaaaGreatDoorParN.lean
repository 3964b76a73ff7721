/- The law of the grammar of pieces. Conditions: the two tables of unicode/utf8 are as its text lays them, the two sentinels of strconv hold errors; as each theorem states. -/
import Derived.Test.YteinaclkpickaaaGreatDoorParG4
import Derived.Test.YteinaclkpickaaaGreatDoorParP
import Derived.Test.YteinaclkpickaaaGreatDoorGraG3
namespace Go.Proofs.YteinaclkpickaaaGreatDoor.Par
open Go.RowKit Go.Lib Go.Proofs.YteinaclkpickaaaGreatDoor.Byt Go.Proofs.YteinaclkpickaaaGreatDoor.Lx
open Go.Proofs.YteinaclkpickaaaGreatDoor.Tre (Vt V0 OkT wi smB sm_self dep dpw InS InV InV_next InS_upd InS_iff InV_iff)
open Go.Proofs.YteinaclkpickaaaGreatDoor.Gr (lev)

theorem prS_run (s : ByteArray) (hs : s.size ≤ 1000000) : Pm s.data.toList (lev s) (prS s) := by
  have hl : s.data.toList.length = s.size := by simp
  exact prs_run 1000002 (by omega) (by omega)
attribute [local irreducible] prS
theorem depth_in (v : Vt) (hv : OkT v) (hd : dep v ≤ 1000000) (cs : List Value) (W : World) (h : InV W v cs) :
    Calls Tryz.prog 10 #[.agg cs.toArray] W fun e w' => e = .returned (.int .i64 (dep v : Int)) ∧ Below W.heap.size W w' := by
  rw [← dpw_dep v hd]
  exact Tre.pdepth v hv cs W h
set_option maxRecDepth 100000 in
set_option maxHeartbeats 1000000 in
theorem grammar_walk (s : ByteArray) (w : World) (hE : Env w) :
    Calls Tryz.prog 4 #[.string s] w fun e w' => e = .returned (.bool true) ∧ Below w.heap.size w w' := by
  have hin : Io w w := ⟨hE, Below.refl _ _⟩
  have HA := Lib.hid (awake_in w)
  clear hE
  by_cases hg : 40 < s.size
  · have hg1 : decide ((40 : Int) < (s.size : Int)) = true := decide_eq_true (by omega)
    go_enter Tryz.func4, Tryz.ntmps4
    go_wp2_with (go_at_call 5; (with_reducible refine (HA.out _ (by assumption)).mono ?_); rintro e wx ⟨rfl, hx⟩)
    go_ret
    exact ⟨rfl, hx.bel⟩
  · have hs : s.size ≤ 40 := by omega
    have hg1 : decide ((40 : Int) < (s.size : Int)) = false := decide_eq_false (by omega)
    have hgd := prS_good s (by omega)
    have hrn := prS_run s (by omega)
    have hll := Gr.lvl_len s.data.toList
    have hlen : s.data.toList.length = s.size := by simp
    have HL0 : ∀ W, Calls Tryz.prog 9 #[.string s] W fun e w' => e = .returned (.int .i64 (lev s)) ∧ Below W.heap.size W w' := fun W => Gr.rlevel_any s s.size W rfl (by omega)
    cases hR : prS s with
    | no o er =>
      rw [hR] at hgd hrn
      have hfl : lev s < 0 ∨ er = 6 ∨ er = 11 := by
        rcases hrn with h | h | h | h
        · exact .inl (by omega)
        · exact .inr (.inl h)
        · exact .inr (.inr h)
        · omega
      have H1 := Lib.hid (fun W h => pno hR (by omega) w W h)
      have her : ((er : Int) == 0) = false := by rw [beq_eq_false_iff_ne]; have := hgd.2; omega
      have HL := Lib.hid HL0
      clear HL0
      generalize lev s = z at *
      clear hrn hR hgd hll hlen
      by_cases hz : z < 0
      · have hz1 : decide (z < 0) = true := decide_eq_true hz
        clear hfl hz
        go_enter Tryz.func4, Tryz.ntmps4
        go_wp2_with fail
        refine (H1.out _ hin).mono ?_
        rintro e w1 ⟨rfl, hb1⟩
        have i1 : ∀ o, Io w (w1.alloc o) := fun o => (hin.next hb1).alloc o
        go_wp2_with fail
        refine (HL.out _).mono ?_
        rintro e w2 ⟨rfl, hb2⟩
        have i2 := (i1 _).next hb2
        go_wp2_with fail
        refine (HA.out _ i2).mono ?_
        rintro e wx ⟨rfl, hx⟩
        go_wp2_with fail
        go_ret
        exact ⟨rfl, hx.bel⟩
      · have hz1 : decide (z < 0) = false := decide_eq_false hz
        have hfl2 : er = 6 ∨ er = 11 := by
          rcases hfl with h | h
          · exact absurd h hz
          · exact h
        clear hfl hz
        rcases hfl2 with rfl | rfl
        all_goals
          go_enter Tryz.func4, Tryz.ntmps4
          go_wp2_with fail
          refine (H1.out _ hin).mono ?_
          rintro e w1 ⟨rfl, hb1⟩
          have i1 : ∀ o, Io w (w1.alloc o) := fun o => (hin.next hb1).alloc o
          go_wp2_with fail
          refine (HL.out _).mono ?_
          rintro e w2 ⟨rfl, hb2⟩
          have i2 := (i1 _).next hb2
          go_wp2_with fail
          refine (HA.out _ i2).mono ?_
          rintro e wx ⟨rfl, hx⟩
          go_wp2_with fail
          go_ret
          exact ⟨rfl, hx.bel⟩
    | ok v p =>
      rw [hR] at hgd hrn
      obtain ⟨_, _, hOk, hwi⟩ := hgd
      have hrn' : lev s = (dep v : Int) := hrn
      have hll' : 2 * lev s ≤ (s.data.toList.length : Int) := hll
      have hdv : dep v ≤ 1000000 := by omega
      have H1 := Lib.hid (fun W h => pok hR (by omega) w W h)
      have HRt := Lib.hid (fun cs W h k => hwi ▸ right_in v hOk cs w W h k)
      have HDp := Lib.hid (fun cs W k => depth_in v hOk hdv cs W k)
      rw [hrn'] at HL0
      have HL := Lib.hid HL0
      clear HL0
      have hz1 : decide ((0 : Int) ≤ (dep v : Int)) = true := decide_eq_true (by omega)
      generalize dep v = D at *
      clear hrn hrn' hR hll hll' hlen hOk hwi hdv
      go_enter Tryz.func4, Tryz.ntmps4
      go_wp2_with fail
      refine (H1.out _ hin).mono ?_
      rintro e w1 ⟨cs, rfl, hI, hb1⟩
      obtain ⟨q1, q2, q3, q4, rfl⟩ := open5 (Tre.InS_in _ _ hI)
      have i1 := (hin.next hb1).alloc (.cells #[.int .i64 v.k, .int .i64 v.n, .string v.s, .slice q1 v.l.length q2, .slice q3 v.ns.length q4] 26)
      have hx1 : Tre.Box (w1.alloc (.cells #[.int .i64 v.k, .int .i64 v.n, .string v.s, .slice q1 v.l.length q2, .slice q3 v.ns.length q4] 26)) w1.heap.size _ := Tre.box_new _ _
      have hl1 : w1.heap.size < (w1.alloc (.cells #[.int .i64 v.k, .int .i64 v.n, .string v.s, .slice q1 v.l.length q2, .slice q3 v.ns.length q4] 26)).heap.size := by simp
      have v1 := InV_next ((Below.refl w1.heap.size w1).alloc (Nat.le_refl _) (.cells #[.int .i64 v.k, .int .i64 v.n, .string v.s, .slice q1 v.l.length q2, .slice q3 v.ns.length q4] 26)) v _ (Tre.InS_in _ _ hI)
      clear hI hb1
      go_wp2_with fail
      generalize w1.alloc (.cells #[.int .i64 v.k, .int .i64 v.n, .string v.s, .slice q1 v.l.length q2, .slice q3 v.ns.length q4] 26) = W1 at *
      generalize w1.heap.size = G at *
      refine (HL.out _).mono ?_
      rintro e w2 ⟨rfl, hb2⟩
      have i2 := i1.next hb2
      have hx2 := hx1.next hb2 hl1
      have v2 := InV_next hb2 v _ v1
      have c0 : w2.cell? ⟨G, 0, none⟩ = some (.int .i64 v.k) := hx2.cell 0
      have c1 : w2.cell? ⟨G, 1, none⟩ = some (.int .i64 v.n) := hx2.cell 1
      have c2 : w2.cell? ⟨G, 2, none⟩ = some (.string v.s) := hx2.cell 2
      have c3 : w2.cell? ⟨G, 3, none⟩ = some (.slice q1 v.l.length q2) := hx2.cell 3
      have c4 : w2.cell? ⟨G, 4, none⟩ = some (.slice q3 v.ns.length q4) := hx2.cell 4
      clear hb2 i1 hx1 v1 hl1
      go_wp2_with fail
      refine (HDp.out _ _ v2).mono ?_
      rintro e w3 ⟨rfl, hb3⟩
      have i3 := i2.next hb3
      have hx3 := hx2.next hb3 hx2.lt
      have v3 := InV_next hb3 v _ v2
      clear c0 c1 c2 c3 c4 hb3 i2 hx2 v2
      have c0 : w3.cell? ⟨G, 0, none⟩ = some (.int .i64 v.k) := hx3.cell 0
      have c1 : w3.cell? ⟨G, 1, none⟩ = some (.int .i64 v.n) := hx3.cell 1
      have c2 : w3.cell? ⟨G, 2, none⟩ = some (.string v.s) := hx3.cell 2
      have c3 : w3.cell? ⟨G, 3, none⟩ = some (.slice q1 v.l.length q2) := hx3.cell 3
      have c4 : w3.cell? ⟨G, 4, none⟩ = some (.slice q3 v.ns.length q4) := hx3.cell 4
      go_wp2_with fail
      refine (HRt.out _ _ i3 v3).mono ?_
      rintro e w4 ⟨rfl, hb4⟩
      have i4 := i3.next hb4
      clear hb4
      go_wp2_with fail
      refine (HA.out _ i4).mono ?_
      rintro e wx ⟨rfl, hx⟩
      go_wp2_with fail
      go_ret
      exact ⟨rfl, hx.bel⟩
end Go.Proofs.YteinaclkpickaaaGreatDoor.Par
