/- Contracts of the code's canonRule, own, Kind, KindOf of sets of rules of version 2. Conditions: as Cn1P, Ow1P, KiP, KoP state. -/
import Derived.Test.YthkopnobekohcaaGreatDoorTwoCC
import Derived.Test.YthkopnobekohcaaGreatDoorTwoP3
import Derived.Test.YthkopnobekohcaaGreatDoorRouG1
namespace Go.Proofs.YthkopnobekohcaaGreatDoor.Two
open Go.RowKit Go.Lib
open Go.Proofs.YthkopnobekohcaaGreatDoor.Uni (okT tV nN nU tE_ok)

set_option maxHeartbeats 8000000 in
set_option maxRecDepth 100000 in
theorem canon1_any : Cn1P := by
  intro r w hr _ _ _ hE
  have T0 := Lib.hid (Bxs.new w (ruC r) (ruC zero))
  have HE := Lib.hid hE
  rcases hr.ki with ⟨hk, hli, hok, hbu⟩ | ⟨hk, hli, h0, h1, h2⟩
  · rw [can_one hk]
    have HT := Lib.hid fun W (k : Uni.Tab W) => (Uni.ticks_any r.wi r.un W (win hok).1 (win hok).2 k).mono (R' := fun e w' => e = .returned (.tuple #[.int .i64 (tV r.wi r.un), .int .i64 (Uni.tE r.wi r.un 15 2)]) ∧ Below W.heap.size W w') fun e w' h => ⟨h.1, h.2 ▸ Below.refl _ _⟩
    rw [tE_ok hok] at HT
    have HN := Lib.hid fun W (k : Uni.Tab W) => (Uni.norm_any (tV r.wi r.un) W k).mono (R' := fun e w' => e = .returned (.tuple #[.int .i64 (nN (tV r.wi r.un)), .int .i64 (nU (tV r.wi r.un))]) ∧ Below W.heap.size W w') fun e w' h => ⟨h.1, h.2 ▸ Below.refl _ _⟩
    obtain ⟨id, no, ma, rk, ki, li, wi, un, bu⟩ := r
    dsimp only at hk hli hbu HT HN ⊢
    subst hk
    clear hr hok hE
    generalize nN (tV wi un) = n' at *
    generalize nU (tV wi un) = u' at *
    generalize tV wi un = tv at *
    rw [show ∀ x : Int, ruC ⟨id, no, ma, rk, 1, li, n', u', x⟩ = #[.string id, .string no, .string ma, .int .i64 rk, .int .i64 1, .int .i64 li, .int .i64 n', .int .i64 u', .int .i64 x] from fun _ => rfl]
    dsimp only [ruC, zero] at T0 ⊢
    by_cases hb : bu = 0
    · subst hb
      rw [if_pos rfl]
      go_enter Tryz.func25, Tryz.ntmps25
      go_wp2_with (first
        | (go_at_call 39; (with_reducible refine (HT.out _ (HE.out.uni.next T0.out.bel)).mono ?_); rintro e w1 ⟨rfl, hb1⟩; have i1 := Lib.hid (T0.out.next hb1); clear hb1)
        | (go_at_call 40; (with_reducible refine (HN.out _ (HE.out.uni.next i1.out.bel)).mono ?_); rintro e w2 ⟨rfl, hb2⟩; have i2 := Lib.hid (i1.out.next hb2); clear hb2
           have e6 : w2.cell? ⟨w.heap.size, 6, none⟩ = some (.int .i64 wi) := i2.out.one.cell 6; have f6 := i2.out.one.free 6
           have t6 := Lib.hid (i2.out.set 6 (.int .i64 n'))
           have e7 : (w2.setCell ⟨w.heap.size, 6, none⟩ (.int .i64 n')).cell? ⟨w.heap.size, 7, none⟩ = some (.int .i64 un) := t6.out.one.cell 7; have f7 := i2.out.one.free 7
           have t7 := Lib.hid (t6.out.set 7 (.int .i64 u'))
           have e8x : ((w2.setCell ⟨w.heap.size, 6, none⟩ (.int .i64 n')).setCell ⟨w.heap.size, 7, none⟩ (.int .i64 u')).cell? ⟨w.heap.size, 8, none⟩ = some (.int .i64 0) := t7.out.one.cell 8; have e5x : ((w2.setCell ⟨w.heap.size, 6, none⟩ (.int .i64 n')).setCell ⟨w.heap.size, 7, none⟩ (.int .i64 u')).cell? ⟨w.heap.size, 5, none⟩ = some (.int .i64 li) := t7.out.one.cell 5
           have e8 : ((w2.setCell ⟨w.heap.size, 6, none⟩ (.int .i64 n')).setCell ⟨w.heap.size, 7, none⟩ (.int .i64 u')).cell? ⟨w.heap.size, 8, none⟩ = some (.int .i64 0) := t7.out.one.cell 8; have f8 := i2.out.one.free 8
           have t8 := Lib.hid (t7.out.set 8 (.int .i64 (max li 1)))
           have a0 : (((w2.setCell ⟨w.heap.size, 6, none⟩ (.int .i64 n')).setCell ⟨w.heap.size, 7, none⟩ (.int .i64 u')).setCell ⟨w.heap.size, 8, none⟩ (.int .i64 (max li 1))).cell? ⟨w.heap.size, 0, none⟩ = some (.string id) := t8.out.one.cell 0)
        | (refine wpList_fetch _ rfl _ rfl _ _ rfl t8.out.one rfl ?_)
        | (refine wpList_keep _ rfl _ _ rfl w.heap.size w t8.out.bel _ (by omega) ⟨id, no, ma, rk, 1, li, n', u', max li 1⟩ _ rfl rfl t8.out.two rfl ?_; intro w6 hk6 hb6 ho6))
      refine bodyPost_ret (results_one rfl _ _ _ _ rfl hk6 rfl) rfl ?_
      exact ⟨rfl, hb6⟩
    · rw [if_neg hb]
      have hne : (bu == 0) = false := by simpa using hb
      clear hb
      go_enter Tryz.func25, Tryz.ntmps25
      go_wp2_with (first
        | (go_at_call 39; (with_reducible refine (HT.out _ (HE.out.uni.next T0.out.bel)).mono ?_); rintro e w1 ⟨rfl, hb1⟩; have i1 := Lib.hid (T0.out.next hb1); clear hb1)
        | (go_at_call 40; (with_reducible refine (HN.out _ (HE.out.uni.next i1.out.bel)).mono ?_); rintro e w2 ⟨rfl, hb2⟩; have i2 := Lib.hid (i1.out.next hb2); clear hb2
           have e6 : w2.cell? ⟨w.heap.size, 6, none⟩ = some (.int .i64 wi) := i2.out.one.cell 6; have f6 := i2.out.one.free 6
           have t6 := Lib.hid (i2.out.set 6 (.int .i64 n'))
           have e7 : (w2.setCell ⟨w.heap.size, 6, none⟩ (.int .i64 n')).cell? ⟨w.heap.size, 7, none⟩ = some (.int .i64 un) := t6.out.one.cell 7; have f7 := i2.out.one.free 7
           have t7 := Lib.hid (t6.out.set 7 (.int .i64 u'))
           have e8x : ((w2.setCell ⟨w.heap.size, 6, none⟩ (.int .i64 n')).setCell ⟨w.heap.size, 7, none⟩ (.int .i64 u')).cell? ⟨w.heap.size, 8, none⟩ = some (.int .i64 bu) := t7.out.one.cell 8; have e5x : ((w2.setCell ⟨w.heap.size, 6, none⟩ (.int .i64 n')).setCell ⟨w.heap.size, 7, none⟩ (.int .i64 u')).cell? ⟨w.heap.size, 5, none⟩ = some (.int .i64 li) := t7.out.one.cell 5
           have a0 : ((w2.setCell ⟨w.heap.size, 6, none⟩ (.int .i64 n')).setCell ⟨w.heap.size, 7, none⟩ (.int .i64 u')).cell? ⟨w.heap.size, 0, none⟩ = some (.string id) := t7.out.one.cell 0)
        | (refine wpList_fetch _ rfl _ rfl _ _ rfl t7.out.one rfl ?_)
        | (refine wpList_keep _ rfl _ _ rfl w.heap.size w t7.out.bel _ (by omega) ⟨id, no, ma, rk, 1, li, n', u', bu⟩ _ rfl rfl t7.out.two rfl ?_; intro w6 hk6 hb6 ho6))
      refine bodyPost_ret (results_one rfl _ _ _ _ rfl hk6 rfl) rfl ?_
      exact ⟨rfl, hb6⟩
  · rw [can_two (by omega)]
    obtain ⟨id, no, ma, rk, ki, li, wi, un, bu⟩ := r
    dsimp only at hk
    subst hk
    clear hr hli h0 h1 h2 hE
    dsimp only [ruC, zero] at T0 ⊢
    go_enter Tryz.func25, Tryz.ntmps25
    go_wp2_with (first
      | (refine wpList_fetch _ rfl _ rfl _ _ rfl T0.out.one rfl ?_)
      | (refine wpList_keep _ rfl _ _ rfl w.heap.size w T0.out.bel _ (by omega) ⟨id, no, ma, rk, 2, li, wi, un, bu⟩ _ rfl rfl T0.out.two rfl ?_; intro w6 hk6 hb6 ho6))
    refine bodyPost_ret (results_one rfl _ _ _ _ rfl hk6 rfl) rfl ?_
    exact ⟨rfl, hb6⟩

set_option maxHeartbeats 4000000 in
set_option maxRecDepth 100000 in
theorem own_any : Ow1P := by
  intro r w h1 h2 h3
  have H1 := Lib.hid fun W => Rou.clone_str r.id W (by omega)
  have H2 := Lib.hid fun W => Rou.clone_str r.no W (by omega)
  have H3 := Lib.hid fun W => Rou.clone_str r.ma W (by omega)
  obtain ⟨R, hR⟩ : ∃ R, R = r := ⟨_, rfl⟩
  obtain ⟨C, hC⟩ : ∃ C, C = ruC r := ⟨_, rfl⟩
  have HT0 := Lib.hid fun zs => Bxs.new w (ruC r) zs
  have HC : ∀ {W g}, Bx W g (ruC r) → W.cell? ⟨g, 0, none⟩ = some (.string r.id) ∧ W.cell? ⟨g, 1, none⟩ = some (.string r.no) ∧ W.cell? ⟨g, 2, none⟩ = some (.string r.ma) := fun h => ⟨h.cell 0, h.cell 1, h.cell 2⟩
  have HS : ∀ {W g}, Bx W g (ruC r) → W.setCell ⟨g, 0, none⟩ (.string r.id) = W ∧ W.setCell ⟨g, 1, none⟩ (.string r.no) = W ∧ W.setCell ⟨g, 2, none⟩ (.string r.ma) = W := fun h => ⟨setCell_self h rfl, setCell_self h rfl, setCell_self h rfl⟩
  have HCS := Lib.hid fun W g (h : Bx W g (ruC r)) => (⟨HC h, HS h, h.free 0, h.free 1, h.free 2⟩ : _ ∧ _ ∧ _ ∧ _ ∧ _)
  clear HC HS
  rw [← hC]
  obtain ⟨id, no, ma, rk, ki, li, wi, un, bu⟩ := r
  dsimp only [ruC] at hC H1 H2 H3 HT0 HCS
  have hC := Lib.hid hC
  rw [hC.out]
  go_enter Tryz.func24, Tryz.ntmps24
  go_wp2_with (first
    | (refine wpList_fetch _ rfl _ rfl _ _ rfl i3.out.one rfl ?_)
    | (refine wpList_keep _ rfl _ _ rfl w.heap.size w i3.out.bel _ (by omega) R _ rfl (by rw [hR]; rfl) i3.out.two rfl ?_; intro w4 hk4 hb4 ho4)
    | (go_at_call 38; first
      | ((with_reducible refine (H1.out _).mono ?_); rintro e w1 ⟨rfl, hb1⟩; have i1 := Lib.hid ((HT0.out _).next hb1); obtain ⟨⟨_, c1, _⟩, ⟨s1, _, _⟩, f1, _, _⟩ := HCS.out _ _ i1.out.one)
      | ((with_reducible refine (H2.out _).mono ?_); rintro e w2 ⟨rfl, hb2⟩; have i2 := Lib.hid (i1.out.next hb2); obtain ⟨⟨_, _, c2⟩, ⟨_, s2, _⟩, _, f2, _⟩ := HCS.out _ _ i2.out.one)
      | ((with_reducible refine (H3.out _).mono ?_); rintro e w3 ⟨rfl, hb3⟩; have i3 := Lib.hid (i2.out.next hb3); obtain ⟨_, ⟨_, _, s3⟩, _, _, f3⟩ := HCS.out _ _ i3.out.one)))
  refine bodyPost_ret (results_one rfl _ _ _ _ rfl hk4 rfl) rfl ?_
  exact ⟨by rw [hR]; rfl, hb4⟩

set_option maxRecDepth 100000 in
/-- A name of the table, taken by value. -/
theorem index_at (w : World) (m : Int) (h : 0 ≤ m) (h4 : m < 3) :
    Sem.run Tryz.prog (Instr.index 43 (.agg #[.string (kB 0), .string (kB 1), .string (kB 2)]) (.int .i64 m)) w = .ok (.string (kB m)) w := by
  obtain rfl | rfl | rfl : m = 0 ∨ m = 1 ∨ m = 2 := by omega
  · rfl
  · rfl
  · rfl
theorem kb_next {m : Int} {s : ByteArray} (h : ∀ k : Nat, (k : Int) < m → kB k ≠ s) (hm : kB m ≠ s) : ∀ k : Nat, (k : Int) < m + 1 → kB k ≠ s := fun k hk => by
  by_cases e : (k : Int) < m
  · exact h k e
  · obtain e2 : (k : Int) = m := by omega
    rw [e2]; exact hm
theorem kindofn_any (s : ByteArray) (w : World) (hT : Nt w) :
    Calls Tryz.prog 16 #[.string s] w fun e w' => e = .returned (.int .i64 (kO s)) ∧ w = w' := by
  have c0 : w.cell? ⟨0, 0, none⟩ = some (.string (kB 0)) := hT 0 (by omega)
  have c1 : w.cell? ⟨0, 1, none⟩ = some (.string (kB 1)) := hT 1 (by omega)
  have c2 : w.cell? ⟨0, 2, none⟩ = some (.string (kB 2)) := hT 2 (by omega)
  clear hT
  have HX := Lib.hid index_at
  obtain ⟨nm, hnm⟩ : ∃ nm, nm = kB := ⟨_, rfl⟩
  have PI := Lib.hid fun (m : Int) (h : 0 ≤ m) (h4 : m < 3) => kO_in h h4
  have PN := Lib.hid fun (h : ∀ k : Nat, 1 ≤ k → k < 3 → kB k ≠ s) => kO_no h
  have HN0 := Lib.hid fun (m : Int) (h : ∀ k : Nat, (k : Int) < m → kB k ≠ s) (hm : kB m ≠ s) => kb_next h hm
  rw [← hnm] at c0 c1 c2 HX PI PN HN0
  clear hnm
  go_enter Tryz.func16, Tryz.ntmps16
  go_wp2_with fail
  go_loop [6] (fun i => ∃ m : Int, i = .int .i64 m ∧ 0 ≤ m ∧ m ≤ 3 ∧ Hid (∀ k : Nat, (k : Int) < m → nm k ≠ s)) (fun i => 3 - (RowKit.intOf i).toNat)
  case atStart => exact ⟨0, rfl, by omega, by omega, Lib.hid fun k h => absurd h (by omega)⟩
  case round =>
    obtain ⟨m, rfl, h0, h4, HN⟩ := hrel
    by_cases hlt : m < 3
    · have hx := HX.out w m h0 hlt
      by_cases hz : nm m = s
      · have HP := Lib.hid (hz ▸ PI.out m h0 hlt)
        have hq : (s.toList == s.toList) = true := beq_self_eq_true _
        rw [hz] at hx
        clear hz
        go_wp2_with fail
        go_ret
        rw [HP.out]
        exact ⟨rfl, rfl⟩
      · have HN2 := Lib.hid (HN0.out m HN.out hz)
        have hq : ((nm m).toList == s.toList) = false := Byt.str_neq hz
        clear hz
        generalize nm m = z at *
        go_wp2_with fail
        go_round
        case rel => exact ⟨m + 1, rfl, by omega, by omega, HN2⟩
        case measure => simp [RowKit.intOf]; omega
    · obtain rfl : m = 3 := by omega
      have HE := Lib.hid (PN.out fun k _ hk => HN.out k (by omega))
      go_wp2_with fail
      go_ret
      rw [HE.out]
      exact ⟨rfl, rfl⟩

theorem kind_any : KiP := fun k W hE => (kindn_any k W hE.nam).mono fun _ _ h => ⟨h.1, h.2 ▸ Below.refl _ _⟩
theorem kindof_any : KoP := fun s W _ hE => (kindofn_any s W hE.nam).mono fun _ _ h => ⟨h.1, h.2 ▸ Below.refl _ _⟩
end Go.Proofs.YthkopnobekohcaaGreatDoor.Two
