/- The contract of the document's list. Conditions: as each theorem states. -/
import Derived.Test.YteinaclkpickaaaGreatDoorParT
namespace Go.Proofs.YteinaclkpickaaaGreatDoor.Par
open Go.RowKit Go.Lib Go.Proofs.YteinaclkpickaaaGreatDoor.Byt Go.Proofs.YteinaclkpickaaaGreatDoor.Lx
open Go.Proofs.YteinaclkpickaaaGreatDoor.Tre (Vt V0 InS InS_upd)

set_option maxRecDepth 100000 in
set_option maxHeartbeats 4000000 in
theorem rlist_at (m : Int) (f lv : Nat) (hlv : lv ≤ 64) (w0 : World) (b : Nat) (s : ByteArray) (hs : s.size ≤ 1000000)
    (ih : ∀ (t : Tk) (p : Nat) (W : World), Qr w0 b s p 0 0 W → At s.data.toList t p → Fu s.data.toList f t p → Calls Tryz.prog 15 #[.pointer (some ⟨b, 0, none⟩), tkV t, .int .i64 m] W (OutR w0 b s W (val (nt s.data.toList) f t lv p)))
    (ihb : ∀ (p o e : Nat) (W : World), e ≠ 0 → Qr w0 b s p o e W → Calls Tryz.prog 15 #[.pointer (some ⟨b, 0, none⟩), badT, .int .i64 m] W fun e' W' => e' = .returned nilV ∧ Below W.heap.size W W')
    (p : Nat) (W : World) (h : Qr w0 b s p 0 0 W) (hp : p ≤ s.size) (hf : s.size + 1 ≤ f + p) :
    Calls Tryz.prog 30 #[.pointer (some ⟨b, 0, none⟩), .int .i64 m] W (OutR w0 b s W (lst0 (nt s.data.toList) (fun t p => val (nt s.data.toList) f t lv p) f p)) := by
  have hbl := h.lt
  have hwz := h.bel.size
  obtain ⟨R, hR⟩ : ∃ R, R = lst0 (nt s.data.toList) (fun t p => val (nt s.data.toList) f t lv p) f p := ⟨_, rfl⟩
  rw [← hR]
  rw [lst0_fst] at hR
  have hR2 : R = bnd (nt s.data.toList p) fun t q => Lk (nt s.data.toList) (fun t p => val (nt s.data.toList) f t lv p) f [] t (decide (t.k ≠ 4)) q := by
    rw [hR]
    unfold fst
    cases nt s.data.toList p <;> rfl
  have HN := Lib.hid (fun W (hw : Qr w0 b s p 0 0 W) => next_tie hs _ p 0 0 hp W hw (.inl ⟨rfl, rfl, hR2⟩))
  have e0 : Below W.heap.size W ((W.alloc (.cells #[.int .i64 0, .int .i64 0, .string ⟨#[]⟩, .slice none 0 0, .slice none 0 0] 26)).alloc (.cells #[.int .i64 4, .int .i64 0, .string ⟨#[]⟩, .slice none 0 0, .slice none 0 0] 26)) :=
    ((Below.refl _ _).alloc (Nat.le_refl _) _).alloc (by simp) _
  have hnw := two_new W #[.int .i64 0, .int .i64 0, .string ⟨#[]⟩, .slice none 0 0, .slice none 0 0] #[.int .i64 4, .int .i64 0, .string ⟨#[]⟩, .slice none 0 0, .slice none 0 0] 26 26
  have HIH := Lib.hid (fun D p hf kI o1 z1 v1 n1 pp oo ee W h hT => value_tie (R := R) hs m f lv hlv ih ihb D p hf kI o1 z1 v1 n1 pp oo ee W h hT)
  have HST := Lib.hid (fun w1 q o2 e2 (hO : Only b _ w1) (hq : Qr w0 b s q o2 e2 w1) => Lq.start (k := 4) h (Nat.le_refl (W.heap.size + 2)) hnw.1 hnw.2.1 e0 (by omega) hO hq)
  have h0 := h.next e0
  have hz2 := hnw.2.2
  have HF := Lib.hid hf
  clear hR hR2 ih ihb hnw h e0 hf
  go_enter Tryz.func30, Tryz.ntmps30
  go_wp2_with fail
  refine (HN.out _ h0).mono ?_
  rintro e w1 ⟨hO1, kI, o1, z1, v1, n1, pp, oo, ee, rfl, hq1, hp1a, hp1b, hT1⟩
  have HT1 := Lib.hid hT1
  have hls := (HST.out w1 pp oo ee hO1 hq1).next ((Below.refl w1.heap.size w1).alloc (Nat.le_refl _) (.cells #[.int .i64 kI, .int .i64 (o1 : Int), .int .i64 (z1 : Int), .string v1, .int .i64 n1] 41))
  have bt : Box (w1.alloc (.cells #[.int .i64 kI, .int .i64 (o1 : Int), .int .i64 (z1 : Int), .string v1, .int .i64 n1] 41)) w1.heap.size #[.int .i64 kI, .int .i64 (o1 : Int), .int .i64 (z1 : Int), .string v1, .int .i64 n1] := box_new _ _
  have hgt : W.heap.size + 2 ≤ w1.heap.size := by have := hO1.size; omega
  have hls := hls.rebase (N' := w1.heap.size + 1) (by omega) (by simp)
  clear hT1 HN HST hO1 hq1 h0 hz2
  by_cases hk : kI = 4
  · have hkb : (kI == 4) = true := by rw [hk]; rfl
    have HK : Hid (Kt R oo ee (R = .ok (.mk 4 0 ⟨#[]⟩ [] []) pp)) := Lib.hid (by
      rcases HT1.out with ⟨a1, a2, t, a3, _, _, _, _, _, _, a4⟩ | ⟨_, a1, _⟩
      · refine .inl ⟨a1, a2, ?_⟩
        rw [a4]
        have : t.k = 4 := by omega
        show Lk _ _ f [] t (decide (t.k ≠ 4)) pp = _
        rw [show decide (t.k ≠ 4) = false by simp [this]]
        rfl
      · omega)
    have hone := Tre.InS_one (Tre.InS_in _ _ (hls.oj.made 4 0 ⟨#[]⟩))
    have HMD := Lib.hid (hls.oj.made 4 0 ⟨#[]⟩)
    have lw := Below.refl W.heap.size (w1.alloc (.cells #[.int .i64 kI, .int .i64 (o1 : Int), .int .i64 (z1 : Int), .string v1, .int .i64 n1] 41))
    have hbz := hls.bz
    have hbx := hls.bl
    have hon := hls.on
    have hpr := hls.pr
    clear HT1 HIH HF bt hk hls
    go_wp2_with (first
      | (refine Tre.wpList_fetch _ rfl _ rfl (W.heap.size + 1) _ rfl hbx rfl ?_)
      | (refine Tre.wpList_keep _ rfl _ _ rfl W.heap.size _ lw W.heap.size (Nat.le_refl _) _ _ rfl rfl hbz rfl rfl hone ?_; intro w9 bx9 hb9 hk9 hs9; clear hs9))
    (try simp only [Exit.inBlock, Exit.then])
    refine bodyPost_ret (Tre.results_val rfl _ _ _ _ rfl bx9 rfl) rfl ?_
    exact ⟨hon.low2 hb9, _, _, _, _, _, rfl, InS_upd (fun b' hb' _ => ⟨hk9 b' (by omega), by omega⟩) _ _ HMD.out, hpr.low hb9 hbl hwz, HK.out⟩
  · have hkb : (kI == 4) = false := by rw [beq_eq_false_iff_ne]; exact hk
    have HT : Hid ((ee = 0 → s.size + 1 ≤ f + pp) ∧ TkT s.data.toList R (fun t q => Lk (nt s.data.toList) (fun t p => val (nt s.data.toList) f t lv p) f [] t true q) p kI o1 z1 v1 n1 pp oo ee) := Lib.hid (by
      refine ⟨fun _ => by have := HF.out; omega, ?_⟩
      rcases HT1.out with ⟨a1, a2, t, a3, a4, a5, a6, a7, a8, a9, a10⟩ | a
      · refine .inl ⟨a1, a2, t, a3, a4, a5, a6, a7, a8, a9, ?_⟩
        rw [a10]
        have : t.k ≠ 4 := by omega
        show Lk _ _ f [] t (decide (t.k ≠ 4)) pp = Lk _ _ f [] t true pp
        rw [decide_eq_true this]
      · exact .inr a)
    clear HT1 hk
    go_wp2_with fail
    generalize hW1 : w1.alloc (.cells #[.int .i64 kI, .int .i64 (o1 : Int), .int .i64 (z1 : Int), .string v1, .int .i64 n1] 41) = w2 at *
    generalize w1.heap.size = gt at *
    clear hW1
    go_loopw [] (fun wr => ∃ (kI : Int) (o1 z1 : Nat) (v1 : ByteArray) (n1 : Int) (pp oo ee g : Nat) (acc : List Vt) (c3 : Value) (D : List (List Value)), Box wr gt #[.int .i64 kI, .int .i64 (o1 : Int), .int .i64 (z1 : Int), .string v1, .int .i64 n1] ∧
        Lq w0 b s 4 W W.heap.size (gt + 1) c3 D acc (.slice none 0 0) [] pp oo ee wr ∧ acc.length ≤ pp ∧ pp ≤ s.size ∧ p ≤ pp ∧
        Hid ((ee = 0 → s.size + 1 ≤ g + pp) ∧ TkT s.data.toList R (fun t q => Lk (nt s.data.toList) (fun t p => val (nt s.data.toList) f t lv p) g acc t true q) p kI o1 z1 v1 n1 pp oo ee))
      (fun wr => s.size - (RowKit.intOf ((wr.cell? ⟨b, 1, none⟩).getD undef)).toNat)
    case atStart => exact ⟨kI, o1, z1, v1, n1, pp, oo, ee, f, [], _, [], bt, hls, by simp, hp1b, hp1a, HT⟩
    case round =>
      clear hls bt HT hkb hp1a hp1b
      obtain ⟨kI, o1, z1, v1, n1, pp, oo, ee, g, acc, c3, D, bt, hls, hal, hpp, hpl, HT⟩ := hrel
      obtain ⟨g, HG⟩ : ∃ g', Hid ((ee = 0 → s.size + 1 ≤ g' + 1 + pp) ∧ TkT s.data.toList R (fun t q => bnd (val (nt s.data.toList) f t lv q) fun v p1 => bnd (fol (nt s.data.toList) 4 p1) fun x p2 => Lk (nt s.data.toList) (fun t p => val (nt s.data.toList) f t lv p) g' (acc ++ [v]) x.1 x.2 p2) p kI o1 z1 v1 n1 pp oo ee) := by
        obtain ⟨hfu, hT⟩ := HT.out
        cases g with
        | zero =>
          rcases hT with ⟨a1, _⟩ | a
          · have := hfu a1; omega
          · exact ⟨0, Lib.hid ⟨fun q => absurd q a.1, .inr a⟩⟩
        | succ g =>
          refine ⟨g, Lib.hid ⟨hfu, ?_⟩⟩
          rcases hT with ⟨a1, a2, t, a3, a4, a5, a6, a7, a8, a9, a10⟩ | a
          · exact .inl ⟨a1, a2, t, a3, a4, a5, a6, a7, a8, a9, a10.trans (Lk_step _ _ g acc t pp)⟩
          · exact .inr a
      clear HT
      have hd0 : Below wr.heap.size wr wr.drew := (Below.refl _ _).drew
      have HX := Lib.hid (HIH.out _ p HF.out kI o1 z1 v1 n1 pp oo ee wr.drew (hls.pr.next hd0) HG.out.2)
      have HFu := Lib.hid HG.out.1
      have hbx := hls.bl
      have y0 : wr.cell? ⟨W.heap.size + 1, 3, none⟩ = some c3 := hbx.cell 3
      have r0 : wr.cell? ⟨gt, 0, none⟩ = some (.int .i64 kI) := bt.cell 0
      have r1 : wr.cell? ⟨gt, 1, none⟩ = some (.int .i64 (o1 : Int)) := bt.cell 1
      have r2 : wr.cell? ⟨gt, 2, none⟩ = some (.int .i64 (z1 : Int)) := bt.cell 2
      have r3 : wr.cell? ⟨gt, 3, none⟩ = some (.string v1) := bt.cell 3
      have r4 : wr.cell? ⟨gt, 4, none⟩ = some (.int .i64 n1) := bt.cell 4
      have OJ := Lib.hid hls.oj
      have LS := Lib.hid hls
      have hlim : (D.length + 1) * 80 ≤ 140737488355328 := by
        have := hls.oj.len
        omega
      have hwrz := hls.hz
      have hm0 := hls.pr.c1
      have hgb : gt ≠ b := by omega
      clear hls HG
      go_wp2_with fail
      go_region_law (first
        | (refine Tre.step_vpush _ (by rfl) (.tmp 15) (.tmp 20) (by rfl) (gt + 1) c3 D (by rfl) (own2.alloc _) (by simp; omega) _ _ (by rfl) _ (by exact Tre.box_new _ _) e5 e1 hlim ?_; intro v' w4 hv4 hg4 hk4; obtain ⟨a9, n9, p9, e9⟩ : ∃ a n p, v' = .slice a n p := (by obtain ⟨x, y, q, _⟩ := hv4.open_; exact ⟨_, _, _, q⟩); subst e9; have ls4 := LS.out.pushV hOu hP3 (Nat.le_refl _) hI3 hv4 hg4 hk4; have f3 : w4.cell? ⟨W.heap.size + 1, 3, none⟩ = some c3 := ls4.1.cell 3; have ff : ∀ j, w4.frozen? ⟨W.heap.size + 1, j, none⟩ = false := fun j => ls4.1.free j)
        | (go_simp; go_at_call 15; (with_reducible refine HX.out.mono ?_); rintro e w3 ⟨hO3, v, es, p1, x1, y1, rfl, hI3, hP3, hK3⟩; have HK3 := Lib.hid hK3; clear hK3; have hOu := hO3.undrew; have bx2 := hOu.boxV hbx (by omega); have q3 : w3.cell? ⟨W.heap.size + 1, 3, none⟩ = some c3 := bx2.cell 3; have qa : ∀ o, (w3.alloc o).cell? ⟨W.heap.size + 1, 3, none⟩ = some c3 := fun o => (World.cell?_of_block (a := ⟨W.heap.size + 1, 3, none⟩) (Below.heap_alloc w3 o _ bx2.lt)).trans q3; have own2 := (OJ.out.keepO hOu (by omega)).r3; have i2 := Tre.InS_in _ _ hI3; have e5 := Tre.InV_five i2; have e1 := Tre.InS_one i2; obtain ⟨ea, ep, ec, ees⟩ := val_cells i2; subst ees; have hsz5 : wr.heap.size ≤ w3.heap.size := hOu.size))
      all_goals
        have ls5 := ls4.2.1
        have bt5 : Box (w4.setCell ⟨W.heap.size + 1, 3, none⟩ (.slice a9 n9 p9)) gt _ := (ls4.2.2 gt (by have := bt.lt; omega) (by omega) (OJ.out.ne3 bt (by decide))).trans (hOu.box bt hgb)
        clear ls4 f3 ff hk4 hg4 hv4 e5 e1 own2 q3 qa bx2 hI3 hP3 hO3 hOu bt hbx y0 r0 r1 r2 r3 r4 LS OJ HX
        generalize w4.setCell ⟨W.heap.size + 1, 3, none⟩ (.slice a9 n9 p9) = w5 at *
        have HMo := Lib.hid (more_tie hs (fun t d q => Lk (nt s.data.toList) (fun t p => val (nt s.data.toList) f t lv p) g (acc ++ [v]) t d q) 4 (by omega) (by omega) p1 x1 y1 (by rcases HK3.out with ⟨_, _, _, a, b, _⟩ | ⟨a, _⟩; exact .inl b; exact .inr a) w5 ls5.pr (HK3.out.map fun h => h.2.2.2))
        go_wp2_with fail
        refine HMo.out.mono ?_
        rintro e w6 ⟨hO6, bm, p2, o2, e2, rfl, hq6, hyes, hno⟩
        have ls6 := ls5.nextO hO6 hq6
        have bt6 := hO6.box bt5 hgb
        have HK6 := Lib.hid hno
        have HY6 := Lib.hid hyes
        clear hyes hno HMo ls5 bt5 hO6 hq6
        cases bm with
        | false =>
          have HK7 : Hid (Kt R o2 e2 (R = .ok (.mk 4 0 ⟨#[]⟩ (acc ++ [v]) []) p2)) := Lib.hid ((HK6.out rfl).map fun ⟨t, h⟩ => h)
          have hone := Tre.InS_one (Tre.InS_in _ _ (ls6.oj.made 4 0 ⟨#[]⟩))
          have HMD := Lib.hid (ls6.oj.made 4 0 ⟨#[]⟩)
          have lw := Below.refl W.heap.size w6
          have hbz := ls6.bz
          have hbx := ls6.bl
          have hon := ls6.on
          have hpr := ls6.pr
          clear HK6 HY6 HIH HF bt6 HK3 HFu ls6
          go_wp2_with (first
            | (refine Tre.wpList_fetch _ rfl _ rfl (W.heap.size + 1) _ rfl hbx rfl ?_)
            | (refine Tre.wpList_keep _ rfl _ _ rfl W.heap.size _ lw W.heap.size (Nat.le_refl _) _ _ rfl rfl hbz rfl rfl hone ?_; intro w9 bx9 hb9 hk9 hs9; clear hs9))
          (try simp only [Exit.inBlock, Exit.then])
          refine bodyPost_ret (Tre.results_val rfl _ _ _ _ rfl bx9 rfl) rfl ?_
          exact ⟨hon.low2 hb9, _, _, _, _, _, rfl, InS_upd (fun b' hb' _ => ⟨hk9 b' (by omega), by omega⟩) _ _ HMD.out, hpr.low hb9 hbl hwz, HK7.out⟩
        | true =>
          have hy := HY6.out rfl
          obtain ⟨rfl, h7, h8, rfl, rfl, hR7⟩ := hy
          have hpp1 : ee = 0 ∧ pp ≤ p1 := by rcases HK3.out with ⟨_, _, a0, a, _⟩ | ⟨a, _⟩; exact ⟨a0, a⟩; exact absurd rfl a
          have HN2 := Lib.hid (next_tie hs _ p2 0 0 h8 w6 ls6.pr (.inl ⟨rfl, rfl, hR7⟩))
          clear HY6 HK6 hR7
          go_wp2_with fail
          refine HN2.out.mono ?_
          rintro e w7 ⟨hO7, kI7, o7, z7, v7, n7, pp7, oo7, ee7, rfl, hq7, hp7a, hp7b, hT7⟩
          have HT7 := Lib.hid hT7
          have bt7 := hO7.box bt6 hgb
          have ls7 := ls6.nextO hO7 hq7
          have lw := Below.refl gt w7
          have hgt7 := bt7.lt
          clear hT7 hO7 hq7 ls6 bt6 HN2
          go_wp2_with (refine Lx.wpList_keep _ rfl _ _ rfl gt _ lw gt (Nat.le_refl _) _ _ _ _ _ _ rfl rfl bt7 rfl ?_; intro w8 bx8 hb8 hk8)
          have ls8 : Lq w0 b s 4 W W.heap.size (gt + 1) _ _ (acc ++ [v]) (.slice none 0 0) [] pp7 oo7 ee7 w8 := ls7.store gt (by omega) (by omega) hb8 hk8
          have hm1 := ls8.pr.c1
          go_roundw
          case rel => exact ⟨_, _, _, _, _, _, _, _, _, _, _, _, _, _, _, ⟨kI7, o7, z7, v7, n7, pp7, oo7, ee7, g, acc ++ [v], _, _, bx8, ls8, by simp; omega, hp7b, by omega, Lib.hid ⟨fun _ => by have := HFu.out hpp1.1; omega, HT7.out.low (by omega)⟩⟩, rfl⟩
          case measure => rw [hm0, hm1]; simp [RowKit.intOf]; omega
end Go.Proofs.YteinaclkpickaaaGreatDoor.Par
