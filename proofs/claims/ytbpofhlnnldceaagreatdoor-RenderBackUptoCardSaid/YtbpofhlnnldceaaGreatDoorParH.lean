/- The contract of takeObject. Conditions: as each theorem states. -/
import Derived.Test.YtbpofhlnnldceaaGreatDoorParG2
import Derived.Deep.CutRange
namespace Go.Proofs.YtbpofhlnnldceaaGreatDoor.Par
open Go.RowKit Go.Lib Go.Proofs.YtbpofhlnnldceaaGreatDoor.Byt Go.Proofs.YtbpofhlnnldceaaGreatDoor.Lx
open Go.Proofs.YtbpofhlnnldceaaGreatDoor.Tre (Vt V0 InS InS_upd Seen)

theorem run_makeNone (w : World) : (Instr.makeMap 81 none).run Tryz.prog w = .ok (.map (some w.heap.size)) (w.alloc (.map #[] 0)) := by
  simp [Instr.makeMap, Result.andThen]

set_option maxRecDepth 100000 in
set_option maxHeartbeats 8000000 in
theorem object_at (f lv : Nat) (w0 : World) (b : Nat) (s : ByteArray) (hs : s.size ≤ 8000000)
    (ih : ∀ (t : Tk) (p : Nat) (W : World), Pr w0 b s p W → At s.data.toList t p → Fu s.data.toList f t p →
      Calls Tryz.prog 17 #[.pointer (some ⟨b, 0, none⟩), tkV t, .int .i64 (lv : Int)] W (Out w0 b s W (VV W) (val (nt s.data.toList) f t lv p)))
    (hlv : lv ≤ 64) (p : Nat) (W : World) (h : Pr w0 b s p W) (hp : p ≤ s.size) (hf : s.size + 1 ≤ f + p) :
    Calls Tryz.prog 31 #[.pointer (some ⟨b, 0, none⟩), .int .i64 (lv : Int)] W (Out w0 b s W (VV W) (obj0 (nt s.data.toList) (fun t p => val (nt s.data.toList) f t lv p) f p)) := by
  have HF0 := fun W (hw : Pr w0 b s p W) => first_at w0 b s p W hw hs hp 2
  have hgd := fst_good (l := s.data.toList) (p := p) (by simpa using hp) 2
  have hbl := h.lt
  have hwz := h.bel.size
  have hbw := h.lo
  have hmm := run_makeNone
  rw [obj0_fst]
  obtain ⟨q1, q2, q3, q4, e0⟩ := three_new W #[.int .i64 0, .int .i64 0, .string ⟨#[]⟩, .slice none 0 0, .slice none 0 0] #[.int .i64 5, .int .i64 0, .string ⟨#[]⟩, .slice none 0 0, .slice none 0 0] 25 25
  cases hr : fst (nt s.data.toList) 2 p with
  | no o er =>
    rw [hr] at HF0
    have H := Lib.hid HF0
    have hpr := h.next e0
    clear HF0 hr hgd ih q1 q2 q3 q4
    go_enter Tryz.func31, Tryz.ntmps31
    go_wp2_with fail
    refine (H.out _ hpr).mono ?_
    rintro e w1 ⟨hO1, hB1, rfl⟩
    go_wp2_with fail
    exact ⟨rfl, (Only.of e0).trans hO1, hB1, rfl⟩
  | ok x q =>
    rw [hr] at HF0 hgd
    obtain ⟨t, d⟩ := x
    have H := Lib.hid HF0
    obtain ⟨_, hq, hat, hpo⟩ := hgd
    have hq : q ≤ s.size := by simpa using hq
    clear HF0 hr
    show Calls _ _ _ _ (Out w0 b s W (VV W) (Oc (nt s.data.toList) (fun t p => val (nt s.data.toList) f t lv p) f [] [] t d q))
    obtain ⟨R, hR⟩ : ∃ R, R = Oc (nt s.data.toList) (fun t p => val (nt s.data.toList) f t lv p) f [] [] t d q := ⟨_, rfl⟩
    rw [← hR]
    have HR2 := Lib.hid hR
    have Q1 := Lib.hid q1
    have Q2 := Lib.hid q2
    have Q4 := Lib.hid q4
    have hsz0 : W.heap.size + 3 ≤ (((W.alloc (.cells #[.int .i64 0, .int .i64 0, .string ⟨#[]⟩, .slice none 0 0, .slice none 0 0] 25)).alloc (.cells #[.int .i64 5, .int .i64 0, .string ⟨#[]⟩, .slice none 0 0, .slice none 0 0] 25)).alloc (.map #[] 0)).heap.size := by omega
    have hpr := h.next e0
    clear hR q1 q2 q3 q4
    go_enter Tryz.func31, Tryz.ntmps31
    go_wp2_with fail
    refine (H.out _ hpr).mono ?_
    rintro e w1 ⟨hO1, hP1, _, rfl, rfl⟩
    unfold tb tkV
    have hls0 := Ls.start (N := W.heap.size + 3) h (by omega) Q1.out Q2.out e0 hsz0 hO1 hP1
    have hsn0 := seen_next Q4.out hO1 (by omega)
    have hls : Ls w0 b s 5 W W.heap.size (W.heap.size + 3) (.slice none 0 0) [] [] (.slice none 0 0) [] q (w1.alloc (.cells #[.int .i64 (t.k : Int), .int .i64 (t.o : Int), .int .i64 (t.z : Int), .string ⟨t.v.toArray⟩, .int .i64 t.n] 46)) := hls0.next ((Below.refl _ _).alloc (Nat.le_refl _) _)
    have hsn : Seen (w1.alloc (.cells #[.int .i64 (t.k : Int), .int .i64 (t.o : Int), .int .i64 (t.z : Int), .string ⟨t.v.toArray⟩, .int .i64 t.n] 46)) (W.heap.size + 2) 0 [] := hsn0.next ((Below.refl _ _).alloc (Nat.le_refl _) _)
    have bt : Box (w1.alloc (.cells #[.int .i64 (t.k : Int), .int .i64 (t.o : Int), .int .i64 (t.z : Int), .string ⟨t.v.toArray⟩, .int .i64 t.n] 46)) w1.heap.size #[.int .i64 (t.k : Int), .int .i64 (t.o : Int), .int .i64 (t.z : Int), .string ⟨t.v.toArray⟩, .int .i64 t.n] := box_new _ _
    have hgt : W.heap.size + 3 ≤ w1.heap.size := hls0.hz
    have HIH := Lib.hid ih
    have HFP := Lib.hid hf
    have hpq : d = true → p ≤ t.o := fun _ => hpo
    have hfq : s.size + 1 ≤ f + q := by omega
    go_wp2_with fail
    clear hls0 hsn0 hO1 hP1 ih e0 h hpo hf H Q1 Q2 Q4 hpr hsz0 hmm
    generalize hW1 : w1.alloc (.cells #[.int .i64 (t.k : Int), .int .i64 (t.o : Int), .int .i64 (t.z : Int), .string ⟨t.v.toArray⟩, .int .i64 t.n] 46) = w2 at *
    generalize w1.heap.size = gt at *
    clear hW1 hq
    go_loopw [7, 8] (fun x y wr => ∃ (gt : Nat) (t : Tk) (d : Bool) (pp g : Nat) (acc : List Vt) (ns : List ByteArray) (c3 c4 : Value) (D : List (List Value)), x = .pointer (some ⟨gt, 0, none⟩) ∧ y = .bool d ∧
        Box wr gt #[.int .i64 (t.k : Int), .int .i64 (t.o : Int), .int .i64 (t.z : Int), .string ⟨t.v.toArray⟩, .int .i64 t.n] ∧
        Ls w0 b s 5 W W.heap.size (W.heap.size + 3) c3 D acc c4 ns pp wr ∧ Seen wr (W.heap.size + 1 + 1) ns.length ns ∧ Hid (ns.length = acc.length) ∧ At s.data.toList t pp ∧ (d = true → p ≤ t.o) ∧ W.heap.size + 3 ≤ gt ∧ acc.length ≤ pp ∧ s.size + 1 ≤ g + pp ∧
        Hid (R = Oc (nt s.data.toList) (fun t p => val (nt s.data.toList) f t lv p) g ns acc t d pp))
      (fun _ _ wr => s.size - (RowKit.intOf ((wr.cell? ⟨b, 1, none⟩).getD undef)).toNat)
    case atStart => exact ⟨gt, t, d, q, f, [], [], _, _, [], rfl, rfl, bt, hls, hsn, Lib.hid rfl, hat, hpq, hgt, by simp, hfq, HR2⟩
    case round =>
      clear hls bt hat HR2 hpq hgt hsn
      obtain ⟨gt, t, d, pp, g, acc, ns, c3, c4, D, rfl, rfl, bt, hls, hsn, hnl, hat, hpq, hgt, hal, hgg, HR⟩ := hrel
      have hon := hls.on
      have hpr := hls.pr
      have hbz := hls.bz
      have hbx := hls.bl
      cases d with
      | false =>
        have hR : R = .ok (.mk 5 0 ⟨#[]⟩ acc ns) pp := HR.out
        have hone := Tre.InS_one (Tre.InS_in _ _ (hls.oj.made 5 0 ⟨#[]⟩))
        have HMD := Lib.hid (hls.oj.made 5 0 ⟨#[]⟩)
        have lw := Below.refl W.heap.size wr
        clear HR bt hls HIH HFP hat hsn
        go_wp2_with (first
          | (refine Tre.wpList_fetch _ rfl _ rfl (W.heap.size + 1) _ rfl hbx rfl ?_)
          | (refine Tre.wpList_keep _ rfl _ _ rfl W.heap.size _ lw W.heap.size (Nat.le_refl _) _ _ rfl rfl hbz rfl rfl hone ?_; intro w9 bx9 hb9 hk9 hs9; clear hs9))
        (try simp only [Exit.inBlock, Exit.then])
        refine bodyPost_ret (Tre.results_val rfl _ _ _ _ rfl bx9 rfl) rfl ?_
        rw [hR]
        exact ⟨hon.low2 hb9, hpr.low hb9 hbl hwz, _, rfl, _, rfl, InS_upd (fun b' hb' _ => ⟨hk9 b' (by omega), by omega⟩) _ _ HMD.out⟩
      | true =>
        obtain ⟨g, rfl⟩ : ∃ g', g = g' + 1 := by
          have := hat.le
          have : s.data.toList.length = s.size := by simp
          cases g with
          | zero => omega
          | succ g => exact ⟨g, rfl⟩
        have hsl : s.data.toList.length = s.size := by simp
        have HSL := Lib.hid hsl
        have hpp : pp ≤ s.size := by have := hat.le; omega
        have hts : (tx t).size ≤ 8000000 := by
          have := hat.vl
          show t.v.toArray.size ≤ _
          simp
          omega
        have hnn : ns.length ≤ 140737488355328 := by rw [hnl.out]; omega
        have HR1 := Lib.hid (HR.out.trans (Oc_step _ _ g ns acc t pp))
        have hd0 : Below wr.heap.size wr wr.drew := (Below.refl _ _).drew
        have HX0 := name_at w0 b s pp wr.drew (hpr.next hd0) hs hpp t hts (W.heap.size + 1 + 1) ns.length ns (hsn.next hd0) (by omega) (by omega) hnn
        have hgn := nam_good (ns := ns) hat
        have y0 : wr.cell? ⟨W.heap.size + 1, 4, none⟩ = some c4 := hbx.cell 4
        have r0 : wr.cell? ⟨gt, 0, none⟩ = some (.int .i64 (t.k : Int)) := bt.cell 0
        have r1 : wr.cell? ⟨gt, 1, none⟩ = some (.int .i64 (t.o : Int)) := bt.cell 1
        have r2 : wr.cell? ⟨gt, 2, none⟩ = some (.int .i64 (t.z : Int)) := bt.cell 2
        have r3 : wr.cell? ⟨gt, 3, none⟩ = some (.string ⟨t.v.toArray⟩) := bt.cell 3
        have r4 : wr.cell? ⟨gt, 4, none⟩ = some (.int .i64 t.n) := bt.cell 4
        unfold tkV at HX0
        clear HR hsl
        cases hv : nam (nt s.data.toList) ns t pp with
        | no o er =>
          rw [hv] at HX0
          have HX := Lib.hid HX0
          have hR : R = .no o er := by rw [HR1.out, hv]; rfl
          clear HR1 HX0 hv HIH HFP hgn hsn
          go_wp2_with fail
          go_region_dies
          all_goals
            go_at_call 45
            (with_reducible refine HX.out.mono ?_)
            rintro e w3 ⟨hO3, hB3, rfl⟩
            go_wp2_with fail
            refine ⟨rfl, ?_⟩
            rw [hR]
            exact ⟨hO3.undrew.only hon (by omega), hB3, rfl⟩
        | ok x p2 =>
          rw [hv] at HX0 hgn
          obtain ⟨hp2a, hp2b, rfl, hp2c⟩ := hgn
          have hp2 : p2 ≤ s.size := by have := HSL.out; omega
          have HX := Lib.hid HX0
          have hR1 : R = bnd (nt s.data.toList p2) fun t3 p3 => bnd (val (nt s.data.toList) f t3 lv p3) fun v p4 => bnd (fol (nt s.data.toList) 2 p4) fun x p5 => Oc (nt s.data.toList) (fun t p => val (nt s.data.toList) f t lv p) g (ns ++ [tx t]) (acc ++ [v]) x.1 x.2 p5 := by rw [HR1.out, hv]; rfl
          have HR2 := Lib.hid hR1
          have OJ := Lib.hid hls.oj
          have LS := Lib.hid hls
          have hlim : (ns.length + 1) * 16 ≤ 140737488355328 := by
            have := hnl.out
            omega
          have hwrz := hls.bl.lt
          have hm0 := hls.pr.c1
          have hgb : gt ≠ b := by omega
          clear HR1 hR1 HX0 hv hls
          go_wp2_with fail
          go_cut [] from 16 to 41 (fun wx => ∃ c4', Ls w0 b s 5 W W.heap.size (W.heap.size + 3) c3 D acc c4' (ns ++ [tx t]) p2 wx ∧ Seen wx (W.heap.size + 1 + 1) (ns.length + 1) (ns ++ [tx t]) ∧ Box wx gt #[.int .i64 (t.k : Int), .int .i64 (t.o : Int), .int .i64 (t.z : Int), .string ⟨t.v.toArray⟩, .int .i64 t.n])
          case first =>
            go_region_law (first
              | (refine Tre.step_npush _ (by rfl) (.tmp 23) (.tmp 28) (by rfl) (W.heap.size + 3) c4 ns (by rfl) (own2.alloc _) (by simp; omega) _ _ (by rfl) (tx t) (0, 0) (by exact heap_alloc_new _ _) hlim ?_; intro v' w4 hv4 hg4 hk4; obtain ⟨a9, n9, p9, e9⟩ : ∃ a n p, v' = .slice a n p := (by obtain ⟨x, y, q, _⟩ := hv4.row.open_; exact ⟨_, _, _, q⟩); subst e9; have ls4 := LS.out.pushN hTu (by omega) (by omega) hP3 hv4 hg4 hk4; have f3 : w4.cell? ⟨W.heap.size + 1, 4, none⟩ = some c4 := ls4.1.cell 4; have ff : ∀ j, w4.frozen? ⟨W.heap.size + 1, j, none⟩ = false := fun j => ls4.1.free j)
              | (go_simp; go_at_call 45; (with_reducible refine HX.out.mono ?_); rintro e w3 ⟨hO3, hP3, rfl, hS3⟩; have hTu := hO3.undrew; have bx2 := hTu.boxV hbx (by omega) (by omega); have q3 : w3.cell? ⟨W.heap.size + 1, 4, none⟩ = some c4 := bx2.cell 4; have qa : ∀ o, (w3.alloc o).cell? ⟨W.heap.size + 1, 4, none⟩ = some c4 := fun o => (World.cell?_of_block (a := ⟨W.heap.size + 1, 4, none⟩) (Below.heap_alloc w3 o _ bx2.lt)).trans q3; have own2 := (OJ.out.keepT hTu (by omega) (by omega)).r4; have hsz5 : wr.heap.size ≤ w3.heap.size := hTu.size))
            all_goals
              go_wp2_with fail
              go_meet
              have hml := hsn.lt
              have hgl := bt.lt
              exact ⟨_, ls4.2.1, seen_keep hS3 (ls4.2.2 _ (by omega) (by omega) (fun q => by have := (OJ.out.c4_lt q).1; omega)), (ls4.2.2 gt (by omega) (by omega) (OJ.out.ne4 bt (by decide))).trans (hTu.box bt hgb (by omega))⟩
          case rest =>
            rename World => wc
            obtain ⟨c4', ls5, sn5, bt5⟩ := hcut
            clear bt hbx hbz hpr hsn y0 r0 r1 r2 r3 r4 HX OJ LS hlim hon hd0 hwrz
            have hon := ls5.on
            have hd0 : Below wc.heap.size wc wc.drew := (Below.refl _ _).drew
            have hbx := ls5.bl
            have y0 : wc.cell? ⟨W.heap.size + 1, 3, none⟩ = some c3 := hbx.cell 3
            have HN0 := fun W (hw : Pr w0 b s p2 W) => next_at w0 b s p2 W hw hs hp2
            have hg3 := nt_good s.data.toList p2 (by have := HSL.out; omega)
            have pr5 := ls5.pr.next hd0
            cases hnt : nt s.data.toList p2 with
            | no o er =>
              rw [hnt] at HN0
              have HN := Lib.hid HN0
              have hR : R = .no o er := by rw [HR2.out, hnt]; rfl
              clear HR2 HN0 hnt HIH HFP hg3
              go_wp2_with fail
              go_region_dies
              all_goals
                go_at_call 18
                (with_reducible refine (HN.out _ pr5).mono ?_)
                rintro e w3 ⟨hO3, hB3, rfl⟩
                go_wp2_with fail
                refine ⟨rfl, ?_⟩
                rw [hR]
                exact ⟨(hon.next hd0).trans hO3, hB3, rfl⟩
            | ok t3 p3 =>
              rw [hnt] at HN0 hg3
              obtain ⟨hp3a, hp3b, hat3, hpo3⟩ := hg3
              have hFu := Fu_next (f := f) (p := p) (by have := HFP.out; have := HSL.out; omega) hat3 (by have h1 := hpq trivial; have h2 := hat.o; omega)
              have HX0 := fun W (hw : Pr w0 b s p3 W) => HIH.out t3 p3 W hw hat3 hFu
              have hgv := val_good (l := s.data.toList) (by have := HSL.out; omega) f t3 lv p3 hat3 hFu hlv
              unfold tkV at HN0 HX0
              have HN := Lib.hid HN0
              clear HN0 HIH HFP
              cases hvv : val (nt s.data.toList) f t3 lv p3 with
              | no o er =>
                have hR : R = .no o er := by rw [HR2.out, hnt]; show bnd (val _ _ _ _ _) _ = _; rw [hvv]; rfl
                rw [hvv] at HX0
                have HX := Lib.hid HX0
                clear HX0 hvv hgv hnt HR2
                go_wp2_with fail
                go_region_dies
                · go_at_call 18
                  (with_reducible refine (HN.out _ pr5).mono ?_)
                  rintro e w3 ⟨hO3, hP3, _, rfl, rfl⟩
                  rename_i hK
                  refine hK _ _ ?_
                  refine wpAny_ready (rs := [6]) (by kernel_rfl) (by simp) ?_
                  refine AllReady.cons rfl (fun K2 hK2 => ?_) AllReady.nil
                  go_simp
                  go_at_call 17
                  (with_reducible refine (HX.out _ hP3).mono ?_)
                  rintro e w9 ⟨hO9, hB9, rfl⟩
                  go_wp2_with fail
                  refine ⟨rfl, ?_⟩
                  rw [hR]
                  exact ⟨((hon.next hd0).trans hO3).trans hO9, hB9, rfl⟩
                · go_at_call 18
                  (with_reducible refine (HN.out _ pr5).mono ?_)
                  rintro e w3 ⟨hO3, hP3, _, rfl, rfl⟩
                  have y3 : w3.cell? ⟨W.heap.size + 1, 3, none⟩ = some c3 := (hO3.undrew.boxV hbx (by omega)).cell 3
                  rename_i hK
                  refine hK _ _ ?_
                  refine wpAny_ready (rs := [1, 6]) (by kernel_rfl) (by simp) ?_
                  refine AllReady.cons rfl (fun K2 hK2 => ?_) (AllReady.cons rfl (fun K3 hK3 => ?_) AllReady.nil)
                  · go_simp
                    refine hK2 _ _ ?_
                    refine wpAny_ready (rs := [6]) (by kernel_rfl) (by simp) ?_
                    refine AllReady.cons rfl (fun K4 hK4 => ?_) AllReady.nil
                    go_simp
                    go_at_call 17
                    (with_reducible refine (HX.out _ hP3).mono ?_)
                    rintro e w9 ⟨hO9, hB9, rfl⟩
                    go_wp2_with fail
                    refine ⟨rfl, ?_⟩
                    rw [hR]
                    exact ⟨((hon.next hd0).trans hO3).trans hO9, hB9, rfl⟩
                  · go_simp
                    go_at_call 17
                    (with_reducible refine (HX.out _ hP3).mono ?_)
                    rintro e w9 ⟨hO9, hB9, rfl⟩
                    go_wp2_with fail
                    refine ⟨rfl, ?_⟩
                    rw [hR]
                    exact ⟨((hon.next hd0).trans hO3).trans hO9, hB9, rfl⟩
              | ok v p4 =>
                rw [hvv] at HX0 hgv
                have HX := Lib.hid HX0
                have hp4 : p3 ≤ p4 ∧ p4 ≤ s.size := ⟨hgv.1, by have := hgv.2.1; have := HSL.out; omega⟩
                have hR1 : R = bnd (fol (nt s.data.toList) 2 p4) fun x p5 => Oc (nt s.data.toList) (fun t p => val (nt s.data.toList) f t lv p) g (ns ++ [tx t]) (acc ++ [v]) x.1 x.2 p5 := by
                  rw [HR2.out, hnt]; show bnd (val _ _ _ _ _) _ = _; rw [hvv]; rfl
                have HR3 := Lib.hid hR1
                have hfg := fol_good (l := s.data.toList) (p := p4) (by have := HSL.out; omega) 2 (by omega)
                have HFO := Lib.hid (fun W (hw : Pr w0 b s p4 W) => following_at w0 b s p4 W hw hs hp4.2 2)
                have OJ := Lib.hid ls5.oj
                have LS := Lib.hid ls5
                have hlim : (D.length + 1) * 80 ≤ 140737488355328 := by
                  have := ls5.oj.len
                  omega
                have hwcz := ls5.hz
                have SN := Lib.hid sn5
                clear HX0 hvv hgv hnt HR2 hR1 hon ls5 sn5
                go_wp2_with fail
                go_region_law (first
                  | (refine Tre.step_vpush _ (by rfl) (.tmp 32) (.tmp 38) (by rfl) (W.heap.size + 3) c3 D (by rfl) (own2.alloc _) (by simp; omega) _ _ (by rfl) _ (by exact Tre.box_new _ _) e5 e1 hlim ?_; intro v' w4 hv4 hg4 hk4; obtain ⟨a9, n9, p9, e9⟩ : ∃ a n p, v' = .slice a n p := (by obtain ⟨x, y, q, _⟩ := hv4.open_; exact ⟨_, _, _, q⟩); subst e9; have ls4 := LS.out.pushV hOu hP9 hz3 hI9 hv4 hg4 hk4; have f3 : w4.cell? ⟨W.heap.size + 1, 3, none⟩ = some c3 := ls4.1.cell 3; have ff : ∀ j, w4.frozen? ⟨W.heap.size + 1, j, none⟩ = false := fun j => ls4.1.free j)
                  | (go_simp; go_at_call 17; (with_reducible refine (HX.out _ hP3).mono ?_); rintro e w9 ⟨hO9, hP9, _, rfl, es, rfl, hI9⟩; have hOu := hO3.undrew.trans hO9; have bx9 := hOu.boxV hbx (by omega); have q9 : w9.cell? ⟨W.heap.size + 1, 3, none⟩ = some c3 := bx9.cell 3; have qa : ∀ o, (w9.alloc o).cell? ⟨W.heap.size + 1, 3, none⟩ = some c3 := fun o => (World.cell?_of_block (a := ⟨W.heap.size + 1, 3, none⟩) (Below.heap_alloc w9 o _ bx9.lt)).trans q9; have own2 := (OJ.out.keepO hOu (by omega)).r3; have i2 := Tre.InS_in _ _ hI9; have e5 := Tre.InV_five i2; have e1 := Tre.InS_one i2; obtain ⟨ea, ep, ec, ees⟩ := val_cells i2; subst ees; have hz3 : wc.heap.size ≤ w3.heap.size := hO3.size; have hsz5 : wc.heap.size ≤ w9.heap.size := hOu.size)
                  | (go_simp; go_at_call 18; (with_reducible refine (HN.out _ pr5).mono ?_); rintro e w3 ⟨hO3, hP3, _, rfl, rfl⟩; have y3 : w3.cell? ⟨W.heap.size + 1, 3, none⟩ = some c3 := (hO3.undrew.boxV hbx (by omega)).cell 3))
                all_goals
                  have hml := SN.out.lt
                  have hgl := bt5.lt
                  have ls7 := ls4.2.1
                  have sn7 := seen_keep (seen_next SN.out hOu (by omega)) (ls4.2.2 _ (by omega) (by omega) (fun q => by have := (OJ.out.c3_lt q).1; omega))
                  have bt7 : Box (w4.setCell ⟨W.heap.size + 1, 3, none⟩ (.slice a9 n9 p9)) gt _ := (ls4.2.2 gt (by omega) (by omega) (OJ.out.ne3 bt5 (by decide))).trans (hOu.box bt5 hgb)
                  try clear y3
                  clear ls4 f3 ff hk4 hg4 hv4 e5 e1 own2 q9 qa bx9 hI9 hP9 hO9 hOu hO3 hP3 hz3 hsz5 hml hgl i2 bt5 hbx pr5 y0 HX OJ LS SN hlim hd0 hwcz HN
                  generalize w4.setCell ⟨W.heap.size + 1, 3, none⟩ (.slice a9 n9 p9) = w5 at *
                  have lt5 := bt7.lt
                  have b5 := ls7.pr.lt
                  have pr5 := ls7.pr.alloc (.cells #[.int .i64 (t.k : Int), .int .i64 (t.o : Int), .int .i64 (t.z : Int), .string ⟨t.v.toArray⟩, .int .i64 t.n] 46)
                  have z5 : (w5.alloc (.cells #[.int .i64 (t.k : Int), .int .i64 (t.o : Int), .int .i64 (t.z : Int), .string ⟨t.v.toArray⟩, .int .i64 t.n] 46)).heap.size = w5.heap.size + 1 := by simp
                  have n5 : Box (w5.alloc (.cells #[.int .i64 (t.k : Int), .int .i64 (t.o : Int), .int .i64 (t.z : Int), .string ⟨t.v.toArray⟩, .int .i64 t.n] 46)) w5.heap.size #[.int .i64 (t.k : Int), .int .i64 (t.o : Int), .int .i64 (t.z : Int), .string ⟨t.v.toArray⟩, .int .i64 t.n] := box_new _ _
                  have o5 : Only b w5 (w5.alloc (.cells #[.int .i64 (t.k : Int), .int .i64 (t.o : Int), .int .i64 (t.z : Int), .string ⟨t.v.toArray⟩, .int .i64 t.n] 46)) := Only.of ((Below.refl _ _).alloc (Nat.le_refl _) _)
                  cases hfo : fol (nt s.data.toList) 2 p4 with
                  | no o er =>
                    have hR : R = .no o er := by rw [HR3.out, hfo]; rfl
                    have HF0 := HFO.out
                    rw [hfo] at HF0
                    have HF := Lib.hid HF0
                    clear HF0 HFO HR3 hfg hfo
                    go_wp2_with (refine Lx.wpList_fetch _ rfl _ rfl gt _ rfl bt7 rfl ?_)
                    refine (HF.out _ pr5).mono ?_
                    rintro e w6 ⟨hO6, hB6, rfl⟩
                    go_wp2_with fail
                    refine ⟨rfl, ?_⟩
                    rw [hR]
                    exact ⟨(ls7.on.trans o5).trans hO6, hB6, rfl⟩
                  | ok x2 p5 =>
                    obtain ⟨t2, d2⟩ := x2
                    rw [hfo] at hfg
                    obtain ⟨_, hq2, hat2, hlt2, hd2⟩ := hfg
                    have hR : R = Oc (nt s.data.toList) (fun t p => val (nt s.data.toList) f t lv p) g (ns ++ [tx t]) (acc ++ [v]) t2 d2 p5 := by rw [HR3.out, hfo]; rfl
                    have HR4 := Lib.hid hR
                    have HF0 := HFO.out
                    rw [hfo] at HF0
                    have HF := Lib.hid HF0
                    have hdp : d2 = true → p ≤ t2.o := fun q => by
                      have h1 := hd2 q
                      have h2 := hpq trivial
                      have h3 := hat.o
                      simp only at h1
                      omega
                    have hal2 : (acc ++ [v]).length ≤ p5 := by simp; omega
                    have hnl2 : Hid ((ns ++ [tx t]).length = (acc ++ [v]).length) := Lib.hid (by simp [hnl.out])
                    have hq2 : p5 ≤ s.size := by have := HSL.out; omega
                    have hnln : (ns ++ [tx t]).length = ns.length + 1 := by simp
                    rw [← hnln] at sn7
                    unfold tb tkV at HF
                    clear HF0 HFO HR3 hfo hR hd2 hnln
                    go_wp2_with (refine Lx.wpList_fetch _ rfl _ rfl gt _ rfl bt7 rfl ?_)
                    refine (HF.out _ pr5).mono ?_
                    rintro e w6 ⟨hO6, hP6, _, rfl, rfl⟩
                    have n6 := hO6.box n5 (by omega)
                    have o6 := o5.trans hO6
                    have lw := Below.refl w5.heap.size w6
                    clear n5 o5 hO6 pr5
                    go_wp2_with (refine Lx.wpList_keep _ rfl _ _ rfl w5.heap.size _ lw w5.heap.size (Nat.le_refl _) _ _ _ _ _ _ rfl rfl n6 rfl ?_; intro w7 bx7 hb7 hk7)
                    have o7 := o6.low2 hb7
                    have ls8 := ls7.nextO o7 (hP6.low hb7 b5 (by omega))
                    have sn8 := seen_next sn7 o7 (by omega)
                    have hm1 := ls8.pr.c1
                    go_roundw
                    case rel => exact ⟨_, t2, d2, p5, g, acc ++ [v], ns ++ [tx t], _, _, _, rfl, rfl, bx7, ls8, sn8, hnl2, hat2, hdp, by omega, hal2, by omega, HR4⟩
                    case measure => rw [hm0, hm1]; simp [RowKit.intOf]; omega
end Go.Proofs.YtbpofhlnnldceaaGreatDoor.Par
