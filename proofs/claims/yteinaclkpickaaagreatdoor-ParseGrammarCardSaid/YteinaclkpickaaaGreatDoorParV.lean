/- The contract of the document's object. Conditions: as each theorem states. -/
import Derived.Test.YteinaclkpickaaaGreatDoorParU
import Derived.Deep.CutRange
namespace Go.Proofs.YteinaclkpickaaaGreatDoor.Par
open Go.RowKit Go.Lib Go.Proofs.YteinaclkpickaaaGreatDoor.Byt Go.Proofs.YteinaclkpickaaaGreatDoor.Lx
open Go.Proofs.YteinaclkpickaaaGreatDoor.Tre (Vt V0 InS InS_upd)

/-- What is left behind a name and its colon. -/
def Kc (T : Nat → Rs Tk) (vf : Tk → Nat → Rs Vt) (g : Nat) (ns : List ByteArray) (acc : List Vt) (n : ByteArray) (p2 : Nat) : Rs Vt :=
  bnd (T p2) fun t3 p3 => bnd (vf t3 p3) fun v p4 => bnd (fol T 2 p4) fun x p5 => Oc T vf g (ns ++ [n]) (acc ++ [v]) x.1 x.2 p5
/-- What is left behind a token that is a text. -/
def Ga (T : Nat → Rs Tk) (vf : Tk → Nat → Rs Vt) (g : Nat) (ns : List ByteArray) (acc : List Vt) (R : Rs Vt) (o1 : Nat) (v1 : ByteArray) (pp : Nat) : Prop :=
  R = if isin ns v1 = true then .no o1 11 else bnd (T pp) fun t2 q2 => if t2.k = 5 then Kc T vf g ns acc v1 q2 else refu t2
theorem nam_yes (T : Nat → Rs Tk) (ns : List ByteArray) {t : Tk} (p : Nat) (K : ByteArray → Nat → Rs Vt) (h : t.k = 7) :
    bnd (nam T ns t p) K = if isin ns (tx t) = true then .no t.o 11 else bnd (T p) fun t2 q2 => if t2.k = 5 then K (tx t) q2 else refu t2 := by
  unfold nam
  rw [if_pos h]
  by_cases hi : isin ns (tx t) = true
  · rw [if_pos hi, if_pos hi]; rfl
  · rw [if_neg hi, if_neg hi]
    cases T p with
    | no o e => rfl
    | ok t2 q2 =>
      show bnd (if t2.k = 5 then _ else _) K = if t2.k = 5 then _ else _
      by_cases h5 : t2.k = 5
      · rw [if_pos h5, if_pos h5]; rfl
      · rw [if_neg h5, if_neg h5]; rfl
theorem nam_no (T : Nat → Rs Tk) (ns : List ByteArray) {t : Tk} (p : Nat) (K : ByteArray → Nat → Rs Vt) (h : t.k ≠ 7) : bnd (nam T ns t p) K = refu t := by
  unfold nam
  rw [if_neg h]; rfl

set_option maxRecDepth 100000 in
set_option maxHeartbeats 4000000 in
theorem robject_at (m : Int) (f lv : Nat) (hlv : lv ≤ 64) (w0 : World) (b : Nat) (s : ByteArray) (hs : s.size ≤ 1000000)
    (ih : ∀ (t : Tk) (p : Nat) (W : World), Qr w0 b s p 0 0 W → At s.data.toList t p → Fu s.data.toList f t p → Calls Tryz.prog 15 #[.pointer (some ⟨b, 0, none⟩), tkV t, .int .i64 m] W (OutR w0 b s W (val (nt s.data.toList) f t lv p)))
    (ihb : ∀ (p o e : Nat) (W : World), e ≠ 0 → Qr w0 b s p o e W → Calls Tryz.prog 15 #[.pointer (some ⟨b, 0, none⟩), badT, .int .i64 m] W fun e' W' => e' = .returned nilV ∧ Below W.heap.size W W')
    (p : Nat) (W : World) (h : Qr w0 b s p 0 0 W) (hp : p ≤ s.size) (hf : s.size + 1 ≤ f + p) :
    Calls Tryz.prog 31 #[.pointer (some ⟨b, 0, none⟩), .int .i64 m] W (OutR w0 b s W (obj0 (nt s.data.toList) (fun t p => val (nt s.data.toList) f t lv p) f p)) := by
  have hbl := h.lt
  have hwz := h.bel.size
  obtain ⟨R, hR⟩ : ∃ R, R = obj0 (nt s.data.toList) (fun t p => val (nt s.data.toList) f t lv p) f p := ⟨_, rfl⟩
  rw [← hR]
  rw [obj0_fst] at hR
  have hR2 : R = bnd (nt s.data.toList p) fun t q => Oc (nt s.data.toList) (fun t p => val (nt s.data.toList) f t lv p) f [] [] t (decide (t.k ≠ 2)) q := by
    rw [hR]
    unfold fst
    cases nt s.data.toList p <;> rfl
  have HN := Lib.hid (fun W (hw : Qr w0 b s p 0 0 W) => next_tie hs _ p 0 0 hp W hw (.inl ⟨rfl, rfl, hR2⟩))
  have e0 : Below W.heap.size W ((W.alloc (.cells #[.int .i64 0, .int .i64 0, .string ⟨#[]⟩, .slice none 0 0, .slice none 0 0] 26)).alloc (.cells #[.int .i64 5, .int .i64 0, .string ⟨#[]⟩, .slice none 0 0, .slice none 0 0] 26)) :=
    ((Below.refl _ _).alloc (Nat.le_refl _) _).alloc (by simp) _
  have hnw := two_new W #[.int .i64 0, .int .i64 0, .string ⟨#[]⟩, .slice none 0 0, .slice none 0 0] #[.int .i64 5, .int .i64 0, .string ⟨#[]⟩, .slice none 0 0, .slice none 0 0] 26 26
  have HIH := Lib.hid (fun D p hf kI o1 z1 v1 n1 pp oo ee W h hT => value_tie (R := R) hs m f lv hlv ih ihb D p hf kI o1 z1 v1 n1 pp oo ee W h hT)
  have HST := Lib.hid (fun w1 q o2 e2 (hO : Only b _ w1) (hq : Qr w0 b s q o2 e2 w1) => Lq.start (k := 5) h (Nat.le_refl (W.heap.size + 2)) hnw.1 hnw.2.1 e0 (by omega) hO hq)
  have h0 := h.next e0
  have hz2 := hnw.2.2
  have HF := Lib.hid hf
  clear hR hR2 ih ihb hnw h e0 hf
  go_enter Tryz.func31, Tryz.ntmps31
  go_wp2_with fail
  refine (HN.out _ h0).mono ?_
  rintro e w1 ⟨hO1, kI, o1, z1, v1, n1, pp, oo, ee, rfl, hq1, hp1a, hp1b, hT1⟩
  have HT1 := Lib.hid hT1
  have hls := (HST.out w1 pp oo ee hO1 hq1).next ((Below.refl w1.heap.size w1).alloc (Nat.le_refl _) (.cells #[.int .i64 kI, .int .i64 (o1 : Int), .int .i64 (z1 : Int), .string v1, .int .i64 n1] 41))
  have bt : Box (w1.alloc (.cells #[.int .i64 kI, .int .i64 (o1 : Int), .int .i64 (z1 : Int), .string v1, .int .i64 n1] 41)) w1.heap.size #[.int .i64 kI, .int .i64 (o1 : Int), .int .i64 (z1 : Int), .string v1, .int .i64 n1] := box_new _ _
  have hgt : W.heap.size + 2 ≤ w1.heap.size := by have := hO1.size; omega
  have hls := hls.rebase (N' := w1.heap.size + 1) (by omega) (by simp)
  clear hT1 HN HST hO1 hq1 h0 hz2
  by_cases hk : kI = 2
  · have hkb : (kI == 2) = true := by rw [hk]; rfl
    have HK : Hid (Kt R oo ee (R = .ok (.mk 5 0 ⟨#[]⟩ [] []) pp)) := Lib.hid (by
      rcases HT1.out with ⟨a1, a2, t, a3, _, _, _, _, _, _, a4⟩ | ⟨_, a1, _⟩
      · refine .inl ⟨a1, a2, ?_⟩
        rw [a4]
        have : t.k = 2 := by omega
        show Oc _ _ f [] [] t (decide (t.k ≠ 2)) pp = _
        rw [show decide (t.k ≠ 2) = false by simp [this]]
        rfl
      · omega)
    have hone := Tre.InS_one (Tre.InS_in _ _ (hls.oj.made 5 0 ⟨#[]⟩))
    have HMD := Lib.hid (hls.oj.made 5 0 ⟨#[]⟩)
    have lw := Below.refl W.heap.size (w1.alloc (.cells #[.int .i64 kI, .int .i64 (o1 : Int), .int .i64 (z1 : Int), .string v1, .int .i64 n1] 41))
    have hbz := hls.bz
    have hbx := hls.bl
    have hon := hls.on
    have hpr := hls.pr
    clear HT1 HIH HF bt hk hls
    go_wp2_with (first
      | (refine Tre.wpList_fetch _ rfl _ rfl (W.heap.size + 1) _ rfl hbx rfl ?_)
      | (refine Tre.wpList_keep _ rfl _ _ rfl W.heap.size _ lw W.heap.size (Nat.le_refl _) _ _ rfl rfl hbz rfl rfl hone ?_; intro w9 bx9 hb9 hk9 hs9; clear hs9))
    (try simp only [Exit.inBlock, Exit.then])
    refine bodyPost_ret (Tre.results_val rfl _ _ _ _ rfl bx9 rfl) rfl ?_
    exact ⟨hon.low2 hb9, _, _, _, _, _, rfl, InS_upd (fun b' hb' _ => ⟨hk9 b' (by omega), by omega⟩) _ _ HMD.out, hpr.low hb9 hbl hwz, HK.out⟩
  · have hkb : (kI == 2) = false := by rw [beq_eq_false_iff_ne]; exact hk
    have HT : Hid ((ee = 0 → s.size + 1 ≤ f + pp) ∧ TkT s.data.toList R (fun t q => Oc (nt s.data.toList) (fun t p => val (nt s.data.toList) f t lv p) f [] [] t true q) p kI o1 z1 v1 n1 pp oo ee) := Lib.hid (by
      refine ⟨fun _ => by have := HF.out; omega, ?_⟩
      rcases HT1.out with ⟨a1, a2, t, a3, a4, a5, a6, a7, a8, a9, a10⟩ | a
      · refine .inl ⟨a1, a2, t, a3, a4, a5, a6, a7, a8, a9, ?_⟩
        rw [a10]
        have : t.k ≠ 2 := by omega
        show Oc _ _ f [] [] t (decide (t.k ≠ 2)) pp = Oc _ _ f [] [] t true pp
        rw [decide_eq_true this]
      · exact .inr a)
    clear HT1 hk
    go_wp2_with fail
    generalize hW1 : w1.alloc (.cells #[.int .i64 kI, .int .i64 (o1 : Int), .int .i64 (z1 : Int), .string v1, .int .i64 n1] 41) = w2 at *
    generalize w1.heap.size = gt at *
    clear hW1
    go_loopw [] (fun wr => ∃ (kI : Int) (o1 z1 : Nat) (v1 : ByteArray) (n1 : Int) (pp oo ee g : Nat) (acc : List Vt) (ns : List ByteArray) (c3 c4 : Value) (D : List (List Value)), Box wr gt #[.int .i64 kI, .int .i64 (o1 : Int), .int .i64 (z1 : Int), .string v1, .int .i64 n1] ∧
        Lq w0 b s 5 W W.heap.size (gt + 1) c3 D acc c4 ns pp oo ee wr ∧ Hid (ns.length = acc.length) ∧ acc.length ≤ pp ∧ pp ≤ s.size ∧ p ≤ pp ∧
        s.size + 1 ≤ g + pp ∧ Hid (TkT s.data.toList R (fun t q => Oc (nt s.data.toList) (fun t p => val (nt s.data.toList) f t lv p) g ns acc t true q) p kI o1 z1 v1 n1 pp oo ee))
      (fun wr => s.size - (RowKit.intOf ((wr.cell? ⟨b, 1, none⟩).getD undef)).toNat)
    case atStart => exact ⟨kI, o1, z1, v1, n1, pp, oo, ee, f, [], [], _, _, [], bt, hls, Lib.hid rfl, by simp, hp1b, hp1a, by have := HF.out; omega, Lib.hid HT.out.2⟩
    case round =>
      clear hls bt HT hkb hp1a hp1b
      obtain ⟨kI, o1, z1, v1, n1, pp, oo, ee, g, acc, ns, c3, c4, D, bt, hls, hnl, hal, hpp, hpl, hfu, HT⟩ := hrel
      obtain ⟨g, rfl⟩ : ∃ g', g = g' + 1 := by
        cases g with
        | zero => omega
        | succ g => exact ⟨g, rfl⟩
      replace HT : Hid (TkT s.data.toList R (fun t q => bnd (nam (nt s.data.toList) ns t q) (Kc (nt s.data.toList) (fun t p => val (nt s.data.toList) f t lv p) g ns acc)) p kI o1 z1 v1 n1 pp oo ee) := Lib.hid (by
        rcases HT.out with ⟨a1, a2, t, a3, a4, a5, a6, a7, a8, a9, a10⟩ | a
        · exact .inl ⟨a1, a2, t, a3, a4, a5, a6, a7, a8, a9, a10.trans (Oc_step _ _ g ns acc t pp)⟩
        · exact .inr a)
      have hm0 := hls.pr.c1
      have hgb : gt ≠ b := by omega
      have hnn : ns.length ≤ 1000000 := by rw [hnl.out]; omega
      have r0 : wr.cell? ⟨gt, 0, none⟩ = some (.int .i64 kI) := bt.cell 0
      go_upto_if 17 with fail
      go_cut [] from 15 to 60 (fun wx => ∃ o2 e2, Lq w0 b s 5 W W.heap.size (gt + 1) c3 D acc c4 ns pp o2 e2 wx ∧ Box wx gt #[.int .i64 kI, .int .i64 (o1 : Int), .int .i64 (z1 : Int), .string v1, .int .i64 n1] ∧ Hid (Kt R o2 e2 (Ga (nt s.data.toList) (fun t p => val (nt s.data.toList) f t lv p) g ns acc R o1 v1 pp)))
      case first =>
        by_cases hk7 : kI = 7
        · have hkb : (kI != 7) = false := by rw [hk7]; rfl
          have HK : Hid (Kt R oo ee (Ga (nt s.data.toList) (fun t p => val (nt s.data.toList) f t lv p) g ns acc R o1 v1 pp)) := Lib.hid (by
            rcases HT.out with ⟨a1, a2, t, a3, a4, a5, a6, a7, a8, a9, a10⟩ | ⟨_, a1, _⟩
            · refine .inl ⟨a1, a2, ?_⟩
              replace a10 := a10.trans (nam_yes (nt s.data.toList) ns pp (Kc (nt s.data.toList) (fun t p => val (nt s.data.toList) f t lv p) g ns acc) (show t.k = 7 by omega))
              unfold Ga
              rw [a4, a6]
              exact a10
            · omega)
          clear hk7 HT
          go_wp2_with fail
          go_meet
          case rel => exact ⟨_, _, hls, bt, HK⟩
        · have hkb : (kI != 7) = true := by rw [bne_iff_ne]; exact hk7
          have HW := Lib.hid (wrong_tie _ p kI o1 z1 v1 n1 pp oo ee wr hls.pr HT.out (fun t ht => nam_no _ _ _ _ (show t.k ≠ 7 by omega)))
          clear hk7 HT
          go_wp2_with (refine Lx.wpList_fetch _ rfl _ rfl gt _ rfl bt rfl ?_)
          refine HW.out.mono ?_
          rintro e w3 ⟨hO3, rfl, o3, e3, hq3, he3, hR3⟩
          have HK : Hid (Kt R o3 e3 (Ga (nt s.data.toList) (fun t p => val (nt s.data.toList) f t lv p) g ns acc R o1 v1 pp)) := Lib.hid (.inr ⟨he3, hR3⟩)
          have bt3 := hO3.box bt hgb
          have ls3 := hls.nextO hO3 hq3
          clear hR3 HW hls bt
          go_wp2_with fail
          go_meet
          case rel => exact ⟨_, _, ls3, bt3, HK⟩
      case rest =>
        rename World => wa
        obtain ⟨o2, e2, hls, bt, HK⟩ := hcut
        clear r0 HT
        have hbx := hls.bl
        have y4 : wa.cell? ⟨W.heap.size + 1, 4, none⟩ = some c4 := hbx.cell 4
        have r1 : wa.cell? ⟨gt, 1, none⟩ = some (.int .i64 (o1 : Int)) := bt.cell 1
        have r3 : wa.cell? ⟨gt, 3, none⟩ = some (.string v1) := bt.cell 3
        have HTw := Lib.hid (rtwice_any ns c4 v1 wa hls.oj.r4.row (by omega))
        generalize hI : isin ns v1 = I at *
        have HI := Lib.hid hI
        clear hI
        go_upto_if 25 with (go_at_call 49; (with_reducible refine HTw.out.mono ?_); rintro e w3 ⟨rfl, rfl⟩)
        go_cut [] from 15 to 60 (fun wx => ∃ o2 e2, Lq w0 b s 5 W W.heap.size (gt + 1) c3 D acc c4 ns pp o2 e2 wx ∧ Box wx gt #[.int .i64 kI, .int .i64 (o1 : Int), .int .i64 (z1 : Int), .string v1, .int .i64 n1] ∧ Hid (Kt R o2 e2 (R = bnd (nt s.data.toList pp) fun t2 q2 => if t2.k = 5 then Kc (nt s.data.toList) (fun t p => val (nt s.data.toList) f t lv p) g ns acc v1 q2 else refu t2)))
        case first =>
          cases I with
          | false =>
            have HK2 : Hid (Kt R o2 e2 (R = bnd (nt s.data.toList pp) fun t2 q2 => if t2.k = 5 then Kc (nt s.data.toList) (fun t p => val (nt s.data.toList) f t lv p) g ns acc v1 q2 else refu t2)) := Lib.hid (HK.out.map fun h => by unfold Ga at h; rwa [if_neg (by rw [HI.out]; simp)] at h)
            go_wp2_with fail
            go_meet
            case rel => exact ⟨_, _, hls, bt, HK2⟩
          | true =>
            have HFl := Lib.hid (fail_tie (s := s) (R := R) o1 11 pp o2 e2 (by omega) _ hls.pr (HK.out.map fun h => by unfold Ga at h; rwa [if_pos HI.out] at h))
            go_wp2_with fail
            refine HFl.out.mono ?_
            rintro e w3 ⟨hO3, rfl, o3, e3, hq3, he3, hR3⟩
            have HK2 : Hid (Kt R o3 e3 (R = bnd (nt s.data.toList pp) fun t2 q2 => if t2.k = 5 then Kc (nt s.data.toList) (fun t p => val (nt s.data.toList) f t lv p) g ns acc v1 q2 else refu t2)) := Lib.hid (.inr ⟨he3, hR3⟩)
            have bt3 := hO3.box bt hgb
            have ls3 := hls.nextO hO3 hq3
            clear hR3 HFl
            go_wp2_with fail
            go_meet
            case rel => exact ⟨_, _, ls3, bt3, HK2⟩
        case rest =>
          rename World => wb
          clear hls bt hbx y4 r1 r3 HK HTw
          obtain ⟨o2, e2, hls, bt, HK⟩ := hcut
          have hbx := hls.bl
          have y4 : wb.cell? ⟨W.heap.size + 1, 4, none⟩ = some c4 := hbx.cell 4
          have r3 : wb.cell? ⟨gt, 3, none⟩ = some (.string v1) := bt.cell 3
          have own4 := hls.oj.r4
          have OJ := Lib.hid hls.oj
          have LS := Lib.hid hls
          have hlimN : (ns.length + 1) * 16 ≤ 140737488355328 := by omega
          have hwz5 := hls.hz
          clear hls
          go_upto_region 10 with (refine wpList_npush _ rfl (.tmp 31) (.tmp 34) rfl (gt + 1) c4 ns rfl (own4.alloc _) (by simp; omega) _ _ rfl v1 (0, 0) (heap_alloc_new _ _) hlimN ?_; intro v' w4 hv4 hg4 hk4; obtain ⟨a9, n9, p9, e9⟩ : ∃ a n p, v' = .slice a n p := (by obtain ⟨x, y, q, _⟩ := hv4.row.open_; exact ⟨_, _, _, q⟩); subst e9; have ls4 := LS.out.pushN (Only.refl b wb) LS.out.pr hv4 hg4 hk4; have f3 : w4.cell? ⟨W.heap.size + 1, 4, none⟩ = some c4 := ls4.1.cell 4; have ff : ∀ j, w4.frozen? ⟨W.heap.size + 1, j, none⟩ = false := fun j => ls4.1.free j)
          have ls5 := ls4.2.1
          have bt5 : Box (w4.setCell ⟨W.heap.size + 1, 4, none⟩ (.slice a9 n9 p9)) gt _ := (ls4.2.2 gt (by have := bt.lt; omega) (by omega) (OJ.out.ne4 bt (by decide))).trans bt
          clear ls4 f3 ff hk4 hg4 hv4 own4 bt hbx y4 r3 LS OJ hlimN hwz5 HI
          generalize w4.setCell ⟨W.heap.size + 1, 4, none⟩ (.slice a9 n9 p9) = w5 at *
          have HN := Lib.hid (next_tie hs _ pp o2 e2 hpp w5 ls5.pr HK.out)
          go_upto_if 41 with (go_at_call 16; refine HN.out.mono ?_; rintro e w6 ⟨hO6, kI2, o6, z6, v6, n6, pp2, oo2, ee2, rfl, hq6, hp6a, hp6b, hT6⟩; have HT6 := Lib.hid hT6; clear hT6)
          have ec : Below w6.heap.size w6 (w6.alloc (.cells #[.int .i64 kI2, .int .i64 (o6 : Int), .int .i64 (z6 : Int), .string v6, .int .i64 n6] 41)) := (Below.refl _ _).alloc (Nat.le_refl _) _
          have ls7 := (ls5.nextO hO6 hq6).next ec
          have bt7 := (hO6.box bt5 hgb).next ec (hO6.box bt5 hgb).lt
          have b7 : Box (w6.alloc (.cells #[.int .i64 kI2, .int .i64 (o6 : Int), .int .i64 (z6 : Int), .string v6, .int .i64 n6] 41)) w6.heap.size #[.int .i64 kI2, .int .i64 (o6 : Int), .int .i64 (z6 : Int), .string v6, .int .i64 n6] := box_new _ _
          have hg6 : w6.heap.size ≠ b := by have := hq6.lt; omega
          clear HN HK ls5 bt5 hO6 hq6 ec
          go_cut [] from 15 to 60 (fun wx => ∃ o3 e3, Lq w0 b s 5 W W.heap.size (gt + 1) c3 D acc (.slice a9 n9 p9) (ns ++ [v1]) pp2 o3 e3 wx ∧ Box wx gt #[.int .i64 kI, .int .i64 (o1 : Int), .int .i64 (z1 : Int), .string v1, .int .i64 n1] ∧ Hid (Kt R o3 e3 (R = Kc (nt s.data.toList) (fun t p => val (nt s.data.toList) f t lv p) g ns acc v1 pp2)))
          case first =>
            by_cases hk5 : kI2 = 5
            · have hkb : (kI2 != 5) = false := by rw [hk5]; rfl
              have HK2 : Hid (Kt R oo2 ee2 (R = Kc (nt s.data.toList) (fun t p => val (nt s.data.toList) f t lv p) g ns acc v1 pp2)) := Lib.hid (by
                rcases HT6.out with ⟨a1, a2, t, a3, _, _, _, _, _, _, a10⟩ | ⟨_, a1, _⟩
                · exact .inl ⟨a1, a2, a10.trans (if_pos (by omega))⟩
                · omega)
              clear hk5 HT6
              go_wp2_with fail
              go_meet
              case rel => exact ⟨_, _, ls7, bt7, HK2⟩
            · have hkb : (kI2 != 5) = true := by rw [bne_iff_ne]; exact hk5
              have HW := Lib.hid (wrong_tie _ pp kI2 o6 z6 v6 n6 pp2 oo2 ee2 _ ls7.pr HT6.out (fun t ht => if_neg (by omega)))
              clear hk5 HT6
              go_wp2_with (refine Lx.wpList_fetch _ rfl _ rfl w6.heap.size _ rfl b7 rfl ?_)
              refine HW.out.mono ?_
              rintro e w3 ⟨hO3, rfl, o3, e3, hq3, he3, hR3⟩
              have HK2 : Hid (Kt R o3 e3 (R = Kc (nt s.data.toList) (fun t p => val (nt s.data.toList) f t lv p) g ns acc v1 pp2)) := Lib.hid (.inr ⟨he3, hR3⟩)
              have bt3 := hO3.box bt7 hgb
              have ls3 := ls7.nextO hO3 hq3
              clear hR3 HW
              go_wp2_with fail
              go_meet
              case rel => exact ⟨_, _, ls3, bt3, HK2⟩
          case rest =>
            rename World => wd
            clear ls7 bt7 b7 hg6 HT6
            obtain ⟨o3, e3, hls, bt, HK⟩ := hcut
            have hd0 : Below wd.heap.size wd wd.drew := (Below.refl _ _).drew
            have HN := Lib.hid (next_tie hs (fun t3 q3 => bnd (val (nt s.data.toList) f t3 lv q3) fun v p4 => bnd (fol (nt s.data.toList) 2 p4) fun x p5 => Oc (nt s.data.toList) (fun t p => val (nt s.data.toList) f t lv p) g (ns ++ [v1]) (acc ++ [v]) x.1 x.2 p5) pp2 o3 e3 hp6b wd.drew (hls.pr.next hd0) HK.out)
            have hbx := hls.bl
            have y0 : wd.cell? ⟨W.heap.size + 1, 3, none⟩ = some c3 := hbx.cell 3
            have OJ := Lib.hid hls.oj
            have LS := Lib.hid hls
            have hlim : (D.length + 1) * 80 ≤ 140737488355328 := by
              have := hls.oj.len
              omega
            have hwrz := hls.hz
            have hpp2 : p ≤ pp2 := by omega
            clear hls HK
            go_wp2_with fail
            go_region_law (first
              | (refine Tre.step_vpush _ (by rfl) (.tmp 46) (.tmp 52) (by rfl) (gt + 1) c3 D (by rfl) (own2.alloc _) (by simp; omega) _ _ (by rfl) _ (by exact Tre.box_new _ _) e5 e1 hlim ?_; intro v' w4 hv4 hg4 hk4; obtain ⟨a8, n8, p8, e8⟩ : ∃ a n p, v' = .slice a n p := (by obtain ⟨x, y, q, _⟩ := hv4.open_; exact ⟨_, _, _, q⟩); subst e8; have ls4 := LS.out.pushV hOu hq9 hz3 hI9 hv4 hg4 hk4; have f3 : w4.cell? ⟨W.heap.size + 1, 3, none⟩ = some c3 := ls4.1.cell 3; have ff : ∀ j, w4.frozen? ⟨W.heap.size + 1, j, none⟩ = false := fun j => ls4.1.free j)
              | (go_simp; go_at_call 15; (with_reducible refine (HIH.out _ p HF.out kI3 o4 z4 v4 n4 pp3 oo3 ee3 _ hq3 HT3.out).mono ?_); rintro e w9 ⟨hO9, v, es, p1, x1, y1, rfl, hI9, hq9, hK9⟩; have HK3 := Lib.hid hK9; clear hK9; have hOu := hO3.undrew.trans hO9; have bx9 := hOu.boxV hbx (by omega); have q9 : w9.cell? ⟨W.heap.size + 1, 3, none⟩ = some c3 := bx9.cell 3; have qa : ∀ o, (w9.alloc o).cell? ⟨W.heap.size + 1, 3, none⟩ = some c3 := fun o => (World.cell?_of_block (a := ⟨W.heap.size + 1, 3, none⟩) (Below.heap_alloc w9 o _ bx9.lt)).trans q9; have own2 := (OJ.out.keepO hOu (by omega)).r3; have i2 := Tre.InS_in _ _ hI9; have e5 := Tre.InV_five i2; have e1 := Tre.InS_one i2; obtain ⟨ea, ep, ec, ees⟩ := val_cells i2; subst ees; have hz3 : wd.heap.size ≤ w3.heap.size := hO3.size; have hsz5 : wd.heap.size ≤ w9.heap.size := hOu.size)
              | (go_simp; go_at_call 16; (with_reducible refine HN.out.mono ?_); rintro e w3 ⟨hO3, kI3, o4, z4, v4, n4, pp3, oo3, ee3, rfl, hq3, hp3a, hp3b, hT3⟩; have HT3 := Lib.hid (hT3.low hpp2); clear hT3; have y3 : w3.cell? ⟨W.heap.size + 1, 3, none⟩ = some c3 := (hO3.undrew.boxV hbx (by omega)).cell 3))
            all_goals
              have ls5 := ls4.2.1
              have bt5 : Box (w4.setCell ⟨W.heap.size + 1, 3, none⟩ (.slice a8 n8 p8)) gt _ := (ls4.2.2 gt (by have := bt.lt; omega) (by omega) (OJ.out.ne3 bt (by decide))).trans (hOu.box bt hgb)
              try clear y3
              clear ls4 f3 ff hk4 hg4 hv4 e5 e1 own2 q9 qa bx9 hI9 hq9 hO9 hOu hO3 hq3 HT3 hz3 bt hbx y0 LS OJ i2 hd0
              generalize w4.setCell ⟨W.heap.size + 1, 3, none⟩ (.slice a8 n8 p8) = w5 at *
              have HMo := Lib.hid (more_tie hs (fun t d q => Oc (nt s.data.toList) (fun t p => val (nt s.data.toList) f t lv p) g (ns ++ [v1]) (acc ++ [v]) t d q) 2 (by omega) (by omega) p1 x1 y1 (by rcases HK3.out with ⟨_, _, _, a, b, _⟩ | ⟨a, _⟩; exact .inl b; exact .inr a) w5 ls5.pr (HK3.out.map fun h => h.2.2.2))
              go_wp2_with fail
              refine HMo.out.mono ?_
              rintro e w6 ⟨hO6, bm, p2, o7, e7, rfl, hq6, hyes, hno⟩
              have ls6 := ls5.nextO hO6 hq6
              have bt6 := hO6.box bt5 hgb
              have HK6 := Lib.hid hno
              have HY6 := Lib.hid hyes
              clear hyes hno HMo ls5 bt5 hO6 hq6
              cases bm with
              | false =>
                have HK7 : Hid (Kt R o7 e7 (R = .ok (.mk 5 0 ⟨#[]⟩ (acc ++ [v]) (ns ++ [v1])) p2)) := Lib.hid ((HK6.out rfl).map fun ⟨t, h⟩ => h)
                have hone := Tre.InS_one (Tre.InS_in _ _ (ls6.oj.made 5 0 ⟨#[]⟩))
                have HMD := Lib.hid (ls6.oj.made 5 0 ⟨#[]⟩)
                have lw := Below.refl W.heap.size w6
                have hbz := ls6.bz
                have hbx := ls6.bl
                have hon := ls6.on
                have hpr := ls6.pr
                clear HK6 HY6 HIH HF bt6 HK3 ls6
                go_wp2_with (first
                  | (refine Tre.wpList_fetch _ rfl _ rfl (W.heap.size + 1) _ rfl hbx rfl ?_)
                  | (refine Tre.wpList_keep _ rfl _ _ rfl W.heap.size _ lw W.heap.size (Nat.le_refl _) _ _ rfl rfl hbz rfl rfl hone ?_; intro w9 bx9 hb9 hk9 hs9; clear hs9))
                (try simp only [Exit.inBlock, Exit.then])
                refine bodyPost_ret (Tre.results_val rfl _ _ _ _ rfl bx9 rfl) rfl ?_
                exact ⟨hon.low2 hb9, _, _, _, _, _, rfl, InS_upd (fun b' hb' _ => ⟨hk9 b' (by omega), by omega⟩) _ _ HMD.out, hpr.low hb9 hbl hwz, HK7.out⟩
              | true =>
                have hy := HY6.out rfl
                obtain ⟨rfl, h7, h8, rfl, rfl, hR7⟩ := hy
                have hpp1 : pp3 ≤ p1 := by rcases HK3.out with ⟨_, _, _, a, _⟩ | ⟨a, _⟩; exact a; exact absurd rfl a
                have HN2 := Lib.hid (next_tie hs _ p2 0 0 h8 w6 ls6.pr (.inl ⟨rfl, rfl, hR7⟩))
                have hnl2 : Hid ((ns ++ [v1]).length = (acc ++ [v]).length) := Lib.hid (by simp [hnl.out])
                clear HY6 HK6 hR7
                go_wp2_with fail
                refine HN2.out.mono ?_
                rintro e w7 ⟨hO7, kI7, o8, z7, v7, n7, pp7, oo7, ee7, rfl, hq7, hp7a, hp7b, hT7⟩
                have HT7 := Lib.hid (hT7.low (show p ≤ p2 by omega))
                have bt7 := hO7.box bt6 hgb
                have ls7 := ls6.nextO hO7 hq7
                have lw := Below.refl gt w7
                have hgt7 := bt7.lt
                clear hT7 hO7 hq7 ls6 bt6 HN2
                go_wp2_with (refine Lx.wpList_keep _ rfl _ _ rfl gt _ lw gt (Nat.le_refl _) _ _ _ _ _ _ rfl rfl bt7 rfl ?_; intro w8 bx8 hb8 hk8)
                have ls8 : Lq w0 b s 5 W W.heap.size (gt + 1) _ _ (acc ++ [v]) _ (ns ++ [v1]) pp7 oo7 ee7 w8 := ls7.store gt (by omega) (by omega) hb8 hk8
                have hm1 := ls8.pr.c1
                go_roundw
                case rel => exact ⟨_, _, _, _, _, _, _, _, _, _, _, _, _, _, _, _, _, _, _, _, _, _, _, _, _, _, _, _, _, _, _, _, _, _, _, _, _, _, _, _, _, _, _, _, _, _, _, ⟨kI7, o8, z7, v7, n7, pp7, oo7, ee7, g, acc ++ [v], ns ++ [v1], _, _, _, bx8, ls8, hnl2, by simp; omega, hp7b, by omega, by omega, HT7⟩, rfl⟩
                case measure => rw [hm0, hm1]; simp [RowKit.intOf]; omega
end Go.Proofs.YteinaclkpickaaaGreatDoor.Par
