/- Laws of sets of rules of version 2: SettwoCanon, out of what the code's calls answer. Conditions: as each theorem states. -/
import Derived.Test.YthkopnobekohcaaDoorTwoG
import Derived.Test.YthkopnobekohcaaDoorUniD
import Derived.Deep.RegionHeld3
import Derived.Deep.QuietTactic
import Derived.BigQuiet
namespace Go.Proofs.YthkopnobekohcaaDoor.Two
open Go.RowKit Go.Lib
open Go.Proofs.YthkopnobekohcaaDoor.Ide (lt)
open Go.Proofs.YthkopnobekohcaaDoor.Uni (tV tE okT)

theorem openN {w : World} {v : Value} {L : List Rw} {n : Nat} (h : Row w v L) (hn : L.length = n) : ∃ a cap, v = .slice a n cap ∧ n ≤ cap ∧ ∀ j, j < n → ∃ b off, a = some ⟨b, off, none⟩ ∧ w.rangeAt b (off + j * 9) (ruL (ga L j)) := by
  subst hn; exact h.open_
theorem own_empty (W : World) (B g : Nat) (hg : g = W.heap.size) (hB : B ≤ g) : Own (W.alloc (.cells #[] 30)) B (.slice (some ⟨g, 0, none⟩) 0 0) [] := by
  subst hg
  exact own_lit W B hB [] (by decide)
theorem nil_row2 (w : World) (a : Option Addr) (cap : Nat) : Row w (.slice a 0 cap) [] := .inl ⟨rfl, _, _, rfl⟩
theorem before {L : List Rw} (h : Rs L) {j : Nat} (hi : j + 1 < L.length) : Op.bytesLess (ga (scn L) (j + 1)).id.toList (ga (scn L) j).id.toList = false ∧ ((ga (scn L) (j + 1)).id.toList == (ga (scn L) j).id.toList) = false := by
  have := rises_at (scn_rises h) (i := j + 1) (by omega) (by rw [scn_len h]; exact hi)
  rw [Nat.add_sub_cancel] at this
  refine ⟨Ide.lt_asymm this, Byt.str_neq fun e => ?_⟩
  rw [e, Ide.lt_irrefl] at this
  cases this

/-- Who has the name of a rule of the canonical form. -/
theorem back_at {L : List Rw} (h : Rs L) {i j : Nat} (hi : i < L.length) (hj : j < L.length) (e : (ga (scn L) i).id = (ga L j).id) : ga (scn L) i = can (ga L j) := by
  have hm := ga_mem (L := scn L) (i := i) (by rw [scn_len h]; exact hi)
  obtain ⟨q, hq, e2⟩ := List.mem_map.1 ((scn_perm h).mem_iff.1 hm)
  obtain ⟨p, hp, rfl⟩ := mem_ga hq
  rw [← e2, (can_keeps (h.rt _ hq)).1] at e
  rw [← e2]
  have hn := (nodup_ga L).1 h.nd
  rcases Nat.lt_trichotomy p j with k | rfl | k
  · exact absurd e (hn j hj p k)
  · rfl
  · exact absurd e.symm (hn p hp j k)
theorem can_tV {r : Rw} (h : Rt r) : tV (can r).wi (can r).un = tV r.wi r.un := by
  rcases h.ki with ⟨k, _, a, _⟩ | ⟨k, _⟩
  · rw [can_one k]; exact tV_back a
  · rw [can_two (by omega)]
theorem can_bu {r : Rw} (h : r.bu ≠ 0) : (can r).bu = r.bu := by
  by_cases k : r.ki = 1
  · rw [can_one k]; exact if_neg h
  · rw [can_two k]
theorem pair {L : List Rw} (h : Rs L) {i j : Nat} (hi : i < L.length) (hj : j < L.length) (e : (ga (scn L) i).id = (ga L j).id) :
    tV (ga (scn L) i).wi (ga (scn L) i).un = tV (ga L j).wi (ga L j).un ∧ (ga (scn L) i).li = (ga L j).li ∧ (ga (scn L) i).ma = (ga L j).ma ∧ ((ga L j).bu ≠ 0 → (ga (scn L) i).bu = (ga L j).bu) := by
  rw [back_at h hi hj e]
  have hr := h.rt _ (ga_mem hj)
  have k := can_keeps hr
  exact ⟨can_tV hr, k.2.2.2.1, k.2.2.1, can_bu⟩
theorem rt_win {r : Rw} (h : Rt r) : -9223372036854775808 ≤ r.wi ∧ r.wi ≤ 9223372036854775807 := by
  rcases h.ki with ⟨_, _, a, _⟩ | ⟨_, _, _, a, _⟩
  · have := (Uni.okT_iff _ _).1 a
    omega
  · omega
theorem drawn (W : World) (n : Nat) : Below W.heap.size W (W.drewN n) := ⟨rfl, rfl, rfl, Nat.le_refl _, fun _ _ => rfl⟩
theorem ticks_q (n u : Int) (n0 : -9223372036854775808 ≤ n ∧ n ≤ 9223372036854775807) (W : World) (hT : Uni.Tab W) (m : Nat) :
    Calls Tryd.prog 9 #[.int .i64 n, .int .i64 u] (W.drewN m) fun e w'' => e = .returned (.tuple #[.int .i64 (tV n u), .int .i64 (tE n u 15 2)]) ∧ ∃ k, w'' = W.drewN k :=
  (Uni.ticks_at n u _ _ rfl rfl n0.1 n0.2 (W.drewN m) (hT.next (drawn W m))).mono fun _ _ ⟨a, b⟩ => ⟨a, m, b.symm⟩

set_option maxHeartbeats 8000000 in
set_option maxRecDepth 100000 in
theorem canon_ok_of (HCN : CnP) (HIS : IsP) (HAW : AwP) (L : List Rw) (v : Value) (q : Int) (w : World) (hr : Row w v L) (hl : L.length ≤ 9223372036854775807) (hs : Fit L) (hE : Ev w) (q0 : 0 ≤ q) (q1 : q ≤ 255) (hlg : lgS L = true) (hrs : Rs L) :
    Calls Tryd.prog 3 #[v, .int .u8 q] w fun e w' => e = .returned (.bool true) ∧ Below w.heap.size w w' := by
  have HLG := Lib.hid (light_any L v w hr hl hs)
  have HR := Lib.hid hr
  have HE := Lib.hid hE
  have HAWh := Lib.hid fun W (k : Ev W) => HAW W k
  rw [hlg] at HLG
  have h5 := (lgS_iff hlg).1
  have hmod := mod_of hs hlg
  have hcl := scn_len hrs
  have hrc := scn_right hrs
  have hmc : Mod (scn L) := fun r hr => by
    obtain ⟨x, hx, e⟩ := List.mem_map.1 ((scn_perm hrs).mem_iff.1 hr)
    have k := can_keeps (hrs.rt _ hx)
    have hm := hmod x hx
    have := rt_win (hrc.rt r hr)
    rw [e] at k
    rw [k.1, k.2.1, k.2.2.1]
    exact ⟨hm.1, hm.2.1, hm.2.2.1, this⟩
  have H1 := Lib.hid fun W (h : Row W v L) (k : Ev W) => HCN L v W h h5 hmod k
  rw [sck_ok hrs] at H1
  have H2 := Lib.hid fun u W (h : Row W u (scn L)) (k : Ev W) => HIS (scn L) u W h (by rw [hcl]; exact h5) hmc k
  rw [isC_scn hrs] at H2
  have H3 := Lib.hid fun u W (h : Row W u (scn L)) (k : Row W v L) => same_any (scn L) L u v W h k (by omega) hl
  have H4 := Lib.hid fun W (h : Row W v L) (k : Ev W) => HIS L v W h h5 hmod k
  rw [isC_ok hrs] at H4
  have HBK := Lib.hid fun i j => @pair L hrs i j
  have HTI := Lib.hid fun n u h W (k : Uni.Tab W) m => ticks_q n u h W k m
  have HWL := Lib.hid fun i (h : i < L.length) => rt_win (hrs.rt _ (ga_mem h))
  have HWC := Lib.hid fun i (h : i < L.length) => rt_win (hrc.rt _ (ga_mem (L := scn L) (i := i) (by rw [hcl]; exact h)))
  have HBF := Lib.hid fun j => @before L hrs j
  have H6 := Lib.hid fun (t : Nat) (_ : t ≤ L.length) u W (h : Row W u (L.drop t ++ L.take t)) (k : Ev W) => (show Calls Tryd.prog 6 #[u] W fun e w' => ∃ v', e = .returned (.tuple #[v', .string ⟨#[]⟩, .int .i64 0]) ∧ Row w' v' (scn L) ∧ Below W.heap.size W w' by
    have hp : L.Perm (L.drop t ++ L.take t) := by
      have := (List.perm_append_comm (l₁ := L.take t) (l₂ := L.drop t))
      rwa [List.take_append_drop] at this
    have := HCN (L.drop t ++ L.take t) u W h (by rw [← hp.length_eq]; exact h5) (fun r hr => hmod r (hp.mem_iff.2 hr)) k
    rw [sck_ok (right_perm hp hrs), scn_turn hp hrs] at this
    exact this)
  have H7 := Lib.hid fun u1 u2 W (h : Row W u1 (scn L)) (k : Row W u2 (scn L)) => same_any (scn L) (scn L) u1 u2 W h k (by omega) (by omega)
  rw [sm_self] at H7
  have HCL := Lib.hid hcl
  clear hr hs hE hlg HAW HCN HIS hmod hcl hrc hmc hrs
  generalize scn L = C at *
  generalize sm C L = b at *
  obtain ⟨a0, c0, hv0, hcap0, hc0⟩ := openN HR.out rfl
  subst hv0
  have HC0 := Lib.hid hc0
  clear hc0
  have z2 : (b == b) = true := beq_self_eq_true _
  have z3 : (b != b) = false := by cases b <;> rfl
  go_enter Tryd.func3, Tryd.ntmps3
  go_wp2_with (first
    | (go_at_call 4; (with_reducible refine HLG.out.mono ?_); rintro e w1 ⟨rfl, rfl⟩)
    | (go_at_call 6; (with_reducible refine (H1.out _ HR.out HE.out).mono ?_); rintro e w1 ⟨v1, rfl, hr1, hb1⟩; obtain ⟨a1, c1, rfl, hcap1, hc1⟩ := openN hr1 HCL.out; have R1 := Lib.hid hr1; have B1 := Lib.hid hb1; have HC1 := Lib.hid hc1; clear hc1 hr1 hb1)
    | (go_at_call 7; first
      | ((with_reducible refine (H2.out _ _ R1.out (HE.out.next B1.out)).mono ?_); rintro e w2 ⟨rfl, hb2⟩; have D2 := Lib.hid hb2; clear hb2)
      | ((with_reducible refine (H4.out _ (HR.out.next (B1.out.trans (D3.out.mono B1.out.size))) (HE.out.next (B1.out.trans (D3.out.mono B1.out.size)))).mono ?_); rintro e w4 ⟨rfl, hb4⟩; have D4 := Lib.hid (D3.out.trans (hb4.mono D3.out.size)); clear hb4))
    | (go_at_call 8; (with_reducible refine (H3.out _ _ (R1.out.next D2.out) (HR.out.next (B1.out.trans (D2.out.mono B1.out.size)))).mono ?_); rintro e w3 ⟨rfl, hb3⟩; have D3 := Lib.hid (D2.out.trans (hb3.mono D2.out.size)); clear hb3))
  clear HLG H1 H2 H3 H4
  go_loopw [61] (fun i wr => ∃ m : Nat, i = .int .i64 (m : Int) ∧ m ≤ L.length ∧ Hid (Below w1.heap.size w1 wr)) (fun i _ => L.length - (RowKit.intOf i).toNat)
  case atStart => exact ⟨0, rfl, Nat.zero_le _, D4⟩
  case round =>
    obtain ⟨m, rfl, hk, HB⟩ := hrel
    have HBW := Lib.hid (B1.out.trans (HB.out.mono B1.out.size))
    by_cases hlt : m < L.length
    · obtain ⟨b1, o1, rfl, xc1⟩ := HC1.out m hlt
      have XC1 := Lib.hid xc1
      have c1m : wr.cell? ⟨b1, o1 + m * 9, none⟩ = some (.string (ga C m).id) := (HB.out.cell (lt_of_cell (xc1 0 _ rfl))).trans (xc1 0 _ rfl)
      clear xc1
      have gk : (m : Int) < (L.length : Int) := by omega
      have g0 : (0 : Int) ≤ (m : Int) := by omega
      by_cases h0 : 0 < m
      · obtain ⟨j, hj⟩ : ∃ j, m = j + 1 := ⟨m - 1, by omega⟩
        obtain ⟨g1, g2⟩ := HBF.out j (by omega)
        rw [← hj] at g1 g2
        have hjm : (m : Int) - 1 = (j : Int) := by omega
        have hjl : (j : Int) < (L.length : Int) := by omega
        obtain ⟨b1', o1', hab, xj⟩ := HC1.out j (by omega)
        injection hab with hab
        injection hab with e4 e5
        subst e4 e5
        have c1j : wr.cell? ⟨b1, o1 + j * 9, none⟩ = some (.string (ga C j).id) := (HB.out.cell (lt_of_cell (xj 0 _ rfl))).trans (xj 0 _ rfl)
        clear xj
        generalize (ga C m).id = x at *
        generalize (ga C j).id = y at *
        have hwj : IntKind.i64.wrap ((m : Int) - 1) = (j : Int) := by rw [IntKind.wrap_i64]; omega
        have hwj2 : IntKind.i64.wrap (j : Int) = (j : Int) := by rw [IntKind.wrap_i64]; omega
        clear hj
        go_wp2_with fail
        go_quiet (fail)
        clear g1 g2 hjm hjl c1j c1m hwj hwj2
        have HB1 := Lib.hid (HB.out.trans ((drawn wr nq).mono HB.out.size))
        go_wp2_with fail
        clear HB HBW
        go_loopw [82] (fun i wr => ∃ n : Nat, i = .int .i64 (n : Int) ∧ n ≤ L.length ∧ Hid (Below w1.heap.size w1 wr)) (fun i _ => L.length - (RowKit.intOf i).toNat)
        case atStart => exact ⟨0, rfl, Nat.zero_le _, HB1⟩
        case round =>
          obtain ⟨n, rfl, hkn, HB2⟩ := hrel
          have HBW2 := Lib.hid (B1.out.trans (HB2.out.mono B1.out.size))
          by_cases hlt2 : n < L.length
          · obtain ⟨b0, o0, rfl, xc0⟩ := HC0.out n hlt2
            have XC0 := Lib.hid xc0
            have hwc := HWC.out m hlt
            have hwl := HWL.out n hlt2
            have hbk := HBK.out m n hlt hlt2
            clear xc0
            generalize ga C m = X at *
            generalize ga L n = Y at *
            have HT1 := Lib.hid fun W (k : Uni.Tab W) i => HTI.out X.wi X.un hwc W k i
            have HT2 := Lib.hid fun W (k : Uni.Tab W) i => HTI.out Y.wi Y.un hwl W k i
            generalize tE X.wi X.un 15 2 = ea at *
            generalize tE Y.wi Y.un 15 2 = eb at *
            generalize tV X.wi X.un = ta at *
            generalize tV Y.wi Y.un = tb at *
            obtain ⟨x0, x1, x2, x3, x4, x5, x6, x7, x8⟩ := X
            obtain ⟨z0, z1, y2, y3, z4, z5, z6, z7, z8⟩ := Y
            dsimp only at hbk HT1 HT2
            have gn : (n : Int) < (L.length : Int) := by omega
            have gn0 : (0 : Int) ≤ (n : Int) := by omega
            clear HTI HWC HWL HBK HBF H6 H7 hwc hwl
            have T1 := HE.out.uni.next HBW2.out
            obtain ⟨-, -, -, -, -, -, p6, p7, -⟩ := range_cells (rangeAt_next XC1.out HB2.out)
            dsimp only at p6 p7
            go_wp2_with fail
            go_quiet (first | (go_at_call 9; with_reducible exact HT1.out _ T1 _))
            have HB3 := Lib.hid (HB2.out.trans ((drawn wr nq).mono HB2.out.size))
            clear p6 p7 T1 HT1 HB2 HBW2
            generalize wr.drewN nq = wq at *
            have HBW3 := Lib.hid (B1.out.trans (HB3.out.mono B1.out.size))
            have T2 := HE.out.uni.next HBW3.out
            obtain ⟨-, -, -, -, -, -, r6, r7, -⟩ := range_cells (rangeAt_next XC0.out HBW3.out)
            dsimp only at r6 r7
            go_wp2_with fail
            go_quiet (first | (go_at_call 9; with_reducible exact HT2.out _ T2 _))
            have HB4 := Lib.hid (HB3.out.trans ((drawn wq nq).mono HB3.out.size))
            clear r6 r7 T2 HT2 HB3 HBW3
            generalize wq.drewN nq = ws at *
            have HBW4 := Lib.hid (B1.out.trans (HB4.out.mono B1.out.size))
            obtain ⟨p0, -, p2, -, -, p5, -, -, p8⟩ := range_cells (rangeAt_next XC1.out HB4.out)
            obtain ⟨r0, -, r2, -, -, r5, -, -, r8⟩ := range_cells (rangeAt_next XC0.out HBW4.out)
            dsimp only at p0 p2 p5 p8 r0 r2 r5 r8
            have HB5 := Lib.hid fun i => HB4.out.trans ((drawn ws i).mono HB4.out.size)
            clear HB4 HBW4
            by_cases he : z0 = x0
            · obtain ⟨e1, e2, e3, e4⟩ := hbk he.symm
              subst he e1 e2 e3
              have s0 : (z0.toList == z0.toList) = true := beq_self_eq_true _
              have s2 : (x2.toList != x2.toList) = false := by simp
              by_cases hb : z8 = 0
              · subst hb
                clear e4 hbk
                go_wp2_with fail
                go_quiet (fail)
                go_wp2_with fail
                go_roundw
                case rel => exact ⟨n + 1, by go_num, by omega, Lib.hid (HB5.out _)⟩
                case measure => simp [RowKit.intOf]; omega
              · have e5 := e4 hb
                subst e5
                have s8 : (x8 != 0) = true := by simpa using hb
                have s9 : (x8 != x8) = false := by simp
                clear e4 hbk hb
                go_wp2_with fail
                go_quiet (fail)
                go_wp2_with fail
                go_roundw
                case rel => exact ⟨n + 1, by go_num, by omega, Lib.hid (HB5.out _)⟩
                case measure => simp [RowKit.intOf]; omega
            · have s0 : (z0.toList == x0.toList) = false := Byt.str_neq he
              clear he hbk
              go_wp2_with fail
              go_quiet (fail)
              go_wp2_with fail
              go_roundw
              case rel => exact ⟨n + 1, by go_num, by omega, Lib.hid (HB5.out _)⟩
              case measure => simp [RowKit.intOf]; omega
          · obtain rfl : n = L.length := by omega
            go_wp2_with fail
            go_roundw
            case rel => exact ⟨m + 1, by go_num, by omega, HB2⟩
            case measure => simp [RowKit.intOf]; omega
      · have gz : ¬ (0 : Int) < (m : Int) := by omega
        go_wp2_with fail
        go_quiet (fail)
        clear c1m gz
        have HB1 := Lib.hid (HB.out.trans ((drawn wr nq).mono HB.out.size))
        go_wp2_with fail
        clear HB HBW
        go_loopw [82] (fun i wr => ∃ n : Nat, i = .int .i64 (n : Int) ∧ n ≤ L.length ∧ Hid (Below w1.heap.size w1 wr)) (fun i _ => L.length - (RowKit.intOf i).toNat)
        case atStart => exact ⟨0, rfl, Nat.zero_le _, HB1⟩
        case round =>
          obtain ⟨n, rfl, hkn, HB2⟩ := hrel
          have HBW2 := Lib.hid (B1.out.trans (HB2.out.mono B1.out.size))
          by_cases hlt2 : n < L.length
          · obtain ⟨b0, o0, rfl, xc0⟩ := HC0.out n hlt2
            have XC0 := Lib.hid xc0
            have hwc := HWC.out m hlt
            have hwl := HWL.out n hlt2
            have hbk := HBK.out m n hlt hlt2
            clear xc0
            generalize ga C m = X at *
            generalize ga L n = Y at *
            have HT1 := Lib.hid fun W (k : Uni.Tab W) i => HTI.out X.wi X.un hwc W k i
            have HT2 := Lib.hid fun W (k : Uni.Tab W) i => HTI.out Y.wi Y.un hwl W k i
            generalize tE X.wi X.un 15 2 = ea at *
            generalize tE Y.wi Y.un 15 2 = eb at *
            generalize tV X.wi X.un = ta at *
            generalize tV Y.wi Y.un = tb at *
            obtain ⟨x0, x1, x2, x3, x4, x5, x6, x7, x8⟩ := X
            obtain ⟨z0, z1, y2, y3, z4, z5, z6, z7, z8⟩ := Y
            dsimp only at hbk HT1 HT2
            have gn : (n : Int) < (L.length : Int) := by omega
            have gn0 : (0 : Int) ≤ (n : Int) := by omega
            clear HTI HWC HWL HBK HBF H6 H7 hwc hwl
            have T1 := HE.out.uni.next HBW2.out
            obtain ⟨-, -, -, -, -, -, p6, p7, -⟩ := range_cells (rangeAt_next XC1.out HB2.out)
            dsimp only at p6 p7
            go_wp2_with fail
            go_quiet (first | (go_at_call 9; with_reducible exact HT1.out _ T1 _))
            have HB3 := Lib.hid (HB2.out.trans ((drawn wr nq).mono HB2.out.size))
            clear p6 p7 T1 HT1 HB2 HBW2
            generalize wr.drewN nq = wq at *
            have HBW3 := Lib.hid (B1.out.trans (HB3.out.mono B1.out.size))
            have T2 := HE.out.uni.next HBW3.out
            obtain ⟨-, -, -, -, -, -, r6, r7, -⟩ := range_cells (rangeAt_next XC0.out HBW3.out)
            dsimp only at r6 r7
            go_wp2_with fail
            go_quiet (first | (go_at_call 9; with_reducible exact HT2.out _ T2 _))
            have HB4 := Lib.hid (HB3.out.trans ((drawn wq nq).mono HB3.out.size))
            clear r6 r7 T2 HT2 HB3 HBW3
            generalize wq.drewN nq = ws at *
            have HBW4 := Lib.hid (B1.out.trans (HB4.out.mono B1.out.size))
            obtain ⟨p0, -, p2, -, -, p5, -, -, p8⟩ := range_cells (rangeAt_next XC1.out HB4.out)
            obtain ⟨r0, -, r2, -, -, r5, -, -, r8⟩ := range_cells (rangeAt_next XC0.out HBW4.out)
            dsimp only at p0 p2 p5 p8 r0 r2 r5 r8
            have HB5 := Lib.hid fun i => HB4.out.trans ((drawn ws i).mono HB4.out.size)
            clear HB4 HBW4
            by_cases he : z0 = x0
            · obtain ⟨e1, e2, e3, e4⟩ := hbk he.symm
              subst he e1 e2 e3
              have s0 : (z0.toList == z0.toList) = true := beq_self_eq_true _
              have s2 : (x2.toList != x2.toList) = false := by simp
              by_cases hb : z8 = 0
              · subst hb
                clear e4 hbk
                go_wp2_with fail
                go_quiet (fail)
                go_wp2_with fail
                go_roundw
                case rel => exact ⟨n + 1, by go_num, by omega, Lib.hid (HB5.out _)⟩
                case measure => simp [RowKit.intOf]; omega
              · have e5 := e4 hb
                subst e5
                have s8 : (x8 != 0) = true := by simpa using hb
                have s9 : (x8 != x8) = false := by simp
                clear e4 hbk hb
                go_wp2_with fail
                go_quiet (fail)
                go_wp2_with fail
                go_roundw
                case rel => exact ⟨n + 1, by go_num, by omega, Lib.hid (HB5.out _)⟩
                case measure => simp [RowKit.intOf]; omega
            · have s0 : (z0.toList == x0.toList) = false := Byt.str_neq he
              clear he hbk
              go_wp2_with fail
              go_quiet (fail)
              go_wp2_with fail
              go_roundw
              case rel => exact ⟨n + 1, by go_num, by omega, Lib.hid (HB5.out _)⟩
              case measure => simp [RowKit.intOf]; omega
          · obtain rfl : n = L.length := by omega
            go_wp2_with fail
            go_roundw
            case rel => exact ⟨m + 1, by go_num, by omega, HB2⟩
            case measure => simp [RowKit.intOf]; omega
    · obtain rfl : m = L.length := by omega
      clear HBF HTI HBK HC1
      by_cases h0 : 0 < L.length
      · obtain ⟨b0, o0, rfl, -⟩ := HC0.out 0 h0
        obtain ⟨t, ht⟩ : ∃ t : Nat, q % (L.length : Int) = (t : Int) := ⟨(q % (L.length : Int)).toNat, by have := Int.emod_nonneg q (show (L.length : Int) ≠ 0 by omega); omega⟩
        have htl : t < L.length := by have := Int.emod_lt_of_pos q (show (0 : Int) < (L.length : Int) by omega); omega
        have HRT := Lib.hid fun W (hb : Below w.heap.size w W) => Row.take (HR.out.next hb) t (by omega)
        have HRD := Lib.hid fun W (hb : Below w.heap.size w W) => Row.drop (HR.out.next hb) t (by omega)
        have HX := Lib.hid (H6.out t (by omega))
        have L1 := Lib.hid (show ([] : List Rw).length + (L.drop t).length ≤ 1000000000 by rw [List.length_drop, List.length_nil]; omega)
        have L2 := Lib.hid (show ([] ++ L.drop t).length + (L.take t).length ≤ 1000000000 by rw [List.nil_append, List.length_drop, List.length_take]; omega)
        have gt1 : (t : Int) < (L.length : Int) := by omega
        have gt2 : t < c0 := by omega
        have gt3 : ¬ c0 = t := by omega
        have gt4 : (t : Int) ≤ (L.length : Int) := by omega
        have gt5 : (t : Int) ≤ (c0 : Int) := by omega
        have gt6 : (0 : Int) ≤ (t : Int) := by omega
        clear H6 HC0
        go_wp2_with fail
        go_region_law (first
          | (refine step_pushRow _ (by rfl) (.tmp 187) (.tmp 190) (by rfl) wr.heap.size wr _ (.slice (some ⟨b0, o0 + t * 9, none⟩) (L.length - t) (c0 - t)) [] (L.drop t) (by rfl) (by rfl) (own_empty wr _ _ rfl (Nat.le_refl _)) (((Below.refl _ _).alloc (Nat.le_refl _) _).drew) (Nat.le_refl _) (HRD.out _ ((HBW.out.alloc HBW.out.size _).drew)) L1.out ?_; intro v7 w7 o7 b7 g7; have O7 := Lib.hid o7; have B7 := Lib.hid b7; clear o7 b7 g7)
          | (refine step_pushRow _ (by rfl) (.tmp 191) (.tmp 194) (by rfl) wr.heap.size wr v7 (.slice (some ⟨b0, o0, none⟩) t c0) ([] ++ L.drop t) (L.take t) (by rfl) (by rfl) O7.out B7.out (Nat.le_refl _) (HRT.out _ (HBW.out.trans (B7.out.mono HBW.out.size))) L2.out ?_; intro v8 w8 o8 b8 g8; rw [List.nil_append] at o8; have O8 := Lib.hid o8; have B8 := Lib.hid b8; clear o8 b8 g8)
          | (go_simp; go_at_call 6; (with_reducible refine (HX.out _ _ (by exact O8.out.row) (HE.out.next (HBW.out.trans (B8.out.mono HBW.out.size)))).mono ?_); rintro e w9 ⟨v9, rfl, hr9, hb9⟩; have B9 := Lib.hid (B8.out.trans (hb9.mono B8.out.size)); have R9 := Lib.hid hr9; clear hb9 hr9))
        all_goals
          go_wp2_with (first
            | (go_at_call 8; (with_reducible refine (H7.out _ _ _ (R1.out.next (HB.out.trans (B9.out.mono HB.out.size))) R9.out).mono ?_); rintro e wa ⟨rfl, hba⟩; have BA := Lib.hid ((HBW.out.trans (B9.out.mono HBW.out.size)).trans (hba.mono (by have := HBW.out.size; have := B9.out.size; omega))); clear hba)
            | (go_at_call 5; (with_reducible refine (HAWh.out _ (HE.out.next BA.out)).mono ?_); rintro e wb ⟨rfl, hbb⟩))
          go_ret
          exact ⟨rfl, BA.out.trans (hbb.mono BA.out.size)⟩
      · obtain rfl : L = [] := List.eq_nil_of_length_eq_zero (by omega)
        have HX := Lib.hid fun u W (h : Row W u []) => H6.out 0 (Nat.le_refl _) u W h
        have L1 := Lib.hid (show ([] : List Rw).length + ([] : List Rw).length ≤ 1000000000 by decide)
        clear H6 HC0 hk hlt h0 hl hcap0 hcap1
        have R1z := Lib.hid (show Row w1 (.slice a1 0 c1) C from R1.out)
        cases a0 with
        | none =>
          go_wp2_with fail
          go_region_law (first
            | (refine step_pushRow _ (by rfl) (.tmp 187) (.tmp 190) (by rfl) wr.heap.size wr _ (.slice none 0 c0) [] [] (by rfl) (by rfl) (own_empty wr _ _ rfl (Nat.le_refl _)) (((Below.refl _ _).alloc (Nat.le_refl _) _).drew) (Nat.le_refl _) (nil_row2 _ _ _) L1.out ?_; intro v7 w7 o7 b7 g7; have O7 := Lib.hid o7; have B7 := Lib.hid b7; clear o7 b7 g7)
            | (refine step_pushRow _ (by rfl) (.tmp 191) (.tmp 194) (by rfl) wr.heap.size wr v7 (.slice none 0 c0) ([] ++ []) [] (by rfl) (by rfl) O7.out B7.out (Nat.le_refl _) (nil_row2 _ _ _) L1.out ?_; intro v8 w8 o8 b8 g8; rw [List.nil_append, List.nil_append] at o8; have O8 := Lib.hid o8; have B8 := Lib.hid b8; clear o8 b8 g8)
            | (go_simp; go_at_call 6; (with_reducible refine (HX.out _ _ (by exact O8.out.row) (HE.out.next (HBW.out.trans (B8.out.mono HBW.out.size)))).mono ?_); rintro e w9 ⟨v9, rfl, hr9, hb9⟩; have B9 := Lib.hid (B8.out.trans (hb9.mono B8.out.size)); have R9 := Lib.hid hr9; clear hb9 hr9))
          all_goals
            go_wp2_with (first
              | (go_at_call 8; (with_reducible refine (H7.out _ _ _ (R1z.out.next (HB.out.trans (B9.out.mono HB.out.size))) R9.out).mono ?_); rintro e wa ⟨rfl, hba⟩; have BA := Lib.hid ((HBW.out.trans (B9.out.mono HBW.out.size)).trans (hba.mono (by have := HBW.out.size; have := B9.out.size; omega))); clear hba)
              | (go_at_call 5; (with_reducible refine (HAWh.out _ (HE.out.next BA.out)).mono ?_); rintro e wb ⟨rfl, hbb⟩))
            go_ret
            exact ⟨rfl, BA.out.trans (hbb.mono BA.out.size)⟩
        | some ad =>
          go_wp2_with fail
          go_region_law (first
            | (refine step_pushRow _ (by rfl) (.tmp 187) (.tmp 190) (by rfl) wr.heap.size wr _ (.slice (some ad) 0 c0) [] [] (by rfl) (by rfl) (own_empty wr _ _ rfl (Nat.le_refl _)) (((Below.refl _ _).alloc (Nat.le_refl _) _).drew) (Nat.le_refl _) (nil_row2 _ _ _) L1.out ?_; intro v7 w7 o7 b7 g7; have O7 := Lib.hid o7; have B7 := Lib.hid b7; clear o7 b7 g7)
            | (refine step_pushRow _ (by rfl) (.tmp 191) (.tmp 194) (by rfl) wr.heap.size wr v7 (.slice (some ad) 0 c0) ([] ++ []) [] (by rfl) (by rfl) O7.out B7.out (Nat.le_refl _) (nil_row2 _ _ _) L1.out ?_; intro v8 w8 o8 b8 g8; rw [List.nil_append, List.nil_append] at o8; have O8 := Lib.hid o8; have B8 := Lib.hid b8; clear o8 b8 g8)
            | (go_simp; go_at_call 6; (with_reducible refine (HX.out _ _ (by exact O8.out.row) (HE.out.next (HBW.out.trans (B8.out.mono HBW.out.size)))).mono ?_); rintro e w9 ⟨v9, rfl, hr9, hb9⟩; have B9 := Lib.hid (B8.out.trans (hb9.mono B8.out.size)); have R9 := Lib.hid hr9; clear hb9 hr9))
          all_goals
            go_wp2_with (first
              | (go_at_call 8; (with_reducible refine (H7.out _ _ _ (R1z.out.next (HB.out.trans (B9.out.mono HB.out.size))) R9.out).mono ?_); rintro e wa ⟨rfl, hba⟩; have BA := Lib.hid ((HBW.out.trans (B9.out.mono HBW.out.size)).trans (hba.mono (by have := HBW.out.size; have := B9.out.size; omega))); clear hba)
              | (go_at_call 5; (with_reducible refine (HAWh.out _ (HE.out.next BA.out)).mono ?_); rintro e wb ⟨rfl, hbb⟩))
            go_ret
            exact ⟨rfl, BA.out.trans (hbb.mono BA.out.size)⟩
end Go.Proofs.YthkopnobekohcaaDoor.Two
