/- Laws of sets of rules: SetthreeCanon, out of what the code's calls answer. Conditions: as each theorem states. -/
import Derived.Test.YtoodiledcphclaaDoorThrP3
import Derived.Deep.RegionHeld3
namespace Go.Proofs.YtoodiledcphclaaDoor.Thr
open Go.RowKit Go.Lib
open Go.Proofs.YtoodiledcphclaaDoor.Rul (Ru zero Row Own ruC ruL rga chk can cn)
open Go.Proofs.YtoodiledcphclaaDoor.Ide (lt)

theorem openN {w : World} {v : Value} {L : List Ru} {n : Nat} (h : Row w v L) (hn : L.length = n) : ∃ a cap, v = .slice a n cap ∧ n ≤ cap ∧ ∀ j, j < n → ∃ b off, a = some ⟨b, off, none⟩ ∧ w.rangeAt b (off + j * 13) (ruL (ga L j)) := by
  subst hn; exact h.open_
theorem own_empty (W : World) (B g : Nat) (hg : g = W.heap.size) (hB : B ≤ g) : Own (W.alloc (.cells #[] 30)) B (.slice (some ⟨g, 0, none⟩) 0 0) [] := by
  subst hg
  exact Rul.own_lit W B hB [] (by decide)
/-- What is told of each place of the canonical form. -/
theorem place {L : List Ru} (h : Rs L) {i : Nat} (hi : i < L.length) : ∃ n : Nat, fd L (ga (scn L) i).id = n ∧ fk L (ga (scn L) i).id = true ∧ n < L.length ∧ (ga L n).id = (ga (scn L) i).id := by
  obtain ⟨n, h1, h2, h3⟩ := fd_scn h (i := i) (by rw [scn_len h]; exact hi)
  exact ⟨n, h1, by unfold fk; rw [h1]; exact decide_eq_true (Int.natCast_nonneg n), h2, h3⟩
theorem before {L : List Ru} (h : Rs L) {j : Nat} (hi : j + 1 < L.length) : Op.bytesLess (ga (scn L) (j + 1)).id.toList (ga (scn L) j).id.toList = false ∧ ((ga (scn L) (j + 1)).id.toList == (ga (scn L) j).id.toList) = false := by
  have := rises_at (scn_rises h) (i := j + 1) (by omega) (by rw [scn_len h]; exact hi)
  rw [Nat.add_sub_cancel] at this
  refine ⟨Ide.lt_asymm this, Rul.str_ne fun e => ?_⟩
  rw [e, Ide.lt_irrefl] at this
  cases this

set_option maxHeartbeats 8000000 in
set_option maxRecDepth 100000 in
theorem canon_ok_of (HCN : CnP) (HIS : IsP) (HFD : FdP) (HSM : SmP) (HAW : AwP) (L : List Ru) (v : Value) (q : Int) (w : World) (hr : Row w v L) (hl : L.length ≤ 9223372036854775807) (hs : Fit L) (hE : Ev w) (q0 : 0 ≤ q) (q1 : q ≤ 255) (hlg : lgS L = true) (hrs : Rs L) :
    Calls Tryd.prog 3 #[v, .int .u8 q] w fun e w' => e = .returned (.bool true) ∧ Below w.heap.size w w' := by
  have HLG := Lib.hid (light_any L v w hr hl hs)
  have HR := Lib.hid hr
  have HE := Lib.hid hE
  have HAWh := Lib.hid fun W (k : Ev W) => HAW W k
  rw [hlg] at HLG
  have h5 := (lgS_iff hlg).1
  have hmod := mod_of hlg
  have hcl := scn_len hrs
  have hrc := scn_right hrs
  have hmc : Mod (scn L) := fun r hr => by
    have hm := (scn_perm hrs).mem_iff.1 hr
    obtain ⟨x, hx, rfl⟩ := List.mem_map.1 hm
    have := hmod x hx
    have hk := Rul.can_keeps (hrs.rt x hx)
    rw [hk.1, hk.2.1, hk.2.2.1]
    exact this
  have H1 := Lib.hid fun W (h : Row W v L) (k : Ev W) => HCN L v W h h5 hmod k
  rw [sck_ok hrs] at H1
  have H2 := Lib.hid fun u W (h : Row W u (scn L)) (k : Ev W) => HIS (scn L) u W h (by rw [hcl]; exact h5) hmc k
  rw [isC_scn hrs] at H2
  have H3 := Lib.hid fun u W (h : Row W u (scn L)) (k : Row W v L) => HSM (scn L) L u v W h k (by omega) hl
  have H4 := Lib.hid fun W (h : Row W v L) (k : Ev W) => HIS L v W h h5 hmod k
  rw [isC_ok hrs] at H4
  have H5 := Lib.hid fun s W (h : Row W v L) => HFD L v s W h hl
  have HPL := Lib.hid fun i => @place L hrs i
  have HBF := Lib.hid fun j => @before L hrs j
  have H6 := Lib.hid fun (t : Nat) (_ : t ≤ L.length) u W (h : Row W u (L.drop t ++ L.take t)) (k : Ev W) => (show Calls Tryd.prog 7 #[u] W fun e w' => ∃ v', e = .returned (.tuple #[v', .string ⟨#[]⟩, .int .i64 0]) ∧ Row w' v' (scn L) ∧ Below W.heap.size W w' by
    have hp : L.Perm (L.drop t ++ L.take t) := by
      have := (List.perm_append_comm (l₁ := L.take t) (l₂ := L.drop t))
      rwa [List.take_append_drop] at this
    have := HCN (L.drop t ++ L.take t) u W h (by rw [← hp.length_eq]; exact h5) (fun r hr => hmod r (hp.mem_iff.2 hr)) k
    rw [sck_ok (right_perm hp hrs), scn_turn hp hrs] at this
    exact this)
  have H7 := Lib.hid fun u1 u2 W (h : Row W u1 (scn L)) (k : Row W u2 (scn L)) => HSM (scn L) (scn L) u1 u2 W h k (by omega) (by omega)
  rw [sm_self] at H7
  have HCL := Lib.hid hcl
  clear hr hs hE hlg HAW HCN HIS HFD HSM hmod hcl hrc hmc hrs
  generalize scn L = C at *
  generalize sm C L = b at *
  obtain ⟨a0, c0, hv0, hcap0, hc0⟩ := openN HR.out rfl
  subst hv0
  have HC0 := Lib.hid hc0
  clear hc0
  have z2 : (b == b) = true := beq_self_eq_true _
  have z3 : (b != b) = false := by cases b <;> rfl
  go_enter Tryd.func3, Tryd.ntmps3
  go_wp2_with (first
    | (go_at_call 5; (with_reducible refine HLG.out.mono ?_); rintro e w1 ⟨rfl, rfl⟩)
    | (go_at_call 7; (with_reducible refine (H1.out _ HR.out HE.out).mono ?_); rintro e w1 ⟨v1, rfl, hr1, hb1⟩; obtain ⟨a1, c1, rfl, hcap1, hc1⟩ := openN hr1 HCL.out; have R1 := Lib.hid hr1; have B1 := Lib.hid hb1; have HC1 := Lib.hid hc1; clear hr1 hb1 hc1)
    | (go_at_call 8; first
      | ((with_reducible refine (H2.out _ _ R1.out (HE.out.next B1.out)).mono ?_); rintro e w2 ⟨rfl, hb2⟩; have D2 := Lib.hid hb2; clear hb2)
      | ((with_reducible refine (H4.out _ (HR.out.next (B1.out.trans (D3.out.mono B1.out.size))) (HE.out.next (B1.out.trans (D3.out.mono B1.out.size)))).mono ?_); rintro e w4 ⟨rfl, hb4⟩; have D4 := Lib.hid (D3.out.trans (hb4.mono D3.out.size)); clear hb4))
    | (go_at_call 9; (with_reducible refine (H3.out _ _ (R1.out.next D2.out) (HR.out.next (B1.out.trans (D2.out.mono B1.out.size)))).mono ?_); rintro e w3 ⟨rfl, hb3⟩; have D3 := Lib.hid (D2.out.trans (hb3.mono D2.out.size)); clear hb3))
  clear HLG H1 H2 H3 H4
  go_loopw [58] (fun i wr => ∃ m : Nat, i = .int .i64 (m : Int) ∧ m ≤ L.length ∧ Hid (Below w1.heap.size w1 wr)) (fun i _ => L.length - (RowKit.intOf i).toNat)
  case atStart => exact ⟨0, rfl, Nat.zero_le _, D4⟩
  case round =>
    obtain ⟨m, rfl, hk, HB⟩ := hrel
    have HBW := Lib.hid (B1.out.trans (HB.out.mono B1.out.size))
    by_cases hlt : m < L.length
    · obtain ⟨n, e1, e2, hn, e3⟩ := HPL.out m hlt
      have HF := H5.out (ga C m).id
      rw [e1, e2] at HF
      have HF := Lib.hid HF
      obtain ⟨b1, o1, rfl, x1⟩ := HC1.out m hlt
      obtain ⟨b0, o0, rfl, x0⟩ := HC0.out n hn
      have y1 : w1.cell? ⟨b1, o1 + m * 13, none⟩ = some (.string (ga C m).id) := x1 0 _ rfl
      have y0 : w.cell? ⟨b0, o0 + n * 13, none⟩ = some (.string (ga L n).id) := x0 0 _ rfl
      rw [e3] at y0
      have Y1 := Lib.hid y1; have Y0 := Lib.hid y0
      have c1m : wr.cell? ⟨b1, o1 + m * 13, none⟩ = some (.string (ga C m).id) := (HB.out.cell (Rul.lt_of_cell y1)).trans y1
      have p1 := Lib.hid fun W (hb : Below w1.heap.size w1 W) => (hb.cell (Rul.lt_of_cell y1)).trans y1
      have p0 := Lib.hid fun W (hb : Below w.heap.size w W) => (hb.cell (Rul.lt_of_cell y0)).trans y0
      clear x0 x1 y0 y1 e1 e2 e3
      have hq1 : ((ga C m).id.toList == (ga C m).id.toList) = true := beq_self_eq_true _
      by_cases h0 : 0 < m
      · obtain ⟨j, hj⟩ : ∃ j, m = j + 1 := ⟨m - 1, by omega⟩
        obtain ⟨g1, g2⟩ := HBF.out j (by omega)
        rw [← hj] at g1 g2
        have hjm : (m : Int) - 1 = (j : Int) := by omega
        have hjl : (j : Int) < (L.length : Int) := by omega
        obtain ⟨b1', o1', hab, x1⟩ := HC1.out j (by omega)
        injection hab with hab
        injection hab with e4 e5
        subst e4 e5
        have y1 : w1.cell? ⟨b1, o1 + j * 13, none⟩ = some (.string (ga C j).id) := x1 0 _ rfl
        have c1j : wr.cell? ⟨b1, o1 + j * 13, none⟩ = some (.string (ga C j).id) := (HB.out.cell (Rul.lt_of_cell y1)).trans y1
        clear x1 y1
        generalize (ga C m).id = x at *
        generalize (ga C j).id = y at *
        clear hj
        go_wp2_with fail
        go_region
        go_wp2_with (go_at_call 10; (with_reducible refine (HF.out _ (HR.out.next HBW.out.drew)).mono ?_); rintro e w5 ⟨rfl, hb5⟩; have D5 := Lib.hid (HB.out.drew.trans (hb5.mono HB.out.size)); have B5 := Lib.hid (B1.out.trans (D5.out.mono B1.out.size)); have f1 := p1.out _ D5.out; have f0 := p0.out _ B5.out; clear hb5)
        have hs0 := And.intro D5.out.drew (And.intro (p1.out _ D5.out.drew) (p0.out _ B5.out.drew))
        have gn1 : ((n : Nat) : Int) < (L.length : Int) := by omega
        have gn2 : decide (((n : Nat) : Int) < 0) = false := decide_eq_false (by omega)
        have gn3 : decide ((L.length : Int) ≤ ((n : Nat) : Int)) = false := decide_eq_false (by omega)
        have gn4 : decide (L.length ≤ n) = false := decide_eq_false (by omega)
        have gn5 : decide (n < L.length) = true := decide_eq_true (by omega)
        have gn6 : decide (((n : Nat) : Int) < (L.length : Int)) = true := decide_eq_true (by omega)
        have gn7 : decide ((0 : Int) ≤ ((n : Nat) : Int)) = true := decide_eq_true (by omega)
        have gn8 : decide (((m : Nat) : Int) < (L.length : Int)) = true := decide_eq_true (by omega)
        have gn9 : decide (m < L.length) = true := decide_eq_true (by omega)
        clear f1 f0 c1m
        go_region_held3 (fun w' => Below w1.heap.size w1 w' ∧ w'.cell? ⟨b1, o1 + m * 13, none⟩ = some (.string x) ∧ w'.cell? ⟨b0, o0 + n * 13, none⟩ = some (.string x)) (first | exact hs0 | assumption) (fail)
        go_wp2_with fail
        go_roundw
        case rel => exact ⟨m + 1, by go_num, by omega, Lib.hid (And.left (by assumption))⟩
        case measure => simp [RowKit.intOf]; omega
      · generalize (ga C m).id = x at *
        go_wp2_with fail
        go_region
        go_wp2_with (go_at_call 10; (with_reducible refine (HF.out _ (HR.out.next HBW.out.drew)).mono ?_); rintro e w5 ⟨rfl, hb5⟩; have D5 := Lib.hid (HB.out.drew.trans (hb5.mono HB.out.size)); have B5 := Lib.hid (B1.out.trans (D5.out.mono B1.out.size)); have f1 := p1.out _ D5.out; have f0 := p0.out _ B5.out; clear hb5)
        have hs0 := And.intro D5.out.drew (And.intro (p1.out _ D5.out.drew) (p0.out _ B5.out.drew))
        have gn1 : ((n : Nat) : Int) < (L.length : Int) := by omega
        have gn2 : decide (((n : Nat) : Int) < 0) = false := decide_eq_false (by omega)
        have gn3 : decide ((L.length : Int) ≤ ((n : Nat) : Int)) = false := decide_eq_false (by omega)
        have gn4 : decide (L.length ≤ n) = false := decide_eq_false (by omega)
        have gn5 : decide (n < L.length) = true := decide_eq_true (by omega)
        have gn6 : decide (((n : Nat) : Int) < (L.length : Int)) = true := decide_eq_true (by omega)
        have gn7 : decide ((0 : Int) ≤ ((n : Nat) : Int)) = true := decide_eq_true (by omega)
        have gn8 : decide (((m : Nat) : Int) < (L.length : Int)) = true := decide_eq_true (by omega)
        have gn9 : decide (m < L.length) = true := decide_eq_true (by omega)
        clear f1 f0 c1m
        go_region_held3 (fun w' => Below w1.heap.size w1 w' ∧ w'.cell? ⟨b1, o1 + m * 13, none⟩ = some (.string x) ∧ w'.cell? ⟨b0, o0 + n * 13, none⟩ = some (.string x)) (first | exact hs0 | assumption) (fail)
        go_wp2_with fail
        go_roundw
        case rel => exact ⟨m + 1, by go_num, by omega, Lib.hid (And.left (by assumption))⟩
        case measure => simp [RowKit.intOf]; omega
    · obtain rfl : m = L.length := by omega
      clear HPL HBF H5 HC1
      by_cases h0 : 0 < L.length
      · obtain ⟨b0, o0, rfl, -⟩ := HC0.out 0 h0
        obtain ⟨t, ht⟩ : ∃ t : Nat, q % (L.length : Int) = (t : Int) := ⟨(q % (L.length : Int)).toNat, by have := Int.emod_nonneg q (show (L.length : Int) ≠ 0 by omega); omega⟩
        have htl : t < L.length := by have := Int.emod_lt_of_pos q (show (0 : Int) < (L.length : Int) by omega); omega
        have HRT := Lib.hid fun W (hb : Below w.heap.size w W) => Rul.Row.take (HR.out.next hb) t (by omega)
        have HRD := Lib.hid fun W (hb : Below w.heap.size w W) => Rul.Row.drop (HR.out.next hb) t (by omega)
        have HX := Lib.hid (H6.out t (by omega))
        have L1 := Lib.hid (show ([] : List Ru).length + (L.drop t).length ≤ 1000000000 by rw [List.length_drop, List.length_nil]; omega)
        have L2 := Lib.hid (show ([] ++ L.drop t).length + (L.take t).length ≤ 1000000000 by rw [List.nil_append, List.length_drop, List.length_take]; omega)
        have gt1 : (t : Int) < (L.length : Int) := by omega
        have gt2 : t < c0 := by omega
        have gt3 : ¬ c0 = t := by omega
        have gt4 : (t : Int) ≤ (L.length : Int) := by omega
        have gt5 : (t : Int) ≤ (c0 : Int) := by omega
        have gt6 : (0 : Int) ≤ (t : Int) := by omega
        clear H6 HC0
        go_wp2_with fail
        go_region_law (first
          | (refine Rul.step_pushRow _ (by rfl) (.tmp 122) (.tmp 125) (by rfl) wr.heap.size wr _ (.slice (some ⟨b0, o0 + t * 13, none⟩) (L.length - t) (c0 - t)) [] (L.drop t) (by rfl) (by rfl) (own_empty wr _ _ rfl (Nat.le_refl _)) (((Below.refl _ _).alloc (Nat.le_refl _) _).drew) (Nat.le_refl _) (HRD.out _ ((HBW.out.alloc HBW.out.size _).drew)) L1.out ?_; intro v7 w7 o7 b7 g7; have O7 := Lib.hid o7; have B7 := Lib.hid b7; clear o7 b7 g7)
          | (refine Rul.step_pushRow _ (by rfl) (.tmp 126) (.tmp 129) (by rfl) wr.heap.size wr v7 (.slice (some ⟨b0, o0, none⟩) t c0) ([] ++ L.drop t) (L.take t) (by rfl) (by rfl) O7.out B7.out (Nat.le_refl _) (HRT.out _ (HBW.out.trans (B7.out.mono HBW.out.size))) L2.out ?_; intro v8 w8 o8 b8 g8; rw [List.nil_append] at o8; have O8 := Lib.hid o8; have B8 := Lib.hid b8; clear o8 b8 g8)
          | (go_simp; go_at_call 7; (with_reducible refine (HX.out _ _ (by exact O8.out.row) (HE.out.next (HBW.out.trans (B8.out.mono HBW.out.size)))).mono ?_); rintro e w9 ⟨v9, rfl, hr9, hb9⟩; have B9 := Lib.hid (B8.out.trans (hb9.mono B8.out.size)); have R9 := Lib.hid hr9; clear hb9 hr9))
        all_goals
          go_wp2_with (first
            | (go_at_call 9; (with_reducible refine (H7.out _ _ _ (R1.out.next (HB.out.trans (B9.out.mono HB.out.size))) R9.out).mono ?_); rintro e wa ⟨rfl, hba⟩; have BA := Lib.hid ((HBW.out.trans (B9.out.mono HBW.out.size)).trans (hba.mono (by have := HBW.out.size; have := B9.out.size; omega))); clear hba)
            | (go_at_call 6; (with_reducible refine (HAWh.out _ (HE.out.next BA.out)).mono ?_); rintro e wb ⟨rfl, hbb⟩))
          go_ret
          exact ⟨rfl, BA.out.trans (hbb.mono BA.out.size)⟩
      · obtain rfl : L = [] := List.eq_nil_of_length_eq_zero (by omega)
        have HX := Lib.hid fun u W (h : Row W u []) => H6.out 0 (Nat.le_refl _) u W h
        have L1 := Lib.hid (show ([] : List Ru).length + ([] : List Ru).length ≤ 1000000000 by decide)
        clear H6 HC0 hk hlt h0 hl hcap0 hcap1
        have R1z := Lib.hid (show Row w1 (.slice a1 0 c1) C from R1.out)
        cases a0 with
        | none =>
          go_wp2_with fail
          go_region_law (first
            | (refine Rul.step_pushRow _ (by rfl) (.tmp 122) (.tmp 125) (by rfl) wr.heap.size wr _ (.slice none 0 c0) [] [] (by rfl) (by rfl) (own_empty wr _ _ rfl (Nat.le_refl _)) (((Below.refl _ _).alloc (Nat.le_refl _) _).drew) (Nat.le_refl _) (nil_row _ _ _) L1.out ?_; intro v7 w7 o7 b7 g7; have O7 := Lib.hid o7; have B7 := Lib.hid b7; clear o7 b7 g7)
            | (refine Rul.step_pushRow _ (by rfl) (.tmp 126) (.tmp 129) (by rfl) wr.heap.size wr v7 (.slice none 0 c0) ([] ++ []) [] (by rfl) (by rfl) O7.out B7.out (Nat.le_refl _) (nil_row _ _ _) L1.out ?_; intro v8 w8 o8 b8 g8; rw [List.nil_append, List.nil_append] at o8; have O8 := Lib.hid o8; have B8 := Lib.hid b8; clear o8 b8 g8)
            | (go_simp; go_at_call 7; (with_reducible refine (HX.out _ _ (by exact O8.out.row) (HE.out.next (HBW.out.trans (B8.out.mono HBW.out.size)))).mono ?_); rintro e w9 ⟨v9, rfl, hr9, hb9⟩; have B9 := Lib.hid (B8.out.trans (hb9.mono B8.out.size)); have R9 := Lib.hid hr9; clear hb9 hr9))
          all_goals
            go_wp2_with (first
              | (go_at_call 9; (with_reducible refine (H7.out _ _ _ (R1z.out.next (HB.out.trans (B9.out.mono HB.out.size))) R9.out).mono ?_); rintro e wa ⟨rfl, hba⟩; have BA := Lib.hid ((HBW.out.trans (B9.out.mono HBW.out.size)).trans (hba.mono (by have := HBW.out.size; have := B9.out.size; omega))); clear hba)
              | (go_at_call 6; (with_reducible refine (HAWh.out _ (HE.out.next BA.out)).mono ?_); rintro e wb ⟨rfl, hbb⟩))
            go_ret
            exact ⟨rfl, BA.out.trans (hbb.mono BA.out.size)⟩
        | some ad =>
          go_wp2_with fail
          go_region_law (first
            | (refine Rul.step_pushRow _ (by rfl) (.tmp 122) (.tmp 125) (by rfl) wr.heap.size wr _ (.slice (some ad) 0 c0) [] [] (by rfl) (by rfl) (own_empty wr _ _ rfl (Nat.le_refl _)) (((Below.refl _ _).alloc (Nat.le_refl _) _).drew) (Nat.le_refl _) (nil_row _ _ _) L1.out ?_; intro v7 w7 o7 b7 g7; have O7 := Lib.hid o7; have B7 := Lib.hid b7; clear o7 b7 g7)
            | (refine Rul.step_pushRow _ (by rfl) (.tmp 126) (.tmp 129) (by rfl) wr.heap.size wr v7 (.slice (some ad) 0 c0) ([] ++ []) [] (by rfl) (by rfl) O7.out B7.out (Nat.le_refl _) (nil_row _ _ _) L1.out ?_; intro v8 w8 o8 b8 g8; rw [List.nil_append, List.nil_append] at o8; have O8 := Lib.hid o8; have B8 := Lib.hid b8; clear o8 b8 g8)
            | (go_simp; go_at_call 7; (with_reducible refine (HX.out _ _ (by exact O8.out.row) (HE.out.next (HBW.out.trans (B8.out.mono HBW.out.size)))).mono ?_); rintro e w9 ⟨v9, rfl, hr9, hb9⟩; have B9 := Lib.hid (B8.out.trans (hb9.mono B8.out.size)); have R9 := Lib.hid hr9; clear hb9 hr9))
          all_goals
            go_wp2_with (first
              | (go_at_call 9; (with_reducible refine (H7.out _ _ _ (R1z.out.next (HB.out.trans (B9.out.mono HB.out.size))) R9.out).mono ?_); rintro e wa ⟨rfl, hba⟩; have BA := Lib.hid ((HBW.out.trans (B9.out.mono HBW.out.size)).trans (hba.mono (by have := HBW.out.size; have := B9.out.size; omega))); clear hba)
              | (go_at_call 6; (with_reducible refine (HAWh.out _ (HE.out.next BA.out)).mono ?_); rintro e wb ⟨rfl, hbb⟩))
            go_ret
            exact ⟨rfl, BA.out.trans (hbb.mono BA.out.size)⟩
end Go.Proofs.YtoodiledcphclaaDoor.Thr
