/- Laws of sets of rules: SetoneCanon, out of what the code's calls answer. Conditions: as each theorem states. -/
import Derived.Test.YtcdkibadnelgiaaDoorOneP3
import Derived.Deep.RegionHeld3
namespace Go.Proofs.YtcdkibadnelgiaaDoor.One
open Go.RowKit Go.Lib
open Go.Proofs.YtcdkibadnelgiaaDoor.Ren (Pw)
open Go.Proofs.YtcdkibadnelgiaaDoor.Ide (lt)

theorem openN {w : World} {v : Value} {L : List Ro} {n : Nat} (h : Row w v L) (hn : L.length = n) : ∃ a cap, v = .slice a n cap ∧ n ≤ cap ∧ ∀ j, j < n → ∃ b off, a = some ⟨b, off, none⟩ ∧ w.rangeAt b (off + j * 4) (ruL (ga L j)) := by
  subst hn; exact h.open_
theorem own_empty (W : World) (B g : Nat) (hg : g = W.heap.size) (hB : B ≤ g) : Own (W.alloc (.cells #[] 33)) B (.slice (some ⟨g, 0, none⟩) 0 0) [] := by
  subst hg
  exact own_lit W B hB [] (by decide)
theorem nil_row2 (w : World) (a : Option Addr) (cap : Nat) : Row w (.slice a 0 cap) [] := .inl ⟨rfl, _, _, rfl⟩
/-- What is told of each place of the canonical form. -/
theorem place {L : List Ro} (h : Rs L) {i : Nat} (hi : i < L.length) : ∃ n : Nat, n ≤ 1000000 ∧ Real.mn (ga (scn L) i).ps = n ∧ Real.me (ga (scn L) i).ps = 0 ∧ (ga (scn L) i).ps = thB n := by
  have hm := ga_mem (L := scn L) (i := i) (by rw [scn_len h]; exact hi)
  obtain ⟨q, _, e⟩ := List.mem_map.1 ((scn_perm h).mem_iff.1 hm)
  have hp : (ga (scn L) i).ps = thB (Real.mn q.ps) := by rw [← e]; rfl
  have := th_mn (mn_le q.ps)
  exact ⟨Real.mn q.ps, mn_le _, by rw [hp]; exact this.1, by rw [hp]; exact this.2, hp⟩
theorem s3_next {w0 W W' : World} {b o1 o2 o3 : Nat} {x y : ByteArray} {z : Nat} (h : Below w0.heap.size w0 W ∧ W.cell? ⟨b, o1, none⟩ = some (.string x) ∧ W.cell? ⟨b, o2, none⟩ = some (.float .f64 z) ∧ W.cell? ⟨b, o3, none⟩ = some (.string y)) (hb : Below W.heap.size W W') :
    Below w0.heap.size w0 W' ∧ W'.cell? ⟨b, o1, none⟩ = some (.string x) ∧ W'.cell? ⟨b, o2, none⟩ = some (.float .f64 z) ∧ W'.cell? ⟨b, o3, none⟩ = some (.string y) := by
  obtain ⟨h0, h1, h2, h3⟩ := h
  exact ⟨h0.trans (hb.mono h0.size), (hb.cell (lt_of_cell h1)).trans h1, (hb.cell (lt_of_cell h2)).trans h2, (hb.cell (lt_of_cell h3)).trans h3⟩
theorem before {L : List Ro} (h : Rs L) {j : Nat} (hi : j + 1 < L.length) : Op.bytesLess (ga (scn L) (j + 1)).nm.toList (ga (scn L) j).nm.toList = false ∧ ((ga (scn L) (j + 1)).nm.toList == (ga (scn L) j).nm.toList) = false := by
  have := rises_at (scn_rises h) (i := j + 1) (by omega) (by rw [scn_len h]; exact hi)
  rw [Nat.add_sub_cancel] at this
  refine ⟨Ide.lt_asymm this, Byt.str_neq fun e => ?_⟩
  rw [e, Ide.lt_irrefl] at this
  cases this

set_option maxHeartbeats 8000000 in
set_option maxRecDepth 100000 in
theorem canon_ok_of (HCN : CnP) (HIS : IsP) (HSM : SmP) (HAW : AwP) (L : List Ro) (v : Value) (q : Int) (w : World) (hr : Row w v L) (hl : L.length ≤ 9223372036854775807) (hs : Fit L) (hE : Pw w) (q0 : 0 ≤ q) (q1 : q ≤ 255) (hlg : lgS L = true) (hrs : Rs L) :
    Calls Tryd.prog 3 #[v, .int .u8 q] w fun e w' => e = .returned (.bool true) ∧ Below w.heap.size w w' := by
  have HLG := Lib.hid (light_any L v w hr hl hs)
  have HR := Lib.hid hr
  have HE := Lib.hid hE
  have HAWh := Lib.hid fun W (k : Pw W) => HAW W k
  rw [hlg] at HLG
  have h5 := (lgS_iff hlg).1
  have hmod := mod_of hs hlg
  have hcl := scn_len hrs
  have hrc := scn_right hrs
  have hmc : Mod (scn L) := fun r hr => by
    obtain ⟨x, hx, e⟩ := List.mem_map.1 ((scn_perm hrs).mem_iff.1 hr)
    refine ⟨scn_ps L r hr, ?_⟩
    rw [← e]
    exact (hmod x hx).2
  have hp1 : ∀ r ∈ L, r.ps < 18446744073709551616 := fun r hr => (hs r hr).2.2
  have hp2 := scn_ps L
  have H1 := Lib.hid fun W (h : Row W v L) (k : Pw W) => HCN L v W h h5 hmod k
  rw [sck_ok hrs] at H1
  have H2 := Lib.hid fun u W (h : Row W u (scn L)) (k : Pw W) => HIS (scn L) u W h (by rw [hcl]; exact h5) hmc k
  rw [isC_scn hrs] at H2
  have H3 := Lib.hid fun u W (h : Row W u (scn L)) (k : Row W v L) => HSM (scn L) L u v W h k (by omega) hl hp2 hp1
  have H4 := Lib.hid fun W (h : Row W v L) (k : Pw W) => HIS L v W h h5 hmod k
  rw [isC_ok hrs] at H4
  have HMI := Lib.hid fun (z : Nat) (hz : z < 18446744073709551616) W => Real.Milli_any z hz W
  have HTH := Lib.hid fun (n : Nat) (hn : n ≤ 1000000) W => Real.Thousandth_at (n : Int) n (thB n) (by omega) (Lib.hid (th_is hn).1) W
  have HSA := Lib.hid fun (z : Nat) (hz : z < 18446744073709551616) W => Real.Same_is z z hz hz W
  have HPS := Lib.hid fun i (h : i < L.length) => scn_ps L _ (ga_mem (L := scn L) (i := i) (by rw [hcl]; exact h))
  have HPL := Lib.hid fun i => @place L hrs i
  have HBF := Lib.hid fun j => @before L hrs j
  have H6 := Lib.hid fun (t : Nat) (_ : t ≤ L.length) u W (h : Row W u (L.drop t ++ L.take t)) (k : Pw W) => (show Calls Tryd.prog 7 #[u] W fun e w' => ∃ v', e = .returned (.tuple #[v', .string ⟨#[]⟩, .int .i64 0]) ∧ Row w' v' (scn L) ∧ Below W.heap.size W w' by
    have hp : L.Perm (L.drop t ++ L.take t) := by
      have := (List.perm_append_comm (l₁ := L.take t) (l₂ := L.drop t))
      rwa [List.take_append_drop] at this
    have := HCN (L.drop t ++ L.take t) u W h (by rw [← hp.length_eq]; exact h5) (fun r hr => hmod r (hp.mem_iff.2 hr)) k
    rw [sck_ok (right_perm hp hrs), scn_turn hp hrs] at this
    exact this)
  have H7 := Lib.hid fun u1 u2 W (h : Row W u1 (scn L)) (k : Row W u2 (scn L)) => HSM (scn L) (scn L) u1 u2 W h k (by omega) (by omega) hp2 hp2
  rw [sm_self] at H7
  have HCL := Lib.hid hcl
  clear hr hs hE hlg HAW HCN HIS HSM hmod hcl hrc hmc hrs hp1 hp2
  generalize scn L = C at *
  generalize sm C L = b at *
  obtain ⟨a0, c0, hv0, hcap0, hc0⟩ := openN HR.out rfl
  subst hv0
  have HC0 := Lib.hid hc0
  clear hc0
  have z2 : (b == b) = true := beq_self_eq_true _
  have z3 : (b != b) = false := by cases b <;> rfl
  go_enter Tryd.func3, Tryd.ntmps3
  go_wp2_with (first
    | (go_at_call 5; (with_reducible refine HLG.out.mono ?_); rintro e w1 ⟨rfl, rfl⟩)
    | (go_at_call 7; (with_reducible refine (H1.out _ HR.out HE.out).mono ?_); rintro e w1 ⟨v1, rfl, hr1, hb1⟩; obtain ⟨a1, c1, rfl, hcap1, hc1⟩ := openN hr1 HCL.out; have R1 := Lib.hid hr1; have B1 := Lib.hid hb1; have HC1 := Lib.hid hc1; clear hr1 hb1 hc1)
    | (go_at_call 8; first
      | ((with_reducible refine (H2.out _ _ R1.out (HE.out.next B1.out)).mono ?_); rintro e w2 ⟨rfl, hb2⟩; have D2 := Lib.hid hb2; clear hb2)
      | ((with_reducible refine (H4.out _ (HR.out.next (B1.out.trans (D3.out.mono B1.out.size))) (HE.out.next (B1.out.trans (D3.out.mono B1.out.size)))).mono ?_); rintro e w4 ⟨rfl, hb4⟩; have D4 := Lib.hid (D3.out.trans (hb4.mono D3.out.size)); clear hb4))
    | (go_at_call 9; (with_reducible refine (H3.out _ _ (R1.out.next D2.out) (HR.out.next (B1.out.trans (D2.out.mono B1.out.size)))).mono ?_); rintro e w3 ⟨rfl, hb3⟩; have D3 := Lib.hid (D2.out.trans (hb3.mono D2.out.size)); clear hb3))
  clear HLG H1 H2 H3 H4
  go_loopw [58] (fun i wr => ∃ m : Nat, i = .int .i64 (m : Int) ∧ m ≤ L.length ∧ Hid (Below w1.heap.size w1 wr)) (fun i _ => L.length - (RowKit.intOf i).toNat)
  case atStart => exact ⟨0, rfl, Nat.zero_le _, D4⟩
  case round =>
    obtain ⟨m, rfl, hk, HB⟩ := hrel
    have HBW := Lib.hid (B1.out.trans (HB.out.mono B1.out.size))
    by_cases hlt : m < L.length
    · obtain ⟨n, hn, e1, e2, e3⟩ := HPL.out m hlt
      have hz := HPS.out m hlt
      have HM := Lib.hid fun W => HMI.out (ga C m).ps hz W
      rw [e1, e2] at HM
      have HT := Lib.hid fun W => HTH.out n hn W
      rw [← e3] at HT
      have HSM2 := Lib.hid fun W => HSA.out (ga C m).ps hz W
      rw [sameB_self] at HSM2
      obtain ⟨b1, o1, rfl, x1⟩ := HC1.out m hlt
      have y1 : w1.cell? ⟨b1, o1 + m * 4, none⟩ = some (.string (ga C m).nm) := x1 0 _ rfl
      have y2 : w1.cell? ⟨b1, o1 + m * 4 + 2, none⟩ = some (.float .f64 (ga C m).ps) := x1 2 _ rfl
      have c1m : wr.cell? ⟨b1, o1 + m * 4, none⟩ = some (.string (ga C m).nm) := (HB.out.cell (lt_of_cell y1)).trans y1
      have c2m : wr.cell? ⟨b1, o1 + m * 4 + 2, none⟩ = some (.float .f64 (ga C m).ps) := (HB.out.cell (lt_of_cell y2)).trans y2
      clear x1 y1 y2 e1 e2 e3 hn hz
      have gk : (m : Int) < (L.length : Int) := by omega
      have g0 : (0 : Int) ≤ (m : Int) := by omega
      by_cases h0 : 0 < m
      · obtain ⟨j, hj⟩ : ∃ j, m = j + 1 := ⟨m - 1, by omega⟩
        obtain ⟨g1, g2⟩ := HBF.out j (by omega)
        rw [← hj] at g1 g2
        have hjm : (m : Int) - 1 = (j : Int) := by omega
        have hjl : (j : Int) < (L.length : Int) := by omega
        obtain ⟨b1', o1', hab, x1⟩ := HC1.out j (by omega)
        injection hab with hab
        injection hab with e4 e5
        subst e4 e5
        have y1 : w1.cell? ⟨b1, o1 + j * 4, none⟩ = some (.string (ga C j).nm) := x1 0 _ rfl
        have c1j : wr.cell? ⟨b1, o1 + j * 4, none⟩ = some (.string (ga C j).nm) := (HB.out.cell (lt_of_cell y1)).trans y1
        clear x1 y1
        generalize (ga C m).nm = x at *
        generalize (ga C m).ps = z at *
        generalize (ga C j).nm = y at *
        have hs0 := And.intro HB.out.drew (And.intro c1m (And.intro c2m c1j))
        have hwj : IntKind.i64.wrap ((m : Int) - 1) = (j : Int) := by rw [IntKind.wrap_i64]; omega
        have hwj2 : IntKind.i64.wrap (j : Int) = (j : Int) := by rw [IntKind.wrap_i64]; omega
        have gn2 : decide (((j : Nat) : Int) < 0) = false := decide_eq_false (by omega)
        have gn3 : decide ((L.length : Int) ≤ ((j : Nat) : Int)) = false := decide_eq_false (by omega)
        have gn4 : decide (L.length ≤ j) = false := decide_eq_false (by omega)
        have gn5 : decide (j < L.length) = true := decide_eq_true (by omega)
        have gn6 : decide (((j : Nat) : Int) < (L.length : Int)) = true := decide_eq_true (by omega)
        have gn7 : decide ((0 : Int) ≤ ((j : Nat) : Int)) = true := decide_eq_true (by omega)
        have gn8 : decide (((m : Nat) : Int) < (L.length : Int)) = true := decide_eq_true (by omega)
        have gn9 : decide (m < L.length) = true := decide_eq_true (by omega)
        clear hj
        go_wp2_with (go_at_call 10; (with_reducible refine (HM.out _).mono ?_); rintro e w5 ⟨rfl, rfl⟩)
        go_region_held3 (fun w' => Below w1.heap.size w1 w' ∧ w'.cell? ⟨b1, o1 + m * 4, none⟩ = some (.string x) ∧ w'.cell? ⟨b1, o1 + m * 4 + 2, none⟩ = some (.float .f64 z) ∧ w'.cell? ⟨b1, o1 + j * 4, none⟩ = some (.string y)) (first | exact hs0 | assumption)
          (first
            | (go_at_call 12; (with_reducible refine (HT.out _).mono ?_); rintro e wx ⟨rfl, rfl⟩)
            | (go_at_call 11; (with_reducible refine (HSM2.out _).mono ?_); rintro e wy ⟨rfl, rfl⟩))
        go_wp2_with fail
        go_roundw
        case rel => exact ⟨m + 1, by go_num, by omega, Lib.hid (And.left (by assumption))⟩
        case measure => simp [RowKit.intOf]; omega
      · have gz : ¬ (0 : Int) < (m : Int) := by omega
        have gz2 : decide ((0 : Int) < (m : Int)) = false := decide_eq_false gz
        generalize (ga C m).nm = x at *
        generalize (ga C m).ps = z at *
        have hs0 := And.intro HB.out.drew (And.intro c1m c2m)
        go_wp2_with (go_at_call 10; (with_reducible refine (HM.out _).mono ?_); rintro e w5 ⟨rfl, rfl⟩)
        refine wp_region_held_drew (S := fun w' => Below w1.heap.size w1 w' ∧ w'.cell? ⟨b1, o1 + m * 4, none⟩ = some (.string x) ∧ w'.cell? ⟨b1, o1 + m * 4 + 2, none⟩ = some (.float .f64 z)) (by kernel_rfl) hs0 (fun hHeld => ?_)
        refine wpAnyH_take (i := 0) (oi := { dst := some 70, op := Op.move (Operand.tmp 8), type := 3, pos := "law.go:57", after := #[], guard := none }) (v := ?_) rfl (by kernel_rfl) (by kernel_rfl) (by kernel_rfl) (fun _ _ _ h => h) (Or.inl ⟨by rfl, ?_⟩) (by assumption) ?_
        rotate_left
        · intro w hSw; (try dsimp only at hSw); go_simp; (try with_reducible rfl)
        try simp only [Act.put, List.setIfInBounds_toArray, List.set_cons_zero, List.set_cons_succ]
        refine wpAnyH_take (i := 1) (oi := { dst := some 71, op := Op.binOp BinOp.gtr 3 (Operand.tmp 70) (Operand.const (Value.int IntKind.i64 0)) 3, type := 4, pos := "law.go:57", after := #[{ on := 0, ground := Ground.data }], guard := none }) (v := ?_) rfl (by kernel_rfl) (by kernel_rfl) (by kernel_rfl) (fun _ _ _ h => h) (Or.inl ⟨by rfl, ?_⟩) (by assumption) ?_
        rotate_left
        · intro w hSw; (try dsimp only at hSw); go_simp; (try with_reducible rfl)
        try simp only [Act.put, List.setIfInBounds_toArray, List.set_cons_zero, List.set_cons_succ]
        refine wpAnyH_take (i := 2) (oi := { dst := some 72, op := Op.move (Operand.tmp 71), type := 4, pos := "law.go:57", after := #[{ on := 1, ground := Ground.data }], guard := none }) (v := ?_) rfl (by kernel_rfl) (by kernel_rfl) (by kernel_rfl) (fun _ _ _ h => h) (Or.inl ⟨by rfl, ?_⟩) (by assumption) ?_
        rotate_left
        · intro w hSw; (try dsimp only at hSw); go_simp; (try with_reducible rfl)
        try simp only [Act.put, List.setIfInBounds_toArray, List.set_cons_zero, List.set_cons_succ]
        refine wpAnyH_take (i := 3) (oi := { dst := some 73, op := Op.move (Operand.tmp 5), type := 22, pos := "law.go:57", after := #[{ on := 2, ground := Ground.guard }], guard := some (2, true) }) (v := undef) rfl (by kernel_rfl) (by kernel_rfl) (by kernel_rfl) (fun _ _ _ h => h) (Or.inr ⟨by rfl, rfl⟩) (by assumption) ?_
        try simp only [Act.put, List.setIfInBounds_toArray, List.set_cons_zero, List.set_cons_succ]
        refine wpAnyH_take (i := 4) (oi := { dst := some 74, op := Op.move (Operand.tmp 8), type := 3, pos := "law.go:57", after := #[{ on := 2, ground := Ground.guard }], guard := some (2, true) }) (v := undef) rfl (by kernel_rfl) (by kernel_rfl) (by kernel_rfl) (fun _ _ _ h => h) (Or.inr ⟨by rfl, rfl⟩) (by assumption) ?_
        try simp only [Act.put, List.setIfInBounds_toArray, List.set_cons_zero, List.set_cons_succ]
        refine wpAnyH_take (i := 5) (oi := { dst := some 75, op := Op.indexAddr 22 (Operand.tmp 73) (Operand.tmp 74), type := 0, pos := "law.go:57", after := #[{ on := 3, ground := Ground.data }, { on := 4, ground := Ground.data }, { on := 2, ground := Ground.guard }], guard := some (2, true) }) (v := undef) rfl (by kernel_rfl) (by kernel_rfl) (by kernel_rfl) (fun _ _ _ h => h) (Or.inr ⟨by rfl, rfl⟩) (by assumption) ?_
        try simp only [Act.put, List.setIfInBounds_toArray, List.set_cons_zero, List.set_cons_succ]
        refine wpAnyH_take (i := 6) (oi := { dst := some 76, op := Op.fieldAddr 33 (Operand.tmp 75) 0, type := 0, pos := "law.go:57", after := #[{ on := 5, ground := Ground.data }, { on := 2, ground := Ground.guard }], guard := some (2, true) }) (v := undef) rfl (by kernel_rfl) (by kernel_rfl) (by kernel_rfl) (fun _ _ _ h => h) (Or.inr ⟨by rfl, rfl⟩) (by assumption) ?_
        try simp only [Act.put, List.setIfInBounds_toArray, List.set_cons_zero, List.set_cons_succ]
        refine wpAnyH_take (i := 7) (oi := { dst := some 77, op := Op.load 9 (Operand.tmp 76), type := 9, pos := "law.go:57", after := #[{ on := 6, ground := Ground.data }, { on := 2, ground := Ground.guard }], guard := some (2, true) }) (v := undef) rfl (by kernel_rfl) (by kernel_rfl) (by kernel_rfl) (fun _ _ _ h => h) (Or.inr ⟨by rfl, rfl⟩) (by assumption) ?_
        try simp only [Act.put, List.setIfInBounds_toArray, List.set_cons_zero, List.set_cons_succ]
        refine wpAnyH_take (i := 8) (oi := { dst := some 78, op := Op.move (Operand.tmp 5), type := 22, pos := "law.go:57", after := #[{ on := 2, ground := Ground.guard }], guard := some (2, true) }) (v := undef) rfl (by kernel_rfl) (by kernel_rfl) (by kernel_rfl) (fun _ _ _ h => h) (Or.inr ⟨by rfl, rfl⟩) (by assumption) ?_
        try simp only [Act.put, List.setIfInBounds_toArray, List.set_cons_zero, List.set_cons_succ]
        refine wpAnyH_take (i := 9) (oi := { dst := some 79, op := Op.move (Operand.tmp 8), type := 3, pos := "law.go:57", after := #[{ on := 2, ground := Ground.guard }], guard := some (2, true) }) (v := undef) rfl (by kernel_rfl) (by kernel_rfl) (by kernel_rfl) (fun _ _ _ h => h) (Or.inr ⟨by rfl, rfl⟩) (by assumption) ?_
        try simp only [Act.put, List.setIfInBounds_toArray, List.set_cons_zero, List.set_cons_succ]
        refine wpAnyH_take (i := 10) (oi := { dst := some 80, op := Op.binOp BinOp.sub 3 (Operand.tmp 79) (Operand.const (Value.int IntKind.i64 1)) 3, type := 3, pos := "law.go:57", after := #[{ on := 9, ground := Ground.data }, { on := 2, ground := Ground.guard }], guard := some (2, true) }) (v := undef) rfl (by kernel_rfl) (by kernel_rfl) (by kernel_rfl) (fun _ _ _ h => h) (Or.inr ⟨by rfl, rfl⟩) (by assumption) ?_
        try simp only [Act.put, List.setIfInBounds_toArray, List.set_cons_zero, List.set_cons_succ]
        refine wpAnyH_take (i := 11) (oi := { dst := some 81, op := Op.indexAddr 22 (Operand.tmp 78) (Operand.tmp 80), type := 0, pos := "law.go:57", after := #[{ on := 8, ground := Ground.data }, { on := 10, ground := Ground.data }, { on := 2, ground := Ground.guard }], guard := some (2, true) }) (v := undef) rfl (by kernel_rfl) (by kernel_rfl) (by kernel_rfl) (fun _ _ _ h => h) (Or.inr ⟨by rfl, rfl⟩) (by assumption) ?_
        try simp only [Act.put, List.setIfInBounds_toArray, List.set_cons_zero, List.set_cons_succ]
        refine wpAnyH_take (i := 12) (oi := { dst := some 82, op := Op.fieldAddr 33 (Operand.tmp 81) 0, type := 0, pos := "law.go:57", after := #[{ on := 11, ground := Ground.data }, { on := 2, ground := Ground.guard }], guard := some (2, true) }) (v := undef) rfl (by kernel_rfl) (by kernel_rfl) (by kernel_rfl) (fun _ _ _ h => h) (Or.inr ⟨by rfl, rfl⟩) (by assumption) ?_
        try simp only [Act.put, List.setIfInBounds_toArray, List.set_cons_zero, List.set_cons_succ]
        refine wpAnyH_take (i := 13) (oi := { dst := some 83, op := Op.load 9 (Operand.tmp 82), type := 9, pos := "law.go:57", after := #[{ on := 12, ground := Ground.data }, { on := 2, ground := Ground.guard }], guard := some (2, true) }) (v := undef) rfl (by kernel_rfl) (by kernel_rfl) (by kernel_rfl) (fun _ _ _ h => h) (Or.inr ⟨by rfl, rfl⟩) (by assumption) ?_
        try simp only [Act.put, List.setIfInBounds_toArray, List.set_cons_zero, List.set_cons_succ]
        refine wpAnyH_take (i := 14) (oi := { dst := some 84, op := Op.binOp BinOp.leq 9 (Operand.tmp 77) (Operand.tmp 83) 9, type := 4, pos := "law.go:57", after := #[{ on := 7, ground := Ground.data }, { on := 13, ground := Ground.data }, { on := 2, ground := Ground.guard }], guard := some (2, true) }) (v := undef) rfl (by kernel_rfl) (by kernel_rfl) (by kernel_rfl) (fun _ _ _ h => h) (Or.inr ⟨by rfl, rfl⟩) (by assumption) ?_
        try simp only [Act.put, List.setIfInBounds_toArray, List.set_cons_zero, List.set_cons_succ]
        refine wpAnyH_take (i := 15) (oi := { dst := some 85, op := Op.pick (Operand.tmp 72) (Operand.tmp 84) (Operand.const (Value.bool false)), type := 4, pos := "law.go:57", after := #[{ on := 2, ground := Ground.data }, { on := 14, ground := Ground.data }], guard := none }) (v := ?_) rfl (by kernel_rfl) (by kernel_rfl) (by kernel_rfl) (fun _ _ _ h => h) (Or.inl ⟨by rfl, ?_⟩) (by assumption) ?_
        rotate_left
        · intro w hSw; (try dsimp only at hSw); go_simp; (try with_reducible rfl)
        try simp only [Act.put, List.setIfInBounds_toArray, List.set_cons_zero, List.set_cons_succ]
        refine wpAnyH_take (i := 16) (oi := { dst := some 86, op := Op.move (Operand.tmp 85), type := 4, pos := "law.go:57", after := #[{ on := 15, ground := Ground.data }, { on := 2, ground := Ground.chain }], guard := none }) (v := ?_) rfl (by kernel_rfl) (by kernel_rfl) (by kernel_rfl) (fun _ _ _ h => h) (Or.inl ⟨by rfl, ?_⟩) (by assumption) ?_
        rotate_left
        · intro w hSw; (try dsimp only at hSw); go_simp; (try with_reducible rfl)
        try simp only [Act.put, List.setIfInBounds_toArray, List.set_cons_zero, List.set_cons_succ]
        refine wpAnyH_take (i := 17) (oi := { dst := some 87, op := Op.move (Operand.tmp 10), type := 25, pos := "law.go:57", after := #[{ on := 16, ground := Ground.guard }], guard := some (16, false) }) (v := ?_) rfl (by kernel_rfl) (by kernel_rfl) (by kernel_rfl) (fun _ _ _ h => h) (Or.inl ⟨by rfl, ?_⟩) (by assumption) ?_
        rotate_left
        · intro w hSw; (try dsimp only at hSw); go_simp; (try with_reducible rfl)
        try simp only [Act.put, List.setIfInBounds_toArray, List.set_cons_zero, List.set_cons_succ]
        refine wpAnyH_take (i := 18) (oi := { dst := some 88, op := Op.binOp BinOp.neq 25 (Operand.tmp 87) (Operand.const (Value.int IntKind.i64 0)) 25, type := 4, pos := "law.go:57", after := #[{ on := 17, ground := Ground.data }, { on := 16, ground := Ground.guard }], guard := some (16, false) }) (v := ?_) rfl (by kernel_rfl) (by kernel_rfl) (by kernel_rfl) (fun _ _ _ h => h) (Or.inl ⟨by rfl, ?_⟩) (by assumption) ?_
        rotate_left
        · intro w hSw; (try dsimp only at hSw); go_simp; (try with_reducible rfl)
        try simp only [Act.put, List.setIfInBounds_toArray, List.set_cons_zero, List.set_cons_succ]
        refine wpAnyH_take (i := 19) (oi := { dst := some 89, op := Op.pick (Operand.tmp 86) (Operand.const (Value.bool true)) (Operand.tmp 88), type := 4, pos := "law.go:57", after := #[{ on := 16, ground := Ground.data }, { on := 18, ground := Ground.data }], guard := none }) (v := ?_) rfl (by kernel_rfl) (by kernel_rfl) (by kernel_rfl) (fun _ _ _ h => h) (Or.inl ⟨by rfl, ?_⟩) (by assumption) ?_
        rotate_left
        · intro w hSw; (try dsimp only at hSw); go_simp; (try with_reducible rfl)
        try simp only [Act.put, List.setIfInBounds_toArray, List.set_cons_zero, List.set_cons_succ]
        refine wpAnyH_take (i := 20) (oi := { dst := some 90, op := Op.move (Operand.tmp 89), type := 4, pos := "law.go:57", after := #[{ on := 19, ground := Ground.data }, { on := 16, ground := Ground.chain }], guard := none }) (v := ?_) rfl (by kernel_rfl) (by kernel_rfl) (by kernel_rfl) (fun _ _ _ h => h) (Or.inl ⟨by rfl, ?_⟩) (by assumption) ?_
        rotate_left
        · intro w hSw; (try dsimp only at hSw); go_simp; (try with_reducible rfl)
        try simp only [Act.put, List.setIfInBounds_toArray, List.set_cons_zero, List.set_cons_succ]
        refine wpAnyH_take (i := 21) (oi := { dst := some 91, op := Op.move (Operand.tmp 5), type := 22, pos := "law.go:57", after := #[{ on := 20, ground := Ground.guard }], guard := some (20, false) }) (v := ?_) rfl (by kernel_rfl) (by kernel_rfl) (by kernel_rfl) (fun _ _ _ h => h) (Or.inl ⟨by rfl, ?_⟩) (by assumption) ?_
        rotate_left
        · intro w hSw; (try dsimp only at hSw); go_simp; (try with_reducible rfl)
        try simp only [Act.put, List.setIfInBounds_toArray, List.set_cons_zero, List.set_cons_succ]
        refine wpAnyH_take (i := 22) (oi := { dst := some 92, op := Op.move (Operand.tmp 8), type := 3, pos := "law.go:57", after := #[{ on := 20, ground := Ground.guard }], guard := some (20, false) }) (v := ?_) rfl (by kernel_rfl) (by kernel_rfl) (by kernel_rfl) (fun _ _ _ h => h) (Or.inl ⟨by rfl, ?_⟩) (by assumption) ?_
        rotate_left
        · intro w hSw; (try dsimp only at hSw); go_simp; (try with_reducible rfl)
        try simp only [Act.put, List.setIfInBounds_toArray, List.set_cons_zero, List.set_cons_succ]
        refine wpAnyH_take (i := 23) (oi := { dst := some 93, op := Op.indexAddr 22 (Operand.tmp 91) (Operand.tmp 92), type := 0, pos := "law.go:57", after := #[{ on := 21, ground := Ground.data }, { on := 22, ground := Ground.data }, { on := 20, ground := Ground.guard }], guard := some (20, false) }) (v := ?_) rfl (by kernel_rfl) (by kernel_rfl) (by kernel_rfl) (fun _ _ _ h => h) (Or.inl ⟨by rfl, ?_⟩) (by assumption) ?_
        rotate_left
        · intro w hSw; (try dsimp only at hSw); go_simp; (try with_reducible rfl)
        try simp only [Act.put, List.setIfInBounds_toArray, List.set_cons_zero, List.set_cons_succ]
        refine wpAnyH_take (i := 24) (oi := { dst := some 94, op := Op.fieldAddr 33 (Operand.tmp 93) 2, type := 0, pos := "law.go:57", after := #[{ on := 23, ground := Ground.data }, { on := 20, ground := Ground.guard }], guard := some (20, false) }) (v := ?_) rfl (by kernel_rfl) (by kernel_rfl) (by kernel_rfl) (fun _ _ _ h => h) (Or.inl ⟨by rfl, ?_⟩) (by assumption) ?_
        rotate_left
        · intro w hSw; (try dsimp only at hSw); go_simp; (try with_reducible rfl)
        try simp only [Act.put, List.setIfInBounds_toArray, List.set_cons_zero, List.set_cons_succ]
        refine wpAnyH_take (i := 25) (oi := { dst := some 95, op := Op.load 31 (Operand.tmp 94), type := 31, pos := "law.go:57", after := #[{ on := 24, ground := Ground.data }, { on := 20, ground := Ground.guard }], guard := some (20, false) }) (v := ?_) rfl (by kernel_rfl) (by kernel_rfl) (by kernel_rfl) (fun _ _ _ h => h) (Or.inl ⟨by rfl, ?_⟩) (by assumption) ?_
        rotate_left
        · intro w hSw; (try dsimp only at hSw); go_simp; (try with_reducible rfl)
        try simp only [Act.put, List.setIfInBounds_toArray, List.set_cons_zero, List.set_cons_succ]
        refine wpAnyH_take (i := 26) (oi := { dst := some 96, op := Op.move (Operand.tmp 9), type := 3, pos := "law.go:57", after := #[{ on := 20, ground := Ground.guard }], guard := some (20, false) }) (v := ?_) rfl (by kernel_rfl) (by kernel_rfl) (by kernel_rfl) (fun _ _ _ h => h) (Or.inl ⟨by rfl, ?_⟩) (by assumption) ?_
        rotate_left
        · intro w hSw; (try dsimp only at hSw); go_simp; (try with_reducible rfl)
        try simp only [Act.put, List.setIfInBounds_toArray, List.set_cons_zero, List.set_cons_succ]
        refine wpAnyH_ready (rs := [27]) (by kernel_rfl) (by simp) ?_
        refine AllReadyH.cons (o := { dst := some 97, op := Op.call { callee := Callee.value (Operand.func 12), args := #[Operand.tmp 96], argTypes := #[3] }, type := 31, pos := "law.go:57", after := #[{ on := 26, ground := Ground.data }, { on := 20, ground := Ground.chain }, { on := 20, ground := Ground.guard }], guard := some (20, false) }) rfl (fun K hK => ?_) AllReadyH.nil
        go_simp
        go_at_call 12; (with_reducible refine (HT.out _).mono ?_); rintro e wx ⟨rfl, rfl⟩
        refine hK.out _ _ (by assumption) (fun hHeld => ?_)
        clear hK K
        try simp only [Act.put, List.setIfInBounds_toArray, List.set_cons_zero, List.set_cons_succ]
        refine wpAnyH_ready (rs := [28]) (by kernel_rfl) (by simp) ?_
        refine AllReadyH.cons (o := { dst := some 98, op := Op.call { callee := Callee.value (Operand.func 11), args := #[Operand.tmp 95, Operand.tmp 97], argTypes := #[31, 31] }, type := 4, pos := "law.go:57", after := #[{ on := 25, ground := Ground.data }, { on := 27, ground := Ground.data }, { on := 27, ground := Ground.chain }, { on := 20, ground := Ground.guard }], guard := some (20, false) }) rfl (fun K hK => ?_) AllReadyH.nil
        go_simp
        go_at_call 11; (with_reducible refine (HSM2.out _).mono ?_); rintro e wy ⟨rfl, rfl⟩
        refine hK.out _ _ (by assumption) (fun hHeld => ?_)
        clear hK K
        try simp only [Act.put, List.setIfInBounds_toArray, List.set_cons_zero, List.set_cons_succ]
        refine wpAnyH_take (i := 29) (oi := { dst := some 99, op := Op.unOp UnOp.not 4 (Operand.tmp 98), type := 4, pos := "law.go:57", after := #[{ on := 28, ground := Ground.data }, { on := 20, ground := Ground.guard }], guard := some (20, false) }) (v := ?_) rfl (by kernel_rfl) (by kernel_rfl) (by kernel_rfl) (fun _ _ _ h => h) (Or.inl ⟨by rfl, ?_⟩) (by assumption) ?_
        rotate_left
        · intro w hSw; (try dsimp only at hSw); go_simp; (try with_reducible rfl)
        try simp only [Act.put, List.setIfInBounds_toArray, List.set_cons_zero, List.set_cons_succ]
        refine wpAnyH_take (i := 30) (oi := { dst := some 100, op := Op.pick (Operand.tmp 90) (Operand.const (Value.bool true)) (Operand.tmp 99), type := 4, pos := "law.go:57", after := #[{ on := 20, ground := Ground.data }, { on := 29, ground := Ground.data }], guard := none }) (v := ?_) rfl (by kernel_rfl) (by kernel_rfl) (by kernel_rfl) (fun _ _ _ h => h) (Or.inl ⟨by rfl, ?_⟩) (by assumption) ?_
        rotate_left
        · intro w hSw; (try dsimp only at hSw); go_simp; (try with_reducible rfl)
        try simp only [Act.put, List.setIfInBounds_toArray, List.set_cons_zero, List.set_cons_succ]
        refine wpAnyH_done (by kernel_rfl) ?_ _
        go_wp2_with fail
        go_roundw
        case rel => exact ⟨m + 1, by go_num, by omega, Lib.hid (And.left (by assumption))⟩
        case measure => simp [RowKit.intOf]; omega
    · obtain rfl : m = L.length := by omega
      clear HPL HBF HMI HTH HSA HPS HC1
      by_cases h0 : 0 < L.length
      · obtain ⟨b0, o0, rfl, -⟩ := HC0.out 0 h0
        obtain ⟨t, ht⟩ : ∃ t : Nat, q % (L.length : Int) = (t : Int) := ⟨(q % (L.length : Int)).toNat, by have := Int.emod_nonneg q (show (L.length : Int) ≠ 0 by omega); omega⟩
        have htl : t < L.length := by have := Int.emod_lt_of_pos q (show (0 : Int) < (L.length : Int) by omega); omega
        have HRT := Lib.hid fun W (hb : Below w.heap.size w W) => Row.take (HR.out.next hb) t (by omega)
        have HRD := Lib.hid fun W (hb : Below w.heap.size w W) => Row.drop (HR.out.next hb) t (by omega)
        have HX := Lib.hid (H6.out t (by omega))
        have L1 := Lib.hid (show ([] : List Ro).length + (L.drop t).length ≤ 1000000000 by rw [List.length_drop, List.length_nil]; omega)
        have L2 := Lib.hid (show ([] ++ L.drop t).length + (L.take t).length ≤ 1000000000 by rw [List.nil_append, List.length_drop, List.length_take]; omega)
        have gt1 : (t : Int) < (L.length : Int) := by omega
        have gt2 : t < c0 := by omega
        have gt3 : ¬ c0 = t := by omega
        have gt4 : (t : Int) ≤ (L.length : Int) := by omega
        have gt5 : (t : Int) ≤ (c0 : Int) := by omega
        have gt6 : (0 : Int) ≤ (t : Int) := by omega
        clear H6 HC0
        go_wp2_with fail
        go_region_law (first
          | (refine step_pushRow _ (by rfl) (.tmp 111) (.tmp 114) (by rfl) wr.heap.size wr _ (.slice (some ⟨b0, o0 + t * 4, none⟩) (L.length - t) (c0 - t)) [] (L.drop t) (by rfl) (by rfl) (own_empty wr _ _ rfl (Nat.le_refl _)) (((Below.refl _ _).alloc (Nat.le_refl _) _).drew) (Nat.le_refl _) (HRD.out _ ((HBW.out.alloc HBW.out.size _).drew)) L1.out ?_; intro v7 w7 o7 b7 g7; have O7 := Lib.hid o7; have B7 := Lib.hid b7; clear o7 b7 g7)
          | (refine step_pushRow _ (by rfl) (.tmp 115) (.tmp 118) (by rfl) wr.heap.size wr v7 (.slice (some ⟨b0, o0, none⟩) t c0) ([] ++ L.drop t) (L.take t) (by rfl) (by rfl) O7.out B7.out (Nat.le_refl _) (HRT.out _ (HBW.out.trans (B7.out.mono HBW.out.size))) L2.out ?_; intro v8 w8 o8 b8 g8; rw [List.nil_append] at o8; have O8 := Lib.hid o8; have B8 := Lib.hid b8; clear o8 b8 g8)
          | (go_simp; go_at_call 7; (with_reducible refine (HX.out _ _ (by exact O8.out.row) (HE.out.next (HBW.out.trans (B8.out.mono HBW.out.size)))).mono ?_); rintro e w9 ⟨v9, rfl, hr9, hb9⟩; have B9 := Lib.hid (B8.out.trans (hb9.mono B8.out.size)); have R9 := Lib.hid hr9; clear hb9 hr9))
        all_goals
          go_wp2_with (first
            | (go_at_call 9; (with_reducible refine (H7.out _ _ _ (R1.out.next (HB.out.trans (B9.out.mono HB.out.size))) R9.out).mono ?_); rintro e wa ⟨rfl, hba⟩; have BA := Lib.hid ((HBW.out.trans (B9.out.mono HBW.out.size)).trans (hba.mono (by have := HBW.out.size; have := B9.out.size; omega))); clear hba)
            | (go_at_call 6; (with_reducible refine (HAWh.out _ (HE.out.next BA.out)).mono ?_); rintro e wb ⟨rfl, hbb⟩))
          go_ret
          exact ⟨rfl, BA.out.trans (hbb.mono BA.out.size)⟩
      · obtain rfl : L = [] := List.eq_nil_of_length_eq_zero (by omega)
        have HX := Lib.hid fun u W (h : Row W u []) => H6.out 0 (Nat.le_refl _) u W h
        have L1 := Lib.hid (show ([] : List Ro).length + ([] : List Ro).length ≤ 1000000000 by decide)
        clear H6 HC0 hk hlt h0 hl hcap0 hcap1
        have R1z := Lib.hid (show Row w1 (.slice a1 0 c1) C from R1.out)
        cases a0 with
        | none =>
          go_wp2_with fail
          go_region_law (first
            | (refine step_pushRow _ (by rfl) (.tmp 111) (.tmp 114) (by rfl) wr.heap.size wr _ (.slice none 0 c0) [] [] (by rfl) (by rfl) (own_empty wr _ _ rfl (Nat.le_refl _)) (((Below.refl _ _).alloc (Nat.le_refl _) _).drew) (Nat.le_refl _) (nil_row2 _ _ _) L1.out ?_; intro v7 w7 o7 b7 g7; have O7 := Lib.hid o7; have B7 := Lib.hid b7; clear o7 b7 g7)
            | (refine step_pushRow _ (by rfl) (.tmp 115) (.tmp 118) (by rfl) wr.heap.size wr v7 (.slice none 0 c0) ([] ++ []) [] (by rfl) (by rfl) O7.out B7.out (Nat.le_refl _) (nil_row2 _ _ _) L1.out ?_; intro v8 w8 o8 b8 g8; rw [List.nil_append, List.nil_append] at o8; have O8 := Lib.hid o8; have B8 := Lib.hid b8; clear o8 b8 g8)
            | (go_simp; go_at_call 7; (with_reducible refine (HX.out _ _ (by exact O8.out.row) (HE.out.next (HBW.out.trans (B8.out.mono HBW.out.size)))).mono ?_); rintro e w9 ⟨v9, rfl, hr9, hb9⟩; have B9 := Lib.hid (B8.out.trans (hb9.mono B8.out.size)); have R9 := Lib.hid hr9; clear hb9 hr9))
          all_goals
            go_wp2_with (first
              | (go_at_call 9; (with_reducible refine (H7.out _ _ _ (R1z.out.next (HB.out.trans (B9.out.mono HB.out.size))) R9.out).mono ?_); rintro e wa ⟨rfl, hba⟩; have BA := Lib.hid ((HBW.out.trans (B9.out.mono HBW.out.size)).trans (hba.mono (by have := HBW.out.size; have := B9.out.size; omega))); clear hba)
              | (go_at_call 6; (with_reducible refine (HAWh.out _ (HE.out.next BA.out)).mono ?_); rintro e wb ⟨rfl, hbb⟩))
            go_ret
            exact ⟨rfl, BA.out.trans (hbb.mono BA.out.size)⟩
        | some ad =>
          go_wp2_with fail
          go_region_law (first
            | (refine step_pushRow _ (by rfl) (.tmp 111) (.tmp 114) (by rfl) wr.heap.size wr _ (.slice (some ad) 0 c0) [] [] (by rfl) (by rfl) (own_empty wr _ _ rfl (Nat.le_refl _)) (((Below.refl _ _).alloc (Nat.le_refl _) _).drew) (Nat.le_refl _) (nil_row2 _ _ _) L1.out ?_; intro v7 w7 o7 b7 g7; have O7 := Lib.hid o7; have B7 := Lib.hid b7; clear o7 b7 g7)
            | (refine step_pushRow _ (by rfl) (.tmp 115) (.tmp 118) (by rfl) wr.heap.size wr v7 (.slice (some ad) 0 c0) ([] ++ []) [] (by rfl) (by rfl) O7.out B7.out (Nat.le_refl _) (nil_row2 _ _ _) L1.out ?_; intro v8 w8 o8 b8 g8; rw [List.nil_append, List.nil_append] at o8; have O8 := Lib.hid o8; have B8 := Lib.hid b8; clear o8 b8 g8)
            | (go_simp; go_at_call 7; (with_reducible refine (HX.out _ _ (by exact O8.out.row) (HE.out.next (HBW.out.trans (B8.out.mono HBW.out.size)))).mono ?_); rintro e w9 ⟨v9, rfl, hr9, hb9⟩; have B9 := Lib.hid (B8.out.trans (hb9.mono B8.out.size)); have R9 := Lib.hid hr9; clear hb9 hr9))
          all_goals
            go_wp2_with (first
              | (go_at_call 9; (with_reducible refine (H7.out _ _ _ (R1z.out.next (HB.out.trans (B9.out.mono HB.out.size))) R9.out).mono ?_); rintro e wa ⟨rfl, hba⟩; have BA := Lib.hid ((HBW.out.trans (B9.out.mono HBW.out.size)).trans (hba.mono (by have := HBW.out.size; have := B9.out.size; omega))); clear hba)
              | (go_at_call 6; (with_reducible refine (HAWh.out _ (HE.out.next BA.out)).mono ?_); rintro e wb ⟨rfl, hbb⟩))
            go_ret
            exact ⟨rfl, BA.out.trans (hbb.mono BA.out.size)⟩
end Go.Proofs.YtcdkibadnelgiaaDoor.One
