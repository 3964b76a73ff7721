/- Laws of sets of rules: SettwoCanon of any set, out of what the code's calls answer. Conditions: as each theorem states. -/
import Derived.Test.YthkopnobekohcaaDoorTwoI
namespace Go.Proofs.YthkopnobekohcaaDoor.Two
open Go.RowKit Go.Lib

set_option maxHeartbeats 8000000 in
set_option maxRecDepth 100000 in
theorem canon_no_of (HCN : CnP) (HIS : IsP) (HAW : AwP) (L : List Rw) (v : Value) (q : Int) (w : World) (hr : Row w v L) (hl : L.length ≤ 9223372036854775807) (hs : Fit L) (hE : Ev w) (hlg : lgS L = true) (hz : (sck L).2 ≠ 0) :
    Calls Tryd.prog 3 #[v, .int .u8 q] w fun e w' => e = .returned (.bool true) ∧ Below w.heap.size w w' := by
  have HLG := Lib.hid (light_any L v w hr hl hs)
  have HR := Lib.hid hr
  have HE := Lib.hid hE
  have HAWh := Lib.hid fun W (k : Ev W) => HAW W k
  rw [hlg] at HLG
  have h5 := (lgS_iff hlg).1
  have hmod := mod_of hs hlg
  have H1 := Lib.hid fun W (h : Row W v L) (k : Ev W) => HCN L v W h h5 hmod k
  rw [scn_no hz] at H1
  have H4 := Lib.hid fun W (h : Row W v L) (k : Ev W) => HIS L v W h h5 hmod k
  rw [isC_no hz] at H4
  have b1 : ((sck L).2 != 0) = true := by simpa using hz
  clear hr hs hE hlg HAW HCN HIS hmod hz
  generalize sck L = x at *
  obtain ⟨p, E⟩ := x
  dsimp only at H1 b1
  go_enter Tryd.func3, Tryd.ntmps3
  go_wp2_with (first
    | (go_at_call 4; (with_reducible refine HLG.out.mono ?_); rintro e w1 ⟨rfl, rfl⟩)
    | (go_at_call 6; (with_reducible refine (H1.out _ HR.out HE.out).mono ?_); rintro e w1 ⟨v1, rfl, hr1, hb1⟩; obtain ⟨a1, c1, rfl, -, -⟩ := openN hr1 (n := 0) rfl; have B1 := Lib.hid hb1; clear hr1 hb1)
    | (go_at_call 7; (with_reducible refine (H4.out _ (HR.out.next B1.out) (HE.out.next B1.out)).mono ?_); rintro e w2 ⟨rfl, hb2⟩; have B2 := Lib.hid (B1.out.trans (hb2.mono B1.out.size)); clear hb2)
    | (go_at_call 5; (with_reducible refine (HAWh.out _ (HE.out.next B2.out)).mono ?_); rintro e w3 ⟨rfl, hb3⟩))
  go_ret
  exact ⟨rfl, B2.out.trans (hb3.mono B2.out.size)⟩

set_option maxRecDepth 100000 in
theorem canon_of (HCN : CnP) (HIS : IsP) (HAW : AwP) (L : List Rw) (v : Value) (q : Int) (w : World) (hr : Row w v L) (hl : L.length ≤ 9223372036854775807) (hs : Fit L) (hE : Ev w) (q0 : 0 ≤ q) (q1 : q ≤ 255) :
    Calls Tryd.prog 3 #[v, .int .u8 q] w fun e w' => e = .returned (.bool true) ∧ Below w.heap.size w w' := by
  cases hlg : lgS L with
  | true =>
    by_cases hz : (sck L).2 = 0
    · exact canon_ok_of HCN HIS HAW L v q w hr hl hs hE q0 q1 hlg ((sck_zero L).1 hz)
    · exact canon_no_of HCN HIS HAW L v q w hr hl hs hE hlg hz
  | false =>
    have HLG := Lib.hid (light_any L v w hr hl hs)
    have HE := Lib.hid hE
    have HAWh := Lib.hid fun W (k : Ev W) => HAW W k
    rw [hlg] at HLG
    clear hr hs hE hlg HAW HCN HIS
    go_enter Tryd.func3, Tryd.ntmps3
    go_wp2_with (first
      | (go_at_call 4; (with_reducible refine HLG.out.mono ?_); rintro e w1 ⟨rfl, rfl⟩)
      | (go_at_call 5; (with_reducible refine (HAWh.out _ HE.out).mono ?_); rintro e w1 ⟨rfl, hb1⟩))
    go_ret
    exact ⟨rfl, hb1⟩
end Go.Proofs.YthkopnobekohcaaDoor.Two
