/- Laws of sets of rules of version 2: awake, out of what the code's calls answer. Conditions: as each theorem states. -/
import Derived.Test.YthkopnobekohcaaGreatDoorTwoG
namespace Go.Proofs.YthkopnobekohcaaGreatDoor.Two
open Go.RowKit Go.Lib
open Go.Proofs.YthkopnobekohcaaGreatDoor.Rul (isId isTx isPa)
open Go.Proofs.YthkopnobekohcaaGreatDoor.Uni (tV nN nU okT)

def rA : Rw := ⟨⟨#[97]⟩, ⟨#[]⟩, ⟨#[47]⟩, 0, 1, 5, 60, 2, 0⟩
def rB : Rw := ⟨⟨#[98]⟩, ⟨#[]⟩, ⟨#[47]⟩, 0, 2, 1, 0, 0, 0⟩
def cA : Rw := ⟨⟨#[97]⟩, ⟨#[]⟩, ⟨#[47]⟩, 0, 1, 5, 1, 3, 5⟩
def rD : Rw := ⟨⟨#[98]⟩, ⟨#[]⟩, ⟨#[47]⟩, 0, 2, 1, 0, 1, 0⟩
theorem chk_A : chk rA = (⟨#[]⟩, 0) := by decide +kernel
theorem chk_B : chk rB = (⟨#[]⟩, 0) := by decide +kernel
theorem chk_D : chk rD = (q2, 17) := by decide +kernel
theorem rt_A : Rt rA := (chk_zero _).1 (by rw [chk_A])
theorem rt_B : Rt rB := (chk_zero _).1 (by rw [chk_B])
theorem n_A : nN (tV 60 2) = 1 := by decide +kernel
theorem u_A : nU (tV 60 2) = 3 := by decide +kernel
theorem can_A : can rA = cA := by
  refine (can_one rfl).trans ?_
  show (⟨_, _, _, _, _, _, nN (tV 60 2), nU (tV 60 2), _⟩ : Rw) = _
  rw [n_A, u_A]; rfl
theorem can_B : can rB = rB := can_two (by decide)
theorem rs_BA : Rs [rB, rA] := ⟨by decide, fun r hr => by
  simp only [List.mem_cons, List.not_mem_nil, or_false] at hr
  rcases hr with rfl | rfl
  · exact rt_B
  · exact rt_A, by decide⟩
theorem scn_BA : scn [rB, rA] = [cA, rB] := by
  rw [scn_ok rs_BA]
  show srt [can rB, can rA] = _
  rw [can_A, can_B]
  show ins cA [rB] = _
  unfold ins
  rw [if_neg (by rw [Ide.lt_is]; decide)]
theorem sck_BA : sck [rB, rA] = (⟨#[]⟩, 0) := sck_ok rs_BA
theorem itoa_0 : Lib.itoa ((0 : Nat) : Int) = [48] := by
  unfold Lib.itoa
  rw [if_neg (by decide)]
  exact Lib.decDigits_one (by decide)
theorem sck_D : sck [rD] = (⟨#[47, 48, 47, 117, 110, 105, 116]⟩, 17) := by
  rw [sck_few (by show ¬ 4096 < 1; decide)]
  have h : (chk (ga [rD] 0)).2 ≠ 0 := by show (chk rD).2 ≠ 0; rw [chk_D]; decide
  have h0 : nx [rD] 0 = (pre 0 (chk rD).1, (chk rD).2) := nx_bad (L := [rD]) (i := 0) h
  show Rul.fst [nx [rD] 0] = _
  rw [h0, chk_D, Rul.fst_yes _ (by decide)]
  unfold pre
  rw [itoa_0]
  rfl
theorem mod_ab {L : List Rw} (h : ∀ r ∈ L, r.id.size ≤ 400 ∧ r.no.size ≤ 400 ∧ r.ma.size ≤ 400 ∧ -100 ≤ r.wi ∧ r.wi ≤ 100) : Mod L := fun r hr => by
  have := h r hr
  omega
theorem row_BA (W : World) (g : Nat) (hg : g = W.heap.size) : Row (W.alloc (.cells #[.string ⟨#[98]⟩, .string ⟨#[]⟩, .string ⟨#[47]⟩, .int .i64 0, .int .i64 2, .int .i64 1, .int .i64 0, .int .i64 0, .int .i64 0, .string ⟨#[97]⟩, .string ⟨#[]⟩, .string ⟨#[47]⟩, .int .i64 0, .int .i64 1, .int .i64 5, .int .i64 60, .int .i64 2, .int .i64 0] 35)) (.slice (some ⟨g, 0, none⟩) 2 2) [rB, rA] := by
  subst hg
  exact (own_lit W 0 (Nat.zero_le _) [rB, rA] (by show 2 ≤ 1000000; decide)).row
theorem row_D (W : World) (g : Nat) (hg : g = W.heap.size) : Row (W.alloc (.cells #[.string ⟨#[98]⟩, .string ⟨#[]⟩, .string ⟨#[47]⟩, .int .i64 0, .int .i64 2, .int .i64 1, .int .i64 0, .int .i64 1, .int .i64 0] 35)) (.slice (some ⟨g, 0, none⟩) 1 1) [rD] := by
  subst hg
  exact row_one W rD

set_option maxHeartbeats 8000000 in
set_option maxRecDepth 100000 in
theorem awake_of (HCK : CkP) (HCN : CnP) (HKI : KiP) (HKO : KoP) : AwP := by
  intro w hE
  have H1 := Lib.hid fun u W (h : Row W u [rB, rA]) (k : Ev W) => HCN [rB, rA] u W h (by show 2 ≤ 5000; decide) (mod_ab fun r hr => by
    simp only [List.mem_cons, List.not_mem_nil, or_false] at hr
    rcases hr with rfl | rfl <;> decide) k
  rw [sck_BA, scn_BA] at H1
  have H2 := Lib.hid fun u W (h : Row W u [rD]) (k : Ev W) => HCK [rD] u W h (by show 1 ≤ 5000; decide) (mod_ab fun r hr => by
    rw [List.mem_singleton.1 hr]; decide) k
  rw [sck_D] at H2
  have H3 := Lib.hid fun W (k : Ev W) => (show Calls Tryz.prog 14 #[.int .i64 1] W fun e w' => e = .returned (.string ⟨#[114, 97, 116, 101]⟩) ∧ Below W.heap.size W w' from HKI 1 W k)
  have H4 := Lib.hid fun W (k : Ev W) => (show Calls Tryz.prog 16 #[.string ⟨#[99, 97, 112]⟩] W fun e w' => e = .returned (.int .i64 2) ∧ Below W.heap.size W w' from HKO ⟨#[99, 97, 112]⟩ W (by decide) k)
  have HE := Lib.hid hE
  have hb0 := Lib.hid ((Below.refl w.heap.size w).alloc (Nat.le_refl _) (.cells #[.string ⟨#[98]⟩, .string ⟨#[]⟩, .string ⟨#[47]⟩, .int .i64 0, .int .i64 2, .int .i64 1, .int .i64 0, .int .i64 0, .int .i64 0, .string ⟨#[97]⟩, .string ⟨#[]⟩, .string ⟨#[47]⟩, .int .i64 0, .int .i64 1, .int .i64 5, .int .i64 60, .int .i64 2, .int .i64 0] 35))
  clear HCK HCN HKI HKO hE
  go_enter Tryz.func6, Tryz.ntmps6
  go_wp2_with (first
    | (go_at_call 9; (with_reducible refine (H1.out _ _ (row_BA _ _ (by simp)) (HE.out.next hb0.out)).mono ?_); rintro e w1 ⟨v3, rfl, hr3, hb1⟩; obtain ⟨a3, c3, e3, -, hc3⟩ := hr3.open_; obtain ⟨g, o, e4, hx0⟩ := hc3 0 (by decide); rw [e4] at e3; replace e3 : v3 = .slice (some ⟨g, o, none⟩) 2 c3 := e3; subst e3; have B1 := Lib.hid (hb0.out.trans (hb1.mono hb0.out.size))
       have y0 : w1.cell? ⟨g, o, none⟩ = some (.string ⟨#[97]⟩) := hx0 0 _ rfl
       have y6 : w1.cell? ⟨g, o + 6, none⟩ = some (.int .i64 1) := hx0 6 _ rfl
       have y7 : w1.cell? ⟨g, o + 7, none⟩ = some (.int .i64 3) := hx0 7 _ rfl
       have y8 : w1.cell? ⟨g, o + 8, none⟩ = some (.int .i64 5) := hx0 8 _ rfl
       clear hb1 hr3 hc3 hx0 e4)
    | (go_at_call 7; (with_reducible refine (H2.out _ _ (row_D w1 _ (by simp)) (HE.out.next (B1.out.alloc B1.out.size _))).mono ?_); rintro e w2 ⟨rfl, hb2⟩
       have hbz := ((Below.refl w1.heap.size w1).alloc (Nat.le_refl _) (.cells #[.string ⟨#[98]⟩, .string ⟨#[]⟩, .string ⟨#[47]⟩, .int .i64 0, .int .i64 2, .int .i64 1, .int .i64 0, .int .i64 1, .int .i64 0] 35)).trans (hb2.mono (by simp))
       have z0 := (hbz.cell (lt_of_cell y0)).trans y0; have z6 := (hbz.cell (lt_of_cell y6)).trans y6; have z7 := (hbz.cell (lt_of_cell y7)).trans y7; have z8 := (hbz.cell (lt_of_cell y8)).trans y8
       have B2 := Lib.hid (B1.out.trans (hbz.mono B1.out.size)); clear hb2 hbz)
    | (go_at_call 14; (with_reducible refine (H3.out _ (HE.out.next B2.out)).mono ?_); rintro e w3 ⟨rfl, hb3⟩; have B3 := Lib.hid (B2.out.trans (hb3.mono B2.out.size)); clear hb3)
    | (go_at_call 16; (with_reducible refine (H4.out _ (HE.out.next B3.out)).mono ?_); rintro e w4 ⟨rfl, hb4⟩; have B4 := Lib.hid (B3.out.trans (hb4.mono B3.out.size)); clear hb4))
  go_ret
  exact ⟨rfl, B4.out⟩
end Go.Proofs.YthkopnobekohcaaGreatDoor.Two
