/- Laws of sets of rules: awake, out of what the code's calls answer. Conditions: as each theorem states. -/
import Derived.Test.YtoodiledcphclaaGreatDoorThrP3
import Derived.Deep.RegionHeld3
namespace Go.Proofs.YtoodiledcphclaaGreatDoor.Thr
open Go.RowKit Go.Lib
open Go.Proofs.YtoodiledcphclaaGreatDoor.Rul (Ru zero Row Own ruC ruL rga chk can cn)

theorem two_at (w : World) (o1 : Obj) (cs : Array Value) : Rul.Bx ((w.alloc o1).alloc (.cells cs 35)) (w.heap.size + 1) cs := Rul.two_new w o1 _
theorem row_two (W : World) (g : Nat) (hg : g = W.heap.size) (a b : Ru) : Row (W.alloc (.cells (Rul.rowC [a, b]).toArray 35)) (.slice (some ⟨g, 0, none⟩) 2 2) [a, b] := by
  subst hg
  exact (Rul.own_lit W 0 (Nat.zero_le _) [a, b] (by show 2 ≤ 1000000; decide)).row
theorem row_AA (W : World) (g : Nat) (hg : g = W.heap.size) : Row (W.alloc (.cells #[.string ⟨#[97]⟩, .string ⟨#[]⟩, .string ⟨#[47]⟩, .int .i64 0, .int .i64 2, .int .i64 0, .int .i64 0, .int .i64 0, .int .i64 0, .int .i64 1, .int .i64 0, .int .i64 0, .int .i64 0, .string ⟨#[97]⟩, .string ⟨#[]⟩, .string ⟨#[47]⟩, .int .i64 0, .int .i64 2, .int .i64 0, .int .i64 0, .int .i64 0, .int .i64 0, .int .i64 1, .int .i64 0, .int .i64 0, .int .i64 0] 35)) (.slice (some ⟨g, 0, none⟩) 2 2) [rA, rA] := row_two W g hg rA rA
theorem row_BA (W : World) (g : Nat) (hg : g = W.heap.size) : Row (W.alloc (.cells #[.string ⟨#[98]⟩, .string ⟨#[]⟩, .string ⟨#[47]⟩, .int .i64 0, .int .i64 2, .int .i64 0, .int .i64 0, .int .i64 0, .int .i64 0, .int .i64 2, .int .i64 0, .int .i64 0, .int .i64 0, .string ⟨#[97]⟩, .string ⟨#[]⟩, .string ⟨#[47]⟩, .int .i64 0, .int .i64 2, .int .i64 0, .int .i64 0, .int .i64 0, .int .i64 0, .int .i64 1, .int .i64 0, .int .i64 0, .int .i64 0] 35)) (.slice (some ⟨g, 0, none⟩) 2 2) [rB, rA] := row_two W g hg rB rA
/-- What awake's last region keeps. -/
structure ES (w : World) (g o c : Nat) (W : World) : Prop where
  one : Rul.Bx W w.heap.size #[.string ⟨#[97]⟩, .string ⟨#[]⟩, .string ⟨#[47]⟩, .int .i64 0, .int .i64 2, .int .i64 0, .int .i64 0, .int .i64 0, .int .i64 0, .int .i64 1, .int .i64 0, .int .i64 0, .int .i64 0]
  two : Rul.Bx W (w.heap.size + 1) #[.string ⟨#[98]⟩, .string ⟨#[]⟩, .string ⟨#[47]⟩, .int .i64 0, .int .i64 2, .int .i64 0, .int .i64 0, .int .i64 0, .int .i64 0, .int .i64 2, .int .i64 0, .int .i64 0, .int .i64 0]
  row : Row W (.slice (some ⟨g, o, none⟩) 2 c) [rA, rB]
  ev : Ev W
  bel : Below w.heap.size w W
theorem ES.next {w W W' : World} {g o c : Nat} (h : ES w g o c W) (hb : Below W.heap.size W W') : ES w g o c W' :=
  ⟨h.one.next hb h.one.lt, h.two.next hb h.two.lt, h.row.next hb, h.ev.next hb, h.bel.trans (hb.mono h.bel.size)⟩
theorem ES.alloc {w W : World} {g o c : Nat} (h : ES w g o c W) (x : Obj) : ES w g o c (W.alloc x) := h.next ((Below.refl _ _).alloc (Nat.le_refl _) x)
theorem ES.drew {w W : World} {g o c : Nat} (h : ES w g o c W) : ES w g o c W.drew := h.next (Below.refl _ _).drew
theorem ES.cells {w W : World} {g o c : Nat} (h : ES w g o c W) : W.rangeAt g o (ruL rA) := by
  obtain ⟨a, cap, e, -, hc⟩ := h.row.open_
  obtain ⟨b', o', hab, hr⟩ := hc 0 (by decide)
  injection e with e1 e2 e3
  rw [hab] at e1
  injection e1 with e1
  injection e1 with e4 e5
  subst e4 e5
  have : W.rangeAt g (o + 0 * 13) (ruL (rga [rA, rB] 0)) := hr
  rwa [Nat.zero_mul, Nat.add_zero] at this
theorem es_cells {w : World} {g o c : Nat} :
    (∀ W, ES w g o c W → W.cell? ⟨g, o, none⟩ = some (.string ⟨#[97]⟩))
    ∧ (∀ W, ES w g o c W → W.cell? ⟨g, o + 1, none⟩ = some (.string ⟨#[]⟩))
    ∧ (∀ W, ES w g o c W → W.cell? ⟨g, o + 2, none⟩ = some (.string ⟨#[47]⟩))
    ∧ (∀ W, ES w g o c W → W.cell? ⟨g, o + 3, none⟩ = some (.int .i64 0))
    ∧ (∀ W, ES w g o c W → W.cell? ⟨g, o + 4, none⟩ = some (.int .i64 2))
    ∧ (∀ W, ES w g o c W → W.cell? ⟨g, o + 5, none⟩ = some (.int .i64 0))
    ∧ (∀ W, ES w g o c W → W.cell? ⟨g, o + 6, none⟩ = some (.int .i64 0))
    ∧ (∀ W, ES w g o c W → W.cell? ⟨g, o + 7, none⟩ = some (.int .i64 0))
    ∧ (∀ W, ES w g o c W → W.cell? ⟨g, o + 8, none⟩ = some (.int .i64 0))
    ∧ (∀ W, ES w g o c W → W.cell? ⟨g, o + 9, none⟩ = some (.int .i64 1))
    ∧ (∀ W, ES w g o c W → W.cell? ⟨g, o + 10, none⟩ = some (.int .i64 0))
    ∧ (∀ W, ES w g o c W → W.cell? ⟨g, o + 11, none⟩ = some (.int .i64 0))
    ∧ (∀ W, ES w g o c W → W.cell? ⟨g, o + 12, none⟩ = some (.int .i64 0))
    ∧ (∀ W, ES w g o c W → W.cell? ⟨w.heap.size, 0, none⟩ = some (.string ⟨#[97]⟩))
    ∧ (∀ W, ES w g o c W → W.cell? ⟨w.heap.size, 1, none⟩ = some (.string ⟨#[]⟩))
    ∧ (∀ W, ES w g o c W → W.cell? ⟨w.heap.size, 2, none⟩ = some (.string ⟨#[47]⟩))
    ∧ (∀ W, ES w g o c W → W.cell? ⟨w.heap.size, 3, none⟩ = some (.int .i64 0))
    ∧ (∀ W, ES w g o c W → W.cell? ⟨w.heap.size, 4, none⟩ = some (.int .i64 2))
    ∧ (∀ W, ES w g o c W → W.cell? ⟨w.heap.size, 5, none⟩ = some (.int .i64 0))
    ∧ (∀ W, ES w g o c W → W.cell? ⟨w.heap.size, 6, none⟩ = some (.int .i64 0))
    ∧ (∀ W, ES w g o c W → W.cell? ⟨w.heap.size, 7, none⟩ = some (.int .i64 0))
    ∧ (∀ W, ES w g o c W → W.cell? ⟨w.heap.size, 8, none⟩ = some (.int .i64 0))
    ∧ (∀ W, ES w g o c W → W.cell? ⟨w.heap.size, 9, none⟩ = some (.int .i64 1))
    ∧ (∀ W, ES w g o c W → W.cell? ⟨w.heap.size, 10, none⟩ = some (.int .i64 0))
    ∧ (∀ W, ES w g o c W → W.cell? ⟨w.heap.size, 11, none⟩ = some (.int .i64 0))
    ∧ (∀ W, ES w g o c W → W.cell? ⟨w.heap.size, 12, none⟩ = some (.int .i64 0))
    ∧ (∀ W, ES w g o c W → W.cell? ⟨w.heap.size + 1, 0, none⟩ = some (.string ⟨#[98]⟩))
    ∧ (∀ W, ES w g o c W → W.cell? ⟨w.heap.size + 1, 1, none⟩ = some (.string ⟨#[]⟩))
    ∧ (∀ W, ES w g o c W → W.cell? ⟨w.heap.size + 1, 2, none⟩ = some (.string ⟨#[47]⟩))
    ∧ (∀ W, ES w g o c W → W.cell? ⟨w.heap.size + 1, 3, none⟩ = some (.int .i64 0))
    ∧ (∀ W, ES w g o c W → W.cell? ⟨w.heap.size + 1, 4, none⟩ = some (.int .i64 2))
    ∧ (∀ W, ES w g o c W → W.cell? ⟨w.heap.size + 1, 5, none⟩ = some (.int .i64 0))
    ∧ (∀ W, ES w g o c W → W.cell? ⟨w.heap.size + 1, 6, none⟩ = some (.int .i64 0))
    ∧ (∀ W, ES w g o c W → W.cell? ⟨w.heap.size + 1, 7, none⟩ = some (.int .i64 0))
    ∧ (∀ W, ES w g o c W → W.cell? ⟨w.heap.size + 1, 8, none⟩ = some (.int .i64 0))
    ∧ (∀ W, ES w g o c W → W.cell? ⟨w.heap.size + 1, 9, none⟩ = some (.int .i64 2))
    ∧ (∀ W, ES w g o c W → W.cell? ⟨w.heap.size + 1, 10, none⟩ = some (.int .i64 0))
    ∧ (∀ W, ES w g o c W → W.cell? ⟨w.heap.size + 1, 11, none⟩ = some (.int .i64 0))
    ∧ (∀ W, ES w g o c W → W.cell? ⟨w.heap.size + 1, 12, none⟩ = some (.int .i64 0)) :=
  ⟨fun _ k => (k.cells 0 _ rfl), fun _ k => (k.cells 1 _ rfl), fun _ k => (k.cells 2 _ rfl), fun _ k => (k.cells 3 _ rfl), fun _ k => (k.cells 4 _ rfl), fun _ k => (k.cells 5 _ rfl), fun _ k => (k.cells 6 _ rfl), fun _ k => (k.cells 7 _ rfl), fun _ k => (k.cells 8 _ rfl), fun _ k => (k.cells 9 _ rfl), fun _ k => (k.cells 10 _ rfl), fun _ k => (k.cells 11 _ rfl), fun _ k => (k.cells 12 _ rfl), fun _ k => k.one.cell 0, fun _ k => k.one.cell 1, fun _ k => k.one.cell 2, fun _ k => k.one.cell 3, fun _ k => k.one.cell 4, fun _ k => k.one.cell 5, fun _ k => k.one.cell 6, fun _ k => k.one.cell 7, fun _ k => k.one.cell 8, fun _ k => k.one.cell 9, fun _ k => k.one.cell 10, fun _ k => k.one.cell 11, fun _ k => k.one.cell 12, fun _ k => k.two.cell 0, fun _ k => k.two.cell 1, fun _ k => k.two.cell 2, fun _ k => k.two.cell 3, fun _ k => k.two.cell 4, fun _ k => k.two.cell 5, fun _ k => k.two.cell 6, fun _ k => k.two.cell 7, fun _ k => k.two.cell 8, fun _ k => k.two.cell 9, fun _ k => k.two.cell 10, fun _ k => k.two.cell 11, fun _ k => k.two.cell 12⟩

set_option maxHeartbeats 8000000 in
set_option maxRecDepth 100000 in
theorem awake_of (HCK : CkP) (HCN : CnP) (HIS : IsP) (HFD : FdP) : AwP := by
  intro w hE
  have h2 : ∀ a b : Ru, ([a, b] : List Ru).length ≤ 5000 := fun a b => by show 2 ≤ 5000; decide
  have H1 := Lib.hid fun u W (h : Row W u [rB, rA]) (k : Ev W) => HCN [rB, rA] u W h (h2 _ _) (mod_two (.inr rfl) (.inl rfl)) k
  rw [sck_BA, scn_BA] at H1
  have H2 := Lib.hid fun u W (h : Row W u [rA, rA]) (k : Ev W) => HCK [rA, rA] u W h (h2 _ _) (mod_two (.inl rfl) (.inl rfl)) k
  rw [sck_AA] at H2
  have H3 := Lib.hid fun u W (h : Row W u [rB, rA]) => HFD [rB, rA] u ⟨#[97]⟩ W h (by show 2 ≤ _; decide)
  rw [fd_BA.1, fd_BA.2] at H3
  have H4 := Lib.hid fun u W (h : Row W u [rA, rB]) (k : Ev W) => HIS [rA, rB] u W h (h2 _ _) (mod_two (.inl rfl) (.inr rfl)) k
  rw [isC_AB] at H4
  have H5 := Lib.hid fun u W (h : Row W u [rB, rA]) (k : Ev W) => HIS [rB, rA] u W h (h2 _ _) (mod_two (.inr rfl) (.inl rfl)) k
  rw [isC_BA] at H5
  have H6 := Lib.hid fun W (k : Ev W) => HIS [] (.slice none 0 0) W (Rul.Row.nil W) (by show 0 ≤ 5000; decide) (fun r hr => absurd hr List.not_mem_nil) k
  rw [isC_nil] at H6
  have q1 : (([47, 49, 47, 105, 100] : List UInt8) == [47, 49, 47, 105, 100]) = true := rfl
  have HE := Lib.hid hE
  have X0 := Lib.hid (⟨Rul.bx_old (Rul.bx_new w (ruC rA)) _, two_at w (.cells (ruC rA) 35) (ruC rB), Rul.two_below w _ _⟩ : Rul.Bx ((w.alloc (.cells (ruC rA) 35)).alloc (.cells (ruC rB) 35)) w.heap.size (ruC rA) ∧ Rul.Bx ((w.alloc (.cells (ruC rA) 35)).alloc (.cells (ruC rB) 35)) (w.heap.size + 1) (ruC rB) ∧ Below w.heap.size w ((w.alloc (.cells (ruC rA) 35)).alloc (.cells (ruC rB) 35)))
  clear HCK HCN HIS HFD h2 hE
  rw [show ruC rA = #[.string ⟨#[97]⟩, .string ⟨#[]⟩, .string ⟨#[47]⟩, .int .i64 0, .int .i64 2, .int .i64 0, .int .i64 0, .int .i64 0, .int .i64 0, .int .i64 1, .int .i64 0, .int .i64 0, .int .i64 0] from rfl, show ruC rB = #[.string ⟨#[98]⟩, .string ⟨#[]⟩, .string ⟨#[47]⟩, .int .i64 0, .int .i64 2, .int .i64 0, .int .i64 0, .int .i64 0, .int .i64 0, .int .i64 2, .int .i64 0, .int .i64 0, .int .i64 0] from rfl] at X0
  go_enter Tryz.func5, Tryz.ntmps5
  go_wp2_with (first
    | (refine Rul.wpList_fetch _ rfl _ rfl _ _ rfl K3.out.one rfl ?_)
    | (refine Rul.wpList_fetch _ rfl _ rfl _ _ rfl K3.out.two rfl ?_)
    | (refine Rul.wpList_fetch _ rfl _ rfl _ _ rfl K2.out.one rfl ?_)
    | (refine Rul.wpList_fetch _ rfl _ rfl _ _ rfl K2.out.two rfl ?_)
    | (refine Rul.wpList_fetch _ rfl _ rfl _ _ rfl K1.out.one rfl ?_)
    | (refine Rul.wpList_fetch _ rfl _ rfl _ _ rfl K1.out.two rfl ?_)
    | (go_at_call 8; (with_reducible refine (H1.out _ _ (row_BA _ _ (by simp)) (HE.out.next (X0.out.2.2.alloc X0.out.2.2.size _))).mono ?_); rintro e w1 ⟨v3, rfl, hr3, hb1⟩; obtain ⟨a3, c3, e3, -, hc3⟩ := hr3.open_; obtain ⟨g, o, e4, -⟩ := hc3 0 (by decide); rw [e4] at e3; replace e3 : v3 = .slice (some ⟨g, o, none⟩) 2 c3 := e3; subst e3
       have Z := X0.out.2.2.alloc X0.out.2.2.size (.cells #[.string ⟨#[98]⟩, .string ⟨#[]⟩, .string ⟨#[47]⟩, .int .i64 0, .int .i64 2, .int .i64 0, .int .i64 0, .int .i64 0, .int .i64 0, .int .i64 2, .int .i64 0, .int .i64 0, .int .i64 0, .string ⟨#[97]⟩, .string ⟨#[]⟩, .string ⟨#[47]⟩, .int .i64 0, .int .i64 2, .int .i64 0, .int .i64 0, .int .i64 0, .int .i64 0, .int .i64 1, .int .i64 0, .int .i64 0, .int .i64 0] 35)
       have K1 := Lib.hid (ES.mk ((Rul.bx_old X0.out.1 _).next hb1 (Rul.bx_old X0.out.1 _).lt) ((Rul.bx_old X0.out.2.1 _).next hb1 (Rul.bx_old X0.out.2.1 _).lt) hr3 ((HE.out.next Z).next hb1) (Z.trans (hb1.mono Z.size))); clear Z hr3 hb1 hc3 e4)
    | (go_at_call 6; (with_reducible refine (H2.out _ _ (row_AA _ _ (by simp)) (K1.out.alloc _).ev).mono ?_); rintro e w2 ⟨rfl, hb2⟩; have K2 := Lib.hid ((K1.out.alloc _).next hb2); clear hb2)
    | (go_at_call 10; (with_reducible refine (H3.out _ _ (row_BA _ _ (by simp))).mono ?_); rintro e w3 ⟨rfl, hb3⟩; have K3 := Lib.hid ((K2.out.alloc _).next hb3); clear hb3))
  have KD := K3.out.drew
  obtain ⟨p0, p1, p2, p3, p4, p5, p6, p7, p8, p9, p10, p11, p12, s0, s1, s2, s3, s4, s5, s6, s7, s8, s9, s10, s11, s12, t0, t1, t2, t3, t4, t5, t6, t7, t8, t9, t10, t11, t12⟩ := es_cells (w := w) (g := g) (o := o) (c := c3)
  clear X0 K1 K2 HE H1 H2 H3
  go_region_held3 (ES w g o c3) (first | exact KD | assumption | exact ES.alloc (by assumption) _)
    (first
      | (go_at_call 13; first
        | ((with_reducible refine (H6.out _ (ES.ev (by assumption))).mono ?_); rintro e wx ⟨rfl, hbx⟩; have sbx := ES.next (by assumption) hbx; clear hbx)
        | ((with_reducible refine (H4.out _ _ (ES.row (by assumption)) (ES.ev (by assumption))).mono ?_); rintro e wx ⟨rfl, hbx⟩; have sbx := ES.next (by assumption) hbx; clear hbx)
        | ((with_reducible refine (H5.out _ _ (row_BA _ _ rfl) (ES.ev (by assumption))).mono ?_); rintro e wx ⟨rfl, hbx⟩; have sbx := ES.next (by assumption) hbx; clear hbx)))
  go_wp2_with fail
  go_ret
  exact ⟨rfl, ES.bel (by assumption)⟩
end Go.Proofs.YtoodiledcphclaaGreatDoor.Thr
