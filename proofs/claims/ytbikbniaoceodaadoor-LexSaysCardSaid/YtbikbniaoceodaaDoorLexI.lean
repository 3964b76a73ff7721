/- The laws' examples. Conditions: the tables of unicode/utf8 and the errors of strconv (what the row lists); as each theorem states. -/
import Derived.Test.YtbikbniaoceodaaDoorLexD
namespace Go.Proofs.YtbikbniaoceodaaDoor.Lx
open Go.RowKit Go.Lib Go.Proofs.YtbikbniaoceodaaDoor.Byt Go.Proofs.YtbikbniaoceodaaDoor.Quo

theorem next {a b c : World} (h : Below a.heap.size a b) (k : Below b.heap.size b c) : Below a.heap.size a c := h.trans (k.mono h.size)
theorem aw1 : tkS ⟨#[91, 49, 44, 32, 45, 48, 93]⟩ = (0, 0, [⟨3, 0, 1, [], 0⟩, ⟨8, 1, 1, [], 1⟩, ⟨6, 2, 1, [], 0⟩, ⟨8, 4, 2, [], 0⟩, ⟨4, 6, 1, [], 0⟩, ⟨0, 7, 0, [], 0⟩]) := by kernel_rfl
theorem aw2 : tkS ⟨#[32, 49, 46, 53]⟩ = (18, 1, []) := by kernel_rfl
theorem aw3 : nxA ⟨#[116, 114, 117]⟩ 0 = (4, bad 0) := by kernel_rfl
/-- A row that is not empty, opened. -/
theorem Row.some_ {w : World} {v : Value} {L : List Tk} (h : Row w v L) (hL : 0 < L.length) : ∃ b cap, v = .slice (some ⟨b, 0, none⟩) L.length cap ∧ ∀ j, j < L.length → ∀ f u, (tkC (L.getD j T0))[f]? = some u → w.cell? ⟨b, j * 5 + f, none⟩ = some u := by
  rcases h with ⟨rfl, _⟩ | ⟨b, cap, rfl, hc⟩
  · simp at hL
  · exact ⟨b, cap, rfl, fun j hj f u hf => hc j hj f u hf⟩

set_option maxRecDepth 100000 in
set_option maxHeartbeats 2000000 in
theorem awake_any (w : World) (hE : Env w) : Calls Tryd.prog 7 #[] w fun e w' => e = .returned (.bool true) ∧ Below w.heap.size w w' := by
  have HE := Lib.hid hE
  have H1 := fun w hE => tokens_any ⟨#[91, 49, 44, 32, 45, 48, 93]⟩ (by decide) w hE
  have H2 := fun w hE => tokens_any ⟨#[32, 49, 46, 53]⟩ (by decide) w hE
  have H3 := fun w hE => next_any ⟨#[116, 114, 117]⟩ 0 (by decide) w hE (by omega) (by omega)
  rw [aw1] at H1
  rw [aw2] at H2
  rw [aw3, show nR (4, bad 0) = .tuple #[.agg #[.int .i64 0, .int .i64 0, .int .i64 0, .string ⟨#[]⟩, .int .i64 0], .int .i64 4] from rfl] at H3
  replace H1 := Lib.hid H1
  replace H2 := Lib.hid H2
  replace H3 := Lib.hid H3
  clear hE
  go_enter Tryd.func7, Tryd.ntmps7
  go_wp2_with fail
  refine (H1.out _ HE.out).mono ?_
  rintro e w1 ⟨v1, rfl, hr1, hb1⟩
  have HE1 := Lib.hid (HE.out.next hb1)
  go_wp2_with fail
  refine (H2.out _ HE1.out).mono ?_
  rintro e w2 ⟨v2, rfl, _, hb2⟩
  have HE2 := Lib.hid (HE1.out.next hb2)
  have hr2 := hr1.next hb2
  have hb12 := next hb1 hb2
  clear hb1 hb2 hr1
  go_wp2_with fail
  refine (H3.out _ HE2.out).mono ?_
  rintro e w3 ⟨rfl, hb3⟩
  have hb13 := next hb12 hb3
  have hr3 := hr2.next hb3
  have hr4 := hr3.next ((Below.refl _ w3).alloc (Nat.le_refl _) (.cells #[.int .i64 0, .int .i64 0, .int .i64 0, .string ⟨#[]⟩, .int .i64 0] 28))
  have hb14 := hb13.alloc hb13.size (.cells #[.int .i64 0, .int .i64 0, .int .i64 0, .string ⟨#[]⟩, .int .i64 0] 28)
  obtain ⟨b, cap, rfl, hc⟩ := hr4.some_ (by decide)
  have c0 : (w3.alloc (.cells #[.int .i64 0, .int .i64 0, .int .i64 0, .string ⟨#[]⟩, .int .i64 0] 28)).cell? ⟨b, 0, none⟩ = some (.int .i64 3) := hc 0 (by decide) 0 _ rfl
  have c15 : (w3.alloc (.cells #[.int .i64 0, .int .i64 0, .int .i64 0, .string ⟨#[]⟩, .int .i64 0] 28)).cell? ⟨b, 15, none⟩ = some (.int .i64 8) := hc 3 (by decide) 0 _ rfl
  have c17 : (w3.alloc (.cells #[.int .i64 0, .int .i64 0, .int .i64 0, .string ⟨#[]⟩, .int .i64 0] 28)).cell? ⟨b, 17, none⟩ = some (.int .i64 2) := hc 3 (by decide) 2 _ rfl
  have c19 : (w3.alloc (.cells #[.int .i64 0, .int .i64 0, .int .i64 0, .string ⟨#[]⟩, .int .i64 0] 28)).cell? ⟨b, 19, none⟩ = some (.int .i64 0) := hc 3 (by decide) 4 _ rfl
  have c25 : (w3.alloc (.cells #[.int .i64 0, .int .i64 0, .int .i64 0, .string ⟨#[]⟩, .int .i64 0] 28)).cell? ⟨b, 25, none⟩ = some (.int .i64 0) := hc 5 (by decide) 0 _ rfl
  have c26 : (w3.alloc (.cells #[.int .i64 0, .int .i64 0, .int .i64 0, .string ⟨#[]⟩, .int .i64 0] 28)).cell? ⟨b, 26, none⟩ = some (.int .i64 7) := hc 5 (by decide) 1 _ rfl
  clear hb12 hb3 hr2 hr3 hr4 hc hb13
  go_wp2_with fail
  go_ret
  exact ⟨rfl, hb14⟩

/-- A token read from a row. -/
theorem wpList_take {ops : Array Oper} {rest : List Oper} {o : Oper} {a : Act} {Q : Exit → Act → World → Prop} (W : World) (hgd : o.guard = none) (x : Operand) (ho : o.op = .load 28 x) (b f : Nat) (X : Tk)
    (hx : a.eval x = .pointer (some ⟨b, f, none⟩)) (hc : W.rangeAt b f (tkC X))
    (h : wpList Tryd.prog ops Q rest (a.put o.dst (.agg #[.int .i64 (X.k : Int), .int .i64 (X.o : Int), .int .i64 (X.z : Int), .string ⟨X.v.toArray⟩, .int .i64 X.n])) W) : wpList Tryd.prog ops Q (o :: rest) a W :=
  wpList_load_mid hgd _ x ho b f hx (tkC X) _ hc Tryd.underlying28 rfl info5 h

end Go.Proofs.YtbikbniaoceodaaDoor.Lx
