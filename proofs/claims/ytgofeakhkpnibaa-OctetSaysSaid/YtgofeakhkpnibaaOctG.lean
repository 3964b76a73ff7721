/- The statements of layer 3 as contracts over every input: what they share. Conditions: the arguments fit their kinds. -/
import Derived.Test.YtgofeakhkpnibaaOctF
import Derived.Deep.RegionHeld3
namespace Go.Proofs.Ytgofeakhkpnibaa.Oct
open Go.RowKit Go.Lib Go.Proofs.Ytgofeakhkpnibaa.Byt

/-- What Take hands back. -/
def tkB (s : ByteArray) (i k : Int) : Bool := has s i k && decide (1 ≤ k ∧ k ≤ 8)
def tkN (s : ByteArray) (i k : Int) : Nat := if tkB s i k then takeL 0 (cutB s i.toNat k.toNat).data.toList else 0
/-- What Cut hands back. -/
def cutS (s : ByteArray) (i n : Int) : ByteArray := if has s i n then cutB s i.toNat n.toNat else ⟨#[]⟩

theorem has_nat {s : ByteArray} {i n : Int} (h : has s i n = true) : ∃ a b : Nat, i = (a : Int) ∧ n = (b : Int) ∧ a + b ≤ s.size := by
  unfold has at h
  simp at h
  exact ⟨i.toNat, n.toNat, by omega, by omega, by omega⟩

theorem cut_any (s : ByteArray) (i n : Int) (w : World) (hs : s.size ≤ 140737488355328) (hi : -9223372036854775808 ≤ i) (hi' : i ≤ 9223372036854775807) :
    Calls Try.prog 9 #[.string s, .int .i64 i, .int .i64 n] w fun e w' => e = .returned (.tuple #[.string (cutS s i n), .bool (has s i n)]) ∧ Below w.heap.size w w' := by
  cases h : has s i n
  · refine (cut_no s i n w h hs hi hi').mono fun e w' ⟨h1, h2⟩ => ⟨?_, h2 ▸ Below.refl _ _⟩
    rw [h1]; unfold cutS; rw [h]; rfl
  · obtain ⟨a, b, rfl, rfl, hab⟩ := has_nat h
    refine (cut_yes s a b w hab hs).mono fun e w' ⟨h1, h2⟩ => ⟨?_, h2⟩
    rw [h1]; unfold cutS; rw [h]; rfl
theorem rcut_any (s : ByteArray) (i n : Int) (w : World) (hs : s.size ≤ 140737488355328) (hi : -9223372036854775808 ≤ i) (hi' : i ≤ 9223372036854775807) :
    Calls Try.prog 10 #[.string s, .int .i64 i, .int .i64 n] w fun e w' => e = .returned (.tuple #[.string (cutS s i n), .bool (has s i n)]) ∧ w = w' := by
  cases h : has s i n
  · refine (rcut_no s i n w h hs hi hi').mono fun e w' ⟨h1, h2⟩ => ⟨?_, h2⟩
    rw [h1]; unfold cutS; rw [h]; rfl
  · obtain ⟨a, b, rfl, rfl, hab⟩ := has_nat h
    refine (rcut_yes s a b w hab hs).mono fun e w' ⟨h1, h2⟩ => ⟨?_, h2⟩
    rw [h1]; unfold cutS; rw [h]; rfl
theorem tkB_no {s : ByteArray} {i k : Int} (h : tkB s i k = false) : has s i k = false ∨ k < 1 ∨ 8 < k := by
  unfold tkB at h
  simp only [Bool.and_eq_false_iff, decide_eq_false_iff_not] at h
  rcases h with h | h
  · exact .inl h
  · exact .inr (by omega)
theorem tkB_yes {s : ByteArray} {i k : Int} (h : tkB s i k = true) : ∃ a b : Nat, i = (a : Int) ∧ k = (b : Int) ∧ a + b ≤ s.size ∧ 1 ≤ b ∧ b ≤ 8 := by
  unfold tkB at h
  simp only [Bool.and_eq_true, decide_eq_true_eq] at h
  obtain ⟨a, b, rfl, rfl, hab⟩ := has_nat h.1
  exact ⟨a, b, rfl, rfl, hab, by omega, by omega⟩
theorem take_any (s : ByteArray) (i k : Int) (w : World) (hs : s.size ≤ 140737488355328) (hi : -9223372036854775808 ≤ i) (hi' : i ≤ 9223372036854775807) :
    Calls Try.prog 7 #[.string s, .int .i64 i, .int .i64 k] w fun e w' => e = .returned (.tuple #[.int .u64 (tkN s i k : Nat), .bool (tkB s i k)]) ∧ Below w.heap.size w w' := by
  cases h : tkB s i k
  · refine (take_no s i k w (tkB_no h) hs hi hi').mono fun e w' ⟨h1, h2⟩ => ⟨?_, h2 ▸ Below.refl _ _⟩
    rw [h1]; unfold tkN; rw [h]; rfl
  · obtain ⟨a, b, rfl, rfl, hab, h1, h8⟩ := tkB_yes h
    refine (take_yes s a b w hab hs h1 h8).mono fun e w' ⟨h1, h2⟩ => ⟨?_, h2⟩
    rw [h1]; unfold tkN; rw [h]; rfl
theorem rtake_any (s : ByteArray) (i k : Int) (w : World) (hs : s.size ≤ 140737488355328) (hi : -9223372036854775808 ≤ i) (hi' : i ≤ 9223372036854775807) :
    Calls Try.prog 8 #[.string s, .int .i64 i, .int .i64 k] w fun e w' => e = .returned (.tuple #[.int .u64 (tkN s i k : Nat), .bool (tkB s i k)]) ∧ w = w' := by
  cases h : tkB s i k
  · refine (rtake_no s i k w (tkB_no h) hs hi hi').mono fun e w' ⟨h1, h2⟩ => ⟨?_, h2⟩
    rw [h1]; unfold tkN; rw [h]; rfl
  · obtain ⟨a, b, rfl, rfl, hab, h1, h8⟩ := tkB_yes h
    refine (rtake_yes s a b w hab hs h1 h8).mono fun e w' ⟨h1, h2⟩ => ⟨?_, h2⟩
    rw [h1]; unfold tkN; rw [h]; rfl

theorem aw_take (w : World) : Calls Try.prog 7 #[.string ⟨#[120, 1, 2]⟩, .int .i64 1, .int .i64 2] w fun e w' => e = .returned (.tuple #[.int .u64 258, .bool true]) ∧ Below w.heap.size w w' :=
  take_yes ⟨#[120, 1, 2]⟩ 1 2 w (by decide) (by decide) (by decide) (by decide)
theorem aw_unhex1 (w : World) : Calls Try.prog 11 #[.string ⟨#[48, 71]⟩] w fun e w' => e = .returned (.tuple #[.string ⟨#[]⟩, .bool false]) ∧ Below w.heap.size w w' :=
  unhex_any ⟨#[48, 71]⟩ w (by decide)
theorem aw_unhex2 (w : World) : Calls Try.prog 11 #[.string ⟨#[48, 49, 48, 50]⟩] w fun e w' => e = .returned (.tuple #[.string ⟨#[1, 2]⟩, .bool true]) ∧ Below w.heap.size w w' :=
  unhex_any ⟨#[48, 49, 48, 50]⟩ w (by decide)
theorem aw_put (w : World) : Calls Try.prog 13 #[.int .u64 258, .int .i64 2] w fun e w' => e = .returned (.string ⟨#[1, 2]⟩) ∧ Below w.heap.size w w' :=
  put_any 258 2 2 w (by decide) (by decide)
theorem aw_hex (w : World) : Calls Try.prog 15 #[.string ⟨#[1, 2]⟩] w fun e w' => e = .returned (.string ⟨#[48, 49, 48, 50]⟩) ∧ Below w.heap.size w w' :=
  hex_any ⟨#[1, 2]⟩ w (by decide)

theorem below_next {w W W' : World} {B : Nat} (h : Below B w W) (hB : B ≤ W.heap.size) (hb : Below W.heap.size W W') : Below B w W' := h.trans (hb.mono hB)

theorem awake_any (w : World) : Calls Try.prog 6 #[] w fun e w' => e = .returned (.bool true) ∧ Below w.heap.size w w' := by
  go_enter Try.func6, Try.ntmps6
  go_wp2_with fail
  refine (aw_take _).mono ?_; rintro e w1 ⟨rfl, hb1⟩
  go_wp2_with fail
  refine (aw_unhex1 _).mono ?_; rintro e w2 ⟨rfl, hb2⟩
  go_wp2_with fail
  refine (aw_unhex2 _).mono ?_; rintro e w3 ⟨rfl, hb3⟩
  go_wp2_with fail
  refine (aw_put _).mono ?_; rintro e w4 ⟨rfl, hb4⟩
  go_wp2_with fail
  refine (aw_hex _).mono ?_; rintro e w5 ⟨rfl, hb5⟩
  go_wp2_with fail
  go_ret
  have h2 := below_next hb1 hb1.size hb2
  have h3 := below_next h2 h2.size hb3
  have h4 := below_next h3 h3.size hb4
  exact ⟨rfl, below_next h4 h4.size hb5⟩
end Go.Proofs.Ytgofeakhkpnibaa.Oct
