/- The statement OctetSays as a contract over every input. Conditions: the arguments fit their kinds. -/
import Derived.Test.YtgofeakhkpnibaaOctI
import Derived.Test.YtgofeakhkpnibaaOpn
namespace Go.Proofs.Ytgofeakhkpnibaa.Oct
open Go.RowKit Go.Lib Go.Proofs.Ytgofeakhkpnibaa.Byt

/-- A box of three, and what lies below. -/
theorem three_new (w : World) (a b c : Value) (T : TypeId) : (w.alloc (.cells #[a, b, c] T)).cell? ⟨w.heap.size, 0, none⟩ = some a ∧ (w.alloc (.cells #[a, b, c] T)).cell? ⟨w.heap.size, 1, none⟩ = some b ∧ (w.alloc (.cells #[a, b, c] T)).cell? ⟨w.heap.size, 2, none⟩ = some c ∧ w.heap.size < (w.alloc (.cells #[a, b, c] T)).heap.size ∧ Below w.heap.size w (w.alloc (.cells #[a, b, c] T)) :=
  ⟨by rw [World.cell?_alloc_mark]; rfl, by rw [World.cell?_alloc_mark]; rfl, by rw [World.cell?_alloc_mark]; rfl, by simp, (Below.refl _ _).alloc (Nat.le_refl _) _⟩
theorem three_keep {w W W' : World} {a b c : Value} (hb : Below W.heap.size W W') (h0 : W.cell? ⟨w.heap.size, 0, none⟩ = some a) (h1 : W.cell? ⟨w.heap.size, 1, none⟩ = some b) (h2 : W.cell? ⟨w.heap.size, 2, none⟩ = some c) (hg : w.heap.size < W.heap.size) (hl : Below w.heap.size w W) :
    W'.cell? ⟨w.heap.size, 0, none⟩ = some a ∧ W'.cell? ⟨w.heap.size, 1, none⟩ = some b ∧ W'.cell? ⟨w.heap.size, 2, none⟩ = some c ∧ w.heap.size < W'.heap.size ∧ Below w.heap.size w W' :=
  ⟨(hb.cell (p := ⟨_, 0, none⟩) hg).trans h0, (hb.cell (p := ⟨_, 1, none⟩) hg).trans h1, (hb.cell (p := ⟨_, 2, none⟩) hg).trans h2, by have := hb.size; omega, below_next hl (by omega) hb⟩
theorem one_keep {w W W' : World} {b : Value} (hb : Below W.heap.size W W') (h : W.cell? ⟨w.heap.size, 1, none⟩ = some b ∧ w.heap.size < W.heap.size ∧ Below w.heap.size w W) :
    W'.cell? ⟨w.heap.size, 1, none⟩ = some b ∧ w.heap.size < W'.heap.size ∧ Below w.heap.size w W' :=
  ⟨(hb.cell (p := ⟨_, 1, none⟩) h.2.1).trans h.1, by have := hb.size; omega, below_next h.2.2 (by have := h.2.1; omega) hb⟩

set_option maxHeartbeats 2000000 in
set_option maxRecDepth 100000 in
theorem says_walk (n : Nat) (s : ByteArray) (p0 p1 p2 : Int) (hn : n < 18446744073709551616) (i0 : -9223372036854775808 ≤ p0) (i1 : p0 ≤ 9223372036854775807) (w : World) :
    Calls Try.prog 3 #[.int .u64 (n : Int), .string s, .agg #[.int .i64 p0, .int .i64 p1, .int .i64 p2]] w fun e w' => e = .returned (.bool true) ∧ Below w.heap.size w w' := by
  by_cases hs : 500 < s.size
  · go_enter Try.func3, Try.ntmps3
    go_wp2_with fail
    refine (awake_any _).mono ?_; rintro e w1 ⟨rfl, hb1⟩
    go_wp2_with fail
    go_ret
    exact ⟨rfl, below_next ((Below.refl _ _).alloc (Nat.le_refl _) _) (by simp) hb1⟩
  obtain ⟨k, hk⟩ : ∃ k : Nat, max (min p1 8) 0 = (k : Int) := ⟨(max (min p1 8) 0).toNat, by omega⟩
  obtain ⟨t, ht⟩ : ∃ t : ByteArray, t = ⟨(putL n k).toArray⟩ := ⟨_, rfl⟩
  obtain ⟨h, hh⟩ : ∃ h : ByteArray, h = ⟨(hexL s.data.toList).toArray⟩ := ⟨_, rfl⟩
  obtain ⟨u, hu⟩ : ∃ u, u = unS s := ⟨_, rfl⟩
  obtain ⟨ub, hub⟩ : ∃ u, u = unB s := ⟨_, rfl⟩
  obtain ⟨c, hc⟩ : ∃ u, u = cutS s p0 p2 := ⟨_, rfl⟩
  obtain ⟨cb, hcb⟩ : ∃ u, u = has s p0 p2 := ⟨_, rfl⟩
  obtain ⟨m, hm⟩ : ∃ u, u = tkN s p0 p1 := ⟨_, rfl⟩
  obtain ⟨mb, hmb⟩ : ∃ u, u = tkB s p0 p1 := ⟨_, rfl⟩
  have hs' : s.size ≤ 500 := by omega
  have HP := Lib.hid (fun w => by have := put_any n p1 k w hn hk; rwa [← ht] at this)
  have HRP := Lib.hid (fun w => by have := rput_any n p1 k w hn hk; rwa [← ht] at this)
  have HT := Lib.hid (fun w => by have := take_any s p0 p1 w (by omega) i0 i1; rwa [← hm, ← hmb] at this)
  have HRT := Lib.hid (fun w => by have := rtake_any s p0 p1 w (by omega) i0 i1; rwa [← hm, ← hmb] at this)
  have HC := Lib.hid (fun w => by have := cut_any s p0 p2 w (by omega) i0 i1; rwa [← hc, ← hcb] at this)
  have HRC := Lib.hid (fun w => by have := rcut_any s p0 p2 w (by omega) i0 i1; rwa [← hc, ← hcb] at this)
  have HU := Lib.hid (fun w => by have := unhex_any s w (by omega); rwa [← hu, ← hub] at this)
  have HRU := Lib.hid (fun w => by have := runhex_any s w (by omega); rwa [← hu, ← hub] at this)
  have HH := Lib.hid (fun w => by have := hex_any s w (by omega); rwa [← hh] at this)
  have HRH := Lib.hid (fun w => by have := rhex_any s w (by omega); rwa [← hh] at this)
  clear hk ht hh hu hub hc hcb hm hmb
  obtain ⟨a0, b0, c0, g0, l0⟩ := three_new w (.int .i64 p0) (.int .i64 p1) (.int .i64 p2) 23
  go_enter Try.func3, Try.ntmps3
  go_wp2_with fail
  refine (HT.out _).mono ?_; rintro e w1 ⟨rfl, hb⟩
  obtain ⟨a1, b1, c1, g1, l1⟩ := three_keep hb a0 b0 c0 g0 l0; clear hb
  go_wp2_with fail
  refine (HRT.out _).mono ?_; rintro e w2 ⟨rfl, rfl⟩
  go_wp2_with fail
  refine (HC.out _).mono ?_; rintro e w3 ⟨rfl, hb⟩
  obtain ⟨a3, b3, c3, g3, l3⟩ := three_keep hb a1 b1 c1 g1 l1; clear hb a1 b1 c1 g1 l1
  go_wp2_with fail
  refine (HRC.out _).mono ?_; rintro e w4 ⟨rfl, rfl⟩
  go_wp2_with fail
  refine (HU.out _).mono ?_; rintro e w5 ⟨rfl, hb⟩
  obtain ⟨a5, b5, c5, g5, l5⟩ := three_keep hb a3 b3 c3 g3 l3; clear hb a3 b3 c3 g3 l3
  go_wp2_with fail
  refine (HRU.out _).mono ?_; rintro e w6 ⟨rfl, hb⟩
  obtain ⟨a6, b6, c6, g6, l6⟩ := three_keep hb a5 b5 c5 g5 l5; clear hb a5 b5 c5 g5 l5 a6 c6 a0 b0 c0 g0 l0
  go_wp2_with fail
  go_region_held3 (fun w' => w'.cell? ⟨w.heap.size, 1, none⟩ = some (.int .i64 p1) ∧ w.heap.size < w'.heap.size ∧ Below w.heap.size w w') (first | exact ⟨b6, g6, l6.drew⟩ | exact one_keep (by assumption) (by assumption))
    (first
      | (go_at_call 13; refine (HP.out _).mono ?_; rintro e w7 ⟨rfl, hb7⟩)
      | (go_at_call 14; refine (HRP.out _).mono ?_; rintro e w8 ⟨rfl, hb8⟩)
      | (go_at_call 15; refine (HH.out _).mono ?_; rintro e w9 ⟨rfl, hb9⟩)
      | (go_at_call 16; refine (HRH.out _).mono ?_; rintro e w10 ⟨rfl, hb10⟩)
      | (go_at_call 6; refine (awake_any _).mono ?_; rintro e w11 ⟨rfl, hb11⟩))
  all_goals
    go_wp2
    go_ret
    exact ⟨rfl, ‹_ ∧ _ ∧ Below w.heap.size w _›.2.2⟩
theorem says_law (n : Int) (s : ByteArray) (p0 p1 p2 : Int) (wn : (Lit.int .u64 n).wf = true) (_ws : s.size ≤ maxLen) (w0 : (Lit.int .i64 p0).wf = true) (_w1 : (Lit.int .i64 p1).wf = true) (_w2 : (Lit.int .i64 p2).wf = true) (w : World) :
    Calls Try.prog 3 #[.int .u64 n, .string s, .agg #[.int .i64 p0, .int .i64 p1, .int .i64 p2]] w fun e w' => e = .returned (.bool true) ∧ Below w.heap.size w w' := by
  obtain ⟨m, rfl, hm⟩ := Opn.u64_nat wn
  exact says_walk m s p0 p1 p2 hm (Opn.i64_bd w0).1 (Opn.i64_bd w0).2 w
theorem back_law (n z : Int) (a b : ByteArray) (wn : (Lit.int .u64 n).wf = true) (wz : (Lit.int .u8 z).wf = true) (_wa : a.size ≤ maxLen) (_wb : b.size ≤ maxLen) (w : World) :
    Calls Try.prog 4 #[.int .u64 n, .int .u8 z, .agg #[.string a, .string b]] w fun e w' => e = .returned (.bool true) ∧ Below w.heap.size w w' := by
  obtain ⟨m, rfl, hm⟩ := Opn.u64_nat wn
  obtain ⟨l, rfl, hl⟩ := Opn.u8_nat wz
  exact back_walk m l a b hm (by omega) (by omega) w
theorem hex_law (s t : ByteArray) (_ws : s.size ≤ maxLen) (_wt : t.size ≤ maxLen) (w : World) :
    Calls Try.prog 5 #[.string s, .string t] w fun e w' => e = .returned (.bool true) ∧ Below w.heap.size w w' := hex_walk s t w
end Go.Proofs.Ytgofeakhkpnibaa.Oct
