/- Two lists of tokens held against each other; LexSays. Conditions: the tables of unicode/utf8 and the errors of strconv (what the row lists). -/
import Derived.Test.YtbikbniaoceodaaDoorLexI
import Derived.Test.YtbikbniaoceodaaDoorLexH
namespace Go.Proofs.YtbikbniaoceodaaDoor.Lx
open Go.RowKit Go.Lib Go.Proofs.YtbikbniaoceodaaDoor.Byt Go.Proofs.YtbikbniaoceodaaDoor.Quo

set_option maxRecDepth 100000 in
theorem same_any (v1 v2 : Value) (L : List Tk) (w : World) (h1 : Row w v1 L) (h2 : Row w v2 L) (hL : L.length ≤ 1000000) :
    Calls Tryd.prog 12 #[v1, v2] w fun e w' => e = .returned (.bool true) ∧ Below w.heap.size w w' := by
  obtain ⟨a1, cap1, rfl, c1⟩ := h1.open_
  obtain ⟨a2, cap2, rfl, c2⟩ := h2.open_
  have C1 := Lib.hid c1
  have C2 := Lib.hid c2
  clear c1 c2 h1 h2
  go_enter Tryd.func12, Tryd.ntmps12
  go_wp2_with fail
  go_loopw [13] (fun x wr => ∃ i : Nat, x = .int .i64 (i : Int) ∧ i ≤ L.length ∧ Below w.heap.size w wr) (fun x _ => L.length - (RowKit.intOf x).toNat)
  case atStart => exact ⟨0, by go_num, by omega, Below.refl _ _⟩
  case round =>
    obtain ⟨i, rfl, hi, hb⟩ := hrel
    by_cases hlt : i < L.length
    · obtain ⟨b1, rfl, r1⟩ := C1.out i hlt
      obtain ⟨b2, rfl, r2⟩ := C2.out i hlt
      replace r1 := rangeAt_next r1 hb
      replace r2 := rangeAt_next r2 hb
      generalize L.getD i T0 = X at *
      have p0 : wr.cell? ⟨b1, i * 5, none⟩ = some (.int .i64 (X.k : Int)) := r1 0 _ rfl
      have p1 : wr.cell? ⟨b1, i * 5 + 1, none⟩ = some (.int .i64 (X.o : Int)) := r1 1 _ rfl
      have p2 : wr.cell? ⟨b1, i * 5 + 2, none⟩ = some (.int .i64 (X.z : Int)) := r1 2 _ rfl
      have p3 : wr.cell? ⟨b1, i * 5 + 3, none⟩ = some (.string ⟨X.v.toArray⟩) := r1 3 _ rfl
      have p4 : wr.cell? ⟨b1, i * 5 + 4, none⟩ = some (.int .i64 X.n) := r1 4 _ rfl
      have q0 : wr.cell? ⟨b2, i * 5, none⟩ = some (.int .i64 (X.k : Int)) := r2 0 _ rfl
      have q1 : wr.cell? ⟨b2, i * 5 + 1, none⟩ = some (.int .i64 (X.o : Int)) := r2 1 _ rfl
      have q2 : wr.cell? ⟨b2, i * 5 + 2, none⟩ = some (.int .i64 (X.z : Int)) := r2 2 _ rfl
      have q3 : wr.cell? ⟨b2, i * 5 + 3, none⟩ = some (.string ⟨X.v.toArray⟩) := r2 3 _ rfl
      have q4 : wr.cell? ⟨b2, i * 5 + 4, none⟩ = some (.int .i64 X.n) := r2 4 _ rfl
      clear r1 r2
      go_wp2_with fail
      go_region
      go_wp2_with fail
      go_roundw
      case rel => exact ⟨i + 1, by go_num, by omega, hb.drew⟩
      case measure => simp [RowKit.intOf]; omega
    · obtain rfl : i = L.length := by omega
      go_wp2_with fail
      go_ret
      exact ⟨rfl, hb⟩

/-! ### LexSays -/
set_option maxRecDepth 100000 in
set_option maxHeartbeats 4000000 in
theorem says_walk (s : ByteArray) (a : Int) (w : World) (hE : Env w) (hi : -9223372036854775808 ≤ a) (hi' : a ≤ 9223372036854775807) :
    Calls Tryd.prog 3 #[.string s, .int .i64 a] w fun e w' => e = .returned (.bool true) ∧ Below w.heap.size w w' := by
  have HE := Lib.hid hE
  clear hE
  by_cases hg : 400 < s.size
  · go_enter Tryd.func3, Tryd.ntmps3
    go_wp2_with fail
    refine (awake_any _ HE.out).mono ?_; rintro e w1 ⟨rfl, hb1⟩
    go_wp2_with fail
    go_ret
    exact ⟨rfl, hb1⟩
  · have ht : s.size ≤ 400 := by omega
    have HT := Lib.hid (fun w hE => tokens_any s (by omega) w hE)
    have HU := Lib.hid (fun w => rtokens_any s (by omega) w)
    have HN0 := fun w hE => next_any s a (by omega) w hE hi hi'
    have HM0 := fun w => rnext_any s a (by omega) w
    have en : nR (nxA s a) = .tuple #[.agg #[.int .i64 ((nxA s a).2.k : Int), .int .i64 ((nxA s a).2.o : Int), .int .i64 ((nxA s a).2.z : Int), .string ⟨(nxA s a).2.v.toArray⟩, .int .i64 (nxA s a).2.n], .int .i64 ((nxA s a).1 : Int)] := rfl
    rw [en] at HN0 HM0
    have HN := Lib.hid HN0
    have HM := Lib.hid HM0
    have hl : s.data.toList.length = s.size := by simp
    have hL : (tkS s).2.2.length ≤ 1000000 := by
      by_cases he : (tkS s).1 = 0
      · have := (fills s.data.toList 0 s.data.toList (by simp) (by omega) he).2.2.1
        change (tkS s).2.2.length + 0 ≤ _ at this
        omega
      · have := (faults 0 s.data.toList he).1
        change (tkS s).2.2 = [] at this
        rw [this]; simp
    clear HN0 HM0 en hg hi hi' hl
    generalize (nxA s a).1 = C at *
    generalize (nxA s a).2 = X at *
    generalize (tkS s).2.2 = L at *
    generalize (tkS s).2.1 = B at *
    generalize (tkS s).1 = D at *
    go_enter Tryd.func3, Tryd.ntmps3
    go_wp2_with fail
    refine (HT.out _ HE.out).mono ?_; rintro e w1 ⟨v1, rfl, hr1, hb1⟩
    have HE1 := Lib.hid (HE.out.next hb1)
    go_wp2_with fail
    refine (HU.out _).mono ?_; rintro e w2 ⟨v2, rfl, hq2, hb2⟩
    have HE2 := Lib.hid (HE1.out.next hb2)
    have hr2 := hr1.next hb2
    have hb12 := next hb1 hb2
    clear hb1 hb2 hr1
    go_wp2_with fail
    refine (HN.out _ HE2.out).mono ?_; rintro e w3 ⟨rfl, hb3⟩
    have HE3 := Lib.hid (HE2.out.next hb3)
    have hr3 := hr2.next hb3
    have hq3 := hq2.next hb3
    have hb13 := next hb12 hb3
    clear hb12 hb3 hr2 hq2
    go_wp2_with fail
    refine (HM.out _).mono ?_; rintro e w4 ⟨rfl, hb4⟩
    have hk3 := box_new w3 #[.int .i64 (X.k : Int), .int .i64 (X.o : Int), .int .i64 (X.z : Int), .string ⟨X.v.toArray⟩, .int .i64 X.n]
    have hk4 := hk3.next hb4 hk3.lt
    have hal := (Below.refl w3.heap.size w3).alloc (Nat.le_refl _) (.cells #[.int .i64 (X.k : Int), .int .i64 (X.o : Int), .int .i64 (X.z : Int), .string ⟨X.v.toArray⟩, .int .i64 X.n] 28)
    have hb34 : Below w3.heap.size w3 w4 := hal.trans (hb4.mono hal.size)
    have HE4 := Lib.hid (HE3.out.next hb34)
    have hr4 := hr3.next hb34
    have hq4 := hq3.next hb34
    have hb14 := next hb13 hb34
    clear hb13 hb34 hr3 hq3 hk3 hal hb4
    go_wp2_with fail
    have hal := (Below.refl w4.heap.size w4).alloc (Nat.le_refl _) (.cells #[.int .i64 (X.k : Int), .int .i64 (X.o : Int), .int .i64 (X.z : Int), .string ⟨X.v.toArray⟩, .int .i64 X.n] 28)
    refine (same_any v1 v2 L _ (hr4.next hal) (hq4.next hal) hL).mono ?_; rintro e w5 ⟨rfl, hb5⟩
    have hk5 := (box_old hk4 _).next hb5 (box_old hk4 _).lt
    have hk6 := (box_new w4 #[.int .i64 (X.k : Int), .int .i64 (X.o : Int), .int .i64 (X.z : Int), .string ⟨X.v.toArray⟩, .int .i64 X.n]).next hb5 (by simp)
    have hb45 : Below w4.heap.size w4 w5 := hal.trans (hb5.mono hal.size)
    have HE5 := Lib.hid (HE4.out.next hb45)
    have hb15 := next hb14 hb45
    have p0 : w5.cell? ⟨w3.heap.size, 0, none⟩ = some (.int .i64 (X.k : Int)) := hk5.cell 0
    have p1 : w5.cell? ⟨w3.heap.size, 1, none⟩ = some (.int .i64 (X.o : Int)) := hk5.cell 1
    have p2 : w5.cell? ⟨w3.heap.size, 2, none⟩ = some (.int .i64 (X.z : Int)) := hk5.cell 2
    have p3 : w5.cell? ⟨w3.heap.size, 3, none⟩ = some (.string ⟨X.v.toArray⟩) := hk5.cell 3
    have p4 : w5.cell? ⟨w3.heap.size, 4, none⟩ = some (.int .i64 X.n) := hk5.cell 4
    have q0 : w5.cell? ⟨w4.heap.size, 0, none⟩ = some (.int .i64 (X.k : Int)) := hk6.cell 0
    have q1 : w5.cell? ⟨w4.heap.size, 1, none⟩ = some (.int .i64 (X.o : Int)) := hk6.cell 1
    have q2 : w5.cell? ⟨w4.heap.size, 2, none⟩ = some (.int .i64 (X.z : Int)) := hk6.cell 2
    have q3 : w5.cell? ⟨w4.heap.size, 3, none⟩ = some (.string ⟨X.v.toArray⟩) := hk6.cell 3
    have q4 : w5.cell? ⟨w4.heap.size, 4, none⟩ = some (.int .i64 X.n) := hk6.cell 4
    clear hb14 hb45 hr4 hq4 hk4 hk5 hk6 hal hb5
    go_wp2_with fail
    refine (awake_any _ HE5.out).mono ?_; rintro e w6 ⟨rfl, hb6⟩
    go_wp2_with fail
    go_ret
    exact ⟨rfl, next hb15 hb6⟩
end Go.Proofs.YtbikbniaoceodaaDoor.Lx
