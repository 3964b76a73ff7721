/- The statement's example, 'texts', and TextBack as a contract over every input. Conditions: the two tables of unicode/utf8 are as its text lays them; as each theorem states. -/
import Derived.Test.YtpjopidmcahbdaaDoorTxtB
import Derived.Test.YtpjopidmcahbdaaDoorVarF
namespace Go.Proofs.YtpjopidmcahbdaaDoor.Txt
open Go.RowKit Go.Lib Go.Proofs.YtpjopidmcahbdaaDoor.Byt Go.Proofs.YtpjopidmcahbdaaDoor.Var Go.Proofs.YtpjopidmcahbdaaDoor.Utf Go.Proofs.YtpjopidmcahbdaaDoor.Oct

set_option maxHeartbeats 1000000 in
theorem texts_same (v u : Value) (l : List ByteArray) (w : World) (hv : Strs.Row w v l) (hu : Strs.Row w u l) (hl : l.length ≤ 4000000000000) :
    Calls Tryd.prog 7 #[v, u] w fun e w' => e = .returned (.bool true) ∧ Below w.heap.size w w' := by
  obtain ⟨a, cap, rfl, hc⟩ := hv.open_
  obtain ⟨a2, cap2, rfl, hc2⟩ := hu.open_
  have HC := Lib.hid hc
  have HC2 := Lib.hid hc2
  clear hc hc2 hv hu
  go_enter Tryd.func7, Tryd.ntmps7
  go_wp2_with fail
  go_loopw [13] (fun i wr => ∃ k : Nat, i = .int .i64 (k : Int) ∧ k ≤ l.length ∧ Below w.heap.size w wr) (fun i _ => l.length - (RowKit.intOf i).toNat)
  case atStart => exact ⟨0, rfl, Nat.zero_le _, Below.refl _ _⟩
  case round =>
    obtain ⟨k, rfl, hk, hb⟩ := hrel
    by_cases hlt : k < l.length
    · obtain ⟨b, off, rfl, c1⟩ := HC.out k hlt
      obtain ⟨b2, off2, rfl, c2⟩ := HC2.out k hlt
      have d1 := (hb.cell (Strs.cell_lt c1)).trans c1
      have d2 := (hb.cell (Strs.cell_lt c2)).trans c2
      clear c1 c2 HC HC2
      generalize l.getD k ⟨#[]⟩ = x at *
      go_wp2_with fail
      go_quiet (fail)
      go_wp2_with fail
      go_roundw
      case rel => exact ⟨k + 1, by go_num, by omega, Var.below_drewN hb⟩
      case measure => simp [RowKit.intOf]; omega
    · go_wp2_with fail
      go_ret
      exact ⟨rfl, hb⟩

/-! ### the example -/
theorem aw_tE : tE ⟨#[97, 98]⟩ 2 = 0 := tE_zero.2 ⟨by decide, by decide +kernel⟩
theorem aw_tB : tB ⟨#[97, 98]⟩ = [2, 97, 98] := by
  show putV 2 ++ [97, 98] = _
  rw [putV_lt (by decide)]; rfl
theorem aw_put1 (w : World) (hT : Tabs w) : Calls Tryd.prog 8 #[.string ⟨#[97, 98]⟩, .int .i64 2] w fun e w' => e = .returned (.tuple #[.string ⟨#[2, 97, 98]⟩, .int .i64 0]) ∧ Below w.heap.size w w' := by
  have h := tput_any ⟨#[97, 98]⟩ 2 w hT (by decide) (by decide)
  rw [tS_yes aw_tE, aw_tE, aw_tB] at h
  exact h
theorem aw_put2 (w : World) (hT : Tabs w) : Calls Tryd.prog 8 #[.string ⟨#[97, 98]⟩, .int .i64 1] w fun e w' => e = .returned (.tuple #[.string ⟨#[]⟩, .int .i64 5]) ∧ Below w.heap.size w w' := by
  have h := tput_any ⟨#[97, 98]⟩ 1 w hT (by decide) (by decide)
  have e : tE ⟨#[97, 98]⟩ 1 = 5 := by unfold tE; rw [if_pos (by decide)]
  have e2 : tS ⟨#[97, 98]⟩ 1 = ⟨#[]⟩ := by unfold tS; rw [e]; rfl
  rw [e, e2] at h
  exact h
theorem aw_take (w : World) (hT : Tabs w) : Calls Tryd.prog 9 #[.string ⟨#[120, 2, 97, 98]⟩, .int .i64 1, .int .i64 2] w fun e w' => e = .returned (.tuple #[.string ⟨#[97, 98]⟩, .int .i64 4, .int .i64 0]) ∧ Below w.heap.size w w' := by
  have h := tget_any ⟨#[120, 2, 97, 98]⟩ 1 2 w hT (by decide) (by decide)
  obtain ⟨h1, h2, h3⟩ := g_put (s := ⟨#[120, 2, 97, 98]⟩) (p := 1) (m := 2) [] (by decide) (by decide) aw_tE (by rw [aw_tB]; rfl)
  rw [aw_tB] at h3
  rw [show ((1 : Nat) : Int) = 1 from rfl] at h1 h2 h3
  rw [h1, h2, h3] at h
  exact h
theorem aw_all (w : World) (hT : Tabs w) : Calls Tryd.prog 6 #[.string ⟨#[2, 1, 97, 0]⟩, .int .i64 0, .int .i64 9] w fun e w' =>
    ∃ b off cap, e = .returned (.tuple #[.slice (some ⟨b, off, none⟩) 2 cap, .int .i64 4, .int .i64 0]) ∧ w'.cell? ⟨b, off, none⟩ = some (.string ⟨#[97]⟩) ∧ Below w.heap.size w w' := by
  refine (ttakeall_any ⟨#[2, 1, 97, 0]⟩ 0 9 w hT (by decide) (by decide)).mono ?_
  rintro e w' ⟨v, rfl, hrow, hb⟩
  have e1 : tE ⟨#[97]⟩ 9 = 0 := tE_zero.2 ⟨by decide, by decide +kernel⟩
  have e2 : tE ⟨#[]⟩ 9 = 0 := tE_zero.2 ⟨by decide, by decide +kernel⟩
  have e3 : paB [⟨#[97]⟩, ⟨#[]⟩] = [2, 1, 97, 0] := by
    show putV 2 ++ lB _ = _
    rw [lB_cons, lB_cons, lB_nil]
    show putV 2 ++ ((putV 1 ++ [97]) ++ ((putV 0 ++ []) ++ [])) = _
    rw [putV_lt (by decide), putV_lt (by decide), putV_lt (by decide)]; rfl
  have h := ta_put (s := ⟨#[2, 1, 97, 0]⟩) (p := 0) (m := 9) (l := [⟨#[97]⟩, ⟨#[]⟩]) [] (by decide) (by decide) (by decide) (paE_zero.2 fun x hx => by
    rcases List.mem_cons.1 hx with rfl | hx
    · exact e1
    · rcases List.mem_cons.1 hx with rfl | hx
      · exact e2
      · cases hx) (by rw [e3]; rfl)
  rw [show ((0 : Nat) : Int) = 0 from rfl, e3] at h
  rw [h] at hrow ⊢
  rcases hrow with ⟨h, _⟩ | ⟨b, off, cap, rfl, hc⟩
  · cases h
  · exact ⟨b, off, cap, rfl, hc 0 (by decide), hb⟩

set_option maxHeartbeats 1000000 in
theorem awake_any (w : World) (hT : Tabs w) : Calls Tryd.prog 4 #[] w fun e w' => e = .returned (.bool true) ∧ Below w.heap.size w w' := by
  have HT := Lib.hid hT
  clear hT
  go_enter Tryd.func4, Tryd.ntmps4
  go_wp2_with fail
  refine (aw_put1 _ HT.out).mono ?_; rintro e w1 ⟨rfl, hb1⟩
  have HT1 := Lib.hid (HT.out.next hb1)
  go_wp2_with fail
  refine (aw_put2 _ HT1.out).mono ?_; rintro e w2 ⟨rfl, hb2⟩
  have HT2 := Lib.hid (HT1.out.next hb2)
  go_wp2_with fail
  refine (aw_take _ HT2.out).mono ?_; rintro e w3 ⟨rfl, hb3⟩
  have HT3 := Lib.hid (HT2.out.next hb3)
  go_wp2_with fail
  refine (aw_all _ HT3.out).mono ?_; rintro e w4 ⟨b, off, cap, rfl, hc, hb4⟩
  go_wp2_with fail
  go_ret
  exact ⟨rfl, next (next (next hb1 hb2) hb3) hb4⟩
end Go.Proofs.YtpjopidmcahbdaaDoor.Txt
