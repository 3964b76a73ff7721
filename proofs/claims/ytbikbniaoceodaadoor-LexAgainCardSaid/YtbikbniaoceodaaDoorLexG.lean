/- Contracts of the document's word. Conditions: as each theorem states. -/
import Derived.Test.YtbikbniaoceodaaDoorLexE
import Derived.Test.YtbikbniaoceodaaDoorOctT
namespace Go.Proofs.YtbikbniaoceodaaDoor.Lx
open Go.RowKit Go.Lib Go.Proofs.YtbikbniaoceodaaDoor.Byt Go.Proofs.YtbikbniaoceodaaDoor.Quo

/-- A word that is there. -/
theorem cut_yes_word (s : ByteArray) (i : Nat) (hi : i ≤ s.size) (p : ByteArray) (h : (sf s i).take p.size = p.data.toList) : Oct.cutS s (i : Int) (p.size : Int) = p := by
  have hl := congrArg List.length h
  have e : p.size = p.data.toList.length := by simp
  rw [List.length_take, sf_len, ← e] at hl
  unfold Oct.cutS Oct.has
  rw [if_pos (by simp; omega)]
  apply ByteArray.ext
  apply Array.toList_inj.1
  rw [Int.toNat_natCast, Int.toNat_natCast, cut_take, h]
theorem cut_no_word (s : ByteArray) (i : Nat) (p : ByteArray) (hp : 0 < p.size) (h : (sf s i).take p.size ≠ p.data.toList) : Oct.cutS s (i : Int) (p.size : Int) ≠ p := by
  intro e
  unfold Oct.cutS Oct.has at e
  split at e
  · apply h
    have := congrArg (fun b : ByteArray => b.data.toList) e
    simp only [Int.toNat_natCast] at this
    rwa [cut_take] at this
  · have := congrArg ByteArray.size e
    rw [show (⟨#[]⟩ : ByteArray).size = 0 from rfl] at this
    omega
theorem word_run (s : ByteArray) (i : Nat) (hi : i ≤ s.size) (hs : s.size ≤ 140737488355328) (n : Nat) :
    ∃ b, ∀ w, Calls Tryd.prog 34 #[.string s, .int .i64 (i : Int), .int .i64 (n : Int)] w fun e w' => e = .returned (.tuple #[.string (Oct.cutS s (i : Int) (n : Int)), .bool b]) ∧ w = w' :=
  ⟨_, fun w => Oct.rcut_any s (i : Int) (n : Int) w hs (by omega) (by omega)⟩
set_option maxRecDepth 100000 in
set_option maxHeartbeats 2000000 in
theorem word_any (s : ByteArray) (i : Nat) (x : Int) (hx : x = (i : Int)) (hi : i ≤ s.size) (hs : s.size ≤ 140737488355328) (w : World) :
    Calls Tryd.prog 25 #[.string s, .int .i64 x] w fun e w' => e = .returned (nR (atR i (wrd (sf s i)))) ∧ Below w.heap.size w w' := by
  subst hx
  obtain ⟨b4, H4⟩ := word_run s i hi hs 4
  obtain ⟨b5, H5⟩ := word_run s i hi hs 5
  have y0 := cut_yes_word s i hi ⟨#[116, 114, 117, 101]⟩
  have n0 := cut_no_word s i ⟨#[116, 114, 117, 101]⟩ (by decide)
  have y1 := cut_yes_word s i hi ⟨#[102, 97, 108, 115, 101]⟩
  have n1 := cut_no_word s i ⟨#[102, 97, 108, 115, 101]⟩ (by decide)
  have y2 := cut_yes_word s i hi ⟨#[110, 117, 108, 108]⟩
  have n2 := cut_no_word s i ⟨#[110, 117, 108, 108]⟩ (by decide)
  change (sf s i).take 4 = [116, 114, 117, 101] → Oct.cutS s (i : Int) ((4 : Nat) : Int) = ⟨#[116, 114, 117, 101]⟩ at y0
  change (sf s i).take 4 ≠ [116, 114, 117, 101] → Oct.cutS s (i : Int) ((4 : Nat) : Int) ≠ ⟨#[116, 114, 117, 101]⟩ at n0
  change (sf s i).take 5 = [102, 97, 108, 115, 101] → Oct.cutS s (i : Int) ((5 : Nat) : Int) = ⟨#[102, 97, 108, 115, 101]⟩ at y1
  change (sf s i).take 5 ≠ [102, 97, 108, 115, 101] → Oct.cutS s (i : Int) ((5 : Nat) : Int) ≠ ⟨#[102, 97, 108, 115, 101]⟩ at n1
  change (sf s i).take 4 = [110, 117, 108, 108] → Oct.cutS s (i : Int) ((4 : Nat) : Int) = ⟨#[110, 117, 108, 108]⟩ at y2
  change (sf s i).take 4 ≠ [110, 117, 108, 108] → Oct.cutS s (i : Int) ((4 : Nat) : Int) ≠ ⟨#[110, 117, 108, 108]⟩ at n2
  generalize Oct.cutS s (i : Int) ((4 : Nat) : Int) = c4 at *
  generalize Oct.cutS s (i : Int) ((5 : Nat) : Int) = c5 at *
  have Y0 := Lib.hid y0
  have Y1 := Lib.hid y1
  have Y2 := Lib.hid y2
  have N0 := Lib.hid n0
  have N1 := Lib.hid n1
  have N2 := Lib.hid n2
  have HC4 : Hid (∀ w, Calls Tryd.prog 34 #[.string s, .int .i64 (i : Int), .int .i64 4] w fun e w' => e = .returned (.tuple #[.string c4, .bool b4]) ∧ w = w') := Lib.hid H4
  have HC5 : Hid (∀ w, Calls Tryd.prog 34 #[.string s, .int .i64 (i : Int), .int .i64 5] w fun e w' => e = .returned (.tuple #[.string c5, .bool b5]) ∧ w = w') := Lib.hid H5
  clear y0 n0 y1 n1 y2 n2 H4 H5
  generalize hW : wrd (sf s i) = R
  have HR0 : R = wF 0 (sf s i) := by rw [wF_zero]; exact hW.symm
  have HR := Lib.hid HR0
  clear hW HR0
  go_enter Tryd.func25, Tryd.ntmps25
  go_wp2_with fail
  go_loopw [6] (fun x wr => ∃ (k : Nat) (a : Int), x = .int .i64 a ∧ a = 9 + (k : Int) ∧ k ≤ 3 ∧ Box wr w.heap.size #[.int .i64 0, .int .i64 0, .int .i64 0, .string ⟨#[]⟩, .int .i64 0] ∧ Below w.heap.size w wr ∧ Hid (R = wF k (sf s i))) (fun x _ => 12 - (RowKit.intOf x).toNat)
  case atStart => exact ⟨0, 9, rfl, rfl, by omega, box_new w _, (Below.refl _ _).alloc (Nat.le_refl _) _, HR⟩
  case round =>
    obtain ⟨k, a, rfl, ha, hk, hbx, hb, hh⟩ := hrel
    have hsz := hb.size
    have hk4 : k = 0 ∨ k = 1 ∨ k = 2 ∨ k = 3 := by omega
    rcases hk4 with rfl | rfl | rfl | rfl
    · obtain rfl : a = 9 := by omega
      clear ha hk
      by_cases h : (sf s i).take 4 = [116, 114, 117, 101]
      · have hc := Y0.out h
        have HN := Lib.hid (hh.out.trans (wF_0 h))
        clear Y0 Y1 Y2 N0 N1 N2
        subst hc
        clear h hh
        go_wp2_with (first
          | (go_at_call 34; (with_reducible refine (HC4.out _).mono ?_); rintro e w1 ⟨rfl, rfl⟩)
          | (refine wpList_keep _ rfl _ _ rfl w.heap.size w (hb.alloc hsz _) w.heap.size (Nat.le_refl _) _ _ _ _ _ _ rfl rfl (box_old hbx _) rfl ?_; intro w2 hk5 hb5 _))
        try simp only [Exit.inBlock, Exit.then]
        refine bodyPost_ret (results_tok rfl _ _ _ _ rfl hk5 rfl) rfl ?_
        exact ⟨by rw [HN.out]; rfl, hb5⟩
      · have hc : (c4.toList == [116, 114, 117, 101]) = false := by have := str_neq (N0.out h); rw [Byt.toList_data ⟨#[116, 114, 117, 101]⟩] at this; exact this
        have HN := Lib.hid (hh.out.trans (wF_n0 h))
        clear h hh Y0 Y1 Y2 N0 N1 N2
        go_wp2_with (go_at_call 34; (with_reducible refine (HC4.out _).mono ?_); rintro e w1 ⟨rfl, rfl⟩)
        go_roundw
        case rel => exact ⟨1, _, rfl, by omega, by omega, box_old hbx _, hb.alloc hsz _, HN⟩
        case measure => simp [RowKit.intOf]
    · obtain rfl : a = 10 := by omega
      clear ha hk
      by_cases h : (sf s i).take 5 = [102, 97, 108, 115, 101]
      · have hc := Y1.out h
        have HN := Lib.hid (hh.out.trans (wF_1 h))
        clear Y0 Y1 Y2 N0 N1 N2
        subst hc
        clear h hh
        go_wp2_with (first
          | (go_at_call 34; (with_reducible refine (HC5.out _).mono ?_); rintro e w1 ⟨rfl, rfl⟩)
          | (refine wpList_keep _ rfl _ _ rfl w.heap.size w (hb.alloc hsz _) w.heap.size (Nat.le_refl _) _ _ _ _ _ _ rfl rfl (box_old hbx _) rfl ?_; intro w2 hk5 hb5 _))
        try simp only [Exit.inBlock, Exit.then]
        refine bodyPost_ret (results_tok rfl _ _ _ _ rfl hk5 rfl) rfl ?_
        exact ⟨by rw [HN.out]; rfl, hb5⟩
      · have hc : (c5.toList == [102, 97, 108, 115, 101]) = false := by have := str_neq (N1.out h); rw [Byt.toList_data ⟨#[102, 97, 108, 115, 101]⟩] at this; exact this
        have HN := Lib.hid (hh.out.trans (wF_n1 h))
        clear h hh Y0 Y1 Y2 N0 N1 N2
        go_wp2_with (go_at_call 34; (with_reducible refine (HC5.out _).mono ?_); rintro e w1 ⟨rfl, rfl⟩)
        go_roundw
        case rel => exact ⟨2, _, rfl, by omega, by omega, box_old hbx _, hb.alloc hsz _, HN⟩
        case measure => simp [RowKit.intOf]
    · obtain rfl : a = 11 := by omega
      clear ha hk
      by_cases h : (sf s i).take 4 = [110, 117, 108, 108]
      · have hc := Y2.out h
        have HN := Lib.hid (hh.out.trans (wF_2 h))
        clear Y0 Y1 Y2 N0 N1 N2
        subst hc
        clear h hh
        go_wp2_with (first
          | (go_at_call 34; (with_reducible refine (HC4.out _).mono ?_); rintro e w1 ⟨rfl, rfl⟩)
          | (refine wpList_keep _ rfl _ _ rfl w.heap.size w (hb.alloc hsz _) w.heap.size (Nat.le_refl _) _ _ _ _ _ _ rfl rfl (box_old hbx _) rfl ?_; intro w2 hk5 hb5 _))
        try simp only [Exit.inBlock, Exit.then]
        refine bodyPost_ret (results_tok rfl _ _ _ _ rfl hk5 rfl) rfl ?_
        exact ⟨by rw [HN.out]; rfl, hb5⟩
      · have hc : (c4.toList == [110, 117, 108, 108]) = false := by have := str_neq (N2.out h); rw [Byt.toList_data ⟨#[110, 117, 108, 108]⟩] at this; exact this
        have HN := Lib.hid (hh.out.trans (wF_n2 h))
        clear h hh Y0 Y1 Y2 N0 N1 N2
        go_wp2_with (go_at_call 34; (with_reducible refine (HC4.out _).mono ?_); rintro e w1 ⟨rfl, rfl⟩)
        go_roundw
        case rel => exact ⟨3, _, rfl, by omega, by omega, box_old hbx _, hb.alloc hsz _, HN⟩
        case measure => simp [RowKit.intOf]
    · obtain rfl : a = 12 := by omega
      clear ha hk
      have HN := Lib.hid (hh.out.trans (show wF 3 (sf s i) = (4, bad 0) by unfold wF; simp))
      clear hh Y0 Y1 Y2 N0 N1 N2
      go_wp2_with fail
      refine (fault_any _ _ _).mono ?_
      rintro e w1 ⟨rfl, hb1⟩
      have hb0 : Below w.heap.size w w1 := hb.trans (hb1.mono hsz)
      have hk4 := hbx.next hb1 hbx.lt
      clear hb1
      go_wp2_with (refine wpList_keep _ rfl _ _ rfl w.heap.size w hb0 w.heap.size (Nat.le_refl _) _ _ _ _ _ _ rfl rfl hk4 rfl ?_; intro w2 hk5 hb5 _)
      try simp only [Exit.inBlock, Exit.then]
      refine bodyPost_ret (results_tok rfl _ _ _ _ rfl hk5 rfl) rfl ?_
      exact ⟨by rw [HN.out]; rfl, hb5⟩
end Go.Proofs.YtbikbniaoceodaaDoor.Lx
