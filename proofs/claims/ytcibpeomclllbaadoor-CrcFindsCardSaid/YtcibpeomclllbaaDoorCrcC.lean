/- The statement CrcSays as a contract over every input. Conditions: the arguments fit their kinds; the table of effects reads as the program lays it. -/
import Derived.Test.YtcibpeomclllbaaDoorCrcB
import Derived.Test.YtcibpeomclllbaaDoorOpn
import Derived.BigQuiet
import Derived.Deep.QuietTactic
import Derived.Deep.RegionHeld3
namespace Go.Proofs.YtcibpeomclllbaaDoor.Crc
open Go.RowKit Go.Lib Go.Proofs.YtcibpeomclllbaaDoor.Byt

theorem slice_to (s : ByteArray) (n : Nat) (h : n ≤ s.size) (w : World) :
    (Instr.slice 9 (.string s) none (some (.int .i64 (n : Int))) none).run Tryd.prog w = .ok (.string (cutB s 0 n)) w := by
  rw [run_slice_string_to_if w 9 s .i64 (n : Int) Tryd.underlying9, if_pos (by omega)]
  have := extract_cut s 0 n
  rw [Nat.zero_add] at this
  rw [← this]
  rfl

set_option maxHeartbeats 1000000 in
theorem says_walk (s : ByteArray) (c : Nat) (n : Int) (w : World) (hc : c < 4294967296) (hT : Tab w) :
    Calls Tryd.prog 3 #[.string s, .int .u32 (c : Int), .int .i64 n] w fun e w' => e = .returned (.bool true) ∧ w = w' := by
  have HA := Lib.hid (awake_any w hT)
  by_cases hs : 3000 < s.size
  · go_enter Tryd.func3, Tryd.ntmps3
    go_wp2_with (go_at_call 6; refine HA.out.mono ?_; rintro e w1 ⟨rfl, rfl⟩)
    go_ret
    exact ⟨rfl, rfl⟩
  have hs' : s.size ≤ 3000 := by omega
  clear hs
  obtain ⟨k, kz, hk, hsl, hkz⟩ : ∃ (k : Nat) (kz : Int), (kz = (s.size : Int) ∧ s.size ≤ 60 ∨ kz = 60 ∧ 60 < s.size) ∧ k ≤ s.size ∧ kz = (k : Int) := by
    by_cases h : s.size ≤ 60
    · exact ⟨s.size, _, .inl ⟨rfl, h⟩, by omega, rfl⟩
    · exact ⟨60, 60, .inr ⟨rfl, by omega⟩, by omega, rfl⟩
  have hsl := fun w => slice_to s k hsl w
  rw [← hkz] at hsl
  have htz := cutB_size s 0 k (by omega)
  generalize cutB s 0 k = t at *
  have hz : t.size ≤ 3000 := by omega
  clear htz hkz
  have H1 := Lib.hid (sum_any s w (by omega) hT)
  have H2 := Lib.hid (rsum_any s w (by omega))
  have H3 := Lib.hid (more_any c s w hc (by omega) hT)
  have H4 := Lib.hid (rmore_any c s w hc (by omega))
  have H5 := Lib.hid (join_any c t n w hc (by omega) hT)
  have H6 := Lib.hid (rjoin_any c t n w hc (by omega))
  generalize mr 0 s.data.toList = r1 at *
  generalize mr c s.data.toList = r2 at *
  generalize jn c t.data.toList (cop n) = r3 at *
  rcases hk with ⟨rfl, hk⟩ | ⟨rfl, hk⟩
  all_goals
    go_enter Tryd.func3, Tryd.ntmps3
    go_wp2_with (first
      | (go_at_call 6; refine HA.out.mono ?_; rintro e w1 ⟨rfl, rfl⟩)
      | (go_at_call 7; refine H1.out.mono ?_; rintro e w1 ⟨rfl, rfl⟩)
      | (go_at_call 8; refine H2.out.mono ?_; rintro e w1 ⟨rfl, rfl⟩)
      | (go_at_call 9; refine H3.out.mono ?_; rintro e w1 ⟨rfl, rfl⟩)
      | (go_at_call 10; refine H4.out.mono ?_; rintro e w1 ⟨rfl, rfl⟩)
      | (go_at_call 11; refine H5.out.mono ?_; rintro e w1 ⟨rfl, rfl⟩)
      | (go_at_call 12; refine H6.out.mono ?_; rintro e w1 ⟨rfl, rfl⟩))
    go_ret
    exact ⟨rfl, rfl⟩
end Go.Proofs.YtcibpeomclllbaaDoor.Crc
