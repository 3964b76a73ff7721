/- The law of the document's Level. Conditions: the two tables of unicode/utf8 are as its text lays them, strconv.ErrSyntax holds an error; as each theorem states. -/
import Derived.Test.YtggahjhjapnfeaaDoorGraW
import Derived.Test.YtggahjhjapnfeaaDoorGraG
namespace Go.Proofs.YtggahjhjapnfeaaDoor.Gr
open Go.RowKit Go.Lib Go.Proofs.YtggahjhjapnfeaaDoor.Byt Go.Proofs.YtggahjhjapnfeaaDoor.Lx

theorem isB_low (z : Int) (h : z ≤ 64) : isB z = decide (0 ≤ z) := by unfold isB; rw [decide_eq_true h, Bool.and_true]
set_option maxHeartbeats 2000000 in
set_option maxRecDepth 100000 in
theorem says_walk (s : ByteArray) (w : World) (hE : Env w) :
    Calls Tryd.prog 3 #[.string s] w fun e w' => e = .returned (.bool true) ∧ Below w.heap.size w w' := by
  have HA := Lib.hid (awake_in w)
  have hin : In w w := ⟨hE, Below.refl _ _⟩
  clear hE
  by_cases hg : 40 < s.size
  · have hg1 : decide ((40 : Int) < (s.size : Int)) = true := decide_eq_true (by omega)
    go_enter Tryd.func3, Tryd.ntmps3
    go_wp2_with (go_at_call 6; (with_reducible refine (HA.out _ (by assumption)).mono ?_); rintro e wx ⟨rfl, hx⟩)
    go_ret
    exact ⟨rfl, hx.bel⟩
  · have hs : s.size ≤ 40 := by omega
    have hg1 : decide ((40 : Int) < (s.size : Int)) = false := decide_eq_false (by omega)
    have hll := lvl_len s.data.toList
    have hlen : s.data.toList.length = s.size := by simp
    have H0 : Hid (∀ W, In w W → Calls Tryd.prog 7 #[.string s] W fun e w' => e = .returned (.int .i64 (lev s)) ∧ In w w') :=
      Lib.hid fun W h => (rlevel_any s s.size W rfl (by omega)).mono fun _ _ k => ⟨k.1, h.next k.2⟩
    have H1 := Lib.hid (lev_in s _ rfl (by omega) w)
    have HI := Lib.hid (is_in s _ (isB_low (lev s) (by show lvl s.data.toList ≤ 64; omega)) (by omega) w)
    generalize lev s = z at *
    clear hll hlen
    go_enter Tryd.func3, Tryd.ntmps3
    go_wp2_with (first
      | (go_at_call 7; (with_reducible refine (H0.out _ (by assumption)).mono ?_); rintro e wx ⟨rfl, hx⟩)
      | (go_at_call 8; (with_reducible refine (H1.out _ (by assumption)).mono ?_); rintro e wx ⟨rfl, hx⟩)
      | (go_at_call 9; (with_reducible refine (HI.out _ (by assumption)).mono ?_); rintro e wx ⟨rfl, hx⟩)
      | (go_at_call 6; (with_reducible refine (HA.out _ (by assumption)).mono ?_); rintro e wx ⟨rfl, hx⟩))
    go_ret
    exact ⟨rfl, hx.bel⟩
end Go.Proofs.YtggahjhjapnfeaaDoor.Gr
