/- Contracts of Cut, and of the document's. Conditions: as each theorem states. -/
import Derived.Test.YtggahjhjapnfeaaDoorByt
import Derived.Test.YtggahjhjapnfeaaDoorShelf
import Derived.BigQuiet
import Derived.Deep.QuietTactic
namespace Go.Proofs.YtggahjhjapnfeaaDoor.Oct
open Go.RowKit Go.Lib Go.Proofs.YtggahjhjapnfeaaDoor.Byt

theorem clone_any (s : ByteArray) (w : World) (hs : s.size ≤ 281474976710656) :
    Calls Tryd.prog 66 #[.string s] w fun e w' => e = .returned (.string s) ∧ Below w.heap.size w w' := by
  go_enter Tryd.func66, Tryd.ntmps66
  go_wp2_with (go_at_call 70; refine (Tryd.stringslite_Clone _ _ hs).mono ?_; rintro e w' ⟨rfl, hb⟩)
  go_ret
  exact ⟨rfl, hb⟩

/-- Are there n bytes from at on? -/
def has (s : ByteArray) (at_ n : Int) : Bool := decide (0 ≤ at_ ∧ 0 ≤ n ∧ n ≤ (s.size : Int) - at_)

theorem cut_yes (s : ByteArray) (i n : Nat) (w : World) (h : i + n ≤ s.size) (hs : s.size ≤ 140737488355328) :
    Calls Tryd.prog 61 #[.string s, .int .i64 (i : Int), .int .i64 (n : Int)] w fun e w' => e = .returned (.tuple #[.string (cutB s i n), .bool true]) ∧ Below w.heap.size w w' := by
  have hsl := run_cut s i (i + n) i n rfl rfl h
  have hz := cutB_size s i n h
  have hz' : (cutB s i n).size ≤ 281474976710656 := by omega
  clear hz
  go_enter Tryd.func61, Tryd.ntmps61
  go_wp2_with (go_at_call 66; refine (clone_any _ _ hz').mono ?_; rintro e w' ⟨rfl, hb⟩)
  go_ret2
  exact ⟨rfl, hb⟩

theorem cut_no (s : ByteArray) (i n : Int) (w : World) (h : has s i n = false) (hs : s.size ≤ 140737488355328) (hi : -9223372036854775808 ≤ i) (hi' : i ≤ 9223372036854775807) :
    Calls Tryd.prog 61 #[.string s, .int .i64 i, .int .i64 n] w fun e w' => e = .returned (.tuple #[.string ⟨#[]⟩, .bool false]) ∧ w = w' := by
  have h' : i < 0 ∨ (0 ≤ i ∧ n < 0) ∨ (0 ≤ i ∧ 0 ≤ n ∧ (s.size : Int) - i < n) := by
    unfold has at h; simp at h; omega
  clear h
  rcases h' with h | ⟨h0, h⟩ | ⟨h0, h1, h⟩
  all_goals
    go_enter Tryd.func61, Tryd.ntmps61
    go_wp2_with fail
    go_ret2
    exact ⟨rfl, rfl⟩

theorem rcut_yes (s : ByteArray) (i n : Nat) (w : World) (h : i + n ≤ s.size) (hs : s.size ≤ 140737488355328) :
    Calls Tryd.prog 54 #[.string s, .int .i64 (i : Int), .int .i64 (n : Int)] w fun e w' => e = .returned (.tuple #[.string (cutB s i n), .bool true]) ∧ w = w' := by
  have hsl := run_cut s i (i + n) i n rfl rfl h
  go_enter Tryd.func54, Tryd.ntmps54
  go_wp2_with fail
  go_ret2
  exact ⟨rfl, rfl⟩

theorem rcut_no (s : ByteArray) (i n : Int) (w : World) (h : has s i n = false) (hs : s.size ≤ 140737488355328) (hi : -9223372036854775808 ≤ i) (hi' : i ≤ 9223372036854775807) :
    Calls Tryd.prog 54 #[.string s, .int .i64 i, .int .i64 n] w fun e w' => e = .returned (.tuple #[.string ⟨#[]⟩, .bool false]) ∧ w = w' := by
  have h' : i < 0 ∨ (0 ≤ i ∧ n < 0) ∨ (0 ≤ i ∧ 0 ≤ n ∧ (s.size : Int) < i) ∨ (0 ≤ i ∧ 0 ≤ n ∧ i ≤ (s.size : Int) ∧ (s.size : Int) - i < n) := by
    unfold has at h; simp at h; omega
  clear h
  rcases h' with h | ⟨h0, h⟩ | ⟨h0, h1, h⟩ | ⟨h0, h1, h2, h⟩
  all_goals
    go_enter Tryd.func54, Tryd.ntmps54
    go_wp2_with fail
    go_ret2
    exact ⟨rfl, rfl⟩

end Go.Proofs.YtggahjhjapnfeaaDoor.Oct
