/- The statement CrcLinear as a contract over every input. Conditions: the table of effects reads as the program lays it. -/
import Derived.Test.YtnknchadlhcdbaaDoorCrcD
import Derived.Laws.Cover1
namespace Go.Proofs.YtnknchadlhcdbaaDoor.Crc
open Go.RowKit Go.Lib Go.Proofs.YtnknchadlhcdbaaDoor.Byt

theorem min3 (a b c k : Nat) (h : k = min (min a b) c) :
    (if (c : Int) < if (b : Int) < (a : Int) then (b : Int) else (a : Int) then (c : Int) else if (b : Int) < (a : Int) then (b : Int) else (a : Int)) = (k : Int) := by
  split <;> split <;> omega

theorem min_run (a b c k : Nat) (h : k = min (min a b) c) (w : World) :
    (Builtin.min_ #[3, 3, 3] 3 #[.int .i64 (a : Int), .int .i64 (b : Int), .int .i64 (c : Int)]).run Tryd.prog w = .ok (.int .i64 (k : Int)) w := by
  rw [run_min_int3, min3 a b c k h]

theorem quiet {f : FuncId} {args : Array Value} {w : World} {n : Nat} {v : Value} (h : Calls Tryd.prog f args (w.drewN n) fun e w' => e = .returned v ∧ w.drewN n = w') :
    Calls Tryd.prog f args (w.drewN n) fun e w'' => e = .returned v ∧ ∃ m, w'' = w.drewN m := h.mono fun _ _ ⟨a, b⟩ => ⟨a, n, b.symm⟩
/-- The sum of s, wherever only draws lie between. -/
theorem sum_quiet (s : ByteArray) (r : Nat) (hr : mr 0 s.data.toList = r) (hs : s.size ≤ 140737488355328) (W : World) (hT : Tab W) (n : Nat) :
    Calls Tryd.prog 22 #[.string s] (W.drewN n) fun e w'' => e = .returned (.int .u32 (r : Int)) ∧ ∃ m, w'' = W.drewN m := by
  subst hr
  exact quiet (sum_any s _ hs (tab_drewN hT n))
theorem more_quiet (c : Nat) (s : ByteArray) (r : Nat) (hr : mr c s.data.toList = r) (hc : c < 4294967296) (hs : s.size ≤ 140737488355328) (W : World) (hT : Tab W) (n : Nat) :
    Calls Tryd.prog 21 #[.int .u32 (c : Int), .string s] (W.drewN n) fun e w'' => e = .returned (.int .u32 (r : Int)) ∧ ∃ m, w'' = W.drewN m := by
  subst hr
  exact quiet (more_any c s _ hc hs (tab_drewN hT n))
end Go.Proofs.YtnknchadlhcdbaaDoor.Crc
