/- The statement CrcSays as a contract over every input. Conditions: the arguments fit their kinds; the table of effects reads as the program lays it. -/
import Derived.Test.YtnknchadlhcdbaaDoorCrcB
import Derived.Test.YtnknchadlhcdbaaDoorOpn
import Derived.BigQuiet
import Derived.Deep.QuietTactic
import Derived.Deep.RegionHeld3
namespace Go.Proofs.YtnknchadlhcdbaaDoor.Crc
open Go.RowKit Go.Lib Go.Proofs.YtnknchadlhcdbaaDoor.Byt

theorem slice_to (s : ByteArray) (n : Nat) (h : n ≤ s.size) (w : World) :
    (Instr.slice 9 (.string s) none (some (.int .i64 (n : Int))) none).run Tryd.prog w = .ok (.string (cutB s 0 n)) w := by
  rw [run_slice_string_to_if w 9 s .i64 (n : Int) Tryd.underlying9, if_pos (by omega)]
  have := extract_cut s 0 n
  rw [Nat.zero_add] at this
  rw [← this]
  rfl

end Go.Proofs.YtnknchadlhcdbaaDoor.Crc
