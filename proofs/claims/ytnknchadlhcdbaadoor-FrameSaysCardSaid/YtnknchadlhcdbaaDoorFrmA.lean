/- Contracts of frame's Size, sumBytes, frameSize, and of bits.ReverseBytes32. Conditions: the table of effects reads as the program lays it, where one is named. -/
import Derived.Test.YtnknchadlhcdbaaDoorFrmMath
import Derived.Test.YtnknchadlhcdbaaDoorCrcA
import Derived.Test.YtnknchadlhcdbaaDoorCrcD
import Derived.Test.YtnknchadlhcdbaaDoorOctT
namespace Go.Proofs.YtnknchadlhcdbaaDoor.Frm
open Go.RowKit Go.Lib Go.Proofs.YtnknchadlhcdbaaDoor.Byt Go.Proofs.YtnknchadlhcdbaaDoor.Oct Go.Proofs.YtnknchadlhcdbaaDoor.Crc

theorem rev_any (x : Nat) (w : World) (hx : x < 4294967296) :
    Calls Tryd.prog 23 #[.int .u32 (x : Int)] w fun e w' => e = .returned (.int .u32 ((revB x : Nat) : Int)) ∧ w = w' := by
  have p1 : x / 256 &&& 16711935 < 16711936 := Nat.lt_succ_of_le Nat.and_le_right
  have q1 : x &&& 16711935 < 16711936 := Nat.lt_succ_of_le Nat.and_le_right
  have hs := mid_step x
  have ha : bits .and .u32 ((x : Int) / 256) 16711935 = ((x / 256 &&& 16711935 : Nat) : Int) := u32_and_nat (x / 256) 16711935 (by omega) (by decide)
  have hb : bits .and .u32 (x : Int) 16711935 = ((x &&& 16711935 : Nat) : Int) := u32_and_nat x 16711935 hx (by decide)
  generalize x / 256 &&& 16711935 = p at *
  generalize x &&& 16711935 = q at *
  have hc : bits .or .u32 (p : Int) ((q : Int) * 256) = ((midB x : Nat) : Int) := by
    have := u32_or_nat p (q * 256) (by omega) (by omega)
    rw [hs] at this
    rw [← this]
    congr 1
  have hm := midB_lt x
  have hl := last_step x
  generalize midB x = m at *
  have hd : bits .or .u32 ((m : Int) / 65536) ((m : Int) * 65536 % 4294967296) = ((revB x : Nat) : Int) := by
    have := u32_or_nat (m / 65536) (m * 65536 % 4294967296) (by omega) (by omega)
    rw [hl] at this
    rw [← this]
    congr 1
  go_enter Tryd.func23, Tryd.ntmps23
  go_wp2_with fail
  go_ret
  exact ⟨rfl, rfl⟩

/-- Size of any number. -/
def szN (n : Int) : Int := if n < 0 ∨ 1048576 < n then 0 else 10 + n
theorem szN_cases (n : Int) : (n < 0 ∧ szN n = 0) ∨ (0 ≤ n ∧ 1048576 < n ∧ szN n = 0) ∨ (0 ≤ n ∧ n ≤ 1048576 ∧ szN n = 6 + n + 4) := by
  unfold szN
  split <;> omega
theorem size_of (n : Int) (w : World) : Calls Tryd.prog 11 #[.int .i64 n] w fun e w' => e = .returned (.int .i64 (szN n)) ∧ w = w' := by
  rcases szN_cases n with ⟨h, e⟩ | ⟨h0, h, e⟩ | ⟨h0, h, e⟩
  all_goals
    rw [e]
    clear e
    go_enter Tryd.func11, Tryd.ntmps11
    go_wp2_with fail
    go_ret
    exact ⟨rfl, rfl⟩

theorem szN_in (n : Nat) (h : n ≤ 1048576) : szN (n : Int) = ((n + 10 : Nat) : Int) := by unfold szN; rw [if_neg (by omega)]; omega
theorem size_any (n : Nat) (w : World) (h : n ≤ 1048576) :
    Calls Tryd.prog 11 #[.int .i64 (n : Int)] w fun e w' => e = .returned (.int .i64 ((n + 10 : Nat) : Int)) ∧ w = w' := by
  have := size_of (n : Int) w
  rwa [szN_in n h] at this

theorem sum_bytes (s t : ByteArray) (w : World) (hs : s.size ≤ 140737488355328) (ht : t.size ≤ 140737488355328) (hT : Tab w) :
    Calls Tryd.prog 14 #[.string s, .string t] w fun e w' => e = .returned (.string ⟨(sumL (s.data.toList ++ t.data.toList)).toArray⟩) ∧ Below w.heap.size w w' := by
  have hlt := mr_lt 0 s.data.toList
  have H1 := Lib.hid (sum_any s w hs hT)
  have H2 := Lib.hid (more_any _ t w hlt ht hT)
  have e := mr_append 0 s.data.toList t.data.toList
  have e2 : sumL (s.data.toList ++ t.data.toList) = putL (revB (mr 0 (s.data.toList ++ t.data.toList))) 4 := (rev_put _).symm
  rw [e2, e]
  have h2 := mr_lt (mr 0 s.data.toList) t.data.toList
  clear e e2
  generalize mr (mr 0 s.data.toList) t.data.toList = c at *
  generalize mr 0 s.data.toList = b at *
  have H3 := Lib.hid (rev_any c w h2)
  have hr := revB_lt c
  generalize revB c = r at *
  have H4 := Lib.hid (put_any r 4 4 w (by omega) (by decide))
  generalize putL r 4 = l at *
  go_enter Tryd.func14, Tryd.ntmps14
  go_wp2_with (first
    | (go_at_call 22; with_reducible refine H1.out.mono ?_; rintro e w' ⟨rfl, rfl⟩)
    | (go_at_call 21; with_reducible refine H2.out.mono ?_; rintro e w' ⟨rfl, rfl⟩)
    | (go_at_call 23; with_reducible refine H3.out.mono ?_; rintro e w' ⟨rfl, rfl⟩)
    | (go_at_call 13; with_reducible refine H4.out.mono ?_; rintro e w' ⟨rfl, hb⟩))
  go_ret
  exact ⟨rfl, hb⟩
end Go.Proofs.YtnknchadlhcdbaaDoor.Frm
