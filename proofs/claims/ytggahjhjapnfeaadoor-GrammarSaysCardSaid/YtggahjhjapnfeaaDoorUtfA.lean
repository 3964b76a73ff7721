/- Contracts of Width, Bad, Count and valid. Conditions: the two tables of unicode/utf8 are as its text lays them; as each theorem states. -/
import Derived.Test.YtggahjhjapnfeaaDoorByt
import Derived.Test.YtggahjhjapnfeaaDoorShelf
import Derived.Test.YtggahjhjapnfeaaDoorUtfMath
import Derived.BigQuiet
import Derived.Deep.QuietTactic
namespace Go.Proofs.YtggahjhjapnfeaaDoor.Utf
open Go.RowKit Go.Lib Go.Proofs.YtggahjhjapnfeaaDoor.Byt

/-- The two tables of unicode/utf8. -/
def Tabs (w : World) : Prop := Lib.Utf8Tabs 1 2 w
theorem Tabs.next {w w' : World} (h : Tabs w) (hb : Below w.heap.size w w') : Tabs w' := Utf8Tabs_below h hb
theorem next {a b c : World} (h : Below a.heap.size a b) (k : Below b.heap.size b c) : Below a.heap.size a c := h.trans (k.mono h.size)

/-- What Width returns. -/
def wS (s : ByteArray) (i : Nat) : Nat := wL (s.data.toList.drop i)
theorem drop_some (s : ByteArray) (i : Nat) (h : i < s.size) : s.data.toList.drop i ≠ [] := by
  intro h2
  have h3 := List.drop_eq_nil_iff.1 h2
  have : s.data.toList.length = s.size := by simp
  omega
theorem drop_none (s : ByteArray) (i : Nat) (h : s.size ≤ i) : s.data.toList.drop i = [] := List.drop_eq_nil_of_le (by simpa using h)
theorem wS_le (s : ByteArray) (i : Nat) (h : i ≤ s.size) : i + wS s i ≤ s.size := by
  have h1 := wL_le (s.data.toList.drop i)
  have : s.data.toList.length = s.size := by simp
  rw [List.length_drop] at h1
  unfold wS; omega
theorem extract_list (s : ByteArray) (i : Nat) : (s.extract i s.size).data.toList = s.data.toList.drop i := by
  rw [ByteArray.data_extract, Array.toList_extract]
  simp [List.extract_eq_take_drop]
  exact List.take_of_length_le (by simp)
theorem decodeGo_at (s : ByteArray) (i : Nat) (h : i < s.size) : Lib.decodeGo (s.extract i s.size) = decodeL (s.data.toList.drop i) := by
  have hz : (s.extract i s.size).size ≠ 0 := by rw [ByteArray.size_extract]; omega
  unfold Lib.decodeGo
  rw [if_neg hz, ← decodeL_drop, List.drop_zero, extract_list]

theorem width_in (s : ByteArray) (i : Nat) (w : World) (hT : Tabs w) (h : i < s.size) :
    Calls Tryd.prog 51 #[.string s, .int .i64 (i : Int)] w fun e w' => e = .returned (.int .i64 (wS s i : Nat)) ∧ Below w.heap.size w w' := by
  have hsl : ∀ w, (Instr.slice 9 (.string s) (some (.int .i64 (i : Int))) none none).run Tryd.prog w = .ok (.string (s.extract i s.size)) w := fun w => by
    rw [run_slice_string_from_if w 9 s .i64 (i : Int) Tryd.underlying9, if_pos (by omega)]
    simp
  have cD := Lib.hid (fun w hT => Tryd.utf8_DecodeRuneInString (s.extract i s.size) w hT)
  rw [decodeGo_at s i h] at cD
  have hc : (((decodeL (s.data.toList.drop i)).1 : Int) == 65533) = true ∧ (((decodeL (s.data.toList.drop i)).2 : Int) == 1) = true ∧ wS s i = 0
      ∨ (((decodeL (s.data.toList.drop i)).1 : Int) == 65533) = true ∧ (((decodeL (s.data.toList.drop i)).2 : Int) == 1) = false ∧ wS s i = (decodeL (s.data.toList.drop i)).2
      ∨ (((decodeL (s.data.toList.drop i)).1 : Int) == 65533) = false ∧ wS s i = (decodeL (s.data.toList.drop i)).2 := by
    have hl := drop_some s i h
    unfold wS wL
    rw [if_neg hl]
    by_cases h1 : (decodeL (s.data.toList.drop i)).1 = 65533
    · by_cases h2 : (decodeL (s.data.toList.drop i)).2 = 1
      · rw [if_pos ⟨h1, h2⟩, h1, h2]; simp
      · rw [if_neg (fun h => h2 h.2), h1]
        refine .inr (.inl ⟨by simp, ?_, rfl⟩)
        rw [beq_eq_false_iff_ne]; omega
    · rw [if_neg (fun h => h1 h.1)]
      refine .inr (.inr ⟨?_, rfl⟩)
      rw [beq_eq_false_iff_ne]; omega
  generalize (decodeL (s.data.toList.drop i)).1 = R at *
  generalize (decodeL (s.data.toList.drop i)).2 = K at *
  generalize s.extract i s.size = t at *
  have HT := Lib.hid hT
  clear hT
  rcases hc with ⟨h1, h2, h3⟩ | ⟨h1, h2, h3⟩ | ⟨h1, h3⟩
  all_goals
    rw [h3]
    clear h3
    go_enter Tryd.func51, Tryd.ntmps51
    go_wp2_with (go_at_call 59; refine (cD.out _ HT.out).mono ?_; rintro e w' ⟨rfl, hb⟩)
    go_ret
    exact ⟨rfl, hb⟩
theorem width_out (s : ByteArray) (i : Int) (w : World) (h : i < 0 ∨ (s.size : Int) ≤ i) :
    Calls Tryd.prog 51 #[.string s, .int .i64 i] w fun e w' => e = .returned (.int .i64 0) ∧ Below w.heap.size w w' := by
  have h' : i < 0 ∨ (0 ≤ i ∧ (s.size : Int) ≤ i) := by omega
  clear h
  rcases h' with h | ⟨h0, h⟩
  all_goals
    go_enter Tryd.func51, Tryd.ntmps51
    go_wp2_with fail
    go_ret
    exact ⟨rfl, Below.refl _ _⟩
/-- Width at any offset. -/
def wI (s : ByteArray) (i : Int) : Nat := if 0 ≤ i ∧ i < (s.size : Int) then wS s i.toNat else 0
theorem width_any (s : ByteArray) (i : Int) (w : World) (hT : Tabs w) :
    Calls Tryd.prog 51 #[.string s, .int .i64 i] w fun e w' => e = .returned (.int .i64 (wI s i : Nat)) ∧ Below w.heap.size w w' := by
  unfold wI
  by_cases h : 0 ≤ i ∧ i < (s.size : Int)
  · rw [if_pos h]
    obtain ⟨n, rfl⟩ := Int.eq_ofNat_of_zero_le h.1
    exact width_in s n w hT (by omega)
  · rw [if_neg h]
    exact width_out s i w (by omega)

/-- What Bad returns. -/
def bI : Option Nat → Int
  | none => -1
  | some k => (k : Int)
theorem bI_map (o : Option Nat) (k : Nat) : bI (o.map (· + k)) = if o = none then -1 else bI o + (k : Int) := by
  cases o with
  | none => rfl
  | some j => show ((j + k : Nat) : Int) = _; simp [bI]
theorem ret_i {a b : Int} (h : a = b) : Ending.returned (.int .i64 a) = .returned (.int .i64 b) := by rw [h]

/-- Of the rest of a text from i on: where it is bad, counted from the text's begin. -/
def rest (s : ByteArray) (i : Nat) : Option Nat := (badL (s.data.toList.drop i)).map (· + i)
theorem rest_start (s : ByteArray) : rest s 0 = badL s.data.toList := by
  unfold rest; rw [List.drop_zero]; cases badL s.data.toList <;> rfl
theorem rest_end (s : ByteArray) (i : Nat) (h : s.size ≤ i) : rest s i = none := by
  unfold rest; rw [drop_none s i h, badL_nil]; rfl
theorem rest_bad (s : ByteArray) (i : Nat) (h : i < s.size) (h0 : wS s i = 0) : rest s i = some i := by
  unfold rest; rw [badL_zero (drop_some s i h) h0]; simp
theorem rest_step (s : ByteArray) (i : Nat) (h0 : 0 < wS s i) : rest s i = rest s (i + wS s i) := by
  unfold rest
  rw [badL_step (l := s.data.toList.drop i) h0, List.drop_drop, Option.map_map]
  congr 1
  funext k
  show k + wL _ + i = k + (i + wS s i)
  unfold wS; omega

/-- What Count returns. -/
def cI (l : List UInt8) : Int := if badL l = none then ((rnL l).length : Nat) else -1
/-- Has the number a sequence? -/
def vI (n : Int) : Bool := decide ((0 ≤ n ∧ n < 55296) ∨ (57343 < n ∧ n ≤ 1114111))
theorem vI_nat {n : Int} (h : vI n = true) : ∃ m : Nat, n = (m : Int) ∧ vN m := by
  unfold vI at h
  simp only [decide_eq_true_eq] at h
  exact ⟨n.toNat, by omega, by unfold vN; omega⟩
theorem vN_vI {m : Nat} (h : vN m) : vI (m : Int) = true := by
  unfold vN at h
  unfold vI
  simp only [decide_eq_true_eq]
  omega
theorem valid_any (n : Int) (w : World) : Calls Tryd.prog 63 #[.int .i64 n] w fun e w' => e = .returned (.bool (vI n)) ∧ w = w' := by
  by_cases h : 0 ≤ n ∧ n ≤ 1114111
  · have HV := Lib.hid (fun w => Tryd.utf8_ValidRune n w)
    have hv : Lib.validRune n = vI n := by
      unfold Lib.validRune vI; rfl
    rw [hv] at HV
    obtain ⟨h0, h1⟩ := h
    clear hv
    have hw : IntKind.i32.wrap n = n := by rw [IntKind.wrap_i32]; omega
    generalize vI n = b at *
    go_enter Tryd.func63, Tryd.ntmps63
    go_wp2_with (go_at_call 68; refine (HV.out _).mono ?_; rintro e w' ⟨rfl, rfl⟩)
    all_goals
      go_ret
      exact ⟨rfl, rfl⟩
  · have hv : vI n = false := by unfold vI; simp only [decide_eq_false_iff_not]; omega
    rw [hv]
    clear hv
    have h' : n < 0 ∨ (0 ≤ n ∧ 1114111 < n) := by omega
    clear h
    rcases h' with h | ⟨h0, h⟩
    all_goals
      go_enter Tryd.func63, Tryd.ntmps63
      go_wp2_with fail
      go_ret
      exact ⟨rfl, rfl⟩
end Go.Proofs.YtggahjhjapnfeaaDoor.Utf
