/- Byte rows that a call makes itself, and strings of them. Conditions: as each theorem states. -/
import Derived.Test.YtafelidejkppkaaDoorRows
import Derived.WalkKit
import Derived.Lib.Hide
import Derived.Lib.UnsafeStr
import Derived.Laws.IdiomStrings
import Derived.Laws.OwnMore
import Derived.Below
import Derived.OwnWalk
import Derived.Deep.Draws
import Derived.Deep.RegionLaw
namespace Go.Proofs.YtafelidejkppkaaDoor.Byt
open Go.RowKit Go.Lib

theorem info8 : (Tryd.prog.info? 5).map (fun i => (i.zero, i.size, i.bytes)) = some (some (.int .u8 0), 1, 1) := by kernel_rfl

/-- v is the call's own (from block B on) and holds the bytes l. -/
def Own (w : World) (B : Nat) (v : Value) (l : List UInt8) : Prop := w.ownsRow B 5 1 v l.length (byteCells l)

theorem add_at (g j : Nat) : ((⟨g, 0, none⟩ : Addr).add j) = ⟨g, j, none⟩ := by
  rcases j with _ | j <;> simp [Addr.add]

section
variable {w w' : World} {B : Nat} {v : Value} {l : List UInt8}
theorem Own.nil (w : World) (B : Nat) : Own w B (.slice none 0 0) [] := World.ownsRow_nil _ _ _ _
theorem Own.drew (h : Own w B v l) : Own w.drew B v l := h
theorem Own.drewN (h : Own w B v l) (n : Nat) : Own (w.drewN n) B v l := h
theorem Own.alloc (h : Own w B v l) (o : Obj) : Own (w.alloc o) B v l := World.ownsRow.alloc h o
theorem Own.shape (h : Own w B v l) : (v = .slice none 0 0 ∧ l = []) ∨ ∃ g cap, v = .slice (some ⟨g, 0, none⟩) l.length cap := by
  rcases h.2 with ⟨hv, hx⟩ | ⟨g, cap, cur, hv, _⟩
  · left; exact ⟨hv, List.eq_nil_of_length_eq_zero hx⟩
  · right; exact ⟨g, cap, hv⟩
theorem below_set {a : World} (hb : Below B a w) {g : Nat} (hg : B ≤ g) (j : Nat) (u : Value) : Below B a (w.setCell ⟨g, j, none⟩ u) := hb.setCell (p := ⟨g, j, none⟩) hg u
theorem Own.set_ {g n cap : Nat} (h : Own w B (.slice (some ⟨g, 0, none⟩) n cap) l) (j : Nat) (b : UInt8) (x : Int) (hx : x = (b.toNat : Int)) :
    Own (w.setCell ⟨g, j, none⟩ (.int .u8 x)) B (.slice (some ⟨g, 0, none⟩) n cap) (l.set j b) := by
  subst hx
  have hn : l.length = n := by
    rcases h.shape with ⟨h1, _⟩ | ⟨g', cap', h1⟩
    · cases h1
    · injection h1 with _ h2 _; exact h2.symm
  unfold Own at h ⊢
  rw [hn] at h
  rw [List.length_set, hn]
  have := (World.ownsRow.stored h j (.int .u8 (b.toNat : Int))).1
  rwa [show (byteCells l).set j (.int .u8 (b.toNat : Int)) = byteCells (l.set j b) by simp [byteCells, List.map_set]] at this
theorem Own.len {g n cap : Nat} (h : Own w B (.slice (some ⟨g, 0, none⟩) n cap) l) : l.length = n := by
  rcases h.shape with ⟨h1, _⟩ | ⟨g', cap', h1⟩
  · cases h1
  · injection h1 with _ h2 _; exact h2.symm
theorem Own.cell {g n cap : Nat} (h : Own w B (.slice (some ⟨g, 0, none⟩) n cap) l) (j : Nat) (hj : j < n) : w.cell? ⟨g, j, none⟩ = some (.int .u8 ((l.getD j 0).toNat : Int)) := by
  have hn := h.len
  unfold Own at h
  rw [hn] at h
  have hl : j < l.length := by omega
  have := World.ownsRow.cellAt h j (by omega)
  rw [this]
  simp [byteCells, hl]
theorem Own.free {g n cap : Nat} (h : Own w B (.slice (some ⟨g, 0, none⟩) n cap) l) (j : Nat) : w.frozen? ⟨g, j, none⟩ = false := by
  have hn := h.len
  unfold Own at h
  rw [hn] at h
  exact World.ownsRow.frozenAt h j
end

section
variable {ops : Array Oper} {rest : List Oper} {o : Oper} {a : Act} {Q : Exit → Act → World → Prop}

theorem byteCells_one (l : List UInt8) : ∀ u ∈ byteCells l, u.oneCell' = true := by
  intro u hu
  simp only [byteCells, List.mem_map] at hu
  obtain ⟨b, _, rfl⟩ := hu
  rfl

theorem zeros (n : Nat) : (madeCells (Value.int .u8 0).cells (n * 1)).toList = byteCells (List.replicate n 0) := by
  rw [Nat.mul_one, show (Value.int .u8 0).cells = #[Value.int .u8 0] from rfl, toList_madeCells_one]
  simp [byteCells]

end
/-- The n bytes of s from i on. -/
def cutB (s : ByteArray) (i n : Nat) : ByteArray := ⟨((s.data.toList.drop i).take n).toArray⟩
theorem extract_cut (s : ByteArray) (i n : Nat) : s.extract i (i + n) = cutB s i n := by
  have h : (s.extract i (i + n)).data.toList = (cutB s i n).data.toList := by
    rw [ByteArray.data_extract, Array.toList_extract]
    simp [cutB, List.extract_eq_take_drop]
  have h2 : (s.extract i (i + n)).data = (cutB s i n).data := Array.toList_inj.1 h
  exact ByteArray.ext h2
theorem cutB_size (s : ByteArray) (i n : Nat) (h : i + n ≤ s.size) : (cutB s i n).size = n := by
  have : s.size = s.data.toList.length := by simp
  show (List.toArray _).size = n
  simp only [List.size_toArray, List.length_take, List.length_drop]
  omega
theorem run_cut (s : ByteArray) (lo hi : Int) (i n : Nat) (hlo : lo = (i : Int)) (hhi : hi = (i : Int) + (n : Int)) (h : i + n ≤ s.size) (w : World) :
    (Instr.slice 9 (.string s) (some (.int .i64 lo)) (some (.int .i64 hi)) none).run Tryd.prog w = .ok (.string (cutB s i n)) w := by
  subst hlo hhi
  rw [run_slice_string w 9 s .i64 .i64 (i : Int) ((i : Int) + (n : Int)) Tryd.underlying9 (by omega) (by omega) (by omega)]
  rw [show ((i : Int) + (n : Int)).toNat = i + n by omega, Int.toNat_natCast, extract_cut]
/-- 's[:n]'. -/
theorem sl_to (s : ByteArray) (n : Nat) (h : n ≤ s.size) (w : World) :
    (Instr.slice 9 (.string s) none (some (.int .i64 (n : Int))) none).run Tryd.prog w = .ok (.string (cutB s 0 n)) w := by
  rw [run_slice_string_to_if w 9 s .i64 (n : Int) Tryd.underlying9, if_pos (by omega)]
  have := extract_cut s 0 n
  rw [Nat.zero_add] at this
  rw [← this]
  rfl
/-- 's[i:]'. -/
theorem sl_from (s : ByteArray) (i n : Nat) (h : i + n = s.size) (w : World) :
    (Instr.slice 9 (.string s) (some (.int .i64 (i : Int))) none none).run Tryd.prog w = .ok (.string (cutB s i n)) w := by
  rw [run_slice_string_from_if w 9 s .i64 (i : Int) Tryd.underlying9, if_pos (by omega)]
  have := extract_cut s i n
  rw [h] at this
  rw [← this]
  rfl
theorem toList_data (b : ByteArray) : b.toList = b.data.toList := by
  rcases b with ⟨⟨l⟩⟩
  exact ByteArray.toList_mk l
theorem str_neq {a b : ByteArray} (h : a ≠ b) : (a.toList == b.toList) = false := by
  rw [beq_eq_false_iff_ne, toList_data, toList_data]
  exact fun q => h (ByteArray.ext (Array.toList_inj.1 q))
/-- 's == ""' is spelled so. -/
theorem str_some {s : ByteArray} (h : 0 < s.size) : s.toList.isEmpty = false := by
  rw [toList_data]
  have : s.data.toList.length = s.size := by simp
  cases e : s.data.toList with
  | nil => rw [e] at this; simp at this; omega
  | cons _ _ => rfl
theorem str_none {s : ByteArray} (h : s.size = 0) : s = ⟨#[]⟩ := ByteArray.ext (Array.eq_empty_of_size_eq_zero h)
end Go.Proofs.YtafelidejkppkaaDoor.Byt
