/- Byte rows that a call makes itself, and strings of them. Conditions: as each theorem states. · Rows of strings: those that a call makes itself, those that can be read. Conditions: as each theorem states. · Rows of ints: those that a call makes itself, those that can be read; the iterator of a string beside them. Conditions: as each theorem states. · A strings.Builder that a call made itself: contracts of copyCheck and WriteString, and of String. Conditions: as each theorem states. · A strings.Builder that a call made itself, beside an iterator of a string: WriteByte, WriteString and WriteRune leave every iterator as it stood. Conditions: as each theorem states. -/
import Derived.Test.YthkopnobekohcaaGreatDoorRows
import Derived.WalkKit
import Derived.Lib.Hide
import Derived.Lib.UnsafeStr
import Derived.Laws.IdiomStrings
import Derived.Laws.OwnMore
import Derived.Below
import Derived.OwnWalk
import Derived.Deep.Draws
import Derived.Deep.RegionLaw
import Derived.Lib.OthersKept
import Derived.Test.YthkopnobekohcaaGreatDoorShelf
import Derived.Lib.Builder
import Derived.Lib.AppendStr
import Derived.Lib.Strings
import Derived.Lib.Walk
import Derived.Lib.Slices
import Derived.Laws.IdiomCopy
import Derived.Laws.Externs
import Derived.Lib.RuneBytes
namespace Go.Proofs.YthkopnobekohcaaGreatDoor.Byt
open Go.RowKit Go.Lib

theorem info8 : (Tryz.prog.info? 5).map (fun i => (i.zero, i.size, i.bytes)) = some (some (.int .u8 0), 1, 1) := by kernel_rfl

/-- v is the call's own (from block B on) and holds the bytes l. -/
def Own (w : World) (B : Nat) (v : Value) (l : List UInt8) : Prop := w.ownsRow B 5 1 v l.length (byteCells l)

theorem add_at (g j : Nat) : ((⟨g, 0, none⟩ : Addr).add j) = ⟨g, j, none⟩ := by
  rcases j with _ | j <;> simp [Addr.add]

section
variable {w w' : World} {B : Nat} {v : Value} {l : List UInt8}
theorem Own.nil (w : World) (B : Nat) : Own w B (.slice none 0 0) [] := World.ownsRow_nil _ _ _ _
theorem Own.drew (h : Own w B v l) : Own w.drew B v l := h
theorem Own.drewN (h : Own w B v l) (n : Nat) : Own (w.drewN n) B v l := h
theorem Own.alloc (h : Own w B v l) (o : Obj) : Own (w.alloc o) B v l := World.ownsRow.alloc h o
theorem Own.shape (h : Own w B v l) : (v = .slice none 0 0 ∧ l = []) ∨ ∃ g cap, v = .slice (some ⟨g, 0, none⟩) l.length cap := by
  rcases h.2 with ⟨hv, hx⟩ | ⟨g, cap, cur, hv, _⟩
  · left; exact ⟨hv, List.eq_nil_of_length_eq_zero hx⟩
  · right; exact ⟨g, cap, hv⟩
theorem below_set {a : World} (hb : Below B a w) {g : Nat} (hg : B ≤ g) (j : Nat) (u : Value) : Below B a (w.setCell ⟨g, j, none⟩ u) := hb.setCell (p := ⟨g, j, none⟩) hg u
theorem Own.set_ {g n cap : Nat} (h : Own w B (.slice (some ⟨g, 0, none⟩) n cap) l) (j : Nat) (b : UInt8) (x : Int) (hx : x = (b.toNat : Int)) :
    Own (w.setCell ⟨g, j, none⟩ (.int .u8 x)) B (.slice (some ⟨g, 0, none⟩) n cap) (l.set j b) := by
  subst hx
  have hn : l.length = n := by
    rcases h.shape with ⟨h1, _⟩ | ⟨g', cap', h1⟩
    · cases h1
    · injection h1 with _ h2 _; exact h2.symm
  unfold Own at h ⊢
  rw [hn] at h
  rw [List.length_set, hn]
  have := (World.ownsRow.stored h j (.int .u8 (b.toNat : Int))).1
  rwa [show (byteCells l).set j (.int .u8 (b.toNat : Int)) = byteCells (l.set j b) by simp [byteCells, List.map_set]] at this
theorem Own.len {g n cap : Nat} (h : Own w B (.slice (some ⟨g, 0, none⟩) n cap) l) : l.length = n := by
  rcases h.shape with ⟨h1, _⟩ | ⟨g', cap', h1⟩
  · cases h1
  · injection h1 with _ h2 _; exact h2.symm
theorem Own.cell {g n cap : Nat} (h : Own w B (.slice (some ⟨g, 0, none⟩) n cap) l) (j : Nat) (hj : j < n) : w.cell? ⟨g, j, none⟩ = some (.int .u8 ((l.getD j 0).toNat : Int)) := by
  have hn := h.len
  unfold Own at h
  rw [hn] at h
  have hl : j < l.length := by omega
  have := World.ownsRow.cellAt h j (by omega)
  rw [this]
  simp [byteCells, hl]
theorem Own.free {g n cap : Nat} (h : Own w B (.slice (some ⟨g, 0, none⟩) n cap) l) (j : Nat) : w.frozen? ⟨g, j, none⟩ = false := by
  have hn := h.len
  unfold Own at h
  rw [hn] at h
  exact World.ownsRow.frozenAt h j
end

section
variable {ops : Array Oper} {rest : List Oper} {o : Oper} {a : Act} {Q : Exit → Act → World → Prop}

theorem byteCells_one (l : List UInt8) : ∀ u ∈ byteCells l, u.oneCell' = true := by
  intro u hu
  simp only [byteCells, List.mem_map] at hu
  obtain ⟨b, _, rfl⟩ := hu
  rfl

/-- Behind 'append(out, ..)': the bytes ns lie in a block g. -/
theorem run_push (W : World) (ty : TypeId) (B : Nat) (w0 : World) (v : Value) (l : List UInt8) (hown : Own W B v l) (hb : Below B w0 W) (hB : B ≤ w0.heap.size)
    (g m c : Nat) (cs : Array Value) (fr : Nat × Nat) (hblk : W.heap[g]? = some (.cells cs 5 fr)) (ns : List UInt8) (hm : ns.length = m) (hcs : cs.toList = byteCells ns) (hlim : l.length + m ≤ 140737488355328) :
    ∃ v' w', (Builtin.append_ #[56, 56] ty #[v, .slice (some ⟨g, 0, none⟩) m c]).run Tryz.prog W = .ok v' w' ∧ Own w' B v' (l ++ ns) ∧ Below B w0 w' := by
  obtain ⟨i0, hi, hz0, hz1, hz2⟩ := info_parts info8
  have hsz := hb.size
  subst hm
  have hnews : ∀ j u, (byteCells ns)[j]? = some u → W.cell? ((⟨g, 0, none⟩ : Addr).add j) = some u := by
    intro j u hj
    rw [← hcs] at hj
    have : ((⟨g, 0, none⟩ : Addr).add j) = ⟨g, j, none⟩ := add_at g j
    rw [this, World.cell?, hblk]
    simpa using hj
  obtain ⟨v', w', hr, h2, h3, _⟩ := run_append_own (P := Tryz.prog) W B 56 ty 5 i0 (.int .u8 0) 1 1 Tryz.underlying56 hi hz0 hz1 hz2 rfl (by omega) v l.length (byteCells l) hown
    ⟨g, 0, none⟩ ns.length c (byteCells ns) (by simp [byteCells]) hnews (byteCells_one ns) (by unfold maxLen; omega) (by omega) (by omega)
  refine ⟨v', w', hr, ?_, hb.grown h3 (by omega) (fun k hk => (World.ownsRow.lt hown k hk).1)⟩
  unfold Own
  rw [List.length_append, byteCells_append]
  exact h2

theorem wpList_push (W : World) (hg : o.guard = none) (s x : Operand) (ho : o.op = .call { callee := .builtin .append, args := #[s, x], argTypes := #[56, 56] })
    (B : Nat) (w0 : World) (v : Value) (l : List UInt8) (hs : a.eval s = v) (hown : Own W B v l) (hb : Below B w0 W) (hB : B ≤ w0.heap.size)
    (g m c : Nat) (hx : a.eval x = .slice (some ⟨g, 0, none⟩) m c) (cs : Array Value) (fr : Nat × Nat) (hblk : W.heap[g]? = some (.cells cs 5 fr)) (ns : List UInt8) (hm : ns.length = m) (hcs : cs.toList = byteCells ns) (hlim : l.length + m ≤ 140737488355328)
    (h : ∀ v' w', Own w' B v' (l ++ ns) → Below B w0 w' → wpList Tryz.prog ops Q rest (a.put o.dst v') w') : wpList Tryz.prog ops Q (o :: rest) a W := by
  obtain ⟨v', w', hr, h2, h3⟩ := run_push W o.type B w0 v l hown hb hB g m c cs fr hblk ns hm hcs hlim
  refine wpList_plain hg fun K hK => ?_
  unfold Oper.wp execOp
  simp only [ho, resolve, invoke, builtin, Sem.run_bind, Sem.run_pure, Result.andThen_ok, List.map_toArray, List.map_cons, List.map_nil, hs, hx, hr]
  exact hK _ _ (h v' w' h2 h3)

/-- The same as a step of a region that draws its order. -/
theorem step_push {K : Act → World → Prop} {E : Prop} (W : World) (hg : o.guard = none) (s x : Operand) (ho : o.op = .call { callee := .builtin .append, args := #[s, x], argTypes := #[56, 56] })
    (B : Nat) (w0 : World) (v : Value) (l : List UInt8) (hs : a.eval s = v) (hown : Own W B v l) (hb : Below B w0 W) (hB : B ≤ w0.heap.size)
    (g m c : Nat) (hx : a.eval x = .slice (some ⟨g, 0, none⟩) m c) (cs : Array Value) (fr : Nat × Nat) (hblk : W.heap[g]? = some (.cells cs 5 fr)) (ns : List UInt8) (hm : ns.length = m) (hcs : cs.toList = byteCells ns) (hlim : l.length + m ≤ 140737488355328)
    (h : ∀ v' w', Own w' B v' (l ++ ns) → Below B w0 w' → K (a.put o.dst v') w') : if Region.wanted o (yielded ops a.tmps) = true then Oper.wp Tryz.prog o a W K Q else E := by
  obtain ⟨v', w', hr, h2, h3⟩ := run_push W o.type B w0 v l hown hb hB g m c cs fr hblk ns hm hcs hlim
  have hw : Region.wanted o (yielded ops a.tmps) = true := by simp [Region.wanted, hg]
  rw [if_pos hw]
  unfold Oper.wp execOp
  simp only [ho, resolve, invoke, builtin, Sem.run_bind, Sem.run_pure, Result.andThen_ok, List.map_toArray, List.map_cons, List.map_nil, hs, hx, hr]
  exact h v' w' h2 h3

/-- 'string(b)'. -/
theorem run_string (W : World) (B : Nat) (v : Value) (l : List UInt8) (hown : Own W B v l) :
    (convert 56 9 v).run Tryz.prog W = .ok (.string ⟨l.toArray⟩) W := by
  rcases hown.shape with ⟨rfl, rfl⟩ | ⟨g, cap, rfl⟩
  · simp [convert, run_underlying Tryz.underlying56, run_underlying Tryz.underlying9, run_underlying Tryz.underlying5, Conv.bytesToString, loadCells, Sem.run_pure]
    rfl
  · exact run_convert_bytes_back W 56 9 5 ⟨g, 0, none⟩ cap l Tryz.underlying56 Tryz.underlying5 Tryz.underlying9 (fun j hj => by
      have := hown.cell j hj
      rw [add_at]
      simpa [hj] using this)

theorem wpList_string (W : World) (hg : o.guard = none) (x : Operand) (ho : o.op = .convert 56 9 x) (B : Nat) (v : Value) (l : List UInt8) (hx : a.eval x = v) (hown : Own W B v l)
    (h : wpList Tryz.prog ops Q rest (a.put o.dst (.string ⟨l.toArray⟩)) W) : wpList Tryz.prog ops Q (o :: rest) a W := by
  refine wpList_plain hg fun K hK => ?_
  have hr := run_string W B v l hown
  unfold Oper.wp execOp
  simp only [ho, Sem.run_bind, Sem.run_pure, Result.andThen_ok, hx, hr]
  exact hK _ _ h

theorem zeros (n : Nat) : (madeCells (Value.int .u8 0).cells (n * 1)).toList = byteCells (List.replicate n 0) := by
  rw [Nat.mul_one, show (Value.int .u8 0).cells = #[Value.int .u8 0] from rfl, toList_madeCells_one]
  simp [byteCells]

/-- 'make([]byte, n)'. -/
theorem wpList_made (W : World) (hg : o.guard = none) (x y : Operand) (ho : o.op = .makeSlice 56 x y) (B : Nat) (w0 : World) (hb : Below B w0 W) (hB : B ≤ w0.heap.size) (L C : Int) (n : Nat) (hx : a.eval x = .int .i64 L) (hy : a.eval y = .int .i64 C) (hL : L = (n : Int)) (hC : C = (n : Int)) (hlim : n ≤ 140737488355328)
    (h : ∀ w', Own w' B (.slice (some ⟨W.heap.size, 0, none⟩) n n) (List.replicate n 0) → Below B w0 w' → wpList Tryz.prog ops Q rest (a.put o.dst (.slice (some ⟨W.heap.size, 0, none⟩) n n)) w') : wpList Tryz.prog ops Q (o :: rest) a W := by
  obtain ⟨i0, hi, hz0, hz1, hz2⟩ := info_parts info8
  have hsz := hb.size
  refine wpList_make_full W hg x y _ ho B _ i0 _ 1 Tryz.underlying56 hi hz0 hz1 .i64 .i64 L C n hx hy hL hC (by rw [hz2]; omega) (by unfold maxLen; omega) (by omega) ?_
  intro w' h1 h2
  refine h w' ?_ (hb.grown h2 (by omega) (fun k hk => by cases hk))
  unfold Own
  rw [List.length_replicate, ← zeros]
  exact h1

/-- 'make([]byte, 0, n)'. -/
theorem wpList_emptied (W : World) (hg : o.guard = none) (x y : Operand) (ho : o.op = .makeSlice 56 x y) (B : Nat) (w0 : World) (hb : Below B w0 W) (hB : B ≤ w0.heap.size) (L C : Int) (n : Nat) (hx : a.eval x = .int .i64 L) (hy : a.eval y = .int .i64 C) (hL : L = 0) (hC : C = (n : Int)) (hlim : n ≤ 140737488355328)
    (h : ∀ v' w', Own w' B v' [] → Below B w0 w' → wpList Tryz.prog ops Q rest (a.put o.dst v') w') : wpList Tryz.prog ops Q (o :: rest) a W := by
  obtain ⟨i0, hi, hz0, hz1, hz2⟩ := info_parts info8
  have hsz := hb.size
  subst hL
  refine wpList_make_own W hg x y _ ho B _ i0 _ 1 Tryz.underlying56 hi hz0 hz1 .i64 .i64 C n hx hy hC (by rw [hz2]; omega) (by unfold maxLen; omega) (by omega) ?_
  intro w' h1 h2
  exact h _ w' h1 (hb.grown h2 (by omega) (fun k hk => by cases hk))
end
/-- The n bytes of s from i on. -/
def cutB (s : ByteArray) (i n : Nat) : ByteArray := ⟨((s.data.toList.drop i).take n).toArray⟩
theorem extract_cut (s : ByteArray) (i n : Nat) : s.extract i (i + n) = cutB s i n := by
  have h : (s.extract i (i + n)).data.toList = (cutB s i n).data.toList := by
    rw [ByteArray.data_extract, Array.toList_extract]
    simp [cutB, List.extract_eq_take_drop]
  have h2 : (s.extract i (i + n)).data = (cutB s i n).data := Array.toList_inj.1 h
  exact ByteArray.ext h2
theorem cutB_size (s : ByteArray) (i n : Nat) (h : i + n ≤ s.size) : (cutB s i n).size = n := by
  have : s.size = s.data.toList.length := by simp
  show (List.toArray _).size = n
  simp only [List.size_toArray, List.length_take, List.length_drop]
  omega
theorem run_cut (s : ByteArray) (lo hi : Int) (i n : Nat) (hlo : lo = (i : Int)) (hhi : hi = (i : Int) + (n : Int)) (h : i + n ≤ s.size) (w : World) :
    (Instr.slice 9 (.string s) (some (.int .i64 lo)) (some (.int .i64 hi)) none).run Tryz.prog w = .ok (.string (cutB s i n)) w := by
  subst hlo hhi
  rw [run_slice_string w 9 s .i64 .i64 (i : Int) ((i : Int) + (n : Int)) Tryz.underlying9 (by omega) (by omega) (by omega)]
  rw [show ((i : Int) + (n : Int)).toNat = i + n by omega, Int.toNat_natCast, extract_cut]
/-- 's[:n]'. -/
theorem sl_to (s : ByteArray) (n : Nat) (h : n ≤ s.size) (w : World) :
    (Instr.slice 9 (.string s) none (some (.int .i64 (n : Int))) none).run Tryz.prog w = .ok (.string (cutB s 0 n)) w := by
  rw [run_slice_string_to_if w 9 s .i64 (n : Int) Tryz.underlying9, if_pos (by omega)]
  have := extract_cut s 0 n
  rw [Nat.zero_add] at this
  rw [← this]
  rfl
/-- 's[i:]'. -/
theorem sl_from (s : ByteArray) (i n : Nat) (h : i + n = s.size) (w : World) :
    (Instr.slice 9 (.string s) (some (.int .i64 (i : Int))) none none).run Tryz.prog w = .ok (.string (cutB s i n)) w := by
  rw [run_slice_string_from_if w 9 s .i64 (i : Int) Tryz.underlying9, if_pos (by omega)]
  have := extract_cut s i n
  rw [h] at this
  rw [← this]
  rfl
theorem toList_data (b : ByteArray) : b.toList = b.data.toList := by
  rcases b with ⟨⟨l⟩⟩
  exact ByteArray.toList_mk l
theorem str_neq {a b : ByteArray} (h : a ≠ b) : (a.toList == b.toList) = false := by
  rw [beq_eq_false_iff_ne, toList_data, toList_data]
  exact fun q => h (ByteArray.ext (Array.toList_inj.1 q))
/-- 's == ""' is spelled so. -/
theorem str_some {s : ByteArray} (h : 0 < s.size) : s.toList.isEmpty = false := by
  rw [toList_data]
  have : s.data.toList.length = s.size := by simp
  cases e : s.data.toList with
  | nil => rw [e] at this; simp at this; omega
  | cons _ _ => rfl
theorem str_none {s : ByteArray} (h : s.size = 0) : s = ⟨#[]⟩ := ByteArray.ext (Array.eq_empty_of_size_eq_zero h)
end Go.Proofs.YthkopnobekohcaaGreatDoor.Byt

namespace Go.Proofs.YthkopnobekohcaaGreatDoor.Strs
open Go.RowKit Go.Lib Go.Proofs.YthkopnobekohcaaGreatDoor.Byt

theorem info16 : (Tryz.prog.info? 9).map (fun i => (i.zero, i.size, i.bytes)) = some (some (.string ⟨#[]⟩), 1, 16) := by kernel_rfl

/-- v can be read as the strings xs. -/
def Row (w : World) (v : Value) (xs : List ByteArray) : Prop :=
  (xs = [] ∧ ∃ a cap, v = .slice a 0 cap) ∨ ∃ b off cap, v = .slice (some ⟨b, off, none⟩) xs.length cap ∧ ∀ j, j < xs.length → w.cell? ⟨b, off + j, none⟩ = some (.string (xs.getD j ⟨#[]⟩))
theorem cell_lt {w : World} {a : Addr} {v : Value} (hc : w.cell? a = some v) : a.block < w.heap.size := by
  rcases Nat.lt_or_ge a.block w.heap.size with h' | h'
  · exact h'
  · simp [World.cell?, Array.getElem?_eq_none h'] at hc
theorem Row.next {w w' : World} {v : Value} {xs : List ByteArray} (h : Row w v xs) (hb : Below w.heap.size w w') : Row w' v xs := by
  rcases h with h | ⟨b, off, cap, h1, h2⟩
  · exact .inl h
  · exact .inr ⟨b, off, cap, h1, fun j hj => (hb.cell (cell_lt (h2 j hj))).trans (h2 j hj)⟩
/-- A row at any length: its cells are asked where there are some. -/
theorem Row.open_ {w : World} {v : Value} {xs : List ByteArray} (h : Row w v xs) : ∃ a cap, v = .slice a xs.length cap ∧ ∀ j, j < xs.length → ∃ b off, a = some ⟨b, off, none⟩ ∧ w.cell? ⟨b, off + j, none⟩ = some (.string (xs.getD j ⟨#[]⟩)) := by
  rcases h with ⟨rfl, a, cap, rfl⟩ | ⟨b, off, cap, rfl, hc⟩
  · exact ⟨a, cap, rfl, fun j hj => by cases hj⟩
  · exact ⟨_, cap, rfl, fun j hj => ⟨b, off, rfl, hc j hj⟩⟩
theorem Row.nil (w : World) : Row w (.slice none 0 0) [] := .inl ⟨rfl, _, _, rfl⟩

/-- v is the call's own (from block B on) and holds the strings l. -/
def Own (w : World) (B : Nat) (v : Value) (l : List ByteArray) : Prop := w.ownsRow B 9 1 v l.length (l.map (Value.string))
section
variable {w w' : World} {B : Nat} {v : Value} {l : List ByteArray}
theorem Own.nil (w : World) (B : Nat) : Own w B (.slice none 0 0) [] := World.ownsRow_nil _ _ _ _
theorem Own.alloc (h : Own w B v l) (o : Obj) : Own (w.alloc o) B v l := World.ownsRow.alloc h o
theorem Own.drewN (h : Own w B v l) (n : Nat) : Own (w.drewN n) B v l := h
/-- A row of one's own stays as it is behind what lies elsewhere. -/
theorem Own.next (h : Own w B v l) (hb : Below w.heap.size w w') : Own w' B v l := by
  refine ⟨h.1, ?_⟩
  rcases h.2 with hn | ⟨g, cap, cur, hv, hbg, hg, rest⟩
  · exact .inl hn
  · have hg2 : g < w.heap.size := by
      rcases Nat.lt_or_ge g w.heap.size with h' | h'
      · exact h'
      · simp [Array.getElem?_eq_none h'] at hg
    exact .inr ⟨g, cap, cur, hv, hbg, (hb.block g hg2).trans hg, rest⟩
theorem Own.row (h : Own w B v l) : Row w v l := by
  rcases h.2 with ⟨hv, hx⟩ | ⟨g, cap, cur, hv, _⟩
  · obtain rfl : l = [] := List.eq_nil_of_length_eq_zero hx
    subst hv
    exact Row.nil w
  · subst hv
    refine .inr ⟨g, 0, cap, rfl, fun j hj => ?_⟩
    rw [Nat.zero_add, World.ownsRow.cellAt h j (by omega)]
    simp [hj]
/-- An owned row's block holds cells. -/
theorem Own.cells (h : Own w B v l) : ∀ g, v.ownBlock = some g → B ≤ g ∧ ∃ c, w.heap[g]? = some (.cells c 9 (0, 0)) := by
  intro g hg
  rcases h.2 with ⟨rfl, _⟩ | ⟨g', cap, cur, rfl, hB, hgg, _⟩
  · simp [Value.ownBlock] at hg
  · simp [Value.ownBlock] at hg
    subst hg
    exact ⟨hB, cur, hgg⟩
theorem Own.iterAt (h : Own w B v l) {k : Nat} {s : ByteArray} {pos : Nat} (hk : w.heap[k]? = some (.stringIter s pos)) (pos' : Nat) : Own (w.iterAt k s pos') B v l := by
  refine ⟨h.1, ?_⟩
  rcases h.2 with hn | ⟨g, cap, cur, hv, hbg, hg, rest⟩
  · exact .inl hn
  · have hkg : g ≠ k := by
      intro e1
      rw [e1, hk] at hg
      cases hg
    exact .inr ⟨g, cap, cur, hv, hbg, (Lib.iterAt_other w k g s pos' hkg).trans hg, rest⟩
end

theorem strs_one (l : List ByteArray) : ∀ u ∈ l.map (Value.string), u.oneCell' = true := by
  intro u hu
  simp only [List.mem_map] at hu
  obtain ⟨b, _, rfl⟩ := hu
  rfl
section
variable {ops : Array Oper} {rest : List Oper} {o : Oper} {a : Act} {Q : Exit → Act → World → Prop}

/-- Behind 'append(out, x)': the strings ns lie in a block g. An iterator stands as it stood. -/
theorem run_push (W : World) (ty : TypeId) (B : Nat) (w0 : World) (v : Value) (l : List ByteArray) (hown : Own W B v l) (hb : Below B w0 W) (hB : B ≤ w0.heap.size)
    (g m c : Nat) (cs : Array Value) (fr : Nat × Nat) (hblk : W.heap[g]? = some (.cells cs 9 fr)) (ns : List ByteArray) (hm : ns.length = m) (hcs : cs.toList = ns.map (Value.string)) (hlim : l.length + m ≤ 8796093022208) :
    ∃ v' w', (Builtin.append_ #[45, 45] ty #[v, .slice (some ⟨g, 0, none⟩) m c]).run Tryz.prog W = .ok v' w' ∧ Own w' B v' (l ++ ns) ∧ Below B w0 w' ∧
      ∀ (k : Nat) (s : ByteArray) (pos : Nat), W.heap[k]? = some (Obj.stringIter s pos) → w'.heap[k]? = some (Obj.stringIter s pos) := by
  obtain ⟨i0, hi, hz0, hz1, hz2⟩ := info_parts info16
  have hsz := hb.size
  subst hm
  have hnews : ∀ j u, (ns.map (Value.string))[j]? = some u → W.cell? ((⟨g, 0, none⟩ : Addr).add j) = some u := by
    intro j u hj
    rw [← hcs] at hj
    have : ((⟨g, 0, none⟩ : Addr).add j) = ⟨g, j, none⟩ := add_at g j
    rw [this, World.cell?, hblk]
    simpa using hj
  obtain ⟨v', w', hr, h2, h3, _⟩ := run_append_own (P := Tryz.prog) W B 45 ty 9 i0 (.string ⟨#[]⟩) 1 16 Tryz.underlying45 hi hz0 hz1 hz2 rfl (by omega) v l.length (l.map (Value.string)) hown
    ⟨g, 0, none⟩ ns.length c (ns.map (Value.string)) (by simp) hnews (strs_one ns) (by unfold maxLen; omega) (by omega) (by omega)
  refine ⟨v', w', hr, ?_, hb.grown h3 (by omega) (fun k hk => (World.ownsRow.lt hown k hk).1), ?_⟩
  · unfold Own
    rw [List.length_append, List.map_append]
    exact h2
  · intro k s pos hk
    have hlt : k < W.heap.size := (Array.getElem?_eq_some_iff.1 hk).1
    rw [h3.block k hlt ?_]
    · exact hk
    · intro hk2
      obtain ⟨_, c2, hc⟩ := hown.cells k hk2.symm
      rw [hk] at hc
      cases hc

theorem wpList_push (W : World) (hg : o.guard = none) (s x : Operand) (ho : o.op = .call { callee := .builtin .append, args := #[s, x], argTypes := #[45, 45] })
    (B : Nat) (w0 : World) (v : Value) (l : List ByteArray) (hs : a.eval s = v) (hown : Own W B v l) (hb : Below B w0 W) (hB : B ≤ w0.heap.size)
    (g m c : Nat) (hx : a.eval x = .slice (some ⟨g, 0, none⟩) m c) (cs : Array Value) (fr : Nat × Nat) (hblk : W.heap[g]? = some (.cells cs 9 fr)) (ns : List ByteArray) (hm : ns.length = m) (hcs : cs.toList = ns.map (Value.string)) (hlim : l.length + m ≤ 8796093022208)
    (h : ∀ v' w', Own w' B v' (l ++ ns) → Below B w0 w' → (∀ (k : Nat) (s : ByteArray) (pos : Nat), W.heap[k]? = some (Obj.stringIter s pos) → w'.heap[k]? = some (Obj.stringIter s pos)) → wpList Tryz.prog ops Q rest (a.put o.dst v') w') : wpList Tryz.prog ops Q (o :: rest) a W := by
  obtain ⟨v', w', hr, h2, h3, h4⟩ := run_push W o.type B w0 v l hown hb hB g m c cs fr hblk ns hm hcs hlim
  refine wpList_plain hg fun K hK => ?_
  unfold Oper.wp execOp
  simp only [ho, resolve, invoke, builtin, Sem.run_bind, Sem.run_pure, Result.andThen_ok, List.map_toArray, List.map_cons, List.map_nil, hs, hx, hr]
  exact hK _ _ (h v' w' h2 h3 h4)

/-- 'make([]string, 0, n)'. -/
theorem wpList_emptied (W : World) (hg : o.guard = none) (x y : Operand) (ho : o.op = .makeSlice 45 x y) (B : Nat) (w0 : World) (hb : Below B w0 W) (hB : B ≤ w0.heap.size) (L C : Int) (n : Nat) (hx : a.eval x = .int .i64 L) (hy : a.eval y = .int .i64 C) (hL : L = 0) (hC : C = (n : Int)) (hlim : n ≤ 8796093022208)
    (h : ∀ v' w', Own w' B v' [] → Below B w0 w' → wpList Tryz.prog ops Q rest (a.put o.dst v') w') : wpList Tryz.prog ops Q (o :: rest) a W := by
  obtain ⟨i0, hi, hz0, hz1, hz2⟩ := info_parts info16
  have hsz := hb.size
  subst hL
  refine wpList_make_own W hg x y _ ho B _ i0 _ 1 Tryz.underlying45 hi hz0 hz1 .i64 .i64 C n hx hy hC (by rw [hz2]; omega) (by unfold maxLen; omega) (by omega) ?_
  intro w' h1 h2
  exact h _ w' h1 (hb.grown h2 (by omega) (fun k hk => by cases hk))
end
end Go.Proofs.YthkopnobekohcaaGreatDoor.Strs

namespace Go.Proofs.YthkopnobekohcaaGreatDoor.Num
open Go.RowKit Go.Lib Go.Proofs.YthkopnobekohcaaGreatDoor.Byt

theorem info64 : (Tryz.prog.info? 3).map (fun i => (i.zero, i.size, i.bytes)) = some (some (.int .i64 0), 1, 8) := by kernel_rfl

/-- v can be read as the ints xs. -/
def Row (w : World) (v : Value) (xs : List Int) : Prop :=
  (xs = [] ∧ ∃ a cap, v = .slice a 0 cap) ∨ ∃ b off cap, v = .slice (some ⟨b, off, none⟩) xs.length cap ∧ ∀ j, j < xs.length → w.cell? ⟨b, off + j, none⟩ = some (.int .i64 (xs.getD j 0))
theorem cell_lt {w : World} {a : Addr} {v : Value} (hc : w.cell? a = some v) : a.block < w.heap.size := by
  rcases Nat.lt_or_ge a.block w.heap.size with h' | h'
  · exact h'
  · simp [World.cell?, Array.getElem?_eq_none h'] at hc
theorem Row.next {w w' : World} {v : Value} {xs : List Int} (h : Row w v xs) (hb : Below w.heap.size w w') : Row w' v xs := by
  rcases h with h | ⟨b, off, cap, h1, h2⟩
  · exact .inl h
  · exact .inr ⟨b, off, cap, h1, fun j hj => (hb.cell (cell_lt (h2 j hj))).trans (h2 j hj)⟩
theorem Row.nil (w : World) : Row w (.slice none 0 0) [] := .inl ⟨rfl, _, _, rfl⟩

/-- v is the call's own (from block B on) and holds the ints l. -/
def Own (w : World) (B : Nat) (v : Value) (l : List Int) : Prop := w.ownsRow B 3 1 v l.length (l.map (Value.int .i64))
section
variable {w w' : World} {B : Nat} {v : Value} {l : List Int}
theorem Own.nil (w : World) (B : Nat) : Own w B (.slice none 0 0) [] := World.ownsRow_nil _ _ _ _
theorem Own.alloc (h : Own w B v l) (o : Obj) : Own (w.alloc o) B v l := World.ownsRow.alloc h o
theorem Own.drewN (h : Own w B v l) (n : Nat) : Own (w.drewN n) B v l := h
theorem Own.row (h : Own w B v l) : Row w v l := by
  rcases h.2 with ⟨hv, hx⟩ | ⟨g, cap, cur, hv, _⟩
  · obtain rfl : l = [] := List.eq_nil_of_length_eq_zero hx
    subst hv
    exact Row.nil w
  · subst hv
    refine .inr ⟨g, 0, cap, rfl, fun j hj => ?_⟩
    rw [Nat.zero_add, World.ownsRow.cellAt h j (by omega)]
    simp [hj]
/-- An owned row's block holds cells. -/
theorem Own.cells (h : Own w B v l) : ∀ g, v.ownBlock = some g → B ≤ g ∧ ∃ c, w.heap[g]? = some (.cells c 3 (0, 0)) := by
  intro g hg
  rcases h.2 with ⟨rfl, _⟩ | ⟨g', cap, cur, rfl, hB, hgg, _⟩
  · simp [Value.ownBlock] at hg
  · simp [Value.ownBlock] at hg
    subst hg
    exact ⟨hB, cur, hgg⟩
theorem Own.iterAt (h : Own w B v l) {k : Nat} {s : ByteArray} {pos : Nat} (hk : w.heap[k]? = some (.stringIter s pos)) (pos' : Nat) : Own (w.iterAt k s pos') B v l := by
  refine ⟨h.1, ?_⟩
  rcases h.2 with hn | ⟨g, cap, cur, hv, hbg, hg, rest⟩
  · exact .inl hn
  · have hkg : g ≠ k := by
      intro e1
      rw [e1, hk] at hg
      cases hg
    exact .inr ⟨g, cap, cur, hv, hbg, (Lib.iterAt_other w k g s pos' hkg).trans hg, rest⟩
end

theorem ints_one (l : List Int) : ∀ u ∈ l.map (Value.int .i64), u.oneCell' = true := by
  intro u hu
  simp only [List.mem_map] at hu
  obtain ⟨b, _, rfl⟩ := hu
  rfl
section
variable {ops : Array Oper} {rest : List Oper} {o : Oper} {a : Act} {Q : Exit → Act → World → Prop}

end
end Go.Proofs.YthkopnobekohcaaGreatDoor.Num

namespace Go.Proofs.YthkopnobekohcaaGreatDoor.Bld
open Go.RowKit Go.Lib

/-- The builder at block b (one of the call's own, from B on) holds the bytes l. -/
def Holds (w : World) (B b : Nat) (l : List UInt8) : Prop := IsBuilder 58 5 B b (byteCells l) w

theorem infoB : (Tryz.prog.info? 58).map (fun i => i.size) = some 2 := by kernel_rfl
theorem info8 : (Tryz.prog.info? 5).map (fun i => (i.zero, i.size, i.bytes)) = some (some (.int .u8 0), 1, 1) := by kernel_rfl

set_option maxHeartbeats 1000000 in
set_option maxRecDepth 100000 in
theorem check_used (b : Nat) (w : World) (h0 : w.cell? ⟨b, 0, none⟩ = some (.pointer (some ⟨b, 0, none⟩))) :
    Calls Tryz.prog 76 #[.pointer (some ⟨b, 0, none⟩)] w fun e w' => e = .returned (.tuple #[]) ∧ w' = w := by
  obtain ⟨j, hj, _⟩ := Option.map_eq_some_iff.1 infoB
  go_enter Tryz.func76, Tryz.ntmps76
  go_wp2
  rw [Lib.run_neq_ptr_same w _ Tryz.underlying55 hj]
  go_wp2
  go_end0
  exact ⟨rfl, rfl⟩

set_option maxHeartbeats 1000000 in
set_option maxRecDepth 100000 in
theorem check_fresh (b : Nat) (w : World) (h0 : w.cell? ⟨b, 0, none⟩ = some (.pointer none)) (hsh : w.shape? b = some (58, 2)) (hfz : w.frozen? ⟨b, 0, none⟩ = false) :
    Calls Tryz.prog 76 #[.pointer (some ⟨b, 0, none⟩)] w fun e w' => e = .returned (.tuple #[]) ∧ w' = w.setCell ⟨b, 0, none⟩ (.pointer (some ⟨b, 0, none⟩)) := by
  obtain ⟨j, hj, hjs⟩ := Option.map_eq_some_iff.1 infoB
  go_enter Tryz.func76, Tryz.ntmps76
  go_wp2
  rw [Lib.run_to_unsafe w ⟨b, 0, none⟩ Tryz.underlying55 Tryz.underlying109 hj (by rw [hjs]; decide) hsh (Nat.zero_lt_succ 1)]
  simp only [Result.andThen]
  rw [Oper.upon_value]
  go_wp2
  rw [run_callFunc_extern Tryz.func103 (by kernel_rfl) (by kernel_rfl) (by kernel_rfl) (e := Extern.AbiNoEscape.same) (by kernel_rfl)]
  rw [Lib.run_noEscape]
  simp only [Result.andThen]
  rw [Oper.upon_value]
  go_wp2
  rw [Lib.run_from_unsafe w ⟨b, 0, none⟩ Tryz.underlying109 Tryz.underlying55 hj hsh (by kernel_rfl)]
  simp only [Result.andThen]
  rw [Oper.upon_value]
  go_wp2
  go_end0
  exact ⟨rfl, rfl⟩

theorem check_any (B b : Nat) (bs : List Value) (w : World) (h : IsBuilder 58 5 B b bs w) :
    Calls Tryz.prog 76 #[.pointer (some ⟨b, 0, none⟩)] w fun e w' => e = .returned (.tuple #[]) ∧ (BuilderAt 58 5 B b (.pointer (some ⟨b, 0, none⟩)) bs w' ∧ Below B w w') := by
  rcases h with h | h
  · refine (check_fresh b w h.cell0 h.shape h.frozen0).mono ?_
    rintro e w' ⟨rfl, rfl⟩
    exact ⟨rfl, h.used _, (Below.refl B w).setCell (p := ⟨b, 0, none⟩) h.1 _⟩
  · refine (check_used b w h.cell0).mono ?_
    rintro e w' ⟨rfl, rfl⟩
    exact ⟨rfl, h, Below.refl B _⟩

set_option maxHeartbeats 1000000 in
set_option maxRecDepth 100000 in
theorem write_at (B b : Nat) (bs : List Value) (s : ByteArray) (w : World) (h : IsBuilder 58 5 B b bs w) (hlen : bs.length + s.size ≤ 140737488355328) (hBw : B ≤ w.heap.size) :
    Calls Tryz.prog 46 #[.pointer (some ⟨b, 0, none⟩), .string s] w fun e w' => e = .returned (.tuple #[.int .i64 s.size, .nilIface]) ∧ (BuilderAt 58 5 B b (.pointer (some ⟨b, 0, none⟩)) (bs ++ Lib.strCells s) w' ∧ Below B w w') := by
  obtain ⟨i0, hi, hz0, hz1, hz2⟩ := info_parts info8
  go_enter Tryz.func46, Tryz.ntmps46
  go_wp2_with (go_at_call 76; refine (check_any B b bs _ h).mono ?_)
  rintro e w1 ⟨rfl, h1, hb1⟩
  obtain ⟨hB, v, hbk, hown, hne⟩ := h1
  have c0 : w1.cell? ⟨b, 0, none⟩ = some (.pointer (some ⟨b, 0, none⟩)) := by rw [Lib.cell_of_heap hbk]; rfl
  have c1 : w1.cell? ⟨b, 1, none⟩ = some v := by rw [Lib.cell_of_heap hbk]; rfl
  go_wp2_with (at_builtin; refine Lib.wpList_append_own_string _ rfl _ _ 56 9 rfl B 5 i0 Tryz.underlying56 Tryz.underlying9 hi hz0 hz1 hz2 _ _ _ rfl hown s rfl ?c3 ?c4 ?c5 ?_)
  case c3 => unfold maxLen; omega
  case c4 => omega
  case c5 => have := hb1.size; omega
  intro v' w2 hown' hgrow _
  have hlt : b < w1.heap.size := by
    rcases Nat.lt_or_ge b w1.heap.size with h' | h'
    · exact h'
    · simp [Array.getElem?_eq_none h'] at hbk
  have hb2 : w2.heap[b]? = some (.cells #[.pointer (some ⟨b, 0, none⟩), v] 58 (0, 0)) := by
    rw [hgrow.block b hlt (fun e => hne e.symm)]
    exact hbk
  have d0 : w2.cell? ⟨b, 0, none⟩ = some (.pointer (some ⟨b, 0, none⟩)) := by rw [Lib.cell_of_heap hb2]; rfl
  have d1 : w2.cell? ⟨b, 1, none⟩ = some v := by rw [Lib.cell_of_heap hb2]; rfl
  have f1 : w2.frozen? ⟨b, 1, none⟩ = false := Lib.frozen_of_heap hb2 1
  obtain ⟨ao, n', cap, rfl⟩ : ∃ ao n' cap, v' = .slice ao n' cap := by
    rcases hown'.2 with ⟨hv, _⟩ | ⟨g, cap, cur, hv, _⟩
    · exact ⟨_, _, _, hv⟩
    · exact ⟨_, _, _, hv⟩
  go_wp2
  go_ret2
  refine ⟨rfl, ?_, ?_⟩
  · exact Lib.BuilderAt.put (T := 58) (e := 5) hB hb2 (bs' := bs ++ Lib.strCells s) (by simpa [Lib.strCells_length] using hown') (by decide)
  · exact (hb1.grown hgrow (by have := hb1.size; omega) (fun k hk => (hown.lt k hk).1)).setCell (p := ⟨b, 1, none⟩) hB _

/-! ### the contracts to use -/
theorem write_any (B b : Nat) (l : List UInt8) (s : ByteArray) (w : World) (h : Holds w B b l) (hlen : l.length + s.size ≤ 140737488355328) (hBw : B ≤ w.heap.size) :
    Calls Tryz.prog 46 #[.pointer (some ⟨b, 0, none⟩), .string s] w fun e w' => e = .returned (.tuple #[.int .i64 s.size, .nilIface]) ∧ Holds w' B b (l ++ s.data.toList) ∧ Below B w w' := by
  refine (write_at B b (byteCells l) s w h (by simpa [byteCells] using hlen) hBw).mono ?_
  rintro e w' ⟨rfl, h1, h2⟩
  refine ⟨rfl, .inr ?_, h2⟩
  rw [byteCells_append]
  exact h1
theorem string_any (B b : Nat) (l : List UInt8) (w : World) (h : Holds w B b l) (hBw : B ≤ w.heap.size) :
    Calls Tryz.prog 48 #[.pointer (some ⟨b, 0, none⟩)] w fun e w' => e = .returned (.string ⟨l.toArray⟩) ∧ Below B w w' := Tryz.Builder_String_any B b l w h hBw
theorem holds_new (w : World) (B : Nat) (hB : B ≤ w.heap.size) : Holds (w.alloc (.cells #[.pointer none, .slice none 0 0] 58)) B w.heap.size [] :=
  Or.inl ⟨hB, .slice none 0 0, heap_alloc_new w _, World.ownsRow_nil _ _ _ _, by simp [Value.ownBlock]⟩
/-- A builder stays as it is behind what lies elsewhere. -/
theorem Holds.next {w w' : World} {B b : Nat} {l : List UInt8} (h : Holds w B b l) (hb : Below w.heap.size w w') : Holds w' B b l := by
  have go : ∀ p, BuilderAt 58 5 B b p (byteCells l) w → BuilderAt 58 5 B b p (byteCells l) w' := by
    rintro p ⟨h1, v, h2, h3, h4⟩
    have hlt : b < w.heap.size := BuilderAt.lt ⟨h1, v, h2, h3, h4⟩
    refine ⟨h1, v, (hb.block b hlt).trans h2, ⟨h3.1, ?_⟩, h4⟩
    rcases h3.2 with hn | ⟨g, cap, cur, hv, hbg, hg, rest⟩
    · exact .inl hn
    · have hg2 : g < w.heap.size := by
        rcases Nat.lt_or_ge g w.heap.size with h' | h'
        · exact h'
        · simp [Array.getElem?_eq_none h'] at hg
      exact .inr ⟨g, cap, cur, hv, hbg, (hb.block g hg2).trans hg, rest⟩
  rcases h with h | h
  · exact .inl (go _ h)
  · exact .inr (go _ h)
end Go.Proofs.YthkopnobekohcaaGreatDoor.Bld

namespace Go.Proofs.YthkopnobekohcaaGreatDoor.Bld
open Go.RowKit Go.Lib

/-- Every iterator of a string stands as it stood. -/
def Kept (w w' : World) : Prop := ∀ (k : Nat) (s : ByteArray) (pos : Nat), w.heap[k]? = some (Obj.stringIter s pos) → w'.heap[k]? = some (Obj.stringIter s pos)
theorem Kept.refl (w : World) : Kept w w := fun _ _ _ h => h
theorem Kept.trans {a b c : World} (h : Kept a b) (k : Kept b c) : Kept a c := fun i s p hi => k i s p (h i s p hi)
theorem iter_lt {w : World} {k : Nat} {s : ByteArray} {pos : Nat} (h : w.heap[k]? = some (Obj.stringIter s pos)) : k < w.heap.size := (Array.getElem?_eq_some_iff.1 h).1
theorem Kept.below {w w' : World} (hb : Below w.heap.size w w') : Kept w w' := fun k _ _ h => (hb.block k (iter_lt h)).trans h
theorem Kept.setCell (w : World) (b j : Nat) (v : Value) {cs : Array Value} {T : TypeId} {fr : Nat × Nat} (hb : w.heap[b]? = some (.cells cs T fr)) : Kept w (w.setCell ⟨b, j, none⟩ v) := by
  intro k s pos h
  have hne : b ≠ k := by rintro rfl; rw [hb] at h; cases h
  simp only [World.setCell]
  rw [Array.getElem?_modify, if_neg hne]
  exact h
theorem Kept.grown {w w' : World} {B n : Nat} {v : Value} {xs : List Value} {e : TypeId} (hown : w.ownsRow B e 1 v n xs) (hg : w.grownBy w' v.ownBlock) : Kept w w' := by
  intro k s pos h
  have hlt := iter_lt h
  rw [hg.block k hlt ?_]
  · exact h
  · intro h2
    rcases hown.2 with ⟨rfl, _⟩ | ⟨g, cap, cur, rfl, _, hgg, _⟩
    · simp [Value.ownBlock] at h2
    · simp [Value.ownBlock] at h2
      subst h2
      rw [hgg] at h
      cases h

theorem Holds.iterAt {w : World} {B b : Nat} {l : List UInt8} (h : Holds w B b l) {k : Nat} {s : ByteArray} {pos : Nat} (hk : w.heap[k]? = some (Obj.stringIter s pos)) (pos' : Nat) : Holds (w.iterAt k s pos') B b l := by
  have go : ∀ p, BuilderAt 58 5 B b p (byteCells l) w → BuilderAt 58 5 B b p (byteCells l) (w.iterAt k s pos') := by
    rintro p ⟨h1, v, h2, h3, h4⟩
    have hbk : b ≠ k := by rintro rfl; rw [hk] at h2; cases h2
    refine ⟨h1, v, (Lib.iterAt_other w k b s pos' hbk).trans h2, ⟨h3.1, ?_⟩, h4⟩
    rcases h3.2 with hn | ⟨g, cap, cur, hv, hbg, hg, rest⟩
    · exact .inl hn
    · have hgk : g ≠ k := by rintro rfl; rw [hk] at hg; cases hg
      exact .inr ⟨g, cap, cur, hv, hbg, (Lib.iterAt_other w k g s pos' hgk).trans hg, rest⟩
  rcases h with h | h
  · exact .inl (go _ h)
  · exact .inr (go _ h)
theorem check_kept (B b : Nat) (bs : List Value) (w : World) (h : IsBuilder 58 5 B b bs w) :
    Calls Tryz.prog 76 #[.pointer (some ⟨b, 0, none⟩)] w fun e w' => e = .returned (.tuple #[]) ∧ (BuilderAt 58 5 B b (.pointer (some ⟨b, 0, none⟩)) bs w' ∧ Below B w w') ∧ Kept w w' := by
  rcases h with h | h
  · refine (check_fresh b w h.cell0 h.shape h.frozen0).mono ?_
    rintro e w' ⟨rfl, rfl⟩
    obtain ⟨_, v, hbk, _⟩ := id h
    exact ⟨rfl, ⟨h.used _, (Below.refl B w).setCell (p := ⟨b, 0, none⟩) h.1 _⟩, Kept.setCell w b 0 _ hbk⟩
  · refine (check_used b w h.cell0).mono ?_
    rintro e w' ⟨rfl, rfl⟩
    exact ⟨rfl, ⟨h, Below.refl B _⟩, Kept.refl _⟩

set_option maxHeartbeats 1000000 in
set_option maxRecDepth 100000 in
theorem string_kept (B b : Nat) (bs : List Value) (s : ByteArray) (w : World) (h : IsBuilder 58 5 B b bs w) (hlen : bs.length + s.size ≤ 140737488355328) (hBw : B ≤ w.heap.size) :
    Calls Tryz.prog 46 #[.pointer (some ⟨b, 0, none⟩), .string s] w fun e w' => e = .returned (.tuple #[.int .i64 s.size, .nilIface]) ∧ (BuilderAt 58 5 B b (.pointer (some ⟨b, 0, none⟩)) (bs ++ Lib.strCells s) w' ∧ Below B w w') ∧ Kept w w' := by
  obtain ⟨i0, hi, hz0, hz1, hz2⟩ := info_parts info8
  go_enter Tryz.func46, Tryz.ntmps46
  go_wp2_with (go_at_call 76; refine (check_kept B b bs _ h).mono ?_)
  rintro e w1 ⟨rfl, ⟨h1, hb1⟩, hk1⟩
  obtain ⟨hB, v, hbk, hown, hne⟩ := h1
  have c0 : w1.cell? ⟨b, 0, none⟩ = some (.pointer (some ⟨b, 0, none⟩)) := by rw [Lib.cell_of_heap hbk]; rfl
  have c1 : w1.cell? ⟨b, 1, none⟩ = some v := by rw [Lib.cell_of_heap hbk]; rfl
  go_wp2_with (at_builtin; refine Lib.wpList_append_own_string _ rfl _ _ 56 9 rfl B 5 i0 Tryz.underlying56 Tryz.underlying9 hi hz0 hz1 hz2 _ _ _ rfl hown s rfl ?c3 ?c4 ?c5 ?_)
  case c3 => unfold maxLen; omega
  case c4 => omega
  case c5 => have := hb1.size; omega
  intro v' w2 hown' hgrow _
  have hlt : b < w1.heap.size := by
    rcases Nat.lt_or_ge b w1.heap.size with h' | h'
    · exact h'
    · simp [Array.getElem?_eq_none h'] at hbk
  have hb2 : w2.heap[b]? = some (.cells #[.pointer (some ⟨b, 0, none⟩), v] 58 (0, 0)) := by
    rw [hgrow.block b hlt (fun e => hne e.symm)]
    exact hbk
  have d0 : w2.cell? ⟨b, 0, none⟩ = some (.pointer (some ⟨b, 0, none⟩)) := by rw [Lib.cell_of_heap hb2]; rfl
  have d1 : w2.cell? ⟨b, 1, none⟩ = some v := by rw [Lib.cell_of_heap hb2]; rfl
  have f1 : w2.frozen? ⟨b, 1, none⟩ = false := Lib.frozen_of_heap hb2 1
  have hk2 := hk1.trans (Kept.grown hown hgrow)
  obtain ⟨ao, n', cap, rfl⟩ : ∃ ao n' cap, v' = .slice ao n' cap := by
    rcases hown'.2 with ⟨hv, _⟩ | ⟨g, cap, cur, hv, _⟩
    · exact ⟨_, _, _, hv⟩
    · exact ⟨_, _, _, hv⟩
  go_wp2
  go_ret2
  refine ⟨rfl, ⟨?_, ?_⟩, hk2.trans (Kept.setCell w2 b 1 _ hb2)⟩
  · exact Lib.BuilderAt.put (T := 58) (e := 5) hB hb2 (bs' := bs ++ Lib.strCells s) (by simpa [Lib.strCells_length] using hown') (by decide)
  · exact (hb1.grown hgrow (by have := hb1.size; omega) (fun k hk => (hown.lt k hk).1)).setCell (p := ⟨b, 1, none⟩) hB _

/-! ### the contracts to use -/
theorem wstring (B b : Nat) (l : List UInt8) (s : ByteArray) (w : World) (h : Holds w B b l) (hlen : l.length + s.size ≤ 140737488355328) (hBw : B ≤ w.heap.size) :
    Calls Tryz.prog 46 #[.pointer (some ⟨b, 0, none⟩), .string s] w fun e w' => e = .returned (.tuple #[.int .i64 s.size, .nilIface]) ∧ Holds w' B b (l ++ s.data.toList) ∧ Below B w w' ∧ Kept w w' := by
  refine (string_kept B b (byteCells l) s w h (by simpa [byteCells] using hlen) hBw).mono ?_
  rintro e w' ⟨rfl, ⟨h1, h2⟩, h3⟩
  refine ⟨rfl, .inr ?_, h2, h3⟩
  rw [byteCells_append]
  exact h1
end Go.Proofs.YthkopnobekohcaaGreatDoor.Bld
