/- Byte rows that a call makes itself, and strings of them. Conditions: as each theorem states. -/
import Derived.Test.YtggahjhjapnfeaaDoorRows
import Derived.WalkKit
import Derived.Lib.Hide
import Derived.Lib.UnsafeStr
import Derived.Laws.IdiomStrings
import Derived.Laws.OwnMore
import Derived.Below
import Derived.OwnWalk
import Derived.Deep.Draws
import Derived.Deep.RegionLaw
namespace Go.Proofs.YtggahjhjapnfeaaDoor.Byt
open Go.RowKit Go.Lib

theorem info8 : (Tryd.prog.info? 5).map (fun i => (i.zero, i.size, i.bytes)) = some (some (.int .u8 0), 1, 1) := by kernel_rfl

/-- v is the call's own (from block B on) and holds the bytes l. -/
def Own (w : World) (B : Nat) (v : Value) (l : List UInt8) : Prop := w.ownsRow B 5 1 v l.length (byteCells l)

theorem add_at (g j : Nat) : ((⟨g, 0, none⟩ : Addr).add j) = ⟨g, j, none⟩ := by
  rcases j with _ | j <;> simp [Addr.add]

section
variable {w w' : World} {B : Nat} {v : Value} {l : List UInt8}
theorem Own.nil (w : World) (B : Nat) : Own w B (.slice none 0 0) [] := World.ownsRow_nil _ _ _ _
theorem Own.drew (h : Own w B v l) : Own w.drew B v l := h
theorem Own.drewN (h : Own w B v l) (n : Nat) : Own (w.drewN n) B v l := h
theorem Own.alloc (h : Own w B v l) (o : Obj) : Own (w.alloc o) B v l := World.ownsRow.alloc h o
theorem Own.shape (h : Own w B v l) : (v = .slice none 0 0 ∧ l = []) ∨ ∃ g cap, v = .slice (some ⟨g, 0, none⟩) l.length cap := by
  rcases h.2 with ⟨hv, hx⟩ | ⟨g, cap, cur, hv, _⟩
  · left; exact ⟨hv, List.eq_nil_of_length_eq_zero hx⟩
  · right; exact ⟨g, cap, hv⟩
theorem below_set {a : World} (hb : Below B a w) {g : Nat} (hg : B ≤ g) (j : Nat) (u : Value) : Below B a (w.setCell ⟨g, j, none⟩ u) := hb.setCell (p := ⟨g, j, none⟩) hg u
theorem Own.set_ {g n cap : Nat} (h : Own w B (.slice (some ⟨g, 0, none⟩) n cap) l) (j : Nat) (b : UInt8) (x : Int) (hx : x = (b.toNat : Int)) :
    Own (w.setCell ⟨g, j, none⟩ (.int .u8 x)) B (.slice (some ⟨g, 0, none⟩) n cap) (l.set j b) := by
  subst hx
  have hn : l.length = n := by
    rcases h.shape with ⟨h1, _⟩ | ⟨g', cap', h1⟩
    · cases h1
    · injection h1 with _ h2 _; exact h2.symm
  unfold Own at h ⊢
  rw [hn] at h
  rw [List.length_set, hn]
  have := (World.ownsRow.stored h j (.int .u8 (b.toNat : Int))).1
  rwa [show (byteCells l).set j (.int .u8 (b.toNat : Int)) = byteCells (l.set j b) by simp [byteCells, List.map_set]] at this
theorem Own.len {g n cap : Nat} (h : Own w B (.slice (some ⟨g, 0, none⟩) n cap) l) : l.length = n := by
  rcases h.shape with ⟨h1, _⟩ | ⟨g', cap', h1⟩
  · cases h1
  · injection h1 with _ h2 _; exact h2.symm
theorem Own.cell {g n cap : Nat} (h : Own w B (.slice (some ⟨g, 0, none⟩) n cap) l) (j : Nat) (hj : j < n) : w.cell? ⟨g, j, none⟩ = some (.int .u8 ((l.getD j 0).toNat : Int)) := by
  have hn := h.len
  unfold Own at h
  rw [hn] at h
  have hl : j < l.length := by omega
  have := World.ownsRow.cellAt h j (by omega)
  rw [this]
  simp [byteCells, hl]
theorem Own.free {g n cap : Nat} (h : Own w B (.slice (some ⟨g, 0, none⟩) n cap) l) (j : Nat) : w.frozen? ⟨g, j, none⟩ = false := by
  have hn := h.len
  unfold Own at h
  rw [hn] at h
  exact World.ownsRow.frozenAt h j
end

section
variable {ops : Array Oper} {rest : List Oper} {o : Oper} {a : Act} {Q : Exit → Act → World → Prop}

theorem byteCells_one (l : List UInt8) : ∀ u ∈ byteCells l, u.oneCell' = true := by
  intro u hu
  simp only [byteCells, List.mem_map] at hu
  obtain ⟨b, _, rfl⟩ := hu
  rfl

/-- Behind 'append(out, ..)': the bytes ns lie in a block g. -/
theorem run_push (W : World) (ty : TypeId) (B : Nat) (w0 : World) (v : Value) (l : List UInt8) (hown : Own W B v l) (hb : Below B w0 W) (hB : B ≤ w0.heap.size)
    (g m c : Nat) (cs : Array Value) (fr : Nat × Nat) (hblk : W.heap[g]? = some (.cells cs 5 fr)) (ns : List UInt8) (hm : ns.length = m) (hcs : cs.toList = byteCells ns) (hlim : l.length + m ≤ 140737488355328) :
    ∃ v' w', (Builtin.append_ #[34, 34] ty #[v, .slice (some ⟨g, 0, none⟩) m c]).run Tryd.prog W = .ok v' w' ∧ Own w' B v' (l ++ ns) ∧ Below B w0 w' := by
  obtain ⟨i0, hi, hz0, hz1, hz2⟩ := info_parts info8
  have hsz := hb.size
  subst hm
  have hnews : ∀ j u, (byteCells ns)[j]? = some u → W.cell? ((⟨g, 0, none⟩ : Addr).add j) = some u := by
    intro j u hj
    rw [← hcs] at hj
    have : ((⟨g, 0, none⟩ : Addr).add j) = ⟨g, j, none⟩ := add_at g j
    rw [this, World.cell?, hblk]
    simpa using hj
  obtain ⟨v', w', hr, h2, h3, _⟩ := run_append_own (P := Tryd.prog) W B 34 ty 5 i0 (.int .u8 0) 1 1 Tryd.underlying34 hi hz0 hz1 hz2 rfl (by omega) v l.length (byteCells l) hown
    ⟨g, 0, none⟩ ns.length c (byteCells ns) (by simp [byteCells]) hnews (byteCells_one ns) (by unfold maxLen; omega) (by omega) (by omega)
  refine ⟨v', w', hr, ?_, hb.grown h3 (by omega) (fun k hk => (World.ownsRow.lt hown k hk).1)⟩
  unfold Own
  rw [List.length_append, byteCells_append]
  exact h2

theorem wpList_push (W : World) (hg : o.guard = none) (s x : Operand) (ho : o.op = .call { callee := .builtin .append, args := #[s, x], argTypes := #[34, 34] })
    (B : Nat) (w0 : World) (v : Value) (l : List UInt8) (hs : a.eval s = v) (hown : Own W B v l) (hb : Below B w0 W) (hB : B ≤ w0.heap.size)
    (g m c : Nat) (hx : a.eval x = .slice (some ⟨g, 0, none⟩) m c) (cs : Array Value) (fr : Nat × Nat) (hblk : W.heap[g]? = some (.cells cs 5 fr)) (ns : List UInt8) (hm : ns.length = m) (hcs : cs.toList = byteCells ns) (hlim : l.length + m ≤ 140737488355328)
    (h : ∀ v' w', Own w' B v' (l ++ ns) → Below B w0 w' → wpList Tryd.prog ops Q rest (a.put o.dst v') w') : wpList Tryd.prog ops Q (o :: rest) a W := by
  obtain ⟨v', w', hr, h2, h3⟩ := run_push W o.type B w0 v l hown hb hB g m c cs fr hblk ns hm hcs hlim
  refine wpList_plain hg fun K hK => ?_
  unfold Oper.wp execOp
  simp only [ho, resolve, invoke, builtin, Sem.run_bind, Sem.run_pure, Result.andThen_ok, List.map_toArray, List.map_cons, List.map_nil, hs, hx, hr]
  exact hK _ _ (h v' w' h2 h3)

/-- The same as a step of a region that draws its order. -/
theorem step_push {K : Act → World → Prop} {E : Prop} (W : World) (hg : o.guard = none) (s x : Operand) (ho : o.op = .call { callee := .builtin .append, args := #[s, x], argTypes := #[34, 34] })
    (B : Nat) (w0 : World) (v : Value) (l : List UInt8) (hs : a.eval s = v) (hown : Own W B v l) (hb : Below B w0 W) (hB : B ≤ w0.heap.size)
    (g m c : Nat) (hx : a.eval x = .slice (some ⟨g, 0, none⟩) m c) (cs : Array Value) (fr : Nat × Nat) (hblk : W.heap[g]? = some (.cells cs 5 fr)) (ns : List UInt8) (hm : ns.length = m) (hcs : cs.toList = byteCells ns) (hlim : l.length + m ≤ 140737488355328)
    (h : ∀ v' w', Own w' B v' (l ++ ns) → Below B w0 w' → K (a.put o.dst v') w') : if Region.wanted o (yielded ops a.tmps) = true then Oper.wp Tryd.prog o a W K Q else E := by
  obtain ⟨v', w', hr, h2, h3⟩ := run_push W o.type B w0 v l hown hb hB g m c cs fr hblk ns hm hcs hlim
  have hw : Region.wanted o (yielded ops a.tmps) = true := by simp [Region.wanted, hg]
  rw [if_pos hw]
  unfold Oper.wp execOp
  simp only [ho, resolve, invoke, builtin, Sem.run_bind, Sem.run_pure, Result.andThen_ok, List.map_toArray, List.map_cons, List.map_nil, hs, hx, hr]
  exact h v' w' h2 h3

/-- 'string(b)'. -/
theorem run_string (W : World) (B : Nat) (v : Value) (l : List UInt8) (hown : Own W B v l) :
    (convert 34 9 v).run Tryd.prog W = .ok (.string ⟨l.toArray⟩) W := by
  rcases hown.shape with ⟨rfl, rfl⟩ | ⟨g, cap, rfl⟩
  · simp [convert, run_underlying Tryd.underlying34, run_underlying Tryd.underlying9, run_underlying Tryd.underlying5, Conv.bytesToString, loadCells, Sem.run_pure]
    rfl
  · exact run_convert_bytes_back W 34 9 5 ⟨g, 0, none⟩ cap l Tryd.underlying34 Tryd.underlying5 Tryd.underlying9 (fun j hj => by
      have := hown.cell j hj
      rw [add_at]
      simpa [hj] using this)

theorem wpList_string (W : World) (hg : o.guard = none) (x : Operand) (ho : o.op = .convert 34 9 x) (B : Nat) (v : Value) (l : List UInt8) (hx : a.eval x = v) (hown : Own W B v l)
    (h : wpList Tryd.prog ops Q rest (a.put o.dst (.string ⟨l.toArray⟩)) W) : wpList Tryd.prog ops Q (o :: rest) a W := by
  refine wpList_plain hg fun K hK => ?_
  have hr := run_string W B v l hown
  unfold Oper.wp execOp
  simp only [ho, Sem.run_bind, Sem.run_pure, Result.andThen_ok, hx, hr]
  exact hK _ _ h

theorem zeros (n : Nat) : (madeCells (Value.int .u8 0).cells (n * 1)).toList = byteCells (List.replicate n 0) := by
  rw [Nat.mul_one, show (Value.int .u8 0).cells = #[Value.int .u8 0] from rfl, toList_madeCells_one]
  simp [byteCells]

/-- 'make([]byte, n)'. -/
theorem wpList_made (W : World) (hg : o.guard = none) (x y : Operand) (ho : o.op = .makeSlice 34 x y) (B : Nat) (w0 : World) (hb : Below B w0 W) (hB : B ≤ w0.heap.size) (L C : Int) (n : Nat) (hx : a.eval x = .int .i64 L) (hy : a.eval y = .int .i64 C) (hL : L = (n : Int)) (hC : C = (n : Int)) (hlim : n ≤ 140737488355328)
    (h : ∀ w', Own w' B (.slice (some ⟨W.heap.size, 0, none⟩) n n) (List.replicate n 0) → Below B w0 w' → wpList Tryd.prog ops Q rest (a.put o.dst (.slice (some ⟨W.heap.size, 0, none⟩) n n)) w') : wpList Tryd.prog ops Q (o :: rest) a W := by
  obtain ⟨i0, hi, hz0, hz1, hz2⟩ := info_parts info8
  have hsz := hb.size
  refine wpList_make_full W hg x y _ ho B _ i0 _ 1 Tryd.underlying34 hi hz0 hz1 .i64 .i64 L C n hx hy hL hC (by rw [hz2]; omega) (by unfold maxLen; omega) (by omega) ?_
  intro w' h1 h2
  refine h w' ?_ (hb.grown h2 (by omega) (fun k hk => by cases hk))
  unfold Own
  rw [List.length_replicate, ← zeros]
  exact h1

/-- 'make([]byte, 0, n)'. -/
theorem wpList_emptied (W : World) (hg : o.guard = none) (x y : Operand) (ho : o.op = .makeSlice 34 x y) (B : Nat) (w0 : World) (hb : Below B w0 W) (hB : B ≤ w0.heap.size) (L C : Int) (n : Nat) (hx : a.eval x = .int .i64 L) (hy : a.eval y = .int .i64 C) (hL : L = 0) (hC : C = (n : Int)) (hlim : n ≤ 140737488355328)
    (h : ∀ v' w', Own w' B v' [] → Below B w0 w' → wpList Tryd.prog ops Q rest (a.put o.dst v') w') : wpList Tryd.prog ops Q (o :: rest) a W := by
  obtain ⟨i0, hi, hz0, hz1, hz2⟩ := info_parts info8
  have hsz := hb.size
  subst hL
  refine wpList_make_own W hg x y _ ho B _ i0 _ 1 Tryd.underlying34 hi hz0 hz1 .i64 .i64 C n hx hy hC (by rw [hz2]; omega) (by unfold maxLen; omega) (by omega) ?_
  intro w' h1 h2
  exact h _ w' h1 (hb.grown h2 (by omega) (fun k hk => by cases hk))
end
/-- The n bytes of s from i on. -/
def cutB (s : ByteArray) (i n : Nat) : ByteArray := ⟨((s.data.toList.drop i).take n).toArray⟩
theorem extract_cut (s : ByteArray) (i n : Nat) : s.extract i (i + n) = cutB s i n := by
  have h : (s.extract i (i + n)).data.toList = (cutB s i n).data.toList := by
    rw [ByteArray.data_extract, Array.toList_extract]
    simp [cutB, List.extract_eq_take_drop]
  have h2 : (s.extract i (i + n)).data = (cutB s i n).data := Array.toList_inj.1 h
  exact ByteArray.ext h2
theorem cutB_size (s : ByteArray) (i n : Nat) (h : i + n ≤ s.size) : (cutB s i n).size = n := by
  have : s.size = s.data.toList.length := by simp
  show (List.toArray _).size = n
  simp only [List.size_toArray, List.length_take, List.length_drop]
  omega
theorem run_cut (s : ByteArray) (lo hi : Int) (i n : Nat) (hlo : lo = (i : Int)) (hhi : hi = (i : Int) + (n : Int)) (h : i + n ≤ s.size) (w : World) :
    (Instr.slice 9 (.string s) (some (.int .i64 lo)) (some (.int .i64 hi)) none).run Tryd.prog w = .ok (.string (cutB s i n)) w := by
  subst hlo hhi
  rw [run_slice_string w 9 s .i64 .i64 (i : Int) ((i : Int) + (n : Int)) Tryd.underlying9 (by omega) (by omega) (by omega)]
  rw [show ((i : Int) + (n : Int)).toNat = i + n by omega, Int.toNat_natCast, extract_cut]
/-- 's[:n]'. -/
theorem sl_to (s : ByteArray) (n : Nat) (h : n ≤ s.size) (w : World) :
    (Instr.slice 9 (.string s) none (some (.int .i64 (n : Int))) none).run Tryd.prog w = .ok (.string (cutB s 0 n)) w := by
  rw [run_slice_string_to_if w 9 s .i64 (n : Int) Tryd.underlying9, if_pos (by omega)]
  have := extract_cut s 0 n
  rw [Nat.zero_add] at this
  rw [← this]
  rfl
/-- 's[i:]'. -/
theorem sl_from (s : ByteArray) (i n : Nat) (h : i + n = s.size) (w : World) :
    (Instr.slice 9 (.string s) (some (.int .i64 (i : Int))) none none).run Tryd.prog w = .ok (.string (cutB s i n)) w := by
  rw [run_slice_string_from_if w 9 s .i64 (i : Int) Tryd.underlying9, if_pos (by omega)]
  have := extract_cut s i n
  rw [h] at this
  rw [← this]
  rfl
theorem toList_data (b : ByteArray) : b.toList = b.data.toList := by
  rcases b with ⟨⟨l⟩⟩
  exact ByteArray.toList_mk l
theorem str_neq {a b : ByteArray} (h : a ≠ b) : (a.toList == b.toList) = false := by
  rw [beq_eq_false_iff_ne, toList_data, toList_data]
  exact fun q => h (ByteArray.ext (Array.toList_inj.1 q))
/-- 's == ""' is spelled so. -/
theorem str_some {s : ByteArray} (h : 0 < s.size) : s.toList.isEmpty = false := by
  rw [toList_data]
  have : s.data.toList.length = s.size := by simp
  cases e : s.data.toList with
  | nil => rw [e] at this; simp at this; omega
  | cons _ _ => rfl
theorem str_none {s : ByteArray} (h : s.size = 0) : s = ⟨#[]⟩ := ByteArray.ext (Array.eq_empty_of_size_eq_zero h)
end Go.Proofs.YtggahjhjapnfeaaDoor.Byt
