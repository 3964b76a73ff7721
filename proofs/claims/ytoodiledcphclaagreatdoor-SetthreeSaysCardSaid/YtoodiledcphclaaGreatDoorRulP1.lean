/- Contracts of rule's within, Kind, KindOf, a field's check. Conditions: the table of kinds' names reads as the program lays it. · A rule in memory; the contract of rule's fields; what stands at each place of them. Conditions: as each theorem states. -/
import Derived.Test.YtoodiledcphclaaGreatDoorPlainB
import Derived.Test.YtoodiledcphclaaGreatDoorSatB
import Derived.Lib.Hide
import Derived.Laws.Cover1
import Derived.Deep.MidRow
import Derived.Laws.CopyOwn
import Derived.Lib.Builder
import Derived.Great.BuildSlice
import Derived.Handy
namespace Go.Proofs.YtoodiledcphclaaGreatDoor.Rul
open Go.RowKit Go.Lib

/-- The table of kinds' names reads as the program lays it. -/
def Tab (w : World) : Prop := ∀ u : Nat, u < 4 → w.cell? ⟨0, u, none⟩ = some (.string (kB u))
theorem Tab.next {w W : World} (h : Tab w) (hb : Below w.heap.size w W) : Tab W := fun u hu => by
  have hc := h u hu
  have hlt : 0 < w.heap.size := by
    rcases Nat.lt_or_ge 0 w.heap.size with h' | h'
    · exact h'
    · simp [World.cell?, Array.getElem?_eq_none h'] at hc
  exact (hb.cell (p := ⟨_, u, none⟩) hlt).trans hc
theorem str_ne {a b : ByteArray} (h : a ≠ b) : (a.toList == b.toList) = false := by
  rw [beq_eq_false_iff_ne]
  rcases a with ⟨⟨l⟩⟩
  rcases b with ⟨⟨m⟩⟩
  rw [show (⟨⟨l⟩⟩ : ByteArray).toList = l from ByteArray.toList_mk l, show (⟨⟨m⟩⟩ : ByteArray).toList = m from ByteArray.toList_mk m]
  exact fun q => h (by rw [q])

/-- n is from lo to hi. -/
def isIn (n lo hi : Int) : Bool := decide (lo ≤ n) && decide (n ≤ hi)
theorem within_any (n lo hi : Int) (w : World) : Calls Tryz.prog 43 #[.int .i64 n, .int .i64 lo, .int .i64 hi] w fun e w' => e = .returned (.bool (isIn n lo hi)) ∧ w = w' := by
  unfold isIn
  by_cases h1 : lo ≤ n
  all_goals by_cases h2 : n ≤ hi
  all_goals
    go_enter Tryz.func43, Tryz.ntmps43
    go_wp2
    go_ret
    exact ⟨by simp [h1, h2], rfl⟩

theorem kind_any (k : Int) (w : World) (hT : Tab w) : Calls Tryz.prog 44 #[.int .i64 k] w fun e w' => e = .returned (.string (kB k)) ∧ w = w' := by
  by_cases h1 : k < 1
  · rw [(kB_none k).2 (by omega)]
    go_enter Tryz.func44, Tryz.ntmps44
    go_wp2
    go_ret
    exact ⟨rfl, rfl⟩
  by_cases h2 : 3 < k
  · rw [(kB_none k).2 (by omega)]
    go_enter Tryz.func44, Tryz.ntmps44
    go_wp2
    go_ret
    exact ⟨rfl, rfl⟩
  obtain ⟨u, rfl⟩ := Int.eq_ofNat_of_zero_le (show 0 ≤ k by omega)
  have hc := hT u (by omega)
  have hu : u < 4 := by omega
  clear hT
  generalize kB (u : Int) = z at *
  go_enter Tryz.func44, Tryz.ntmps44
  go_wp2
  go_ret
  exact ⟨rfl, rfl⟩

set_option maxRecDepth 100000 in
/-- A name of the table, taken by value. -/
theorem index_at (w : World) (m : Int) (h : 0 ≤ m) (h4 : m < 4) :
    Sem.run Tryz.prog (Instr.index 83 (.agg #[.string (kB 0), .string (kB 1), .string (kB 2), .string (kB 3)]) (.int .i64 m)) w = .ok (.string (kB m)) w := by
  obtain rfl | rfl | rfl | rfl : m = 0 ∨ m = 1 ∨ m = 2 ∨ m = 3 := by omega
  · rfl
  · rfl
  · rfl
  · rfl
theorem kb_next {m : Int} {s : ByteArray} (h : ∀ k : Nat, (k : Int) < m → kB k ≠ s) (hm : kB m ≠ s) : ∀ k : Nat, (k : Int) < m + 1 → kB k ≠ s := fun k hk => by
  by_cases e : (k : Int) < m
  · exact h k e
  · obtain e2 : (k : Int) = m := by omega
    rw [e2]; exact hm
theorem kO_in {m : Int} (h : 0 ≤ m) (h4 : m < 4) : kO (kB m) = m := by
  obtain ⟨k, rfl⟩ := Int.eq_ofNat_of_zero_le h
  exact kO_at (by omega)

/-- A number's field in memory, as a value. -/
theorem fcheck_any (p : ByteArray) (n k lo hi ki : Int) (w : World) :
    Calls Tryz.prog 29 #[.agg #[.string p, .int .i64 n, .int .i64 k, .int .i64 lo, .int .i64 hi], .int .i64 ki] w fun e w' => e = .returned (.int .i64 (fd k ki n lo hi)) ∧ Below w.heap.size w w' := by
  have HW := Lib.hid fun W => within_any n lo hi W
  unfold fd
  by_cases h1 : k = ki
  · subst h1
    cases hi' : isIn n lo hi
    · rw [hi'] at HW
      unfold isIn at hi'
      have hh : n < lo ∨ hi < n := by rw [Bool.and_eq_false_iff, decide_eq_false_iff_not, decide_eq_false_iff_not] at hi'; omega
      rw [if_neg (by simp), if_pos ⟨rfl, hh⟩]
      clear hi' hh
      go_enter Tryz.func29, Tryz.ntmps29
      go_wp2_with (go_at_call 43; (with_reducible refine (HW.out _).mono ?_); rintro e w1 ⟨rfl, rfl⟩)
      go_ret
      exact ⟨rfl, (Below.refl _ _).alloc (Nat.le_refl _) _⟩
    · rw [hi'] at HW
      unfold isIn at hi'
      have hh : ¬ (n < lo ∨ hi < n) := by rw [Bool.and_eq_true, decide_eq_true_eq, decide_eq_true_eq] at hi'; omega
      rw [if_neg (by simp), if_neg (fun q => hh q.2)]
      clear hi' hh
      go_enter Tryz.func29, Tryz.ntmps29
      go_wp2_with (go_at_call 43; (with_reducible refine (HW.out _).mono ?_); rintro e w1 ⟨rfl, rfl⟩)
      go_ret
      exact ⟨rfl, (Below.refl _ _).alloc (Nat.le_refl _) _⟩
  · by_cases h2 : n = 0
    · subst h2
      rw [if_neg (fun q => q.2 rfl), if_neg (fun q => h1 q.1)]
      go_enter Tryz.func29, Tryz.ntmps29
      go_wp2_with fail
      go_ret
      exact ⟨rfl, (Below.refl _ _).alloc (Nat.le_refl _) _⟩
    · rw [if_pos ⟨h1, h2⟩]
      have b1 : (k != ki) = true := by simp [h1]
      have b2 : (n != 0) = true := by simp [h2]
      go_enter Tryz.func29, Tryz.ntmps29
      go_wp2_with fail
      go_ret
      exact ⟨rfl, (Below.refl _ _).alloc (Nat.le_refl _) _⟩
end Go.Proofs.YtoodiledcphclaaGreatDoor.Rul

namespace Go.Proofs.YtoodiledcphclaaGreatDoor.Rul
open Go.RowKit Go.Lib

/-! ### a rule in memory -/
theorem info13 : (Tryz.prog.info? 35).map (·.size) = some 13 := by kernel_rfl
/-- A rule's cells. -/
def ruC (r : Ru) : Array Value := #[.string r.id, .string r.no, .string r.ro, .int .i64 r.pr, .int .i64 r.ki, .int .i64 r.ra, .int .i64 r.pe, .int .i64 r.bu, .int .i64 r.co, .int .i64 r.mx, .int .i64 r.fa, .int .i64 r.wa, .int .i64 r.pb]
/-- Block g holds those cells. -/
def Bx (w : World) (g : Nat) (cs : Array Value) : Prop := w.heap[g]? = some (.cells cs 35 (0, 0))
theorem Bx.next {w w' : World} {B g : Nat} {cs : Array Value} (h : Bx w g cs) (hb : Below B w w') (hg : g < B) : Bx w' g cs := (hb.block g hg).trans h
theorem Bx.lt {w : World} {g : Nat} {cs : Array Value} (h : Bx w g cs) : g < w.heap.size := by
  rcases Nat.lt_or_ge g w.heap.size with h' | h'
  · exact h'
  · unfold Bx at h; simp [Array.getElem?_eq_none h'] at h
theorem Bx.cell {w : World} {g : Nat} {cs : Array Value} (h : Bx w g cs) (j : Nat) : w.cell? ⟨g, j, none⟩ = cs[j]? := by
  unfold Bx at h
  simp [World.cell?, h]
theorem Bx.free {w : World} {g : Nat} {cs : Array Value} (h : Bx w g cs) (j : Nat) : w.frozen? ⟨g, j, none⟩ = false := Lib.frozen_of_heap h j
theorem bx_new (w : World) (cs : Array Value) : Bx (w.alloc (.cells cs 35)) w.heap.size cs := Go.heap_alloc_new _ _
theorem bx_old {w : World} {g : Nat} {cs : Array Value} (h : Bx w g cs) (o : Obj) : Bx (w.alloc o) g cs := by
  have hl := h.lt
  unfold Bx at h ⊢
  rw [← h]
  exact ((Below.refl w.heap.size w).alloc (Nat.le_refl _) o).block g hl
theorem setRow_self {w : World} {g : Nat} {cs : Array Value} (h : Bx w g cs) : w.setRow g cs = w := by
  have hlt := h.lt
  have hv : w.heap[g]'hlt = .cells cs 35 (0, 0) := by
    unfold Bx at h
    rw [Array.getElem?_eq_getElem hlt] at h
    exact Option.some.inj h
  have e : (w.setRow g cs).heap = w.heap := by
    unfold World.setRow
    apply Array.ext
    · simp
    · intro i h1 h2
      simp only [Array.getElem_modify]
      split
      · rename_i hk; subst hk; rw [hv]
      · rfl
  exact (show w.setRow g cs = { w with heap := (w.setRow g cs).heap } from rfl).trans (by rw [e])
/-- What is stored is what stood there. -/
theorem setCell_self {w : World} {g : Nat} {cs : Array Value} (h : Bx w g cs) {j : Nat} {v : Value} (hv : cs[j]? = some v) : w.setCell ⟨g, j, none⟩ v = w := by
  rw [setCell_eq_setRow w g j cs _ _ v h]
  have e : cs.setIfInBounds j v = cs := by
    apply Array.ext
    · simp
    · intro i h1 h2
      rw [Array.getElem_setIfInBounds]
      split
      · rename_i hk
        subst hk
        rw [Array.getElem?_eq_getElem h2] at hv
        exact (Option.some.inj hv).symm
      · rfl
  rw [e]
  exact setRow_self h
theorem Bx.set {w : World} {g : Nat} {cs : Array Value} (h : Bx w g cs) (j : Nat) (v : Value) : Bx (w.setCell ⟨g, j, none⟩ v) g (cs.setIfInBounds j v) := by
  rw [setCell_eq_setRow w g j cs _ _ v h]
  exact setRow_heap w g cs _ _ _ h

section
variable {ops : Array Oper} {rest : List Oper} {o : Oper} {a : Act} {Q : Exit → Act → World → Prop}
/-- 'x := *p' of a rule's variable. -/
theorem wpList_fetch (W : World) (hgd : o.guard = none) (x : Operand) (ho : o.op = .load 35 x) (g : Nat) (cs : Array Value)
    (hx : a.eval x = .pointer (some ⟨g, 0, none⟩)) (hk : Bx W g cs) (h13 : cs.size = 13)
    (h : wpList Tryz.prog ops Q rest (a.put o.dst (.agg cs)) W) : wpList Tryz.prog ops Q (o :: rest) a W :=
  wpList_load_row hgd _ x ho g hx _ cs _ _ hk Tryz.underlying35 rfl (by rw [info13, h13]) h
/-- '*p = r' of a rule's variable. -/
theorem wpList_keep (W : World) (hgd : o.guard = none) (x y : Operand) (ho : o.op = .store 35 x y) (B : Nat) (w0 : World) (hb : Below B w0 W) (g : Nat) (hB : B ≤ g) (r : Ru) (old : Array Value)
    (hx : a.eval x = .pointer (some ⟨g, 0, none⟩)) (hy : a.eval y = .agg (ruC r)) (hk : Bx W g old) (ho13 : old.size = 13)
    (h : ∀ w', Bx w' g (ruC r) → Below B w0 w' → (∀ k, k ≠ g → w'.heap[k]? = W.heap[k]?) → wpList Tryz.prog ops Q rest (a.put o.dst undef) w') : wpList Tryz.prog ops Q (o :: rest) a W := by
  refine wpList_store_row hgd _ x y ho g _ hx hy _ old hk (by rw [info13]; rfl) (by rw [ho13]; rfl) (by simp [ruC, Value.oneCell']) ?_
  exact h _ (setRow_heap W g old _ _ _ hk) (below_setRow hb hB _) (fun k hk => setRow_other W g k _ hk)
end
/-- What a function hands back whose one result is a rule in memory. -/
theorem results_one {fn : Func} {q : Tmp} (h : fn.results = #[.cell q 35]) (tmps : Array Value) (w : World) (g : Nat) (cs : Array Value)
    (hp : tmps.getD q undef = .pointer (some ⟨g, 0, none⟩)) (hk : Bx w g cs) (h13 : cs.size = 13) : (results fn tmps).run Tryz.prog w = .ok (.agg cs) w :=
  results_cell_row h tmps w g _ cs _ _ hp hk Tryz.underlying35 rfl (by rw [info13, h13])
/-- Whose first result is a rule in memory, two more behind it. -/
theorem results_three {fn : Func} {p t u : Tmp} (h : fn.results = #[.cell p 35, .tmp t, .tmp u]) (tmps : Array Value) (w : World) (g : Nat) (cs : Array Value)
    (hp : tmps.getD p undef = .pointer (some ⟨g, 0, none⟩)) (hk : Bx w g cs) (h13 : cs.size = 13) : (results fn tmps).run Tryz.prog w = .ok (.tuple #[.agg cs, tmps.getD t undef, tmps.getD u undef]) w := by
  have hl := run_loadVar_row (P := Tryz.prog) w g _ 35 cs _ _ hk Tryz.underlying35 rfl (by rw [info13, h13])
  have hp' : tmps[p]?.getD undef = .pointer (some ⟨g, 0, none⟩) := by simpa using hp
  simp [results, h, hp', asAddr, hl]

/-! ### the fields -/
def pt (m : Int) : ByteArray := if m = 0 then f1 else if m = 1 then f2 else if m = 2 then f3 else if m = 3 then f4 else if m = 4 then f5 else if m = 5 then f6 else if m = 6 then f7 else f8
def nv (r : Ru) (m : Int) : Int := if m = 0 then r.ra else if m = 1 then r.pe else if m = 2 then r.bu else if m = 3 then r.co else if m = 4 then r.mx else if m = 5 then r.fa else if m = 6 then r.wa else r.pb
def kd (m : Int) : Int := if m < 4 then 1 else if m = 4 then 2 else 3
def lw (m : Int) : Int := if m = 0 then 0 else if m = 3 then 0 else if m = 7 then 0 else 1
def hh (m : Int) : Int := if m = 0 then 1000000 else if m = 1 then 86400000 else if m = 2 then 1000000 else if m = 3 then 1000 else if m = 4 then 1000000 else if m = 5 then 1000 else if m = 6 then 86400000 else 100
def ev (r : Ru) (m : Int) : Int := fd (kd m) r.ki (nv r m) (lw m) (hh m)
theorem nums_drop (r : Ru) : ∀ m : Nat, m < 8 → (nums r).drop m = (pt m, ev r m) :: (nums r).drop (m + 1)
  | 0, _ => rfl
  | 1, _ => rfl
  | 2, _ => rfl
  | 3, _ => rfl
  | 4, _ => rfl
  | 5, _ => rfl
  | 6, _ => rfl
  | 7, _ => rfl
/-- A field's cells, for a row of all. -/
def fdC (p : ByteArray) (n k lo hi : Int) : List Value := [.string p, .int .i64 n, .int .i64 k, .int .i64 lo, .int .i64 hi]
def flC (r : Ru) : Array Value :=
  #[.string f1, .int .i64 r.ra, .int .i64 1, .int .i64 0, .int .i64 1000000, .string f2, .int .i64 r.pe, .int .i64 1, .int .i64 1, .int .i64 86400000,
    .string f3, .int .i64 r.bu, .int .i64 1, .int .i64 1, .int .i64 1000000, .string f4, .int .i64 r.co, .int .i64 1, .int .i64 0, .int .i64 1000,
    .string f5, .int .i64 r.mx, .int .i64 2, .int .i64 1, .int .i64 1000000, .string f6, .int .i64 r.fa, .int .i64 3, .int .i64 1, .int .i64 1000,
    .string f7, .int .i64 r.wa, .int .i64 3, .int .i64 1, .int .i64 86400000, .string f8, .int .i64 r.pb, .int .i64 3, .int .i64 0, .int .i64 100]
set_option maxRecDepth 100000 in
theorem field_at (r : Ru) (w : World) (m : Int) (h : 0 ≤ m) (h8 : m < 8) :
    Sem.run Tryz.prog (Instr.index 48 (.agg (flC r)) (.int .i64 m)) w = .ok (.agg #[.string (pt m), .int .i64 (nv r m), .int .i64 (kd m), .int .i64 (lw m), .int .i64 (hh m)]) w := by
  obtain rfl | rfl | rfl | rfl | rfl | rfl | rfl | rfl : m = 0 ∨ m = 1 ∨ m = 2 ∨ m = 3 ∨ m = 4 ∨ m = 5 ∨ m = 6 ∨ m = 7 := by omega
  all_goals rfl
theorem info40 : (Tryz.prog.info? 48).map (·.size) = some 40 := by kernel_rfl
/-- The row of fields in memory. -/
def Fx (w : World) (g : Nat) (cs : Array Value) : Prop := w.heap[g]? = some (.cells cs 48 (0, 0))
theorem wpList_fill {ops : Array Oper} {rest : List Oper} {o : Oper} {a : Act} {Q : Exit → Act → World → Prop} (W : World) (hgd : o.guard = none) (x y : Operand) (ho : o.op = .store 48 x y) (hd : o.dst = none) (g : Nat) (r : Ru)
    (old : Array Value) (hx : a.eval x = .pointer (some ⟨g, 0, none⟩)) (hy : a.eval y = .agg (flC r)) (hk : W.heap[g]? = some (.cells old 48 (0, 0))) (ho40 : old.size = 40) (B : Nat) (w0 : World) (hb : Below B w0 W) (hB : B ≤ g)
    (h : ∀ w', Fx w' g (flC r) → Below B w0 w' → wpList Tryz.prog ops Q rest a w') : wpList Tryz.prog ops Q (o :: rest) a W := by
  refine wpList_store_rowTo hgd _ x y ho hd g (flC r) hx hy _ old hk info40 ho40 (by simp [flC, Value.oneCell']) ?_
  exact h _ (setRow_heap W g old _ _ _ hk) (below_setRow hb hB _)
theorem results_flC {fn : Func} {p : Tmp} (h : fn.results = #[.cell p 48]) (tmps : Array Value) (w : World) (g : Nat) (cs : Array Value)
    (hp : tmps.getD p undef = .pointer (some ⟨g, 0, none⟩)) (hk : Fx w g cs) (h5 : cs.size = 40) : (results fn tmps).run Tryz.prog w = .ok (.agg cs) w :=
  results_cell_row h tmps w g _ cs _ _ hp hk Tryz.underlying48 rfl (by rw [info40, h5])
theorem built_flC (r : Ru) (a : Act) (parts : Array (Nat × Operand)) (hp : (parts.map fun (i, x) => (i, a.eval x)) = #[(0, .agg (fdC f1 r.ra 1 0 1000000).toArray), (1, .agg (fdC f2 r.pe 1 1 86400000).toArray), (2, .agg (fdC f3 r.bu 1 1 1000000).toArray), (3, .agg (fdC f4 r.co 1 0 1000).toArray),
    (4, .agg (fdC f5 r.mx 2 1 1000000).toArray), (5, .agg (fdC f6 r.fa 3 1 1000).toArray), (6, .agg (fdC f7 r.wa 3 1 86400000).toArray), (7, .agg (fdC f8 r.pb 3 0 100).toArray)]) :
    Tryz.prog.built 48 (parts.map fun (i, x) => (i, a.eval x)).toList = some (flC r) := by
  rw [hp]
  kernel_rfl
set_option maxRecDepth 100000 in
theorem two_new (w : World) (o1 o2 : Obj) : ((w.alloc o1).alloc o2).heap[w.heap.size + 1]? = some o2 := by
  have := Go.heap_alloc_new (w.alloc o1) o2
  rw [World.size_alloc] at this
  exact this
theorem two_below (w : World) (o1 o2 : Obj) : Below w.heap.size w ((w.alloc o1).alloc o2) := ((Below.refl _ _).alloc (Nat.le_refl _) _).alloc (by simp) _
set_option maxHeartbeats 4000000 in
set_option maxRecDepth 100000 in
theorem fields_any (r : Ru) (w : World) : Calls Tryz.prog 28 #[.agg (ruC r)] w fun e w' => e = .returned (.agg (flC r)) ∧ Below w.heap.size w w' := by
  obtain ⟨id, no, ro, pr, ki, ra, pe, bu, co, mx, fa, wa, pb⟩ := r
  unfold ruC
  go_enter Tryz.func28, Tryz.ntmps28
  go_wp2_with (first
    | (refine wpList_buildTo rfl 48 _ rfl _ rfl _ (built_flC ⟨id, no, ro, pr, ki, ra, pe, bu, co, mx, fa, wa, pb⟩ _ _ rfl) ?_)
    | (refine wpList_fill _ rfl _ _ rfl rfl _ ⟨id, no, ro, pr, ki, ra, pe, bu, co, mx, fa, wa, pb⟩ _ rfl rfl (two_new _ _ _) rfl w.heap.size w (two_below _ _ _) (by simp) ?_; intro w' hk hb))
  refine bodyPost_ret (results_flC rfl _ _ _ _ rfl hk rfl) rfl ?_
  exact ⟨rfl, hb⟩
end Go.Proofs.YtoodiledcphclaaGreatDoor.Rul
