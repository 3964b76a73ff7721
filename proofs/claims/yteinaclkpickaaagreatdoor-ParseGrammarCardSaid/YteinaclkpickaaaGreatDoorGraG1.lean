/- The reader in memory; the contract of skipBlanks. Conditions: as each theorem states. · Contracts of takeText, takeWord, takeInteger. Conditions: as each theorem states. · Contracts of takeEnd, takeComma, open. Conditions: as each theorem states. · Contracts of takeName, takeValue, takeNext. Conditions: as each theorem states. · Contracts of Level, Is. Conditions: the two tables of unicode/utf8 are as its text lays them, strconv.ErrSyntax holds an error; as each theorem states. -/
import Derived.Test.YteinaclkpickaaaGreatDoorGraG0
import Derived.Test.YteinaclkpickaaaGreatDoorLexG1
import Derived.Test.YteinaclkpickaaaGreatDoorQuoG1
import Derived.Lib.Builder
import Derived.Lib.BufferMore
import Derived.OneCell
import Derived.WalkSmall
import Derived.Deep.RegionHeld3
import Derived.StillTailTactics
import Derived.Deep.MidRow
import Derived.Laws.CopyOwn
namespace Go.Proofs.YteinaclkpickaaaGreatDoor.Gr
open Go.RowKit Go.Lib Go.Proofs.YteinaclkpickaaaGreatDoor.Byt Go.Proofs.YteinaclkpickaaaGreatDoor.Lx

section
variable {w w' : World} {B b : Nat} {s : ByteArray} {p ex lv : Nat} {E : List UInt8} {v : Value}
theorem Own.aside {l : List UInt8} (h : Own w B v l) (hne : v.ownBlock ≠ some b) (j : Nat) (u : Value) : Own (w.setCell ⟨b, j, none⟩ u) B v l :=
  ownsRow_setCell_other h (a := ⟨b, j, none⟩) hne u
theorem Own.form {l : List UInt8} (h : Own w B v l) : ∃ ao cap, v = .slice ao l.length cap := by
  rcases h.shape with ⟨h1, h2⟩ | ⟨g, cap, h1⟩
  · exact ⟨none, 0, by rw [h1, h2]; rfl⟩
  · exact ⟨_, _, h1⟩
theorem Own.stay {l : List UInt8} (h : Own w B v l) (hb : Below w.heap.size w w') : Own w' B v l := by
  unfold Byt.Own at h ⊢
  refine ⟨h.1, ?_⟩
  rcases h.2 with hn | ⟨g, cap, cur, hv, hbg, hg, rest⟩
  · exact .inl hn
  · have hg2 : g < w.heap.size := by
      rcases Nat.lt_or_ge g w.heap.size with h' | h'
      · exact h'
      · simp [Array.getElem?_eq_none h'] at hg
    exact .inr ⟨g, cap, cur, hv, hbg, (hb.block g hg2).trans hg, rest⟩
theorem below_drewN {W : World} (h : Below B w W) (n : Nat) : Below B w (W.drewN n) := ⟨h.os, h.tape, h.output, h.size, h.block⟩
theorem below_put {W : World} (h : Below B w W) (hB : B ≤ b) (j : Nat) (u : Value) : Below B w (W.setCell ⟨b, j, none⟩ u) := h.setCell (p := ⟨b, j, none⟩) hB u
end

/-! ### skipBlanks -/
theorem find_quiet (c : Nat) (hc : c < 256) (w : World) (n : Nat) :
    Calls Tryz.prog 43 #[.string ⟨#[32, 9, 10, 13]⟩, .int .u8 (c : Int)] (w.drewN n) fun e w'' => e = .returned (.int .i64 (blI c)) ∧ ∃ m, w'' = w.drewN m :=
  (blank_find c hc (w.drewN n)).mono fun _ _ ⟨h1, h2⟩ => ⟨h1, n, h2.symm⟩
/-! ### one predicate for all -/
structure Env (w : World) : Prop where
  tabs : Utf.Tabs w
  syn : Quo.Syn w
theorem Env.next {w w' : World} (h : Env w) (hb : Below w.heap.size w w') : Env w' := ⟨h.tabs.next hb, h.syn.next hb⟩
section
variable {w0 W W' : World} {b : Nat} {s : ByteArray} {p ex lv : Nat} {E : List UInt8}
end
end Go.Proofs.YteinaclkpickaaaGreatDoor.Gr

namespace Go.Proofs.YteinaclkpickaaaGreatDoor.Gr
open Go.RowKit Go.Lib Go.Proofs.YteinaclkpickaaaGreatDoor.Byt Go.Proofs.YteinaclkpickaaaGreatDoor.Lx Go.Proofs.YteinaclkpickaaaGreatDoor.Quo

/-! ### takeText -/
theorem tQ_qn (s : ByteArray) (p : Nat) : (qn (sf s p) = 0 ∧ (tQ s (p : Int)).1 ≠ 0) ∨ (qn (sf s p) ≠ 0 ∧ (tQ s (p : Int)).1 = 0 ∧ (tQ s (p : Int)).2.1 = p + qn (sf s p)) := by
  have e1 : dr s (p + 1) = (sf s p).drop 1 := (sf_drop s p 1).symm
  have e2 : Utf.bt s p = hd (sf s p) := (sf_hd s p).symm
  unfold tQ
  rw [Int.toNat_natCast, e1, e2]
  by_cases h : hd (sf s p) = 34
  · have hlt : p < s.size := by
      rcases Nat.lt_or_ge p s.size with h' | h'
      · exact h'
      · rw [sf_nil s p h'] at h; cases h
    rw [if_pos ⟨by omega, by omega, h⟩]
    unfold Quo.fin
    simp only
    by_cases h2 : (tkQ ((sf s p).drop 1)).1 = 0
    · have e3 : qn (sf s p) = (tkQ ((sf s p).drop 1)).2.1 + 1 := if_pos ⟨h, h2⟩
      rw [e3]; right; exact ⟨by omega, h2, by omega⟩
    · have e3 : qn (sf s p) = 0 := if_neg (fun h3 => h2 h3.2)
      rw [e3]; left; exact ⟨rfl, h2⟩
  · have e3 : qn (sf s p) = 0 := qn_none h
    rw [e3, if_neg (fun h3 => h h3.2.2)]; left; exact ⟨rfl, by show (4 : Nat) ≠ 0; decide⟩
/-! ### takeWord -/
/-- What the words from the k-th on say. -/
def wG (k : Nat) (l : List UInt8) : Nat :=
  if k = 0 ∧ l.take 4 = [110, 117, 108, 108] then 4 else if k ≤ 1 ∧ l.take 4 = [116, 114, 117, 101] then 4 else if k ≤ 2 ∧ l.take 5 = [102, 97, 108, 115, 101] then 5 else 0
theorem wG_zero (l : List UInt8) : wG 0 l = wn l := by unfold wG wn; simp
theorem wG_0 {l : List UInt8} (h : l.take 4 = [110, 117, 108, 108]) : wG 0 l = 4 := if_pos ⟨rfl, h⟩
theorem wG_1 {l : List UInt8} (h : l.take 4 = [116, 114, 117, 101]) : wG 1 l = 4 := by unfold wG; rw [if_neg (by simp), if_pos ⟨by omega, h⟩]
theorem wG_2 {l : List UInt8} (h : l.take 5 = [102, 97, 108, 115, 101]) : wG 2 l = 5 := by unfold wG; rw [if_neg (by simp), if_neg (by simp), if_pos ⟨by omega, h⟩]
theorem wG_n0 {l : List UInt8} (h : l.take 4 ≠ [110, 117, 108, 108]) : wG 0 l = wG 1 l := by unfold wG; simp [h]
theorem wG_n1 {l : List UInt8} (h : l.take 4 ≠ [116, 114, 117, 101]) : wG 1 l = wG 2 l := by unfold wG; simp [h]
theorem wG_n2 {l : List UInt8} (h : l.take 5 ≠ [102, 97, 108, 115, 101]) : wG 2 l = wG 3 l := by unfold wG; simp [h]
theorem word_quiet (s : ByteArray) (i : Nat) (x : ByteArray) (w : World) (n : Nat) :
    Calls Tryz.prog 66 #[.string (cutB s i (s.size - i)), .string x] (w.drewN n) fun e w' => e = .returned (.bool (decide ((sf s i).take x.data.toList.length = x.data.toList))) ∧ ∃ m, w' = w.drewN m :=
  (word_find s i x (w.drewN n)).mono fun _ _ ⟨h1, h2⟩ => ⟨h1, n, h2.symm⟩
/-! ### takeInteger -/
theorem ltsize {s : ByteArray} {k : Nat} (h : by8 s k ≠ 0) : k < s.size := by
  rcases Nat.lt_or_ge k s.size with h' | h'
  · exact h'
  · exact absurd (by8_end s k h') h
end Go.Proofs.YteinaclkpickaaaGreatDoor.Gr

namespace Go.Proofs.YteinaclkpickaaaGreatDoor.Gr
open Go.RowKit Go.Lib Go.Proofs.YteinaclkpickaaaGreatDoor.Byt Go.Proofs.YteinaclkpickaaaGreatDoor.Lx

/-! ### takeEnd -/
/-! ### takeComma -/
/-! ### open -/
theorem run_pushK (W : World) (ty : TypeId) (B : Nat) (v : Value) (l : List UInt8) (hown : Own W B v l) (hB : B ≤ W.heap.size)
    (g m c : Nat) (cs : Array Value) (fr : Nat × Nat) (hblk : W.heap[g]? = some (.cells cs 5 fr)) (ns : List UInt8) (hm : ns.length = m) (hcs : cs.toList = byteCells ns) (hlim : l.length + m ≤ 140737488355328) :
    ∃ v' w', (Builtin.append_ #[86, 86] ty #[v, .slice (some ⟨g, 0, none⟩) m c]).run Tryz.prog W = .ok v' w' ∧ Own w' B v' (l ++ ns) ∧ W.grownBy w' v.ownBlock := by
  obtain ⟨i0, hi, hz0, hz1, hz2⟩ := info_parts info8
  subst hm
  have hnews : ∀ j u, (byteCells ns)[j]? = some u → W.cell? ((⟨g, 0, none⟩ : Addr).add j) = some u := by
    intro j u hj
    rw [← hcs] at hj
    have : ((⟨g, 0, none⟩ : Addr).add j) = ⟨g, j, none⟩ := add_at g j
    rw [this, World.cell?, hblk]
    simpa using hj
  obtain ⟨v', w', hr, h2, h3, _⟩ := run_append_own (P := Tryz.prog) W B 86 ty 5 i0 (.int .u8 0) 1 1 Tryz.underlying86 hi hz0 hz1 hz2 rfl (by omega) v l.length (byteCells l) hown
    ⟨g, 0, none⟩ ns.length c (byteCells ns) (by simp [byteCells]) hnews (Byt.byteCells_one ns) (by unfold maxLen; omega) (by omega) (by omega)
  refine ⟨v', w', hr, ?_, h3⟩
  unfold Byt.Own
  rw [List.length_append, byteCells_append]
  exact h2
section
variable {ops : Array Oper} {rest : List Oper} {o : Oper} {a : Act} {Q : Exit → Act → World → Prop}
theorem wpList_pushK (W : World) (hg : o.guard = none) (s x : Operand) (ho : o.op = .call { callee := .builtin .append, args := #[s, x], argTypes := #[86, 86] })
    (B : Nat) (v : Value) (l : List UInt8) (hs : a.eval s = v) (hown : Own W B v l) (hB : B ≤ W.heap.size)
    (g m c : Nat) (hx : a.eval x = .slice (some ⟨g, 0, none⟩) m c) (cs : Array Value) (fr : Nat × Nat) (hblk : W.heap[g]? = some (.cells cs 5 fr)) (ns : List UInt8) (hm : ns.length = m) (hcs : cs.toList = byteCells ns) (hlim : l.length + m ≤ 140737488355328)
    (h : ∀ v' w', Own w' B v' (l ++ ns) → W.grownBy w' v.ownBlock → wpList Tryz.prog ops Q rest (a.put o.dst v') w') : wpList Tryz.prog ops Q (o :: rest) a W := by
  obtain ⟨v', w', hr, h2, h3⟩ := run_pushK W o.type B v l hown hB g m c cs fr hblk ns hm hcs hlim
  refine wpList_plain hg fun K hK => ?_
  unfold Oper.wp execOp
  simp only [ho, resolve, invoke, builtin, Sem.run_bind, Sem.run_pure, Result.andThen_ok, List.map_toArray, List.map_cons, List.map_nil, hs, hx, hr]
  exact hK _ _ (h v' w' h2 h3)
end
theorem new_set (W : World) (a : Addr) (u : Value) (cs : Array Value) (t : TypeId) : ((W.setCell a u).alloc (.cells cs t)).heap[W.heap.size]? = some (.cells cs t (0, 0)) := by
  have h := heap_alloc_new (W.setCell a u) (.cells cs t)
  rw [World.size_setCell] at h
  exact h
theorem max_run (x y : Nat) (w : World) : (Builtin.max_ #[3, 3] 3 #[.int .i64 (x : Int), .int .i64 (y : Int)]).run Tryz.prog w = .ok (.int .i64 ((max x y : Nat) : Int)) w := by
  rw [run_max_int2]
  congr 2
  split <;> omega
theorem byte_cell (c : UInt8) : (#[Value.int .u8 (c.toNat : Int)] : Array Value).toList = byteCells [c] := rfl
end Go.Proofs.YteinaclkpickaaaGreatDoor.Gr

namespace Go.Proofs.YteinaclkpickaaaGreatDoor.Gr
open Go.RowKit Go.Lib Go.Proofs.YteinaclkpickaaaGreatDoor.Byt Go.Proofs.YteinaclkpickaaaGreatDoor.Lx

/-! ### takeName -/
/-! ### takeEnd, takeComma, told by the machine's steps -/
/-! ### takeValue -/
/-! ### takeNext -/
end Go.Proofs.YteinaclkpickaaaGreatDoor.Gr

namespace Go.Proofs.YteinaclkpickaaaGreatDoor.Gr
open Go.RowKit Go.Lib Go.Proofs.YteinaclkpickaaaGreatDoor.Byt Go.Proofs.YteinaclkpickaaaGreatDoor.Lx

theorem orE_all {α} {a b : Option α} {P : α → Prop} (ha : ∀ x, a = some x → P x) (hb : ∀ x, b = some x → P x) : ∀ x, orE a b = some x → P x := by
  intro x h
  rcases orE_some h with h | h
  · exact ha x h
  · exact hb x h
/-- How a step changes what is expected and what is open. -/
theorem step_in {t : St} {m : List UInt8} : ∀ q, step t m = some q → q.1.ex ≤ 4 ∧ q.1.E.length ≤ t.E.length + 1 := by
  have hv : ∀ q, vStep t m = some q → q.1.ex ≤ 4 ∧ q.1.E.length ≤ t.E.length + 1 := by
    intro q h
    unfold vStep at h
    split at h
    · cases h; exact ⟨by show 1 ≤ 4; omega, by simp [opened]⟩
    · split at h
      · cases h; exact ⟨by show 2 ≤ 4; omega, by simp [opened]⟩
      · split at h
        · cases h; exact ⟨Nat.le_refl _, by simp⟩
        · cases h
  have hn : ∀ q, nStep t m = some q → q.1.ex ≤ 4 ∧ q.1.E.length ≤ t.E.length + 1 := by
    intro q h
    unfold nStep at h
    split at h
    · cases h; exact ⟨Nat.zero_le _, by simp⟩
    · cases h
  have he : ∀ q, eStep t m = some q → q.1.ex ≤ 4 ∧ q.1.E.length ≤ t.E.length + 1 := by
    intro q h
    unfold eStep at h
    split at h
    · cases h; exact ⟨Nat.le_refl _, by simp; omega⟩
    · cases h
  have hc : ∀ q, cStep t m = some q → q.1.ex ≤ 4 ∧ q.1.E.length ≤ t.E.length + 1 := by
    intro q h
    unfold cStep at h
    split at h
    · cases h; exact ⟨by simp only; split <;> omega, by simp⟩
    · cases h
  unfold step
  split
  · exact hv
  · split
    · exact orE_all he hv
    · split
      · exact orE_all he hn
      · split
        · exact hn
        · exact orE_all hc he

/-! ### the reader, made -/
section
variable {ops : Array Oper} {rest : List Oper} {o : Oper} {a : Act} {Q : Exit → Act → World → Prop}
end
/-- What Is says. -/
def isB (z : Int) : Bool := decide (0 ≤ z) && decide (z ≤ 64)
end Go.Proofs.YteinaclkpickaaaGreatDoor.Gr
