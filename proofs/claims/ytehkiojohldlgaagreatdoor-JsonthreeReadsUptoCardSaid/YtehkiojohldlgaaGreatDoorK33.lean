/- Texts of my own, packed: JsnG, TreSc, RulH, Seen. Conditions: as each theorem states. -/
import Derived.Deep.RegionLaw
import Derived.Maps.OwnSet
import Derived.Maps.OwnOps
import Derived.StringKeys
import Derived.Test.YtehkiojohldlgaaGreatDoorK02
import Derived.Test.YtehkiojohldlgaaGreatDoorK25
import Derived.Test.YtehkiojohldlgaaGreatDoorK26
import Derived.Test.YtehkiojohldlgaaGreatDoorK28
import Derived.Test.YtehkiojohldlgaaGreatDoorK30
import Derived.Test.YtehkiojohldlgaaGreatDoorK32
namespace Go.Proofs.YtehkiojohldlgaaGreatDoor.Jsn
open Go.RowKit Go.Lib
open Go.Proofs.YtehkiojohldlgaaGreatDoor.Tre (Vt V0 InV InS InS_upd OwnR Box box_new)
open Go.Proofs.YtehkiojohldlgaaGreatDoor.Rul (Ru ruC Bx kB)

/-- The call's three variables: the rule, the result's, the object's; and the object's rows. -/
structure St (w : World) (g : Nat) (r : Ru) (m : List (ByteArray × Vt)) (c3 c4 : Value) (W : World) : Prop where
  rb : Bx W w.heap.size (ruC r)
  zb : Box W (w.heap.size + 1) Tre.zeroC.toArray
  vb : Box W g #[.int .i64 5, .int .i64 0, .string ⟨#[]⟩, c3, c4]
  ob : Ob (w.heap.size + 2) W m c3 c4
  ng : ¬ own2 c3 c4 g
  gl : w.heap.size + 2 ≤ g
  bel : Below w.heap.size w W
  ln : m.length ≤ 40
theorem St.next {w W W' : World} {g : Nat} {r : Ru} {m : List (ByteArray × Vt)} {c3 c4 : Value} (h : St w g r m c3 c4 W) (hb : Below W.heap.size W W') : St w g r m c3 c4 W' :=
  ⟨h.rb.next hb h.rb.lt, h.zb.next hb h.zb.lt, h.vb.next hb h.vb.lt, h.ob.keep fun b hb' => hb.block b (h.ob.in_ hb').2, h.ng, h.gl, h.bel.trans (hb.mono h.bel.size), h.ln⟩
theorem St.drew {w W : World} {g : Nat} {r : Ru} {m : List (ByteArray × Vt)} {c3 c4 : Value} (h : St w g r m c3 c4 W) : St w g r m c3 c4 W.drew := h.next ⟨rfl, rfl, rfl, Nat.le_refl _, fun _ _ => rfl⟩
/-- Behind a call that put a member on. -/
theorem St.called {w W w2 : World} {g : Nat} {r : Ru} {m m' : List (ByteArray × Vt)} {c3 c4 d3 d4 : Value} (h : St w g r m c3 c4 W) (_ : Ob (w.heap.size + 2) w2 m' d3 d4) (hn : ∀ b, own2 d3 d4 b → own2 c3 c4 b ∨ W.heap.size ≤ b) (hc : Ch (own2 c3 c4) W w2) :
    Bx w2 w.heap.size (ruC r) ∧ Box w2 (w.heap.size + 1) Tre.zeroC.toArray ∧ Box w2 g #[.int .i64 5, .int .i64 0, .string ⟨#[]⟩, c3, c4] ∧ Below w.heap.size w w2 ∧ ¬ own2 d3 d4 g := by
  have off : ∀ b, b < w.heap.size + 2 → ¬ own2 c3 c4 b := fun b hb q => by have := (h.ob.in_ q).1; omega
  refine ⟨(hc.block _ h.rb.lt (off _ (by omega))).trans h.rb, (hc.block _ h.zb.lt (off _ (by omega))).trans h.zb, (hc.block _ h.vb.lt h.ng).trans h.vb, h.bel.trans ?_, fun q => ?_⟩
  · exact (hc.below (N := w.heap.size + 2) (fun b q => (h.ob.in_ q).1) (by have := h.gl; have := h.vb.lt; omega)).mono (by omega)
  · rcases hn g q with k | k
    · exact h.ng k
    · have := h.vb.lt; omega
/-- And behind the store into the object's variable. -/
theorem St.step {w W w2 w3 : World} {g : Nat} {r : Ru} {m m' : List (ByteArray × Vt)} {c3 c4 d3 d4 : Value} (h : St w g r m c3 c4 W) (ho : Ob (w.heap.size + 2) w2 m' d3 d4) (hn : ∀ b, own2 d3 d4 b → own2 c3 c4 b ∨ W.heap.size ≤ b) (hc : Ch (own2 c3 c4) W w2)
    (hx : Box w3 g #[.int .i64 5, .int .i64 0, .string ⟨#[]⟩, d3, d4]) (hb : Below w.heap.size w w3) (hk : ∀ k, k ≠ g → w3.heap[k]? = w2.heap[k]?) (hl : m'.length ≤ 40) : St w g r m' d3 d4 w3 := by
  obtain ⟨h1, h2, -, -, h5⟩ := h.called ho hn hc
  have hg := h.gl
  exact ⟨(hk _ (by omega)).trans h1, (hk _ (by omega)).trans h2, hx, ho.keep fun b q => hk b fun e => h5 (e ▸ q), h5, hg, hb, hl⟩
theorem St.start {w w1 : World} {r : Ru} {m' : List (ByteArray × Vt)} {d3 d4 : Value}
    (ho : Ob (w.heap.size + 2) w1 m' d3 d4) (hc : Ch (own2 (.slice none 0 0) (.slice none 0 0)) ((w.alloc (.cells (ruC r) 49)).alloc (.cells Tre.zeroC.toArray 26)) w1) (hl : m'.length ≤ 40) :
    St w w1.heap.size r m' d3 d4 (w1.alloc (.cells #[.int .i64 5, .int .i64 0, .string ⟨#[]⟩, d3, d4] 26)) := by
  have hs := hc.size
  have e2 : ((w.alloc (.cells (ruC r) 49)).alloc (.cells Tre.zeroC.toArray 26)).heap.size = w.heap.size + 2 := by simp
  have no : ∀ b, ¬ own2 (.slice none 0 0) (.slice none 0 0) b := fun b q => by rcases q with q | q <;> cases q
  have lo : ∀ b, b < w1.heap.size → (w1.alloc (.cells #[.int .i64 5, .int .i64 0, .string ⟨#[]⟩, d3, d4] 26)).heap[b]? = w1.heap[b]? := fun b hb => Below.heap_alloc _ _ _ hb
  have r0 := Rul.bx_new w (ruC r)
  have r1 : Bx ((w.alloc (.cells (ruC r) 49)).alloc (.cells Tre.zeroC.toArray 26)) w.heap.size (ruC r) := r0.next ((Below.refl _ _).alloc (Nat.le_refl _) _) r0.lt
  have z1 := box_new (w.alloc (.cells (ruC r) 49)) Tre.zeroC.toArray
  rw [World.size_alloc] at z1
  have z1' : Box ((w.alloc (.cells (ruC r) 49)).alloc (.cells Tre.zeroC.toArray 26)) (w.heap.size + 1) Tre.zeroC.toArray := z1
  have b0 : Below w.heap.size w ((w.alloc (.cells (ruC r) 49)).alloc (.cells Tre.zeroC.toArray 26)) := ((Below.refl _ _).alloc (Nat.le_refl _) _).alloc (by simp) _
  have b1 : Below w.heap.size w w1 := b0.trans (hc.below (fun b q => absurd q (no b)) (by omega))
  refine ⟨(lo _ (by omega)).trans ((hc.block _ (by omega) (no _)).trans r1), (lo _ (by omega)).trans ((hc.block _ (by omega) (no _)).trans z1'), box_new _ _, ho.keep fun b q => lo b (ho.in_ q).2, fun q => ?_, by omega, b1.alloc b1.size _, hl⟩
  have := (ho.in_ q).2
  omega
theorem row_self {w : World} {g : Nat} {cs : Array Value} (h : Box w g cs) : w.setRow g cs = w := by
  have hlt := h.lt
  have hv : w.heap[g]'hlt = .cells cs 26 (0, 0) := by
    unfold Box at h
    rw [Array.getElem?_eq_getElem hlt] at h
    exact Option.some.inj h
  have e : (w.setRow g cs).heap = w.heap := by
    unfold World.setRow
    apply Array.ext
    · simp
    · intro i h1 h2
      simp only [Array.getElem_modify]
      split
      · rename_i hk; subst hk; rw [hv]
      · rfl
  exact (show w.setRow g cs = { w with heap := (w.setRow g cs).heap } from rfl).trans (by rw [e])
/-- What is stored is what stood there. -/
theorem box_self {w : World} {g : Nat} {cs : Array Value} (h : Box w g cs) {j : Nat} {v : Value} (hv : cs[j]? = some v) : w.setCell ⟨g, j, none⟩ v = w := by
  rw [setCell_eq_setRow w g j cs _ _ v h]
  have e : cs.setIfInBounds j v = cs := by
    apply Array.ext
    · simp
    · intro i h1 h2
      rw [Array.getElem_setIfInBounds]
      split
      · rename_i hk
        subst hk
        rw [Array.getElem?_eq_getElem h2] at hv
        exact (Option.some.inj hv).symm
      · rfl
  rw [e]
  exact row_self h
/-- What a store into the object's variable is asked. -/
theorem put5 {W : World} {g : Nat} {c3 c4 : Value} (h : Box W g #[.int .i64 5, .int .i64 0, .string ⟨#[]⟩, c3, c4]) (d3 d4 : Value) :
    (W.cell? ⟨g, 0, none⟩ = some (.int .i64 5) ∧ W.cell? ⟨g, 1, none⟩ = some (.int .i64 0) ∧ W.cell? ⟨g, 2, none⟩ = some (.string ⟨#[]⟩) ∧ W.cell? ⟨g, 3, none⟩ = some c3 ∧ (W.setCell ⟨g, 3, none⟩ d3).cell? ⟨g, 4, none⟩ = some c4)
      ∧ (∀ j, W.frozen? ⟨g, j, none⟩ = false) ∧ (W.setCell ⟨g, 0, none⟩ (.int .i64 5) = W ∧ W.setCell ⟨g, 1, none⟩ (.int .i64 0) = W ∧ W.setCell ⟨g, 2, none⟩ (.string ⟨#[]⟩) = W)
      ∧ Box ((W.setCell ⟨g, 3, none⟩ d3).setCell ⟨g, 4, none⟩ d4) g #[.int .i64 5, .int .i64 0, .string ⟨#[]⟩, d3, d4]
      ∧ (∀ k, k ≠ g → ((W.setCell ⟨g, 3, none⟩ d3).setCell ⟨g, 4, none⟩ d4).heap[k]? = W.heap[k]?) := by
  have x3 := Tre.box_set h d3
  exact ⟨⟨h.cell 0, h.cell 1, h.cell 2, h.cell 3, x3.cell 4⟩, fun j => h.free j, ⟨box_self h rfl, box_self h rfl, box_self h rfl⟩, Tre.box_set4 x3 d4, fun k hk => (Tre.set_other d4 hk).trans (Tre.set_other d3 hk)⟩
theorem St.stored {w W w2 : World} {g : Nat} {r : Ru} {m m' : List (ByteArray × Vt)} {c3 c4 d3 d4 : Value} (h : St w g r m c3 c4 W) (ho : Ob (w.heap.size + 2) w2 m' d3 d4) (hn : ∀ b, own2 d3 d4 b → own2 c3 c4 b ∨ W.heap.size ≤ b) (hc : Ch (own2 c3 c4) W w2) (hl : m'.length ≤ 40) :
    St w g r m' d3 d4 ((w2.setCell ⟨g, 3, none⟩ d3).setCell ⟨g, 4, none⟩ d4) := by
  obtain ⟨-, -, h3, h4, -⟩ := h.called ho hn hc
  obtain ⟨-, -, -, h5, h6⟩ := put5 h3 d3 d4
  have hg : w.heap.size ≤ g := by have := h.gl; omega
  exact h.step ho hn hc h5 ((h4.setCell (p := ⟨g, 3, none⟩) hg d3).setCell (p := ⟨g, 4, none⟩) hg d4) h6 hl
/-- The numbers of a rule's kind: their names, and what stands there. -/
theorem nums_nn (r : Ru) : (nums r).length = (nn r.ki).length ∧ ∀ j, j < (nn r.ki).length → ∃ i, 5 ≤ i ∧ i < 13 ∧ (nn r.ki).getD j ⟨#[]⟩ = nm i ∧ (nums r).getD j (⟨#[]⟩, V0) = (nm i, N (num r i)) := by
  unfold nums nn
  split
  · refine ⟨rfl, fun j hj => ?_⟩
    obtain rfl | rfl | rfl | rfl : j = 0 ∨ j = 1 ∨ j = 2 ∨ j = 3 := by have : j < 4 := hj; omega
    · exact ⟨5, by decide, by decide, rfl, rfl⟩
    · exact ⟨6, by decide, by decide, rfl, rfl⟩
    · exact ⟨7, by decide, by decide, rfl, rfl⟩
    · exact ⟨8, by decide, by decide, rfl, rfl⟩
  · split
    · refine ⟨rfl, fun j hj => ?_⟩
      obtain rfl : j = 0 := by have : j < 1 := hj; omega
      exact ⟨9, by decide, by decide, rfl, rfl⟩
    · refine ⟨rfl, fun j hj => ?_⟩
      obtain rfl | rfl | rfl : j = 0 ∨ j = 1 ∨ j = 2 := by have : j < 3 := hj; omega
      · exact ⟨10, by decide, by decide, rfl, rfl⟩
      · exact ⟨11, by decide, by decide, rfl, rfl⟩
      · exact ⟨12, by decide, by decide, rfl, rfl⟩
theorem take_num (r : Ru) {j : Nat} (h : j < (nums r).length) : (nums r).take (j + 1) = (nums r).take j ++ [(nums r).getD j (⟨#[]⟩, V0)] := by
  rw [List.take_add_one, List.getElem?_eq_getElem h, List.getD_eq_getElem?_getD, List.getElem?_eq_getElem h]; rfl
/-- The members ahead of the numbers. -/
def mem0 (r : Ru) : List (ByteArray × Vt) := (nm 0, T r.id) :: (note r ++ [(nm 2, T r.ro), (nm 3, N r.pr), (nm 4, T (kB r.ki))])
theorem mem_is (r : Ru) : mem r = mem0 r ++ nums r := by
  unfold mem mem0
  simp
theorem mem0_len (r : Ru) : (mem0 r).length ≤ 5 := by
  unfold mem0 note
  split <;> simp
theorem lit_cells (w : World) (xs : List ByteArray) (cs : Array Value) (n : Nat) (hc : cs = (xs.map Value.string).toArray) (hn : xs.length = n) : ∀ j, j < n → (w.alloc (.cells cs 9)).cell? ⟨w.heap.size, j, none⟩ = some (.string (xs.getD j ⟨#[]⟩)) := by
  subst hc hn
  intro j hj
  rw [Lib.cell_of_heap (heap_alloc_new w _)]
  simp [List.getD_eq_getElem?_getD, List.getElem?_eq_getElem hj]
theorem rnumbers2_any (k : Int) (w : World) : Calls Tryz.prog 63 #[.int .i64 k] w fun e w' => e = .returned (.slice (some ⟨w.heap.size, 0, none⟩) (nn k).length (nn k).length) ∧ (∀ j, j < (nn k).length → w'.cell? ⟨w.heap.size, j, none⟩ = some (.string ((nn k).getD j ⟨#[]⟩))) ∧ Below w.heap.size w w' ∧ w.heap.size < w'.heap.size := by
  have HR := Lib.hid fun xs cs n => lit_cells w xs cs n
  have hA := Lib.hid fun o => (Below.refl w.heap.size w).alloc (Nat.le_refl _) o
  by_cases h1 : k = 1
  · subst h1
    go_enter Tryz.func63, Tryz.ntmps63
    go_wp2_with fail
    go_ret
    exact ⟨rfl, HR.out (nn 1) _ 4 rfl rfl, hA.out _, by simp⟩
  by_cases h2 : k = 2
  · subst h2
    go_enter Tryz.func63, Tryz.ntmps63
    go_wp2_with fail
    go_ret
    exact ⟨rfl, HR.out (nn 2) _ 1 rfl rfl, hA.out _, by simp⟩
  have e : nn k = [nm 10, nm 11, nm 12] := by unfold nn; rw [if_neg h1, if_neg h2]
  rw [e]
  have q1 : (k == 1) = false := by simpa using h1
  have q2 : (k == 2) = false := by simpa using h2
  clear h1 h2
  go_enter Tryz.func63, Tryz.ntmps63
  go_wp2_with fail
  go_ret
  exact ⟨rfl, HR.out [nm 10, nm 11, nm 12] _ 3 rfl rfl, hA.out _, by simp⟩
/-- The thirteen cells of the rule's variable. -/
theorem cells13 {W : World} {g : Nat} {id no ro : ByteArray} {pr ki ra pe bu co mx fa wa pb : Int} (h : Bx W g (ruC ⟨id, no, ro, pr, ki, ra, pe, bu, co, mx, fa, wa, pb⟩)) :
    W.cell? ⟨g, 0, none⟩ = some (.string id) ∧ W.cell? ⟨g, 1, none⟩ = some (.string no) ∧ W.cell? ⟨g, 2, none⟩ = some (.string ro) ∧ W.cell? ⟨g, 3, none⟩ = some (.int .i64 pr) ∧ W.cell? ⟨g, 4, none⟩ = some (.int .i64 ki) ∧ W.cell? ⟨g, 5, none⟩ = some (.int .i64 ra) ∧ W.cell? ⟨g, 6, none⟩ = some (.int .i64 pe)
      ∧ W.cell? ⟨g, 7, none⟩ = some (.int .i64 bu) ∧ W.cell? ⟨g, 8, none⟩ = some (.int .i64 co) ∧ W.cell? ⟨g, 9, none⟩ = some (.int .i64 mx) ∧ W.cell? ⟨g, 10, none⟩ = some (.int .i64 fa) ∧ W.cell? ⟨g, 11, none⟩ = some (.int .i64 wa) ∧ W.cell? ⟨g, 12, none⟩ = some (.int .i64 pb) :=
  ⟨h.cell 0, h.cell 1, h.cell 2, h.cell 3, h.cell 4, h.cell 5, h.cell 6, h.cell 7, h.cell 8, h.cell 9, h.cell 10, h.cell 11, h.cell 12⟩
theorem cells5 {W : World} {g : Nat} {c3 c4 : Value} (h : Box W g #[.int .i64 5, .int .i64 0, .string ⟨#[]⟩, c3, c4]) :
    W.cell? ⟨g, 0, none⟩ = some (.int .i64 5) ∧ W.cell? ⟨g, 1, none⟩ = some (.int .i64 0) ∧ W.cell? ⟨g, 2, none⟩ = some (.string ⟨#[]⟩) ∧ W.cell? ⟨g, 3, none⟩ = some c3 ∧ W.cell? ⟨g, 4, none⟩ = some c4 :=
  ⟨h.cell 0, h.cell 1, h.cell 2, h.cell 3, h.cell 4⟩
/-- The names' row while members are put on: its block is none of the object's. -/
structure Nr (g gl : Nat) (l : List ByteArray) (c3 c4 : Value) (W : World) : Prop where
  off : ¬ own2 c3 c4 gl
  lt : gl < W.heap.size
  ne : gl ≠ g
  cell : ∀ j, j < l.length → W.cell? ⟨gl, j, none⟩ = some (.string (l.getD j ⟨#[]⟩))
theorem Nr.new {w W W' : World} {g : Nat} {r : Ru} {m : List (ByteArray × Vt)} {c3 c4 : Value} {l : List ByteArray} (h : St w g r m c3 c4 W) (hc : ∀ j, j < l.length → W'.cell? ⟨W.heap.size, j, none⟩ = some (.string (l.getD j ⟨#[]⟩))) (hs : W.heap.size < W'.heap.size) : Nr g W.heap.size l c3 c4 W' :=
  ⟨fun q => by have := (h.ob.in_ q).2; omega, hs, by have := h.vb.lt; omega, hc⟩
theorem Nr.next {g gl : Nat} {l : List ByteArray} {c3 c4 : Value} {W W' : World} (h : Nr g gl l c3 c4 W) (hb : Below W.heap.size W W') : Nr g gl l c3 c4 W' :=
  ⟨h.off, Nat.lt_of_lt_of_le h.lt hb.size, h.ne, fun j hj => (hb.cell (p := ⟨gl, j, none⟩) h.lt).trans (h.cell j hj)⟩
theorem Nr.step {g gl : Nat} {l : List ByteArray} {c3 c4 d3 d4 : Value} {W w2 w3 : World} (h : Nr g gl l c3 c4 W) (hn : ∀ b, own2 d3 d4 b → own2 c3 c4 b ∨ W.heap.size ≤ b) (hc : Ch (own2 c3 c4) W w2) (hk : ∀ k, k ≠ g → w3.heap[k]? = w2.heap[k]?) : Nr g gl l d3 d4 w3 := by
  have e : w3.heap[gl]? = W.heap[gl]? := (hk gl h.ne).trans (hc.block gl h.lt h.off)
  refine ⟨fun q => ?_, ?_, h.ne, fun j hj => ?_⟩
  · rcases hn gl q with k | k
    · exact h.off k
    · have := h.lt; omega
  · rcases Nat.lt_or_ge gl w3.heap.size with k | k
    · exact k
    · rw [Array.getElem?_eq_none k, Array.getElem?_eq_getElem h.lt] at e
      cases e
  · rw [← h.cell j hj]
    simp [World.cell?, e]
end Go.Proofs.YtehkiojohldlgaaGreatDoor.Jsn

namespace Go.Proofs.YtehkiojohldlgaaGreatDoor.Tre
open Go.RowKit Go.Lib Go.Proofs.YtehkiojohldlgaaGreatDoor.Byt Go.Proofs.YtehkiojohldlgaaGreatDoor.Utf

theorem OkT_zero : OkT V0 := (OkT_iff _).2 ⟨by unfold okV V0; decide, fun x hx => by cases hx⟩
theorem fnd_mem : ∀ (ns : List ByteArray) (l : List Vt) (s : ByteArray) (x : Vt), fnd ns l s = some x → x ∈ l
  | [], l, s, x, h => by unfold fnd at h; cases h
  | m :: ns, [], s, x, h => by unfold fnd at h; cases h
  | m :: ns, y :: l, s, x, h => by
    rw [fnd] at h
    by_cases e : m = s
    · rw [if_pos e] at h; injection h with h; rw [h]; exact List.mem_cons_self
    · rw [if_neg e] at h; exact List.mem_cons_of_mem _ (fnd_mem ns l s x h)
theorem OkT_find {v : Vt} (hv : OkT v) (s : ByteArray) : OkT ((find v s).getD V0) := by
  cases h : find v s with
  | none => exact OkT_zero
  | some x =>
    unfold find at h
    split at h
    · exact ((OkT_iff v).1 hv).2 x (fnd_mem _ _ _ _ h)
    · cases h
/-- The state of the law: the two values that came in, the two that were found. -/
def SC (w : World) (a b x : Vt) (G G1 G2 : Nat) (ca cb cx cy : List Value) (W : World) : Prop := SB w a b (G) ca cb W ∧ Box W G1 cx.toArray ∧ Box W G2 cy.toArray ∧ InV W x cx ∧ InV W x cy
section
variable {w W W' : World} {a b x : Vt} {G G1 G2 : Nat} {ca cb cx cy : List Value}
theorem SC.next (h : SC w a b x G G1 G2 ca cb cx cy W) (hb : Below W.heap.size W W') : SC w a b x G G1 G2 ca cb cx cy W' := by
  obtain ⟨h1, h2, h3, h4, h5⟩ := h
  exact ⟨h1.next hb, h2.next hb h2.lt, h3.next hb h3.lt, InV_next hb _ _ h4, InV_next hb _ _ h5⟩
theorem SC.drew (h : SC w a b x G G1 G2 ca cb cx cy W) : SC w a b x G G1 G2 ca cb cx cy W.drew := h.next (Below.refl _ _).drew
theorem SC.b1 (h : SC w a b x G G1 G2 ca cb cx cy W) : Box W G1 cx.toArray := h.2.1
theorem SC.b2 (h : SC w a b x G G1 G2 ca cb cx cy W) : Box W G2 cy.toArray := h.2.2.1
theorem SC.x1 (h : SC w a b x G G1 G2 ca cb cx cy W) : InV W x cx := h.2.2.2.1
theorem SC.x2 (h : SC w a b x G G1 G2 ca cb cx cy W) : InV W x cy := h.2.2.2.2
end
attribute [irreducible] SC
end Go.Proofs.YtehkiojohldlgaaGreatDoor.Tre

namespace Go.Proofs.YtehkiojohldlgaaGreatDoor.Rul
open Go.RowKit Go.Lib

/-! ### awake -/
theorem canon_at (r : Ru) (c : Ru) (p : ByteArray) (e : Int) (hc : cn r = c) (hp : chk r = (p, e)) (h1 : r.id.size ≤ 140737488355328) (h2 : r.no.size ≤ 140737488355328) (h3 : r.ro.size ≤ 140737488355328) (w : World) (hT : Tab w) (hU : Utf.Tabs w) :
    Calls Tryz.prog 43 #[.agg (ruC r)] w fun x w' => x = .returned (.tuple #[.agg (ruC c), .string p, .int .i64 e]) ∧ Below w.heap.size w w' := by
  have := canon_any r w hT hU h1 h2 h3
  rw [hc, hp] at this
  exact this
theorem chk_at (r : Ru) (p : ByteArray) (e : Int) (hp : chk r = (p, e)) (h1 : r.id.size ≤ 140737488355328) (h2 : r.no.size ≤ 140737488355328) (h3 : r.ro.size ≤ 140737488355328) (w : World) (hT : Tab w) (hU : Utf.Tabs w) :
    Calls Tryz.prog 80 #[.agg (ruC r)] w fun x w' => x = .returned (.tuple #[.string p, .int .i64 e]) ∧ Below w.heap.size w w' := by
  have := chk_any r w hT hU h1 h2 h3
  rw [hp] at this
  exact this
end Go.Proofs.YtehkiojohldlgaaGreatDoor.Rul

namespace Go.Proofs.YtehkiojohldlgaaGreatDoor.Sn
open Go.RowKit Go.Lib Go.Maps Go.WideMaps Go.Proofs.YtehkiojohldlgaaGreatDoor.Byt

def hasB (L : List ByteArray) (s : ByteArray) : Bool := L.any fun x => decide (x = s)
theorem hasB_app (L : List ByteArray) (t s : ByteArray) : hasB (L ++ [t]) s = (hasB L s || decide (t = s)) := by unfold hasB; simp
/-- Block b is a map of at most n entries that is true at the strings of L alone. -/
def Seen (w : World) (b n : Nat) (L : List ByteArray) : Prop :=
  ∃ D : DataW Unit, w.ownsMap Tryz.prog 9 (plainElem Tryz.prog 4) b n D ∧ ∀ s : ByteArray, D.atKey (.string s.data.toList) (.lit (.bool false)) = .lit (.bool (hasB L s))
theorem keyS : Keyed Tryz.prog 9 := string_keyed Tryz.underlying9
theorem zeroB (w : World) : (zeroValue 4).run Tryz.prog w = .ok (.bool false) w := by kernel_rfl
theorem run_makeHint (n : Int) (w : World) : (Instr.makeMap 90 (some (.int .i64 n))).run Tryz.prog w = .ok (.map (some w.heap.size)) (w.alloc (.map #[] 0)) := by
  simp [Instr.makeMap, run_underlying Tryz.underlying90, asInt, asIntOf, Result.andThen]
theorem seen_made (w : World) : Seen (w.alloc (.map #[] 0)) w.heap.size 0 [] :=
  ⟨.map [], World.ownsMap_made w _ _ _, fun s => by simp [DataW.atKey, hasB]⟩
section
variable {w w' : World} {b n : Nat} {L : List ByteArray}
theorem Seen.lt (h : Seen w b n L) : b < w.heap.size := h.elim fun _ h => h.1.lt
theorem Seen.next (h : Seen w b n L) (hb : Below w.heap.size w w') : Seen w' b n L := by
  have hlt := h.lt
  obtain ⟨D, ⟨es, clock, hk, rest⟩, h2⟩ := h
  exact ⟨D, ⟨es, clock, (hb.block b hlt).trans hk, rest⟩, h2⟩
set_option maxRecDepth 100000 in
theorem Seen.look (h : Seen w b n L) (s : ByteArray) (hs : s.size ≤ 140737488351232) : (Instr.lookup 90 (.map (some b)) (.string s) false).run Tryz.prog w = .ok (.bool (hasB L s)) w := by
  obtain ⟨D, h1, h2⟩ := h
  obtain ⟨v, ps, hr, hv⟩ := h1.lookup keyS Tryz.underlying90 (zeroB w) (plainElem_bool Tryz.underlying4 false) (keyOf_string_mk Tryz.underlying9 (s := s) (by unfold maxLen; omega))
  rw [h2 s] at hv
  rw [hr]
  unfold plainElem at hv
  rw [Tryz.underlying4] at hv
  cases v <;> simp at hv
  rw [hv.1]
theorem Seen.put {w0 : World} {B : Nat} (h : Seen w b n L) (s : ByteArray) (hs : s.size ≤ 140737488351232) (hn : n ≤ 140737488355328) (hB : B ≤ b) (hb : Below B w0 w) :
    ∃ w', (Instr.mapUpdate 90 (.map (some b)) (.string s) (.bool true)).run Tryz.prog w = .ok () w' ∧ Seen w' b (n + 1) (L ++ [s]) ∧ Below B w0 w' := by
  obtain ⟨D, h1, h2⟩ := h
  obtain ⟨w', hr, h3, h4⟩ := h1.update keyS Tryz.underlying90 (by unfold maxLen; omega) (keyOf_string_mk Tryz.underlying9 (s := s) (by unfold maxLen; omega)) (plainElem_bool Tryz.underlying4 true)
  refine ⟨w', hr, ⟨_, h3, fun t => ?_⟩, ⟨h4.os.trans hb.os, h4.tape.trans hb.tape, h4.output.trans hb.output, Nat.le_trans hb.size h4.size, fun k hk => ?_⟩⟩
  · by_cases hts : t = s
    · subst hts
      rw [atKey_put_same h1.isMap (by trivial), hasB_app]
      simp
    · have hne : Lit.string t.data.toList ≠ Lit.string s.data.toList := by
        intro q
        injection q with q
        exact hts (ByteArray.ext (Array.toList_inj.1 q))
      rw [atKey_put_other hne, h2 t, hasB_app, decide_eq_false (fun q => hts q.symm), Bool.or_false]
  · by_cases hkl : k < w.heap.size
    · exact (h4.block k hkl (by intro q; injection q with q; omega)).trans (hb.block k hk)
    · have := h1.lt; omega
end
theorem wpList_put {ops : Array Oper} {rest : List Oper} {o : Oper} {a : Act} {Q : Exit → Act → World → Prop} (W : World) (hg : o.guard = none) (m x v : Operand) (hop : o.op = .mapUpdate 90 m x v) (b n : Nat) (L : List ByteArray)
    (hm : a.eval m = .map (some b)) (s : ByteArray) (hx : a.eval x = .string s) (hv : a.eval v = .bool true) (hS : Seen W b n L) (hs : s.size ≤ 140737488351232) (hn : n ≤ 140737488355328) (w0 : World) (B : Nat) (hB : B ≤ b) (hb : Below B w0 W)
    (hK : ∀ w', Seen w' b (n + 1) (L ++ [s]) → Below B w0 w' → wpList Tryz.prog ops Q rest (a.put o.dst undef) w') : wpList Tryz.prog ops Q (o :: rest) a W := by
  refine wpList_plain hg fun K' hK' => ?_
  obtain ⟨w', hrun, r1, r2⟩ := hS.put s hs hn hB hb
  unfold Oper.wp
  simp [execOp, hop, hm, hx, hv, hrun, Result.andThen]
  exact hK' _ _ (hK w' r1 r2)

end Go.Proofs.YtehkiojohldlgaaGreatDoor.Sn
