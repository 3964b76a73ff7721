/- A map from texts to truths that is made by a call and only grows: which texts were put in. Conditions: as each theorem states. -/
import Derived.Test.YthkopnobekohcaaGreatDoorRowsA
import Derived.Maps.OwnSet
import Derived.Maps.OwnOps
import Derived.StringKeys
namespace Go.Proofs.YthkopnobekohcaaGreatDoor.Sn
open Go.RowKit Go.Lib Go.Maps Go.WideMaps Go.Proofs.YthkopnobekohcaaGreatDoor.Byt

def hasB (L : List ByteArray) (s : ByteArray) : Bool := L.any fun x => decide (x = s)
theorem hasB_app (L : List ByteArray) (t s : ByteArray) : hasB (L ++ [t]) s = (hasB L s || decide (t = s)) := by unfold hasB; simp
/-- Block b is a map of at most n entries that is true at the strings of L alone. -/
def Seen (w : World) (b n : Nat) (L : List ByteArray) : Prop :=
  ∃ D : DataW Unit, w.ownsMap Tryz.prog 9 (plainElem Tryz.prog 4) b n D ∧ ∀ s : ByteArray, D.atKey (.string s.data.toList) (.lit (.bool false)) = .lit (.bool (hasB L s))
theorem keyS : Keyed Tryz.prog 9 := string_keyed Tryz.underlying9
theorem zeroB (w : World) : (zeroValue 4).run Tryz.prog w = .ok (.bool false) w := by kernel_rfl
theorem run_map0 (w : World) : (Instr.makeMap 38 none).run Tryz.prog w = .ok (.map (some w.heap.size)) (w.alloc (.map #[] 0)) := by
  simp [Instr.makeMap, Result.andThen]
theorem run_makeHint (n : Int) (w : World) : (Instr.makeMap 38 (some (.int .i64 n))).run Tryz.prog w = .ok (.map (some w.heap.size)) (w.alloc (.map #[] 0)) := by
  simp [Instr.makeMap, run_underlying Tryz.underlying38, asInt, asIntOf, Result.andThen]
theorem seen_made (w : World) : Seen (w.alloc (.map #[] 0)) w.heap.size 0 [] :=
  ⟨.map [], World.ownsMap_made w _ _ _, fun s => by simp [DataW.atKey, hasB]⟩
section
variable {w w' : World} {b n : Nat} {L : List ByteArray}
theorem Seen.lt (h : Seen w b n L) : b < w.heap.size := h.elim fun _ h => h.1.lt
theorem Seen.next (h : Seen w b n L) (hb : Below w.heap.size w w') : Seen w' b n L := by
  have hlt := h.lt
  obtain ⟨D, ⟨es, clock, hk, rest⟩, h2⟩ := h
  exact ⟨D, ⟨es, clock, (hb.block b hlt).trans hk, rest⟩, h2⟩
set_option maxRecDepth 100000 in
theorem Seen.look (h : Seen w b n L) (s : ByteArray) (hs : s.size ≤ 140737488351232) : (Instr.lookup 38 (.map (some b)) (.string s) false).run Tryz.prog w = .ok (.bool (hasB L s)) w := by
  obtain ⟨D, h1, h2⟩ := h
  obtain ⟨v, ps, hr, hv⟩ := h1.lookup keyS Tryz.underlying38 (zeroB w) (plainElem_bool Tryz.underlying4 false) (keyOf_string_mk Tryz.underlying9 (s := s) (by unfold maxLen; omega))
  rw [h2 s] at hv
  rw [hr]
  unfold plainElem at hv
  rw [Tryz.underlying4] at hv
  cases v <;> simp at hv
  rw [hv.1]
theorem Seen.put {w0 : World} {B : Nat} (h : Seen w b n L) (s : ByteArray) (hs : s.size ≤ 140737488351232) (hn : n ≤ 140737488355328) (hB : B ≤ b) (hb : Below B w0 w) :
    ∃ w', (Instr.mapUpdate 38 (.map (some b)) (.string s) (.bool true)).run Tryz.prog w = .ok () w' ∧ Seen w' b (n + 1) (L ++ [s]) ∧ Below B w0 w' := by
  obtain ⟨D, h1, h2⟩ := h
  obtain ⟨w', hr, h3, h4⟩ := h1.update keyS Tryz.underlying38 (by unfold maxLen; omega) (keyOf_string_mk Tryz.underlying9 (s := s) (by unfold maxLen; omega)) (plainElem_bool Tryz.underlying4 true)
  refine ⟨w', hr, ⟨_, h3, fun t => ?_⟩, ⟨h4.os.trans hb.os, h4.tape.trans hb.tape, h4.output.trans hb.output, Nat.le_trans hb.size h4.size, fun k hk => ?_⟩⟩
  · by_cases hts : t = s
    · subst hts
      rw [atKey_put_same h1.isMap (by trivial), hasB_app]
      simp
    · have hne : Lit.string t.data.toList ≠ Lit.string s.data.toList := by
        intro q
        injection q with q
        exact hts (ByteArray.ext (Array.toList_inj.1 q))
      rw [atKey_put_other hne, h2 t, hasB_app, decide_eq_false (fun q => hts q.symm), Bool.or_false]
  · by_cases hkl : k < w.heap.size
    · exact (h4.block k hkl (by intro q; injection q with q; omega)).trans (hb.block k hk)
    · have := h1.lt; omega
end
theorem wpList_put {ops : Array Oper} {rest : List Oper} {o : Oper} {a : Act} {Q : Exit → Act → World → Prop} (W : World) (hg : o.guard = none) (m x v : Operand) (hop : o.op = .mapUpdate 38 m x v) (b n : Nat) (L : List ByteArray)
    (hm : a.eval m = .map (some b)) (s : ByteArray) (hx : a.eval x = .string s) (hv : a.eval v = .bool true) (hS : Seen W b n L) (hs : s.size ≤ 140737488351232) (hn : n ≤ 140737488355328) (w0 : World) (B : Nat) (hB : B ≤ b) (hb : Below B w0 W)
    (hK : ∀ w', Seen w' b (n + 1) (L ++ [s]) → Below B w0 w' → wpList Tryz.prog ops Q rest (a.put o.dst undef) w') : wpList Tryz.prog ops Q (o :: rest) a W := by
  refine wpList_plain hg fun K' hK' => ?_
  obtain ⟨w', hrun, r1, r2⟩ := hS.put s hs hn hB hb
  unfold Oper.wp
  simp [execOp, hop, hm, hx, hv, hrun, Result.andThen]
  exact hK' _ _ (hK w' r1 r2)

end Go.Proofs.YthkopnobekohcaaGreatDoor.Sn
