/- Contracts of isText, namesRight. Conditions: as each theorem states. -/
import Derived.Test.YtafelidejkppkaaDoorTreB
import Derived.Test.YtafelidejkppkaaDoorTreC
import Derived.Test.YtafelidejkppkaaDoorUtfA
import Derived.Maps.OwnSet
import Derived.Maps.OwnOps
import Derived.StringKeys
namespace Go.Proofs.YtafelidejkppkaaDoor.Tre
open Go.RowKit Go.Lib Go.Maps Go.WideMaps Go.Proofs.YtafelidejkppkaaDoor.Byt Go.Proofs.YtafelidejkppkaaDoor.Utf

theorem istext_any (s : ByteArray) (w : World) (hT : Tabs w) (hs : s.size ≤ 140737488351232) :
    Calls Tryd.prog 42 #[.string s] w fun e w' => e = .returned (.bool (textB s)) ∧ Below w.heap.size w w' := by
  have hB := bad_any s w hT (by omega)
  have e : textB s = decide (bI (badL s.data.toList) < 0) := by
    unfold textB
    cases badL s.data.toList with
    | none => rfl
    | some k => show decide (some k = none) = decide ((k : Int) < 0); rw [decide_eq_false (by simp), decide_eq_false (by omega)]
  rw [e]
  clear e hT
  generalize bI (badL s.data.toList) = z at *
  go_enter Tryd.func42, Tryd.ntmps42
  go_wp2_with (go_at_call 49; refine hB.mono ?_; rintro e w1 ⟨rfl, hb1⟩)
  go_ret
  exact ⟨rfl, hb1⟩

/-! ### the names seen so far -/
def hasB (L : List ByteArray) (s : ByteArray) : Bool := L.any fun x => decide (x = s)
theorem hasB_app (L : List ByteArray) (t s : ByteArray) : hasB (L ++ [t]) s = (hasB L s || decide (t = s)) := by unfold hasB; simp
/-- Block b is a map of at most n entries that is true at the strings of L alone. -/
def Seen (w : World) (b n : Nat) (L : List ByteArray) : Prop :=
  ∃ D : DataW Unit, w.ownsMap Tryd.prog 9 (plainElem Tryd.prog 4) b n D ∧ ∀ s : ByteArray, D.atKey (.string s.data.toList) (.lit (.bool false)) = .lit (.bool (hasB L s))
theorem keyS : Keyed Tryd.prog 9 := string_keyed Tryd.underlying9
theorem zeroB (w : World) : (zeroValue 4).run Tryd.prog w = .ok (.bool false) w := by kernel_rfl
theorem run_makeHint (n : Int) (w : World) : (Instr.makeMap 57 (some (.int .i64 n))).run Tryd.prog w = .ok (.map (some w.heap.size)) (w.alloc (.map #[] 0)) := by
  simp [Instr.makeMap, run_underlying Tryd.underlying57, asInt, asIntOf, Result.andThen]
theorem seen_made (w : World) : Seen (w.alloc (.map #[] 0)) w.heap.size 0 [] :=
  ⟨.map [], World.ownsMap_made w _ _ _, fun s => by simp [DataW.atKey, hasB]⟩
section
variable {w w' : World} {b n : Nat} {L : List ByteArray}
theorem Seen.lt (h : Seen w b n L) : b < w.heap.size := h.elim fun _ h => h.1.lt
theorem Seen.next (h : Seen w b n L) (hb : Below w.heap.size w w') : Seen w' b n L := by
  have hlt := h.lt
  obtain ⟨D, ⟨es, clock, hk, rest⟩, h2⟩ := h
  exact ⟨D, ⟨es, clock, (hb.block b hlt).trans hk, rest⟩, h2⟩
theorem Seen.look (h : Seen w b n L) (s : ByteArray) (hs : s.size ≤ 140737488351232) : (Instr.lookup 57 (.map (some b)) (.string s) false).run Tryd.prog w = .ok (.bool (hasB L s)) w := by
  obtain ⟨D, h1, h2⟩ := h
  obtain ⟨v, ps, hr, hv⟩ := h1.lookup keyS Tryd.underlying57 (zeroB w) (plainElem_bool Tryd.underlying4 false) (keyOf_string_mk Tryd.underlying9 (s := s) (by unfold maxLen; omega))
  rw [h2 s] at hv
  rw [hr]
  unfold plainElem at hv
  rw [Tryd.underlying4] at hv
  cases v <;> simp at hv
  rw [hv.1]
theorem Seen.put {w0 : World} {B : Nat} (h : Seen w b n L) (s : ByteArray) (hs : s.size ≤ 140737488351232) (hn : n ≤ 140737488355328) (hB : B ≤ b) (hb : Below B w0 w) :
    ∃ w', (Instr.mapUpdate 57 (.map (some b)) (.string s) (.bool true)).run Tryd.prog w = .ok () w' ∧ Seen w' b (n + 1) (L ++ [s]) ∧ Below B w0 w' := by
  obtain ⟨D, h1, h2⟩ := h
  obtain ⟨w', hr, h3, h4⟩ := h1.update keyS Tryd.underlying57 (by unfold maxLen; omega) (keyOf_string_mk Tryd.underlying9 (s := s) (by unfold maxLen; omega)) (plainElem_bool Tryd.underlying4 true)
  refine ⟨w', hr, ⟨_, h3, fun t => ?_⟩, ⟨h4.os.trans hb.os, h4.tape.trans hb.tape, h4.output.trans hb.output, Nat.le_trans hb.size h4.size, fun k hk => ?_⟩⟩
  · by_cases hts : t = s
    · subst hts
      rw [atKey_put_same h1.isMap (by trivial), hasB_app]
      simp
    · have hne : Lit.string t.data.toList ≠ Lit.string s.data.toList := by
        intro q
        injection q with q
        exact hts (ByteArray.ext (Array.toList_inj.1 q))
      rw [atKey_put_other hne, h2 t, hasB_app, decide_eq_false (fun q => hts q.symm), Bool.or_false]
  · by_cases hkl : k < w.heap.size
    · exact (h4.block k hkl (by intro q; injection q with q; omega)).trans (hb.block k hk)
    · have := h1.lt; omega
end
theorem nm_next (ns : List ByteArray) (i : Nat) (h : i < ns.length) : nmB (ns.take (i + 1)) = (nmB (ns.take i) && textB (ns.getD i ⟨#[]⟩) && !hasB (ns.take i) (ns.getD i ⟨#[]⟩)) := by
  rw [nm_take ns i h]
  congr 1
  unfold hasB
  rw [Bool.eq_iff_iff]
  simp
theorem take_next (ns : List ByteArray) (i : Nat) (h : i < ns.length) : ns.take (i + 1) = ns.take i ++ [ns.getD i ⟨#[]⟩] := by
  rw [List.take_add_one, List.getElem?_eq_getElem h, Option.toList_some, List.getD_eq_getElem?_getD, List.getElem?_eq_getElem h]
  rfl
theorem ns_mem {ns : List ByteArray} {i : Nat} (h : i < ns.length) : ns.getD i ⟨#[]⟩ ∈ ns := by
  rw [List.getD_eq_getElem?_getD, List.getElem?_eq_getElem h]
  exact List.getElem_mem h
theorem wpList_put {ops : Array Oper} {rest : List Oper} {o : Oper} {a : Act} {Q : Exit → Act → World → Prop} (W : World) (hg : o.guard = none) (m x v : Operand) (hop : o.op = .mapUpdate 57 m x v) (b n : Nat) (L : List ByteArray)
    (hm : a.eval m = .map (some b)) (s : ByteArray) (hx : a.eval x = .string s) (hv : a.eval v = .bool true) (hS : Seen W b n L) (hs : s.size ≤ 140737488351232) (hn : n ≤ 140737488355328) (w0 : World) (B : Nat) (hB : B ≤ b) (hb : Below B w0 W)
    (hK : ∀ w', Seen w' b (n + 1) (L ++ [s]) → Below B w0 w' → wpList Tryd.prog ops Q rest (a.put o.dst undef) w') : wpList Tryd.prog ops Q (o :: rest) a W := by
  refine wpList_plain hg fun K' hK' => ?_
  obtain ⟨w', hrun, r1, r2⟩ := hS.put s hs hn hB hb
  unfold Oper.wp
  simp [execOp, hop, hm, hx, hv, hrun, Result.andThen]
  exact hK' _ _ (hK w' r1 r2)

set_option maxRecDepth 100000 in
theorem names_any (ns : List ByteArray) (c : Value) (w : World) (hr : Strs.Row w c ns) (hT : Tabs w) (hl : ns.length * 16 ≤ 140737488351232) (hm : ∀ m ∈ ns, m.size ≤ 140737488351232) :
    Calls Tryd.prog 43 #[c] w fun e w' => e = .returned (.bool (nmB ns)) ∧ Below w.heap.size w w' := by
  obtain ⟨a, cap, rfl, hc⟩ := hr.open_
  have HC := Lib.hid hc
  have HT := Lib.hid hT
  have HM := Lib.hid hm
  clear hc hr hT hm
  have hmx : ns.length ≤ 9223372036854775807 := by omega
  have hmm := run_makeHint
  go_enter Tryd.func43, Tryd.ntmps43
  go_wp2_with fail
  go_loopw [11] (fun x wr => ∃ i : Nat, x = .int .i64 (i : Int) ∧ i ≤ ns.length ∧ Below w.heap.size w wr ∧ Seen wr w.heap.size i (ns.take i) ∧ Hid (nmB (ns.take i) = true))
    (fun x _ => ns.length - (RowKit.intOf x).toNat)
  case atStart => exact ⟨0, by go_num, by omega, (Below.refl _ _).alloc (Nat.le_refl _) _, by rw [List.take_zero]; exact seen_made _, Lib.hid (by rw [List.take_zero]; rfl)⟩
  case round =>
    obtain ⟨i, rfl, hi, hb, hS, hz⟩ := hrel
    have hsz := hb.size
    by_cases hlt : i < ns.length
    · obtain ⟨b, off, rfl, hcell⟩ := HC.out i hlt
      have hcell2 := (hb.cell (Strs.cell_lt hcell)).trans hcell
      have hst := nm_next ns i hlt
      rw [hz.out, Bool.true_and] at hst
      have htk := Lib.hid (take_next ns i hlt)
      have hsm := HM.out _ (ns_mem hlt)
      generalize ns.getD i ⟨#[]⟩ = s at *
      have hlook := hS.look s hsm
      have hTx := Lib.hid (istext_any s wr (HT.out.next hb) hsm)
      cases hh : hasB (ns.take i) s with
      | true =>
        rw [hh] at hlook hst
        have hst2 : nmB (ns.take (i + 1)) = false := by rw [hst]; simp
        have HF := Lib.hid (nm_whole ns _ hst2)
        clear hst hst2 htk hTx
        go_wp2_with fail
        go_ret
        exact ⟨by rw [HF.out]; rfl, hb⟩
      | false =>
        rw [hh] at hlook hst
        have hst1 : nmB (ns.take (i + 1)) = textB s := by rw [hst]; simp
        clear hst
        cases ht : textB s with
        | false =>
          rw [ht] at hst1 hTx
          have HF := Lib.hid (nm_whole ns _ hst1)
          clear hst1 htk
          go_wp2_with (go_at_call 42; refine hTx.out.mono ?_; rintro e w2 ⟨rfl, hb2⟩)
          go_ret
          exact ⟨by rw [HF.out]; rfl, hb.trans (hb2.mono hsz)⟩
        | true =>
          rw [ht] at hst1 hTx
          have HF := Lib.hid hst1
          clear hst1
          go_wp2_with (first
            | (go_at_call 42; refine hTx.out.mono ?_; rintro e w2 ⟨rfl, hb2⟩)
            | (refine wpList_put _ rfl _ _ _ rfl w.heap.size i (ns.take i) rfl s rfl rfl (hS.next hb2) hsm (by omega) w w.heap.size (Nat.le_refl _) (hb.trans (hb2.mono hsz)) ?_; intro w3 hS3 hb3))
          go_roundw
          case rel => exact ⟨i + 1, by go_num, by omega, hb3, by rw [htk.out]; exact hS3, HF⟩
          case measure => simp [RowKit.intOf]; omega
    · obtain rfl : i = ns.length := by omega
      have hzz := hz.out
      rw [List.take_length] at hzz
      have HZZ := Lib.hid hzz
      clear hz hzz
      go_wp2_with fail
      go_ret
      exact ⟨by rw [HZZ.out]; rfl, hb⟩
end Go.Proofs.YtafelidejkppkaaDoor.Tre
