/- Contracts of takeEnd, takeComma, open. Conditions: as each theorem states. -/
import Derived.Test.YtggahjhjapnfeaaDoorGraB
import Derived.StillTailTactics
namespace Go.Proofs.YtggahjhjapnfeaaDoor.Gr
open Go.RowKit Go.Lib Go.Proofs.YtggahjhjapnfeaaDoor.Byt Go.Proofs.YtggahjhjapnfeaaDoor.Lx

/-- What is open, with its block. -/
theorem Sr.row {w0 W : World} {b : Nat} {s : ByteArray} {p ex lv : Nat} {E : List UInt8} (h : Sr w0 b s p ex E lv W) (c : UInt8) (F : List UInt8) (hE : E = c :: F) :
    ∃ g cap, W.cell? ⟨b, 3, none⟩ = some (.slice (some ⟨g, 0, none⟩) (F.length + 1) cap) ∧ W.cell? ⟨g, F.length, none⟩ = some (.int .u8 (c.toNat : Int)) ∧ W.frozen? ⟨g, F.length, none⟩ = false ∧ F.length ≤ cap ∧
      Sr w0 b s p ex F lv (W.setCell ⟨b, 3, none⟩ (.slice (some ⟨g, 0, none⟩) F.length cap)) := by
  subst hE
  obtain ⟨h0, ao, cap, h1, h2, h3⟩ := h.rd
  rcases h2.shape with ⟨k1, k2⟩ | ⟨g, cap', k1⟩
  · simp at k2
  · have k1' := k1
    injection k1 with e1 e2 e3
    subst e1 e3
    rw [List.length_reverse] at k1'
    have hl : (c :: F).length = F.length + 1 := rfl
    rw [hl] at h1 h2 h3
    have hc := h2.cell F.length (by omega)
    have hf := h2.free F.length
    have e : (c :: F).reverse.getD F.length 0 = c := by
      rw [List.reverse_cons, List.getD_eq_getElem?_getD, List.getElem?_append_right (by simp), List.length_reverse, Nat.sub_self]
      rfl
    rw [e] at hc
    have hcap : F.length ≤ cap := by
      unfold Own at h2
      rcases h2.2 with ⟨hv, _⟩ | ⟨g2, cap2, cur, hv, _, _, hn, _⟩
      · cases hv
      · injection hv with _ _ e4
        subst e4
        rw [List.length_reverse] at hn
        simp only [List.length_cons] at hn
        omega
    refine ⟨g, cap, h1.c3, hc, hf, hcap, ⟨⟨h0, some ⟨g, 0, none⟩, cap, h1.put3 _, ?_, h3⟩, below_put h.bel h0 _ _, h.env0⟩⟩
    have h4 : Own W w0.heap.size (.slice (some ⟨g, 0, none⟩) F.length cap) F.reverse := by
      unfold Own at h2 ⊢
      rw [List.length_reverse] at h2 ⊢
      have h5 := h2
      rw [List.reverse_cons, byteCells_append] at h5
      exact ownsRow_pop (by simp [byteCells]) h5
    exact Own.aside h4 h3 _ _

/-! ### takeEnd -/
set_option maxHeartbeats 1000000 in
set_option maxRecDepth 100000 in
theorem end_yes (w0 : World) (b : Nat) (s : ByteArray) (p ex : Nat) (c : UInt8) (F : List UInt8) (lv : Nat) (W : World) (h : Sr w0 b s p ex (c :: F) lv W) (hp : p < s.size) (hs : s.size ≤ 1000000) (hl : F.length ≤ 1000000) (hc : by8 s p = c.toNat) :
    Calls Tryd.prog 23 #[.pointer (some ⟨b, 0, none⟩)] W fun e w' => e = .returned (.bool true) ∧ Sr w0 b s (p + 1) 4 F lv w' := by
  have c0 := h.c0
  have c1 := h.c1
  obtain ⟨g, cap, c3, k0, k1, _, hS⟩ := h.row c F rfl
  have hix := fun w => index_of s p (p : Int) rfl hp w
  rw [hc] at hix
  have hR := Lib.hid h
  have hl1 : ((F.length + 1 : Nat) : Int) - 1 = (F.length : Int) := by omega
  have hlb : F.length ≤ 1000000 := hl
  have d0 : decide ((F.length : Int) < 0) = false := decide_eq_false (by omega)
  generalize hn : F.length = n at *
  have HN := Lib.hid hn
  clear hn hl h hS
  generalize hz : ((n + 1 : Nat) : Int) = z at *
  go_enter Tryd.func23, Tryd.ntmps23
  go_wp2_with fail
  go_quiet (fail)
  have hR1 := hR.out.drewN nq
  generalize W.drewN nq = W1 at *
  have c1 := hR1.c1
  have f1 := hR1.free 1
  have hR2 := hR1.set1 (p + 1)
  obtain ⟨g', cap', c3', _, _, hcap, hS⟩ := hR2.row c F rfl
  rw [HN.out] at c3' hS hcap
  have c2 := hR1.c2
  push_cast at c3' hS hR2
  have f3 := hR2.free 3
  have f2 := hS.free 2
  have HS := Lib.hid (hS.set2 4)
  clear hS hR1 hR2 c3 k0 k1
  go_wp2_with fail
  go_ret
  exact ⟨rfl, HS.out⟩
theorem Sr.len3 {w0 W : World} {b : Nat} {s : ByteArray} {p ex lv : Nat} {E : List UInt8} (h : Sr w0 b s p ex E lv W) : ∃ ao cap, W.cell? ⟨b, 3, none⟩ = some (.slice ao E.length cap) := by
  obtain ⟨ao, cap, _, _, _, c, _⟩ := h.cells
  exact ⟨ao, cap, c⟩
set_option maxHeartbeats 1000000 in
set_option maxRecDepth 100000 in
theorem end_other (w0 : World) (b : Nat) (s : ByteArray) (p ex : Nat) (c : UInt8) (F : List UInt8) (lv : Nat) (W : World) (h : Sr w0 b s p ex (c :: F) lv W) (hp : p < s.size) (hl : F.length ≤ 1000000) (hc : by8 s p ≠ c.toNat) :
    Calls Tryd.prog 23 #[.pointer (some ⟨b, 0, none⟩)] W fun e w' => e = .returned (.bool false) ∧ Sr w0 b s p ex (c :: F) lv w' := by
  have c0 := h.c0
  have c1 := h.c1
  obtain ⟨g, cap, c3, k0, k1, _, hS⟩ := h.row c F rfl
  have hix := fun w => index_of s p (p : Int) rfl hp w
  have hR := Lib.hid h
  have hl1 : ((F.length + 1 : Nat) : Int) - 1 = (F.length : Int) := by omega
  have hlb : F.length ≤ 1000000 := hl
  have d0 : decide ((F.length : Int) < 0) = false := decide_eq_false (by omega)
  have d1 : ((by8 s p : Int) != (c.toNat : Int)) = true := by rw [bne_iff_ne]; omega
  generalize by8 s p = x at *
  generalize F.length = n at *
  clear hl h hS hc
  generalize hz : ((n + 1 : Nat) : Int) = z at *
  go_enter Tryd.func23, Tryd.ntmps23
  go_wp2_with fail
  go_quiet (fail)
  have hR1 := hR.out.drewN nq
  go_wp2_with fail
  go_ret
  exact ⟨rfl, hR1⟩
set_option maxHeartbeats 1000000 in
set_option maxRecDepth 100000 in
theorem end_none (w0 : World) (b : Nat) (s : ByteArray) (p ex : Nat) (lv : Nat) (W : World) (h : Sr w0 b s p ex [] lv W) :
    Calls Tryd.prog 23 #[.pointer (some ⟨b, 0, none⟩)] W fun e w' => e = .returned (.bool false) ∧ Sr w0 b s p ex [] lv w' := by
  obtain ⟨ao, cap, c3⟩ := h.len3
  rw [List.length_nil] at c3
  have hR := Lib.hid h
  clear h
  go_enter Tryd.func23, Tryd.ntmps23
  go_wp2_with fail
  go_quiet (fail)
  have hR1 := hR.out.drewN nq
  go_wp2_with fail
  go_ret
  exact ⟨rfl, hR1⟩

/-! ### takeComma -/
set_option maxHeartbeats 1000000 in
set_option maxRecDepth 100000 in
theorem comma_yes (w0 : World) (b : Nat) (s : ByteArray) (p ex : Nat) (c : UInt8) (F : List UInt8) (lv : Nat) (W : World) (h : Sr w0 b s p ex (c :: F) lv W) (hp : p < s.size) (hs : s.size ≤ 1000000) (hl : F.length ≤ 1000000) (hc : by8 s p = 44) (q : Nat) (hq : q = if c.toNat = 125 then 3 else 0) :
    Calls Tryd.prog 25 #[.pointer (some ⟨b, 0, none⟩)] W fun e w' => e = .returned (.bool true) ∧ Sr w0 b s (p + 1) q (c :: F) lv w' := by
  have c0 := h.c0
  have c1 := h.c1
  obtain ⟨g, cap, c3, k0, k1, _, hS⟩ := h.row c F rfl
  have hix := fun w => index_of s p (p : Int) rfl hp w
  rw [hc] at hix
  have hR := Lib.hid h
  have hl1 : ((F.length + 1 : Nat) : Int) - 1 = (F.length : Int) := by omega
  have hlb : F.length ≤ 1000000 := hl
  have d0 : decide ((F.length : Int) < 0) = false := decide_eq_false (by omega)
  generalize hn : F.length = n at *
  have HN := Lib.hid hn
  have HQ := Lib.hid hq
  clear hn hl h hS hc k0 k1 hq
  generalize hz : ((n + 1 : Nat) : Int) = z at *
  go_enter Tryd.func25, Tryd.ntmps25
  go_wp2_with fail
  go_quiet (fail)
  have hR1 := hR.out.drewN nq
  generalize W.drewN nq = W1 at *
  have c1 := hR1.c1
  have c2 := hR1.c2
  have f1 := hR1.free 1
  have hR2 := hR1.set1 (p + 1)
  have f2 := hR2.free 2
  have hR3 := hR2.set2 0
  obtain ⟨g', cap', c3', k0, k1, hcap, _⟩ := hR3.row c F rfl
  rw [HN.out] at c3' hcap k0 k1
  push_cast at c3' hR2 hR3 f2 k0 k1
  have f22 := hR3.free 2
  push_cast at f22
  have hq := HQ.out
  clear HQ
  by_cases hc125 : c.toNat = 125
  · have HS := Lib.hid (hR3.set2 3)
    have c22 := hR3.c2
    push_cast at c22
    rw [hc125] at k0
    rw [if_pos hc125] at hq
    subst hq
    clear hR1 hR2 hR3 c3 hc125
    go_wp2_with fail
    go_ret
    exact ⟨rfl, HS.out⟩
  · have HS := Lib.hid hR3
    have hne : ((c.toNat : Int) == 125) = false := by rw [beq_eq_false_iff_ne]; omega
    rw [if_neg hc125] at hq
    subst hq
    clear hR1 hR2 hR3 c3 hc125
    go_wp2_with fail
    go_ret
    exact ⟨rfl, HS.out⟩
set_option maxHeartbeats 1000000 in
set_option maxRecDepth 100000 in
theorem comma_other (w0 : World) (b : Nat) (s : ByteArray) (p ex : Nat) (c : UInt8) (F : List UInt8) (lv : Nat) (W : World) (h : Sr w0 b s p ex (c :: F) lv W) (hp : p < s.size) (hl : F.length ≤ 1000000) (hc : by8 s p ≠ 44) :
    Calls Tryd.prog 25 #[.pointer (some ⟨b, 0, none⟩)] W fun e w' => e = .returned (.bool false) ∧ Sr w0 b s p ex (c :: F) lv w' := by
  have c0 := h.c0
  have c1 := h.c1
  obtain ⟨g, cap, c3, k0, k1, _, hS⟩ := h.row c F rfl
  have hix := fun w => index_of s p (p : Int) rfl hp w
  have hR := Lib.hid h
  have hl1 : ((F.length + 1 : Nat) : Int) - 1 = (F.length : Int) := by omega
  have hlb : F.length ≤ 1000000 := hl
  have d0 : decide ((F.length : Int) < 0) = false := decide_eq_false (by omega)
  have d1 : ((by8 s p : Int) != 44) = true := by rw [bne_iff_ne]; omega
  generalize by8 s p = x at *
  generalize F.length = n at *
  clear hl h hS hc k0 k1
  generalize hz : ((n + 1 : Nat) : Int) = z at *
  go_enter Tryd.func25, Tryd.ntmps25
  go_wp2_with fail
  go_quiet (fail)
  have hR1 := hR.out.drewN nq
  go_wp2_with fail
  go_ret
  exact ⟨rfl, hR1⟩
set_option maxHeartbeats 1000000 in
set_option maxRecDepth 100000 in
theorem comma_none (w0 : World) (b : Nat) (s : ByteArray) (p ex : Nat) (lv : Nat) (W : World) (h : Sr w0 b s p ex [] lv W) :
    Calls Tryd.prog 25 #[.pointer (some ⟨b, 0, none⟩)] W fun e w' => e = .returned (.bool false) ∧ Sr w0 b s p ex [] lv w' := by
  obtain ⟨ao, cap, c3⟩ := h.len3
  rw [List.length_nil] at c3
  have hR := Lib.hid h
  clear h
  go_enter Tryd.func25, Tryd.ntmps25
  go_wp2_with fail
  go_quiet (fail)
  have hR1 := hR.out.drewN nq
  go_wp2_with fail
  go_ret
  exact ⟨rfl, hR1⟩

/-! ### open -/
theorem run_pushK (W : World) (ty : TypeId) (B : Nat) (v : Value) (l : List UInt8) (hown : Own W B v l) (hB : B ≤ W.heap.size)
    (g m c : Nat) (cs : Array Value) (fr : Nat × Nat) (hblk : W.heap[g]? = some (.cells cs 5 fr)) (ns : List UInt8) (hm : ns.length = m) (hcs : cs.toList = byteCells ns) (hlim : l.length + m ≤ 140737488355328) :
    ∃ v' w', (Builtin.append_ #[34, 34] ty #[v, .slice (some ⟨g, 0, none⟩) m c]).run Tryd.prog W = .ok v' w' ∧ Own w' B v' (l ++ ns) ∧ W.grownBy w' v.ownBlock := by
  obtain ⟨i0, hi, hz0, hz1, hz2⟩ := info_parts info8
  subst hm
  have hnews : ∀ j u, (byteCells ns)[j]? = some u → W.cell? ((⟨g, 0, none⟩ : Addr).add j) = some u := by
    intro j u hj
    rw [← hcs] at hj
    have : ((⟨g, 0, none⟩ : Addr).add j) = ⟨g, j, none⟩ := add_at g j
    rw [this, World.cell?, hblk]
    simpa using hj
  obtain ⟨v', w', hr, h2, h3, _⟩ := run_append_own (P := Tryd.prog) W B 34 ty 5 i0 (.int .u8 0) 1 1 Tryd.underlying34 hi hz0 hz1 hz2 rfl (by omega) v l.length (byteCells l) hown
    ⟨g, 0, none⟩ ns.length c (byteCells ns) (by simp [byteCells]) hnews (Byt.byteCells_one ns) (by unfold maxLen; omega) (by omega) (by omega)
  refine ⟨v', w', hr, ?_, h3⟩
  unfold Own
  rw [List.length_append, byteCells_append]
  exact h2
section
variable {ops : Array Oper} {rest : List Oper} {o : Oper} {a : Act} {Q : Exit → Act → World → Prop}
theorem wpList_pushK (W : World) (hg : o.guard = none) (s x : Operand) (ho : o.op = .call { callee := .builtin .append, args := #[s, x], argTypes := #[34, 34] })
    (B : Nat) (v : Value) (l : List UInt8) (hs : a.eval s = v) (hown : Own W B v l) (hB : B ≤ W.heap.size)
    (g m c : Nat) (hx : a.eval x = .slice (some ⟨g, 0, none⟩) m c) (cs : Array Value) (fr : Nat × Nat) (hblk : W.heap[g]? = some (.cells cs 5 fr)) (ns : List UInt8) (hm : ns.length = m) (hcs : cs.toList = byteCells ns) (hlim : l.length + m ≤ 140737488355328)
    (h : ∀ v' w', Own w' B v' (l ++ ns) → W.grownBy w' v.ownBlock → wpList Tryd.prog ops Q rest (a.put o.dst v') w') : wpList Tryd.prog ops Q (o :: rest) a W := by
  obtain ⟨v', w', hr, h2, h3⟩ := run_pushK W o.type B v l hown hB g m c cs fr hblk ns hm hcs hlim
  refine wpList_plain hg fun K hK => ?_
  unfold Oper.wp execOp
  simp only [ho, resolve, invoke, builtin, Sem.run_bind, Sem.run_pure, Result.andThen_ok, List.map_toArray, List.map_cons, List.map_nil, hs, hx, hr]
  exact hK _ _ (h v' w' h2 h3)
end
/-- Behind 'r.ends = append(r.ends, c)'. -/
theorem Sr.grown {w0 W w' : World} {b : Nat} {s : ByteArray} {p ex lv : Nat} {E : List UInt8} {v v' : Value} {c : UInt8} (h : Sr w0 b s p ex E lv W) (hv : W.cell? ⟨b, 3, none⟩ = some v)
    (hgr : W.grownBy w' v.ownBlock) (ho : Own w' w0.heap.size v' (E.reverse ++ [c])) :
    ∃ ao cap, v' = .slice ao (E.length + 1) cap ∧ w'.cell? ⟨b, 3, none⟩ = some v ∧ w'.frozen? ⟨b, 3, none⟩ = false ∧ Sr w0 b s p ex (c :: E) lv (w'.setCell ⟨b, 3, none⟩ (.slice ao (E.length + 1) cap)) := by
  obtain ⟨h0, ao, cap, h1, h2, h3⟩ := h.rd
  have hlt := h1.lt
  obtain rfl : v = .slice ao E.length cap := by
    have := h1.c3.symm.trans hv
    injection this with this
    exact this.symm
  have hF : Fv w' b s p ex (.slice ao E.length cap) lv := (hgr.block b hlt (fun e => h3 e.symm)).trans h1
  obtain ⟨ao', cap', e⟩ := Own.form ho
  have hl : (E.reverse ++ [c]).length = E.length + 1 := by simp
  rw [hl] at e
  subst e
  have hne : (Value.slice ao' (E.length + 1) cap').ownBlock ≠ some b := Lib.ownBlock_ne ho hF (by decide)
  have hb : Below w0.heap.size w0 w' := h.bel.grown hgr h.bel.size (fun k hk => (World.ownsRow.lt h2 k hk).1)
  have e2 : E.reverse ++ [c] = (c :: E).reverse := by rw [List.reverse_cons]
  rw [e2] at ho
  exact ⟨ao', cap', rfl, hF.c3, hF.free 3, ⟨⟨h0, ao', cap', hF.put3 _, Own.aside ho hne _ _, hne⟩, below_put hb h0 _ _, h.env0⟩⟩
theorem new_set (W : World) (a : Addr) (u : Value) (cs : Array Value) (t : TypeId) : ((W.setCell a u).alloc (.cells cs t)).heap[W.heap.size]? = some (.cells cs t (0, 0)) := by
  have h := heap_alloc_new (W.setCell a u) (.cells cs t)
  rw [World.size_setCell] at h
  exact h
theorem max_run (x y : Nat) (w : World) : (Builtin.max_ #[3, 3] 3 #[.int .i64 (x : Int), .int .i64 (y : Int)]).run Tryd.prog w = .ok (.int .i64 ((max x y : Nat) : Int)) w := by
  rw [run_max_int2]
  congr 2
  split <;> omega
theorem byte_cell (c : UInt8) : (#[Value.int .u8 (c.toNat : Int)] : Array Value).toList = byteCells [c] := rfl
set_option maxHeartbeats 1000000 in
set_option maxRecDepth 100000 in
theorem open_any (w0 : World) (b : Nat) (s : ByteArray) (p ex : Nat) (E : List UInt8) (lv : Nat) (W : World) (h : Sr w0 b s p ex E lv W) (hp : p < s.size) (hs : s.size ≤ 1000000) (hl : E.length ≤ 1000000) (c : UInt8) (q : Nat) :
    Calls Tryd.prog 29 #[.pointer (some ⟨b, 0, none⟩), .int .u8 (c.toNat : Int), .int .i64 (q : Int)] W fun e w' => e = .returned (.bool true) ∧ Sr w0 b s (p + 1) q (c :: E) (max lv (E.length + 1)) w' := by
  have c1 := h.c1
  have f1 := h.free 1
  have hR1 := h.set1 (p + 1)
  push_cast at hR1
  obtain ⟨_, ao, cap, hF, hown, _⟩ := id hR1.rd
  have hA3 : ∀ o, ((W.setCell ⟨b, 1, none⟩ (.int .i64 ((p : Int) + 1))).alloc o).cell? ⟨b, 3, none⟩ = some (.slice ao E.length cap) := fun o => (((Below.refl _ _).alloc (Nat.le_refl _) o).cell (Lib.lt_of_cell hF.c3)).trans hF.c3
  have c3 := hF.c3
  have hHS := hR1.bel.size
  have hA := fun o => hR1.next ((Below.refl _ _).alloc (Nat.le_refl _) o)
  have HR := Lib.hid hR1
  clear hR1 h hF
  go_enter Tryd.func29, Tryd.ntmps29
  go_wp2_with (refine wpList_pushK _ rfl _ _ rfl w0.heap.size (.slice ao E.length cap) E.reverse rfl (hown.alloc _) (by rw [World.size_alloc]; omega) _ _ _ rfl _ _ (new_set _ _ _ _ _) [c] rfl (byte_cell c) (by rw [List.length_reverse]; omega) ?_; intro v2 w2 hown2 hgr; obtain ⟨ao', cap', rfl, c3', f3', hS⟩ := (hA _).grown (hA3 _) hgr hown2)
  generalize w2.setCell ⟨b, 3, none⟩ (.slice ao' (E.length + 1) cap') = w3 at *
  clear c3' f3' hown2 hgr hA hA3 hown c3 c1 f1
  have hl2 : (c :: E).length = E.length + 1 := rfl
  obtain ⟨a3, k3, c0, c1, c2, c3, c4, ff⟩ := hS.cells
  rw [hl2] at c3
  have f4 := ff 4
  have f2 := ff 2
  have hmx := fun w => max_run lv (E.length + 1) w
  have HS := Lib.hid (hS.drew.set4 (max lv (E.length + 1)))
  clear hS hl2 ff
  generalize hm : E.length + 1 = m at *
  generalize hM : max lv m = M at *
  have HM := Lib.hid (hm.symm ▸ hM)
  clear hm hM
  go_still_tail 13, (by kernel_rfl)
  change wpList _ _ _ _ _ w3.drew
  have c2 : w3.drew.cell? ⟨b, 2, none⟩ = some (.int .i64 (ex : Int)) := c2
  have c4 : w3.drew.cell? ⟨b, 4, none⟩ = some (.int .i64 (lv : Int)) := c4
  have f4 : w3.drew.frozen? ⟨b, 4, none⟩ = false := f4
  have f2 : w3.drew.frozen? ⟨b, 2, none⟩ = false := f2
  generalize w3.drew = w4 at *
  have f22 := HS.out.free 2
  have HS2 := Lib.hid (HS.out.set2 q)
  clear HS
  go_wp2_with fail
  go_ret
  exact ⟨rfl, by rw [HM.out]; exact HS2.out⟩
end Go.Proofs.YtggahjhjapnfeaaDoor.Gr
