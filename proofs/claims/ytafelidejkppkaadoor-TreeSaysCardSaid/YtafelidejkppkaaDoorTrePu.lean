/- append to a row of values, told with the block that holds it behind. Conditions: as each theorem states. -/
import Derived.Test.YtafelidejkppkaaDoorTreK
import Derived.Laws.OwnMore
namespace Go.Proofs.YtafelidejkppkaaDoor.Tre
open Go.RowKit Go.Lib Go.Proofs.YtafelidejkppkaaDoor.Byt

/-- Where a row lies behind an append: where it lay, or in the newest block. -/
theorem append_block (W : World) (t ty e : TypeId) (i : TypeInfo) (z : Value) (ht : Tryd.prog.underlying t = some (.slice e)) (hi : Tryd.prog.info? e = some i) (hz : i.zero = some z) (B : Nat) (v v' : Value) (w' : World) (n : Nat) (xs : List Value)
    (hown : W.ownsRow B e i.size v n xs) (a : Addr) (c : Nat) (news : List Value) (hl : news.length = 1 * i.size) (hnews : ∀ j u, news[j]? = some u → W.cell? (a.add j) = some u) (h1 : ∀ u ∈ news, u.oneCell' = true) (hbytes : (n + 1) * i.bytes ≤ 140737488355328) (h63 : n + 1 ≤ 9223372036854775807)
    (hr : (Builtin.append_ #[t, t] ty #[v, .slice (some a) 1 c]).run Tryd.prog W = .ok v' w') : ∀ b, v'.ownBlock = some b → v.ownBlock = some b ∨ b = W.heap.size := by
  intro b hb
  rcases hown.2 with ⟨rfl, rfl⟩ | ⟨g, cap, cur, rfl, hB, hg, hnc, hcm, hcs, htake⟩
  · have h2 := run_append_nil (P := Tryd.prog) (w := W) t ty e i z ht hi hz a 1 c news hl hnews (by omega) (by omega) (by omega)
    rw [h2] at hr
    injection hr with hr _
    subst hr
    right
    exact (Option.some.inj hb).symm
  · by_cases hroom : n + 1 ≤ cap
    · obtain ⟨w2, h2, _⟩ := run_append_fits (P := Tryd.prog) (w := W) B t ty e i i.size ht hi rfl g n cap xs hown a 1 c news hl hnews h1 hroom
      rw [h2] at hr
      injection hr with hr _
      subst hr
      exact .inl hb
    · have hcell : ∀ j u, xs[j]? = some u → W.cell? ((⟨g, 0, none⟩ : Addr).add j) = some u := by
        intro j u hj
        have hlt : j < xs.length := (List.getElem?_eq_some_iff.1 hj).1
        rw [hown.1] at hlt
        rw [Addr.add_mid, Nat.zero_add, World.ownsRow.cellAt hown j hlt, hj]
      have h2 := run_append_grow (P := Tryd.prog) (w := W) t ty e i z ht hi hz ⟨g, 0, none⟩ n cap xs hown.1 hcell a 1 c news hl hnews (by omega) (by omega) (Nat.le_trans (Nat.mul_le_mul_right _ (nextslicecap_le (by omega))) (by rw [Nat.mul_assoc]; omega))
      rw [h2] at hr
      injection hr with hr _
      subst hr
      right
      exact (Option.some.inj hb).symm

theorem flat_one (C : List (List Value)) (cs : List Value) : (C ++ [cs]).flatten = C.flatten ++ cs := by simp
/-- Behind 'append(l, x)' of a value: its cells lie in block g. -/
theorem run_vpush (W : World) (ty : TypeId) (B : Nat) (v : Value) (C : List (List Value)) (hown : OwnR W B v C) (hB : B ≤ W.heap.size)
    (g c : Nat) (cs : List Value) (hblk : Box W g cs.toArray) (h5 : cs.length = 5) (h1 : ∀ u ∈ cs, u.oneCell' = true) (hlim : (C.length + 1) * 80 ≤ 140737488355328) :
    ∃ v' w', (Builtin.append_ #[22, 22] ty #[v, .slice (some ⟨g, 0, none⟩) 1 c]).run Tryd.prog W = .ok v' w' ∧ OwnR w' B v' (C ++ [cs]) ∧ W.grownBy w' v.ownBlock ∧ ∀ b, v'.ownBlock = some b → v.ownBlock = some b ∨ b = W.heap.size := by
  obtain ⟨i0, hi, hz0, hz1, hz2⟩ := info_parts info80
  have hnews : ∀ j u, cs[j]? = some u → W.cell? ((⟨g, 0, none⟩ : Addr).add j) = some u := by
    intro j u hj
    rw [Addr.add_mid, Nat.zero_add, hblk.cell j]
    simpa using hj
  obtain ⟨v', w', hr, h2, h3, _⟩ := run_append_own (P := Tryd.prog) W B 22 ty 25 i0 _ 5 80 Tryd.underlying22 hi hz0 hz1 hz2 rfl (by omega) v C.length C.flatten hown.2
    ⟨g, 0, none⟩ 1 c cs (by rw [h5]) hnews h1 (by unfold maxLen; omega) (by omega) hB
  refine ⟨v', w', hr, ⟨fun x hx => ?_, ?_⟩, h3, ?_⟩
  · rcases List.mem_append.1 hx with hx | hx
    · exact hown.1 x hx
    · rw [List.mem_singleton.1 hx]; exact h5
  · rw [List.length_append, flat_one]
    exact h2
  · exact append_block W _ ty _ i0 _ Tryd.underlying22 hi hz0 B v v' w' C.length C.flatten (by rw [hz1]; exact hown.2) ⟨g, 0, none⟩ c cs (by rw [hz1, h5]) hnews h1 (by rw [hz2]; omega) (by omega) hr
/-- The same for names. -/
theorem run_npush (W : World) (ty : TypeId) (B : Nat) (v : Value) (l : List ByteArray) (hown : Strs.Own W B v l) (hB : B ≤ W.heap.size)
    (g c : Nat) (s : ByteArray) (fr : Nat × Nat) (hblk : W.heap[g]? = some (.cells #[.string s] 9 fr)) (hlim : (l.length + 1) * 16 ≤ 140737488355328) :
    ∃ v' w', (Builtin.append_ #[23, 23] ty #[v, .slice (some ⟨g, 0, none⟩) 1 c]).run Tryd.prog W = .ok v' w' ∧ Strs.Own w' B v' (l ++ [s]) ∧ W.grownBy w' v.ownBlock ∧ ∀ b, v'.ownBlock = some b → v.ownBlock = some b ∨ b = W.heap.size := by
  obtain ⟨i0, hi, hz0, hz1, hz2⟩ := info_parts Strs.info16
  have hnews : ∀ j u, ([.string s] : List Value)[j]? = some u → W.cell? ((⟨g, 0, none⟩ : Addr).add j) = some u := by
    intro j u hj
    rw [Addr.add_mid, Nat.zero_add, World.cell?, hblk]
    simpa using hj
  have h1 : ∀ u ∈ ([.string s] : List Value), u.oneCell' = true := by
    intro u hu
    rw [List.mem_singleton.1 hu]; rfl
  obtain ⟨v', w', hr, h2, h3, _⟩ := run_append_own (P := Tryd.prog) W B 23 ty 9 i0 (.string ⟨#[]⟩) 1 16 Tryd.underlying23 hi hz0 hz1 hz2 rfl (by omega) v l.length (l.map (Value.string)) hown
    ⟨g, 0, none⟩ 1 c [.string s] rfl hnews h1 (by unfold maxLen; omega) (by omega) hB
  refine ⟨v', w', hr, ?_, h3, ?_⟩
  · unfold Strs.Own
    rw [List.length_append, List.map_append]
    exact h2
  · exact append_block W _ ty _ i0 _ Tryd.underlying23 hi hz0 B v v' w' l.length (l.map (Value.string)) (by rw [hz1]; exact hown) ⟨g, 0, none⟩ c [.string s] (by rw [hz1]; rfl) hnews h1 (by rw [hz2]; omega) (by omega) hr
section
variable {ops : Array Oper} {o : Oper} {a : Act} {Q : Exit → Act → World → Prop} {K : Act → World → Prop} {E : Prop}
/-- One step of a region that draws. -/
theorem step_vpush (W : World) (hg : o.guard = none) (s x : Operand) (ho : o.op = .call { callee := .builtin .append, args := #[s, x], argTypes := #[22, 22] })
    (B : Nat) (v : Value) (C : List (List Value)) (hs : a.eval s = v) (hown : OwnR W B v C) (hB : B ≤ W.heap.size)
    (g c : Nat) (hx : a.eval x = .slice (some ⟨g, 0, none⟩) 1 c) (cs : List Value) (hblk : Box W g cs.toArray) (h5 : cs.length = 5) (h1 : ∀ u ∈ cs, u.oneCell' = true) (hlim : (C.length + 1) * 80 ≤ 140737488355328)
    (h : ∀ v' w', OwnR w' B v' (C ++ [cs]) → W.grownBy w' v.ownBlock → (∀ b, v'.ownBlock = some b → v.ownBlock = some b ∨ b = W.heap.size) → K (a.put o.dst v') w') : if Region.wanted o (yielded ops a.tmps) = true then Oper.wp Tryd.prog o a W K Q else E := by
  obtain ⟨v', w', hr, h2, h3, h4⟩ := run_vpush W o.type B v C hown hB g c cs hblk h5 h1 hlim
  have hw : Region.wanted o (yielded ops a.tmps) = true := by simp [Region.wanted, hg]
  rw [if_pos hw]
  unfold Oper.wp execOp
  simp only [ho, resolve, invoke, builtin, Sem.run_bind, Sem.run_pure, Result.andThen_ok, List.map_toArray, List.map_cons, List.map_nil, hs, hx, hr]
  exact h v' w' h2 h3 h4
theorem step_npush (W : World) (hg : o.guard = none) (s x : Operand) (ho : o.op = .call { callee := .builtin .append, args := #[s, x], argTypes := #[23, 23] })
    (B : Nat) (v : Value) (l : List ByteArray) (hs : a.eval s = v) (hown : Strs.Own W B v l) (hB : B ≤ W.heap.size)
    (g c : Nat) (hx : a.eval x = .slice (some ⟨g, 0, none⟩) 1 c) (t : ByteArray) (fr : Nat × Nat) (hblk : W.heap[g]? = some (.cells #[.string t] 9 fr)) (hlim : (l.length + 1) * 16 ≤ 140737488355328)
    (h : ∀ v' w', Strs.Own w' B v' (l ++ [t]) → W.grownBy w' v.ownBlock → (∀ b, v'.ownBlock = some b → v.ownBlock = some b ∨ b = W.heap.size) → K (a.put o.dst v') w') : if Region.wanted o (yielded ops a.tmps) = true then Oper.wp Tryd.prog o a W K Q else E := by
  obtain ⟨v', w', hr, h2, h3, h4⟩ := run_npush W o.type B v l hown hB g c t fr hblk hlim
  have hw : Region.wanted o (yielded ops a.tmps) = true := by simp [Region.wanted, hg]
  rw [if_pos hw]
  unfold Oper.wp execOp
  simp only [ho, resolve, invoke, builtin, Sem.run_bind, Sem.run_pure, Result.andThen_ok, List.map_toArray, List.map_cons, List.map_nil, hs, hx, hr]
  exact h v' w' h2 h3 h4
end
end Go.Proofs.YtafelidejkppkaaDoor.Tre
