/- Texts of my own, packed: JsnX, JsnY, JsnLn. Conditions: as each theorem states. -/
import Derived.StillTailTactics
import Derived.Test.YtehkiojohldlgaaGreatDoorK05
import Derived.Test.YtehkiojohldlgaaGreatDoorK14
import Derived.Test.YtehkiojohldlgaaGreatDoorK23
import Derived.Test.YtehkiojohldlgaaGreatDoorK30
import Derived.Test.YtehkiojohldlgaaGreatDoorK33
import Derived.Test.YtehkiojohldlgaaGreatDoorK38
namespace Go.Proofs.YtehkiojohldlgaaGreatDoor.Jsn
open Go.RowKit Go.Lib Go.Maps Go.WideMaps
open Go.Proofs.YtehkiojohldlgaaGreatDoor.Tre (Vt V0 find OkT OkT_iff InV InV_iff InV_next InS_one Box box_new wpList_keep wpList_fetch)
open Go.Proofs.YtehkiojohldlgaaGreatDoor.Sn (Seen hasB seen_made run_makeHint keyS)

/-! ### a map of names -/
theorem seen_put {w : World} {b n : Nat} {L : List ByteArray} (h : Seen w b n L) (s : ByteArray) (hs : s.size ≤ maxLen) (hn : n < maxLen) :
    ∃ w', (Instr.mapUpdate 90 (.map (some b)) (.string s) (.bool true)).run Tryz.prog w = .ok () w' ∧ Seen w' b (n + 1) (L ++ [s]) ∧ Ch (fun x => x = b) w w' := by
  obtain ⟨D, h1, h2⟩ := h
  obtain ⟨w', hr, h3, h4⟩ := h1.update keyS Tryz.underlying90 hn (keyOf_string_mk Tryz.underlying9 (s := s) hs) (plainElem_bool Tryz.underlying4 true)
  refine ⟨w', hr, ⟨_, h3, fun t => ?_⟩, ⟨h4.os, h4.tape, h4.output, h4.size, fun k hk hkb => h4.block k hk (by intro q; injection q with q; exact hkb q)⟩⟩
  by_cases hts : t = s
  · subst hts
    rw [atKey_put_same h1.isMap (by trivial), Sn.hasB_app]
    simp
  · have hne : Lit.string t.data.toList ≠ Lit.string s.data.toList := by
      intro q
      injection q with q
      exact hts (ByteArray.ext (Array.toList_inj.1 q))
    rw [atKey_put_other hne, h2 t, Sn.hasB_app, decide_eq_false (fun q => hts q.symm), Bool.or_false]
theorem wpList_seen {ops : Array Oper} {rest : List Oper} {o : Oper} {a : Act} {Q : Exit → Act → World → Prop} (W : World) (hg : o.guard = none) (m x v : Operand) (hop : o.op = .mapUpdate 90 m x v) (b n : Nat) (L : List ByteArray)
    (hm : a.eval m = .map (some b)) (s : ByteArray) (hx : a.eval x = .string s) (hv : a.eval v = .bool true) (hS : Seen W b n L) (hs : s.size ≤ maxLen) (hn : n < maxLen)
    (hK : ∀ w', Seen w' b (n + 1) (L ++ [s]) → Ch (fun x => x = b) W w' → wpList Tryz.prog ops Q rest (a.put o.dst undef) w') : wpList Tryz.prog ops Q (o :: rest) a W := by
  refine wpList_plain hg fun K' hK' => ?_
  obtain ⟨w', hrun, r1, r2⟩ := seen_put hS s hs hn
  unfold Oper.wp
  simp [execOp, hop, hm, hx, hv, hrun, Result.andThen]
  exact hK' _ _ (hK w' r1 r2)
/-- A function that knows those names: a closure over a variable that holds a map of them. -/
structure Kn (names : List ByteArray) (g : Nat) (W : World) : Prop where
  ex : ∃ b n, W.cell? ⟨g, 0, none⟩ = some (.map (some b)) ∧ Seen W b n names
theorem cell_below {W W' : World} {g j : Nat} {v : Value} (h : W.cell? ⟨g, j, none⟩ = some v) (hb : Below W.heap.size W W') : W'.cell? ⟨g, j, none⟩ = some v := (hb.cell (Strs.cell_lt h)).trans h
theorem Kn.next {names : List ByteArray} {g : Nat} {W W' : World} (h : Kn names g W) (hb : Below W.heap.size W W') : Kn names g W' := by
  obtain ⟨b, n, h1, h2⟩ := h.ex
  exact ⟨b, n, cell_below h1 hb, h2.next hb⟩
theorem isin_has (names : List ByteArray) (s : ByteArray) : hasB names s = isin names s := rfl
set_option maxHeartbeats 4000000 in
theorem among1_any (names : List ByteArray) (s : ByteArray) (hs : s.size ≤ 140737488351232) (g : Nat) (W : World) (h : Kn names g W) :
    Calls Tryz.prog 65 #[.string s, .pointer (some ⟨g, 0, none⟩)] W fun e w' => e = .returned (.bool (isin names s)) ∧ W = w' := by
  obtain ⟨b, n, h1, h2⟩ := h.ex
  have hlook := h2.look s hs
  rw [isin_has] at hlook
  clear h h2 hs
  generalize isin names s = y at *
  go_enter Tryz.func65, Tryz.ntmps65
  go_wp2_with fail
  go_ret
  exact ⟨rfl, rfl⟩
/-! ### a member -/
theorem zero_kept {w1 w2 : World} {g : Nat} {o : Obj} (h : Box w1 g Tre.zeroC.toArray) (k : w2.heap[g]? = (w1.alloc o).heap[g]?) : Box w2 g Tre.zeroC.toArray := k.trans ((Below.heap_alloc _ _ _ h.lt).trans h)
/-- What a function hands back whose first result of two is a value in memory. -/
theorem results_val2 {fn : Func} {p t : Tmp} (h : fn.results = #[.cell p 26, .tmp t]) (tmps : Array Value) (w : World) (g : Nat) (cs : Array Value)
    (hp : tmps.getD p undef = .pointer (some ⟨g, 0, none⟩)) (hk : Box w g cs) (h5 : cs.size = 5) : (results fn tmps).run Tryz.prog w = .ok (.tuple #[.agg cs, tmps.getD t undef]) w := by
  have hl := run_loadVar_row (P := Tryz.prog) w g _ 26 cs _ _ hk Tryz.underlying26 rfl (by rw [Tre.infoV, h5])
  have hp' : tmps[p]?.getD undef = .pointer (some ⟨g, 0, none⟩) := by simpa using hp
  simp [results, h, hp', asAddr, hl]
theorem two_old (w : World) (cs : Array Value) (o : Obj) : Box ((w.alloc (.cells cs 26)).alloc o) w.heap.size cs := by
  have h0 := box_new w cs
  exact h0.next ((Below.refl _ _).alloc (Nat.le_refl _) _) h0.lt
theorem two_zero (w : World) (o : Obj) (cs : Array Value) : Box ((w.alloc o).alloc (.cells cs 26)) (w.heap.size + 1) cs := by
  have h0 := box_new (w.alloc o) cs
  rw [World.size_alloc] at h0
  exact h0
set_option maxHeartbeats 4000000 in
set_option maxRecDepth 100000 in
theorem member_any (v : Vt) (hv : OkT v) (s : ByteArray) (k : Int) (cs : List Value) (w : World) (h : InV w v cs) :
    Calls Tryz.prog 38 #[.agg cs.toArray, .string s, .int .i64 k] w fun e w' => ∃ c3 c4, e = .returned (.tuple #[.agg #[.int .i64 (mb v s k).1.k, .int .i64 (mb v s k).1.n, .string (mb v s k).1.s, c3, c4], .int .i64 (mb v s k).2]) ∧ (∀ u ∈ [.int .i64 (mb v s k).1.k, .int .i64 (mb v s k).1.n, .string (mb v s k).1.s, c3, c4], u.oneCell' = true) ∧ Below w.heap.size w w' := by
  have HF := Lib.hid fun cs W (h : InV W v cs) => Tre.pfind v hv s cs W h
  obtain ⟨a, cap, c4, rfl, hit, hr⟩ := (InV_iff w v cs).1 h
  obtain ⟨a2, cap2, rfl, -⟩ := hr.open_
  have HI := Lib.hid fun W (hb : Below w.heap.size w W) => InV_next hb v _ h
  have hA := Lib.hid fun o o2 => (((Below.refl w.heap.size w).alloc (Nat.le_refl _) o).alloc (by simp) o2 : Below w.heap.size w ((w.alloc o).alloc o2))
  have HX := Lib.hid fun o2 => two_old w #[.int .i64 v.k, .int .i64 v.n, .string v.s, .slice a v.l.length cap, .slice a2 v.ns.length cap2] o2
  have HZ := Lib.hid fun o => (show Box ((w.alloc o).alloc (.cells Tre.zeroC.toArray 26)) (w.heap.size + 1) Tre.zeroC.toArray from two_zero w o _)
  have HN := Lib.hid (@mb_none v s k)
  have HS := Lib.hid fun x => @mb_some v x s k
  generalize mb v s k = y at *
  generalize find v s = f at *
  generalize v.k = vk at *
  generalize v.n = vn at *
  generalize v.s = vs at *
  generalize v.l.length = vl at *
  generalize v.ns.length = vm at *
  clear h hit hr hv
  cases f with
  | none =>
    obtain rfl := HN.out rfl
    go_enter Tryz.func38, Tryz.ntmps38
    go_wp2_with (first
      | (refine wpList_fetch _ rfl _ rfl w.heap.size _ rfl (HX.out _) rfl ?_)
      | (go_at_call 77; (with_reducible refine (HF.out _ _ (HI.out _ (hA.out _ _))).mono ?_); rintro e w1 ⟨ds, rfl, hi1, hb1⟩; have e1 := Lib.hid (InS_one hi1); obtain ⟨a', cap', c4', rfl, -, hr'⟩ := (InV_iff _ _ _).1 hi1; obtain ⟨a2', cap2', rfl, -⟩ := hr'.open_; have B1 := Lib.hid ((hA.out _ _).trans (hb1.mono (by simp; omega))); have Z1 := Lib.hid ((HZ.out _).next hb1 (by simp)); have L1 : w.heap.size + 1 < w1.heap.size := Z1.out.lt; clear hi1 hb1 hr')
      | (refine wpList_keep _ rfl _ _ rfl w.heap.size w (B1.out.alloc B1.out.size _) w1.heap.size B1.out.size _ _ rfl rfl (box_new _ _) rfl rfl (by simpa using e1.out) ?_; intro w2 hk2 hb2 ho2 hs2; have Z2 := Lib.hid (zero_kept Z1.out (ho2 _ (Nat.ne_of_lt L1))); have K2 := Lib.hid hk2; have B2 := Lib.hid hb2; clear hs2 ho2 hb2)
      | (refine wpList_keep _ rfl _ _ rfl w.heap.size w B2.out (w.heap.size + 1) (Nat.le_succ _) Tre.zeroC.toArray _ rfl rfl Z2.out rfl rfl (by intro u hu; simp only [Tre.zeroC, List.mem_cons, List.not_mem_nil, or_false] at hu; rcases hu with rfl | rfl | rfl | rfl | rfl <;> rfl) ?_; intro w9 bx9 hb9 hk9 hs9; clear hs9))
    refine bodyPost_ret (results_val2 rfl _ _ _ _ rfl bx9 rfl) rfl ?_
    exact ⟨_, _, rfl, (by intro u hu; simp only [V0, List.mem_cons, List.not_mem_nil, or_false] at hu; rcases hu with rfl | rfl | rfl | rfl | rfl <;> rfl), hb9⟩
  | some x =>
    have hy := HS.out x rfl
    by_cases hk : x.k = k
    · rw [if_pos hk] at hy
      subst hy
      have heq : (x.k != k) = false := by simp [hk]
      clear hk HS HN
      go_enter Tryz.func38, Tryz.ntmps38
      go_wp2_with (first
        | (refine wpList_fetch _ rfl _ rfl w.heap.size _ rfl (HX.out _) rfl ?_)
        | (go_at_call 77; (with_reducible refine (HF.out _ _ (HI.out _ (hA.out _ _))).mono ?_); rintro e w1 ⟨ds, rfl, hi1, hb1⟩; have e1 := Lib.hid (InS_one hi1); obtain ⟨a', cap', c4', rfl, -, hr'⟩ := (InV_iff _ _ _).1 hi1; obtain ⟨a2', cap2', rfl, -⟩ := hr'.open_; have B1 := Lib.hid ((hA.out _ _).trans (hb1.mono (by simp; omega))); have Z1 := Lib.hid ((HZ.out _).next hb1 (by simp)); have L1 : w.heap.size + 1 < w1.heap.size := Z1.out.lt; clear hi1 hb1 hr')
        | (refine wpList_keep _ rfl _ _ rfl w.heap.size w (B1.out.alloc B1.out.size _) w1.heap.size B1.out.size _ _ rfl rfl (box_new _ _) rfl rfl (by simpa using e1.out) ?_; intro w2 hk2 hb2 ho2 hs2; have Z2 := Lib.hid (zero_kept Z1.out (ho2 _ (Nat.ne_of_lt L1))); have K2 := Lib.hid hk2; have B2 := Lib.hid hb2; have c0 : w2.cell? ⟨w1.heap.size, 0, none⟩ = some (.int .i64 x.k) := hk2.cell 0; clear hs2 ho2 hb2)
        | (refine wpList_fetch _ rfl _ rfl w1.heap.size _ rfl K2.out rfl ?_)
        | (refine wpList_keep _ rfl _ _ rfl w.heap.size w B2.out (w.heap.size + 1) (Nat.le_succ _) _ _ rfl rfl Z2.out rfl rfl (by simpa using e1.out) ?_; intro w9 bx9 hb9 hk9 hs9; clear hs9))
      refine bodyPost_ret (results_val2 rfl _ _ _ _ rfl bx9 rfl) rfl ?_
      exact ⟨_, _, rfl, (by simpa using e1.out), hb9⟩
    · rw [if_neg hk] at hy
      subst hy
      have hne : (x.k != k) = true := by simpa using hk
      clear hk HS HN
      go_enter Tryz.func38, Tryz.ntmps38
      go_wp2_with (first
        | (refine wpList_fetch _ rfl _ rfl w.heap.size _ rfl (HX.out _) rfl ?_)
        | (go_at_call 77; (with_reducible refine (HF.out _ _ (HI.out _ (hA.out _ _))).mono ?_); rintro e w1 ⟨ds, rfl, hi1, hb1⟩; have e1 := Lib.hid (InS_one hi1); obtain ⟨a', cap', c4', rfl, -, hr'⟩ := (InV_iff _ _ _).1 hi1; obtain ⟨a2', cap2', rfl, -⟩ := hr'.open_; have B1 := Lib.hid ((hA.out _ _).trans (hb1.mono (by simp; omega))); have Z1 := Lib.hid ((HZ.out _).next hb1 (by simp)); have L1 : w.heap.size + 1 < w1.heap.size := Z1.out.lt; clear hi1 hb1 hr')
        | (refine wpList_keep _ rfl _ _ rfl w.heap.size w (B1.out.alloc B1.out.size _) w1.heap.size B1.out.size _ _ rfl rfl (box_new _ _) rfl rfl (by simpa using e1.out) ?_; intro w2 hk2 hb2 ho2 hs2; have Z2 := Lib.hid (zero_kept Z1.out (ho2 _ (Nat.ne_of_lt L1))); have K2 := Lib.hid hk2; have B2 := Lib.hid hb2; have c0 : w2.cell? ⟨w1.heap.size, 0, none⟩ = some (.int .i64 x.k) := hk2.cell 0; clear hs2 ho2 hb2)
        | (refine wpList_keep _ rfl _ _ rfl w.heap.size w B2.out (w.heap.size + 1) (Nat.le_succ _) Tre.zeroC.toArray _ rfl rfl Z2.out rfl rfl (by intro u hu; simp only [Tre.zeroC, List.mem_cons, List.not_mem_nil, or_false] at hu; rcases hu with rfl | rfl | rfl | rfl | rfl <;> rfl) ?_; intro w9 bx9 hb9 hk9 hs9; clear hs9))
      refine bodyPost_ret (results_val2 rfl _ _ _ _ rfl bx9 rfl) rfl ?_
      exact ⟨_, _, rfl, (by intro u hu; simp only [V0, List.mem_cons, List.not_mem_nil, or_false] at hu; rcases hu with rfl | rfl | rfl | rfl | rfl <;> rfl), hb9⟩
set_option maxHeartbeats 4000000 in
set_option maxRecDepth 100000 in
theorem text_any (v : Vt) (hv : OkT v) (s : ByteArray) (cs : List Value) (w : World) (h : InV w v cs) :
    Calls Tryz.prog 16 #[.agg cs.toArray, .string s] w fun e w' => e = .returned (.tuple #[.string (tx v s).1, .int .i64 (tx v s).2]) ∧ Below w.heap.size w w' := by
  have HF := Lib.hid fun cs W (h : InV W v cs) => member_any v hv s 3 cs W h
  have hsz := tx_size hv s
  rw [tx_mb] at hsz ⊢
  obtain ⟨a, cap, c4, rfl, hit, hr⟩ := (InV_iff w v cs).1 h
  obtain ⟨a2, cap2, rfl, -⟩ := hr.open_
  have HI := Lib.hid fun W (hb : Below w.heap.size w W) => InV_next hb v _ h
  have hA := Lib.hid fun o => (Below.refl w.heap.size w).alloc (Nat.le_refl _) o
  generalize mb v s 3 = y at *
  generalize v.k = vk at *
  generalize v.n = vn at *
  generalize v.s = vs at *
  generalize v.l.length = vl at *
  generalize v.ns.length = vm at *
  clear h hit hr hv
  obtain ⟨x, E⟩ := y
  dsimp only at HF hsz ⊢
  have HCL := Lib.hid fun W => Rou.clone_str x.s W (Nat.le_trans hsz (by decide))
  clear hsz
  go_enter Tryz.func16, Tryz.ntmps16
  go_wp2_with (first
    | (refine wpList_fetch _ rfl _ rfl _ _ rfl (box_new _ _) rfl ?_)
    | (go_at_call 38; (with_reducible refine (HF.out _ _ (HI.out _ (hA.out _))).mono ?_); rintro e w1 ⟨d3, d4, rfl, he1, hb1⟩; have e1 := Lib.hid he1; have B1 := Lib.hid ((hA.out _).trans (hb1.mono (by simp))); clear hb1 he1)
    | (refine wpList_keep _ rfl _ _ rfl w.heap.size w (B1.out.alloc B1.out.size _) w1.heap.size B1.out.size _ _ rfl rfl (box_new _ _) rfl rfl (by simpa using e1.out) ?_; intro w2 hk2 hb2 ho2 hs2; have B2 := Lib.hid hb2; have c2 : w2.cell? ⟨w1.heap.size, 2, none⟩ = some (.string x.s) := hk2.cell 2; clear hs2 ho2 hb2)
    | (go_at_call 39; (with_reducible refine (HCL.out _).mono ?_); rintro e w3 ⟨rfl, hb3⟩))
  go_ret2
  exact ⟨rfl, B2.out.trans (hb3.mono B2.out.size)⟩
set_option maxHeartbeats 4000000 in
set_option maxRecDepth 100000 in
theorem number_any (v : Vt) (hv : OkT v) (s : ByteArray) (cs : List Value) (w : World) (h : InV w v cs) :
    Calls Tryz.prog 18 #[.agg cs.toArray, .string s] w fun e w' => e = .returned (.tuple #[.int .i64 (nu v s).1, .int .i64 (nu v s).2]) ∧ Below w.heap.size w w' := by
  have HF := Lib.hid fun cs W (h : InV W v cs) => member_any v hv s 2 cs W h
  rw [nu_mb]
  obtain ⟨a, cap, c4, rfl, hit, hr⟩ := (InV_iff w v cs).1 h
  obtain ⟨a2, cap2, rfl, -⟩ := hr.open_
  have HI := Lib.hid fun W (hb : Below w.heap.size w W) => InV_next hb v _ h
  have hA := Lib.hid fun o => (Below.refl w.heap.size w).alloc (Nat.le_refl _) o
  generalize mb v s 2 = y at *
  generalize v.k = vk at *
  generalize v.n = vn at *
  generalize v.s = vs at *
  generalize v.l.length = vl at *
  generalize v.ns.length = vm at *
  clear h hit hr hv
  obtain ⟨x, E⟩ := y
  dsimp only at HF ⊢
  go_enter Tryz.func18, Tryz.ntmps18
  go_wp2_with (first
    | (refine wpList_fetch _ rfl _ rfl _ _ rfl (box_new _ _) rfl ?_)
    | (go_at_call 38; (with_reducible refine (HF.out _ _ (HI.out _ (hA.out _))).mono ?_); rintro e w1 ⟨d3, d4, rfl, he1, hb1⟩; have e1 := Lib.hid he1; have B1 := Lib.hid ((hA.out _).trans (hb1.mono (by simp))); clear hb1 he1)
    | (refine wpList_keep _ rfl _ _ rfl w.heap.size w (B1.out.alloc B1.out.size _) w1.heap.size B1.out.size _ _ rfl rfl (box_new _ _) rfl rfl (by simpa using e1.out) ?_; intro w2 hk2 hb2 ho2 hs2; have B2 := Lib.hid hb2; have c2 : w2.cell? ⟨w1.heap.size, 1, none⟩ = some (.int .i64 x.n) := hk2.cell 1; clear hs2 ho2 hb2))
  go_ret2
  exact ⟨rfl, B2.out⟩
/-! ### names that are known -/
theorem names_take (names : List ByteArray) {j : Nat} (h : j < names.length) : names.take (j + 1) = names.take j ++ [names.getD j ⟨#[]⟩] := by
  rw [List.take_add_one, List.getElem?_eq_getElem h, List.getD_eq_getElem?_getD, List.getElem?_eq_getElem h]; rfl
theorem among_start (w : World) (y : Value) :
    (((w.alloc (.map #[] 0)).alloc (.cells #[y] 90)).cell? ⟨w.heap.size + 1, 0, none⟩ = some y) ∧ Seen ((w.alloc (.map #[] 0)).alloc (.cells #[y] 90)) w.heap.size 0 []
      ∧ Below w.heap.size w ((w.alloc (.map #[] 0)).alloc (.cells #[y] 90)) := by
  have hn : ((w.alloc (.map #[] 0)).alloc (.cells #[y] 90)).heap[w.heap.size + 1]? = some (.cells #[y] 90 (0, 0)) := by
    have := heap_alloc_new (w.alloc (.map #[] 0)) (.cells #[y] 90)
    rw [World.size_alloc] at this
    exact this
  refine ⟨by rw [Lib.cell_of_heap hn]; rfl, (seen_made w).next ((Below.refl _ _).alloc (Nat.le_refl _) _), ((Below.refl _ _).alloc (Nat.le_refl _) _).alloc (by simp) _⟩
set_option maxHeartbeats 4000000 in
set_option maxRecDepth 100000 in
theorem among_any (names : List ByteArray) (nv : Value) (w : World) (hn : Strs.Row w nv names) (hm : names.length ≤ 9223372036854775807) (hz : ∀ n ∈ names, n.size ≤ maxLen) :
    Calls Tryz.prog 31 #[nv] w fun e w' => ∃ g, e = .returned (.func (.func 65) #[] #[.pointer (some ⟨g, 0, none⟩)]) ∧ Kn names g w' ∧ Below w.heap.size w w' := by
  obtain ⟨a, cap, rfl, hs⟩ := hn.open_
  have HS := Lib.hid hs
  have HZ := Lib.hid hz
  have hmk := run_makeHint (names.length : Int)
  have HT := Lib.hid fun j => @names_take names j
  have HST := Lib.hid fun y => among_start w y
  have HL := Lib.hid (show names.length ≤ maxLen by unfold maxLen; omega)
  have HTL : names.take names.length = names := List.take_length
  clear hs hz hn
  go_enter Tryz.func31, Tryz.ntmps31
  go_wp2_with fail
  go_loopw [11] (fun i wr => ∃ m : Nat, i = .int .i64 (m : Int) ∧ m ≤ names.length ∧ Hid (wr.cell? ⟨w.heap.size + 1, 0, none⟩ = some (.map (some w.heap.size))) ∧ Hid (Seen wr w.heap.size m (names.take m)) ∧ Hid (Below w.heap.size w wr)) (fun i _ => names.length - (RowKit.intOf i).toNat)
  case atStart => exact ⟨0, rfl, Nat.zero_le _, Lib.hid (HST.out _).1, Lib.hid (HST.out _).2.1, Lib.hid (HST.out _).2.2⟩
  case round =>
    clear HST
    obtain ⟨m, rfl, hk, HC, HSe, HB⟩ := hrel
    have cM := HC.out
    by_cases hlt : m < names.length
    · obtain ⟨b, off, rfl, hc⟩ := HS.out m hlt
      have c := (HB.out.cell (Strs.cell_lt hc)).trans hc
      have HT2 := Lib.hid (HT.out m hlt)
      have hzz : (names.getD m ⟨#[]⟩).size ≤ maxLen := by
        rw [List.getD_eq_getElem?_getD, List.getElem?_eq_getElem hlt]
        exact HZ.out _ (List.getElem_mem hlt)
      clear hc
      generalize names.getD m ⟨#[]⟩ = s at *
      go_wp2_with (first
        | (refine wpList_seen _ rfl _ _ _ rfl w.heap.size m (names.take m) rfl s rfl rfl HSe.out hzz (Nat.lt_of_lt_of_le hlt HL.out) ?_; intro w2 hs2 hc2))
      go_roundw
      case rel =>
        refine ⟨m + 1, by go_num, by omega, Lib.hid ?_, Lib.hid (by rw [HT2.out]; exact hs2), Lib.hid (HB.out.trans (hc2.below (fun b q => Nat.le_of_eq q.symm) HB.out.size))⟩
        have hlt2 := Strs.cell_lt HC.out
        have e := hc2.block (w.heap.size + 1) hlt2 (by omega)
        rw [← HC.out]
        simp [World.cell?, e]
      case measure => simp [RowKit.intOf]; omega
    · obtain rfl : m = names.length := by omega
      go_wp2_with fail
      go_ret
      refine ⟨_, rfl, ⟨⟨w.heap.size, names.length, HC.out, ?_⟩⟩, HB.out⟩
      have := HSe.out
      rw [HTL] at this
      exact this
theorem unk_name {ns names : List ByteArray} {s : ByteArray} (h : unk ns names = some s) : s ∈ ns := List.mem_of_find?_eq_some h
set_option maxHeartbeats 4000000 in
set_option maxRecDepth 100000 in
theorem allknown_any (v : Vt) (hv : OkT v) (names : List ByteArray) (cs : List Value) (g : Nat) (w : World) (h : InV w v cs) (hK : Kn names g w) :
    Calls Tryz.prog 41 #[.agg cs.toArray, .func (.func 65) #[] #[.pointer (some ⟨g, 0, none⟩)]] w fun e w' => e = .returned (.tuple #[.string ((unk v.ns names).getD ⟨#[]⟩), .bool (unk v.ns names).isNone]) ∧ Below w.heap.size w w' := by
  have hok := ((OkT_iff v).1 hv).1
  have hl : v.ns.length ≤ 9223372036854775807 := by have := hok.2.2.2.2.1; omega
  have hnz := hok.2.2.2.2.2
  obtain ⟨a, cap, c4, rfl, hit, hr⟩ := (InV_iff w v cs).1 h
  obtain ⟨a2, cap2, rfl, hs⟩ := hr.open_
  have HS := Lib.hid hs
  have HNZ := Lib.hid hnz
  have hA := Lib.hid fun o => (Below.refl w.heap.size w).alloc (Nat.le_refl _) o
  have HST := Lib.hid fun i => @unk_step v.ns names i
  have HSP := Lib.hid fun i => @unk_stop v.ns names i
  have HEN := Lib.hid (unk_end v.ns names)
  have HKK := Lib.hid fun o => hK.next (hA.out o)
  have B1 := Lib.hid (hA.out (.cells #[.int .i64 v.k, .int .i64 v.n, .string v.s, .slice a v.l.length cap, .slice a2 v.ns.length cap2] 26))
  have K1 := Lib.hid (HKK.out (.cells #[.int .i64 v.k, .int .i64 v.n, .string v.s, .slice a v.l.length cap, .slice a2 v.ns.length cap2] 26))
  generalize v.k = vk at *
  generalize v.n = vn at *
  generalize v.s = vs at *
  generalize v.l.length = vl at *
  generalize v.ns = ns at *
  clear h hit hr hv hs hok hnz hK HKK
  go_enter Tryz.func41, Tryz.ntmps41
  go_wp2_with fail
  generalize w.alloc (.cells #[.int .i64 vk, .int .i64 vn, .string vs, .slice a vl cap, .slice a2 ns.length cap2] 26) = w1 at *
  go_loop [11] (fun i => ∃ k : Nat, i = .int .i64 (k : Int) ∧ k ≤ ns.length ∧ Hid (unk ns names = unk (ns.drop k) names)) (fun i => ns.length - (RowKit.intOf i).toNat)
  case atStart => exact ⟨0, rfl, Nat.zero_le _, Lib.hid rfl⟩
  case round =>
    obtain ⟨k, rfl, hk, HU⟩ := hrel
    by_cases hlt : k < ns.length
    · obtain ⟨b, o, rfl, hc⟩ := HS.out k hlt
      have c := (B1.out.cell (Strs.cell_lt hc)).trans hc
      have HST2 := Lib.hid fun hi => HST.out k hlt hi HU.out
      have HSP2 := Lib.hid fun hi => HSP.out k hlt hi HU.out
      have hzz : (ns.getD k ⟨#[]⟩).size ≤ 140737488351232 := by
        rw [List.getD_eq_getElem?_getD, List.getElem?_eq_getElem hlt]
        exact HNZ.out _ (List.getElem_mem hlt)
      clear hc
      generalize ns.getD k ⟨#[]⟩ = s at *
      have HK2 := Lib.hid (among1_any names s hzz g w1 K1.out)
      cases hb : isin names s with
      | true =>
        have E := Lib.hid (HST2.out hb)
        rw [hb] at HK2
        clear hb HST2 HSP2
        go_wp2_with (first
          | (go_at_call 65; (with_reducible refine HK2.out.mono ?_); rintro e w2 ⟨rfl, rfl⟩))
        go_round
        case rel => exact ⟨k + 1, by go_num, by omega, E⟩
        case measure => simp [RowKit.intOf]; omega
      | false =>
        have E := Lib.hid (HSP2.out hb)
        have HCL := Lib.hid (Rou.clone_str s w1 (Nat.le_trans hzz (by decide)))
        rw [hb] at HK2
        clear hb HST2 HSP2
        go_wp2_with (first
          | (go_at_call 65; (with_reducible refine HK2.out.mono ?_); rintro e w2 ⟨rfl, rfl⟩)
          | (go_at_call 39; (with_reducible refine HCL.out.mono ?_); rintro e w3 ⟨rfl, hb3⟩))
        go_ret2
        rw [E.out]
        exact ⟨rfl, B1.out.trans (hb3.mono B1.out.size)⟩
    · obtain rfl : k = ns.length := by omega
      have E := Lib.hid (HEN.out HU.out)
      go_wp2_with fail
      go_ret2
      rw [E.out]
      exact ⟨rfl, B1.out⟩
end Go.Proofs.YtehkiojohldlgaaGreatDoor.Jsn

namespace Go.Proofs.YtehkiojohldlgaaGreatDoor.Jsn
open Go.RowKit Go.Lib
open Go.Proofs.YtehkiojohldlgaaGreatDoor.Tre (Vt V0 find OkT OkT_iff InV InV_iff InV_next InS_one Box box_new wpList_keep wpList_fetch)
open Go.Proofs.YtehkiojohldlgaaGreatDoor.Rul (Ru ruC fst Bx)

/-! ### a reader in memory -/
/-- Block g holds a reader: the object's cells, the name and the error that it holds. -/
def Rd (w : World) (g : Nat) (o : Value × Value × Value × Value × Value) (x : ByteArray × Int) : Prop := w.heap[g]? = some (.cells #[o.1, o.2.1, o.2.2.1, o.2.2.2.1, o.2.2.2.2, .string x.1, .int .i64 x.2] 92 (0, 0))
section
variable {w w' : World} {g : Nat} {o : Value × Value × Value × Value × Value} {x : ByteArray × Int}
theorem Rd.lt (h : Rd w g o x) : g < w.heap.size := by
  rcases Nat.lt_or_ge g w.heap.size with h' | h'
  · exact h'
  · unfold Rd at h; simp [Array.getElem?_eq_none h'] at h
theorem Rd.cells (h : Rd w g o x) : (w.cell? ⟨g, 0, none⟩ = some o.1 ∧ w.cell? ⟨g, 1, none⟩ = some o.2.1 ∧ w.cell? ⟨g, 2, none⟩ = some o.2.2.1 ∧ w.cell? ⟨g, 3, none⟩ = some o.2.2.2.1 ∧ w.cell? ⟨g, 4, none⟩ = some o.2.2.2.2) ∧ w.cell? ⟨g, 5, none⟩ = some (.string x.1) ∧ w.cell? ⟨g, 6, none⟩ = some (.int .i64 x.2) := by
  unfold Rd at h
  simp [World.cell?, h]
theorem Rd.free (h : Rd w g o x) (j : Nat) : w.frozen? ⟨g, j, none⟩ = false := Lib.frozen_of_heap h j
theorem Rd.next (h : Rd w g o x) (hb : Below w.heap.size w w') : Rd w' g o x := (hb.block g h.lt).trans h
theorem Rd.keep (h : Rd w g o x) (hk : w'.heap[g]? = w.heap[g]?) : Rd w' g o x := hk.trans h
/-- What was held anew. -/
theorem Rd.put (h : Rd w g o x) (y : ByteArray × Int) : Rd ((w.setCell ⟨g, 5, none⟩ (.string y.1)).setCell ⟨g, 6, none⟩ (.int .i64 y.2)) g o y ∧ Ch (fun b => b = g) w ((w.setCell ⟨g, 5, none⟩ (.string y.1)).setCell ⟨g, 6, none⟩ (.int .i64 y.2)) := by
  have e1 := setCell_eq_setRow w g 5 _ _ _ (.string y.1) h
  have h1 := setRow_heap w g _ ((#[o.1, o.2.1, o.2.2.1, o.2.2.2.1, o.2.2.2.2, .string x.1, .int .i64 x.2] : Array Value).setIfInBounds 5 (.string y.1)) _ _ h
  rw [← e1] at h1
  have e2 := setCell_eq_setRow (w.setCell ⟨g, 5, none⟩ (.string y.1)) g 6 _ _ _ (.int .i64 y.2) h1
  have h2 := setRow_heap (w.setCell ⟨g, 5, none⟩ (.string y.1)) g _ (((#[o.1, o.2.1, o.2.2.1, o.2.2.2.1, o.2.2.2.2, .string x.1, .int .i64 x.2] : Array Value).setIfInBounds 5 (.string y.1)).setIfInBounds 6 (.int .i64 y.2)) _ _ h1
  rw [← e2] at h2
  exact ⟨h2, rfl, rfl, rfl, by simp, fun b _ hb => (Tre.set_other _ hb).trans (Tre.set_other _ hb)⟩
theorem Ch.refl (S : Nat → Prop) (w : World) : Ch S w w := ⟨rfl, rfl, rfl, Nat.le_refl _, fun _ _ _ => rfl⟩
end
set_option maxHeartbeats 4000000 in
theorem hold_any (g : Nat) (o : Value × Value × Value × Value × Value) (x : ByteArray × Int) (name : ByteArray) (e : Int) (m : Bool) (W : World) (h : Rd W g o x) :
    Calls Tryz.prog 97 #[.pointer (some ⟨g, 0, none⟩), .string name, .int .i64 e, .bool m] W fun r w' => r = .returned (.tuple #[]) ∧ Rd w' g o (hd x name e m) ∧ Ch (fun b => b = g) W w' := by
  obtain ⟨-, c5, c6⟩ := h.cells
  have f5 := h.free 5
  have f6 := h.free 6
  have HP := Lib.hid fun y => h.put y
  have HR := Lib.hid h
  have q6 : ∀ y : ByteArray × Int, (W.setCell ⟨g, 5, none⟩ (.string y.1)).cell? ⟨g, 6, none⟩ = some (.int .i64 x.2) := fun y => by
    have e1 := setCell_eq_setRow W g 5 _ _ _ (.string y.1) h
    have h1 := setRow_heap W g _ ((#[o.1, o.2.1, o.2.2.1, o.2.2.2.1, o.2.2.2.2, .string x.1, .int .i64 x.2] : Array Value).setIfInBounds 5 (.string y.1)) _ _ h
    rw [← e1] at h1
    simp [World.cell?, h1]
  obtain ⟨p, E⟩ := x
  dsimp only at c5 c6 q6
  by_cases hE : E = 0
  · subst hE
    have k6 := q6 (name, 0)
    by_cases h16 : e = 16
    · subst h16
      cases m with
      | false =>
        have HX := Lib.hid (HP.out (name, 0))
        rw [show hd (p, 0) name 16 false = (name, 0) from rfl]
        clear q6 HP h
        go_enter Tryz.func97, Tryz.ntmps97
        go_wp2_with fail
        go_end0
        exact ⟨rfl, HX.out.1, HX.out.2⟩
      | true =>
        have HX := Lib.hid (HP.out (name, 16))
        rw [show hd (p, 0) name 16 true = (name, 16) from rfl]
        clear q6 HP h
        go_enter Tryz.func97, Tryz.ntmps97
        go_wp2_with fail
        go_end0
        exact ⟨rfl, HX.out.1, HX.out.2⟩
    · have b16 : (e == 16) = false := by simpa using h16
      have HX := Lib.hid (HP.out (name, e))
      rw [show hd (p, 0) name e m = (name, e) by unfold hd he; rw [if_pos rfl, if_neg fun q => h16 q.1]]
      clear q6 HP h h16
      go_enter Tryz.func97, Tryz.ntmps97
      go_wp2_with fail
      go_end0
      exact ⟨rfl, HX.out.1, HX.out.2⟩
  · have bE : (E == 0) = false := by simpa using hE
    rw [show hd (p, E) name e m = (p, E) from if_neg hE]
    clear q6 HP h
    by_cases h16 : e = 16
    · subst h16
      cases m with
      | false =>
        clear hE
        go_enter Tryz.func97, Tryz.ntmps97
        go_wp2_with fail
        go_end0
        exact ⟨rfl, HR.out, Ch.refl _ _⟩
      | true =>
        clear hE
        go_enter Tryz.func97, Tryz.ntmps97
        go_wp2_with fail
        go_end0
        exact ⟨rfl, HR.out, Ch.refl _ _⟩
    · have b16 : (e == 16) = false := by simpa using h16
      clear hE h16
      go_enter Tryz.func97, Tryz.ntmps97
      go_wp2_with fail
      go_end0
      exact ⟨rfl, HR.out, Ch.refl _ _⟩
set_option maxHeartbeats 4000000 in
theorem rtextm_any (v : Vt) (hv : OkT v) (name : ByteArray) (m : Bool) (g : Nat) (cs : List Value) (k n s c3 c4 : Value) (hcs : cs = [k, n, s, c3, c4]) (x : ByteArray × Int) (W : World) (hI : InV W v cs) (h : Rd W g (k, n, s, c3, c4) x) :
    Calls Tryz.prog 66 #[.pointer (some ⟨g, 0, none⟩), .string name, .bool m] W fun r w' => r = .returned (.string (tx v name).1) ∧ Rd w' g (k, n, s, c3, c4) (hd x name (tx v name).2 m) ∧ Ch (fun b => b = g) W w' := by
  subst hcs
  have HT := Lib.hid (text_any v hv name _ W hI)
  have HR := Lib.hid h
  obtain ⟨⟨c0, c1, c2, c3', c4'⟩, -, -⟩ := h.cells
  have HH := Lib.hid fun e W' (hr : Rd W' g (k, n, s, c3, c4) x) => hold_any g _ x name e m W' hr
  dsimp only at c0 c1 c2 c3' c4'
  clear h hI hv
  generalize tx v name = y at *
  obtain ⟨t, e⟩ := y
  dsimp only at HT ⊢
  go_enter Tryz.func66, Tryz.ntmps66
  go_wp2_with (first
    | (go_at_call 16; (with_reducible refine HT.out.mono ?_); rintro e w1 ⟨rfl, hb1⟩; have R1 := Lib.hid (HR.out.next hb1); have C1 := Lib.hid (Ch.of (S := fun b => b = g) hb1); clear hb1)
    | (go_at_call 97; (with_reducible refine (HH.out _ _ R1.out).mono ?_); rintro e w2 ⟨rfl, hr2, hc2⟩))
  go_ret
  exact ⟨rfl, hr2, C1.out.trans hc2 fun _ _ q => q⟩
set_option maxHeartbeats 4000000 in
theorem rnumberm_any (v : Vt) (hv : OkT v) (name : ByteArray) (m : Bool) (g : Nat) (cs : List Value) (k n s c3 c4 : Value) (hcs : cs = [k, n, s, c3, c4]) (x : ByteArray × Int) (W : World) (hI : InV W v cs) (h : Rd W g (k, n, s, c3, c4) x) :
    Calls Tryz.prog 67 #[.pointer (some ⟨g, 0, none⟩), .string name, .bool m] W fun r w' => r = .returned (.int .i64 (nu v name).1) ∧ Rd w' g (k, n, s, c3, c4) (hd x name (nu v name).2 m) ∧ Ch (fun b => b = g) W w' := by
  subst hcs
  have HT := Lib.hid (number_any v hv name _ W hI)
  have HR := Lib.hid h
  obtain ⟨⟨c0, c1, c2, c3', c4'⟩, -, -⟩ := h.cells
  have HH := Lib.hid fun e W' (hr : Rd W' g (k, n, s, c3, c4) x) => hold_any g _ x name e m W' hr
  dsimp only at c0 c1 c2 c3' c4'
  clear h hI hv
  generalize nu v name = y at *
  obtain ⟨t, e⟩ := y
  dsimp only at HT ⊢
  go_enter Tryz.func67, Tryz.ntmps67
  go_wp2_with (first
    | (go_at_call 18; (with_reducible refine HT.out.mono ?_); rintro e w1 ⟨rfl, hb1⟩; have R1 := Lib.hid (HR.out.next hb1); have C1 := Lib.hid (Ch.of (S := fun b => b = g) hb1); clear hb1)
    | (go_at_call 97; (with_reducible refine (HH.out _ _ R1.out).mono ?_); rintro e w2 ⟨rfl, hr2, hc2⟩))
  go_ret
  exact ⟨rfl, hr2, C1.out.trans hc2 fun _ _ q => q⟩

/-! ### the table of numbers -/
/-- The table's cells, of a rule in block g. -/
def ftC (g : Nat) : Array Value :=
  #[.string (nm 5), .pointer (some ⟨g, 5, none⟩), .int .i64 1, .bool true, .string (nm 6), .pointer (some ⟨g, 6, none⟩), .int .i64 1, .bool true,
    .string (nm 7), .pointer (some ⟨g, 7, none⟩), .int .i64 1, .bool true, .string (nm 8), .pointer (some ⟨g, 8, none⟩), .int .i64 1, .bool false,
    .string (nm 9), .pointer (some ⟨g, 9, none⟩), .int .i64 2, .bool true, .string (nm 10), .pointer (some ⟨g, 10, none⟩), .int .i64 3, .bool true,
    .string (nm 11), .pointer (some ⟨g, 11, none⟩), .int .i64 3, .bool true, .string (nm 12), .pointer (some ⟨g, 12, none⟩), .int .i64 3, .bool false]
set_option maxRecDepth 100000 in
theorem ft_at (g : Nat) (w : World) (j : Nat) (h : j < 8) :
    Sem.run Tryz.prog (Instr.index 82 (.agg (ftC g)) (.int .i64 (j : Int))) w = .ok (.agg #[.string (nm (5 + j)), .pointer (some ⟨g, 5 + j, none⟩), .int .i64 (kdj j), .bool (msj j)]) w := by
  obtain rfl | rfl | rfl | rfl | rfl | rfl | rfl | rfl : j = 0 ∨ j = 1 ∨ j = 2 ∨ j = 3 ∨ j = 4 ∨ j = 5 ∨ j = 6 ∨ j = 7 := by omega
  all_goals rfl
theorem info32 : (Tryz.prog.info? 82).map (·.size) = some 32 := by kernel_rfl
theorem wpList_table {ops : Array Oper} {rest : List Oper} {o : Oper} {a : Act} {Q : Exit → Act → World → Prop} (W : World) (hgd : o.guard = none) (x y : Operand) (ho : o.op = .store 82 x y) (hd : o.dst = none) (g g' : Nat)
    (old : Array Value) (hx : a.eval x = .pointer (some ⟨g, 0, none⟩)) (hy : a.eval y = .agg (ftC g')) (hk : W.heap[g]? = some (.cells old 82 (0, 0))) (ho32 : old.size = 32) (B : Nat) (w0 : World) (hb : Below B w0 W) (hB : B ≤ g)
    (h : ∀ w', w'.heap[g]? = some (.cells (ftC g') 82 (0, 0)) → Below B w0 w' → wpList Tryz.prog ops Q rest a w') : wpList Tryz.prog ops Q (o :: rest) a W := by
  refine wpList_store_rowTo hgd _ x y ho hd g (ftC g') hx hy _ old hk info32 ho32 (by simp [ftC, Value.oneCell']) ?_
  exact h _ (setRow_heap W g old _ _ _ hk) (below_setRow hb hB _)
theorem results_ftC {fn : Func} {p : Tmp} (h : fn.results = #[.cell p 82]) (tmps : Array Value) (w : World) (g g' : Nat)
    (hp : tmps.getD p undef = .pointer (some ⟨g, 0, none⟩)) (hk : w.heap[g]? = some (.cells (ftC g') 82 (0, 0))) : (results fn tmps).run Tryz.prog w = .ok (.agg (ftC g')) w :=
  results_cell_row h tmps w g _ _ _ _ hp hk Tryz.underlying82 rfl (by rw [info32]; rfl)
theorem built_ftC (g : Nat) (a : Act) (parts : Array (Nat × Operand)) (hp : (parts.map fun (i, x) => (i, a.eval x)) = #[(0, .agg #[.string (nm 5), .pointer (some ⟨g, 5, none⟩), .int .i64 1, .bool true]), (1, .agg #[.string (nm 6), .pointer (some ⟨g, 6, none⟩), .int .i64 1, .bool true]),
    (2, .agg #[.string (nm 7), .pointer (some ⟨g, 7, none⟩), .int .i64 1, .bool true]), (3, .agg #[.string (nm 8), .pointer (some ⟨g, 8, none⟩), .int .i64 1, .bool false]), (4, .agg #[.string (nm 9), .pointer (some ⟨g, 9, none⟩), .int .i64 2, .bool true]),
    (5, .agg #[.string (nm 10), .pointer (some ⟨g, 10, none⟩), .int .i64 3, .bool true]), (6, .agg #[.string (nm 11), .pointer (some ⟨g, 11, none⟩), .int .i64 3, .bool true]), (7, .agg #[.string (nm 12), .pointer (some ⟨g, 12, none⟩), .int .i64 3, .bool false])]) :
    Tryz.prog.built 82 (parts.map fun (i, x) => (i, a.eval x)).toList = some (ftC g) := by
  rw [hp]
  kernel_rfl
set_option maxHeartbeats 4000000 in
set_option maxRecDepth 100000 in
theorem table_any (g : Nat) (w : World) : Calls Tryz.prog 56 #[.pointer (some ⟨g, 0, none⟩)] w fun e w' => e = .returned (.agg (ftC g)) ∧ Below w.heap.size w w' := by
  go_enter Tryz.func56, Tryz.ntmps56
  go_wp2_with fail
  have HN : Hid (∀ cs, (w.alloc (.cells cs 82)).drew.heap[w.heap.size]? = some (.cells cs 82 (0, 0))) := Lib.hid fun cs => heap_alloc_new w _
  have HB : Hid (∀ o, Below w.heap.size w (w.alloc o).drew) := Lib.hid fun o => ((Below.refl _ _).alloc (Nat.le_refl _) _).drew
  go_still_tail 32, (by kernel_rfl)
  change wpList _ _ _ _ _ (World.drew _)
  go_wp2_with (first
    | (refine wpList_buildTo rfl 82 _ rfl _ rfl _ (built_ftC g _ _ rfl) ?_)
    | (refine wpList_table _ rfl _ _ rfl rfl _ g _ rfl rfl (HN.out _) rfl w.heap.size w (HB.out _) (Nat.le_refl _) ?_; intro w' hk hb))
  refine bodyPost_ret (results_ftC rfl _ _ _ _ rfl hk) rfl ?_
  exact ⟨rfl, hb⟩

/-! ### the members' names -/
theorem str_lit (w : World) (B : Nat) (hB : B ≤ w.heap.size) (xs : List ByteArray) (hl : xs.length ≤ 1000000) : Strs.Own (w.alloc (.cells (xs.map Value.string).toArray 9)) B (.slice (some ⟨w.heap.size, 0, none⟩) xs.length xs.length) xs := by
  have := World.ownsRow_lit (base := B) (e := 9) (size := 1) w (xs.map Value.string).toArray xs.length hB (by unfold maxLen; omega) (by simp)
  simpa [Strs.Own] using this
theorem all_take {k : Nat} (h : k < 8) : all.take (5 + (k + 1)) = all.take (5 + k) ++ [nm (5 + k)] := by
  obtain rfl | rfl | rfl | rfl | rfl | rfl | rfl | rfl : k = 0 ∨ k = 1 ∨ k = 2 ∨ k = 3 ∨ k = 4 ∨ k = 5 ∨ k = 6 ∨ k = 7 := by omega
  all_goals rfl
theorem all_take_len {k : Nat} (h : k ≤ 8) : (all.take (5 + k)).length = 5 + k := by rw [List.length_take]; show min (5 + k) 13 = _; omega
end Go.Proofs.YtehkiojohldlgaaGreatDoor.Jsn

namespace Go.Proofs.YtehkiojohldlgaaGreatDoor.Jsn
open Go.RowKit Go.Lib

/-! ### a line of the table, in a variable -/
theorem info4 : (Tryz.prog.info? 81).map (·.size) = some 4 := by kernel_rfl
def Fb (w : World) (g : Nat) (cs : Array Value) : Prop := w.heap[g]? = some (.cells cs 81 (0, 0))
theorem Fb.lt {w : World} {g : Nat} {cs : Array Value} (h : Fb w g cs) : g < w.heap.size := by
  rcases Nat.lt_or_ge g w.heap.size with h' | h'
  · exact h'
  · unfold Fb at h; simp [Array.getElem?_eq_none h'] at h
theorem Fb.cell {w : World} {g : Nat} {cs : Array Value} (h : Fb w g cs) (j : Nat) : w.cell? ⟨g, j, none⟩ = cs[j]? := by
  unfold Fb at h
  simp [World.cell?, h]
theorem fb_new (w : World) (cs : Array Value) : Fb (w.alloc (.cells cs 81)) w.heap.size cs := heap_alloc_new _ _
theorem wpList_line {ops : Array Oper} {rest : List Oper} {o : Oper} {a : Act} {Q : Exit → Act → World → Prop} (W : World) (hgd : o.guard = none) (x y : Operand) (ho : o.op = .store 81 x y) (B : Nat) (w0 : World) (hb : Below B w0 W) (g : Nat) (hB : B ≤ g) (s : ByteArray) (p : Addr) (k : Int) (b : Bool) (old : Array Value)
    (hx : a.eval x = .pointer (some ⟨g, 0, none⟩)) (hy : a.eval y = .agg #[.string s, .pointer (some p), .int .i64 k, .bool b]) (hk : Fb W g old) (h4 : old.size = 4)
    (h : ∀ w', Fb w' g #[.string s, .pointer (some p), .int .i64 k, .bool b] → Below B w0 w' → wpList Tryz.prog ops Q rest (a.put o.dst undef) w') : wpList Tryz.prog ops Q (o :: rest) a W := by
  refine wpList_store_row hgd _ x y ho g _ hx hy _ old hk (by rw [info4]; rfl) (by rw [h4]; rfl) (by simp [Value.oneCell']) ?_
  exact h _ (setRow_heap W g old _ _ _ hk) (below_setRow hb hB _)
theorem all_size : ∀ n ∈ all, n.size ≤ maxLen := by
  have key : ∀ n ∈ all, n.size ≤ 8 := by decide
  exact fun n hn => Nat.le_trans (key n hn) (by decide)
theorem str_new (w : World) (s : ByteArray) : (w.alloc (.cells #[.string s] 9)).heap[w.heap.size]? = some (.cells #[.string s] 9 (0, 0)) := heap_alloc_new w _
set_option maxHeartbeats 4000000 in
set_option maxRecDepth 100000 in
theorem membern_any (w : World) : Calls Tryz.prog 32 #[] w fun e w' => ∃ u, e = .returned u ∧ Strs.Row w' u all ∧ Below w.heap.size w w' := by
  have HL := Lib.hid (show Strs.Own (w.alloc (.cells #[.string ⟨#[105, 100]⟩, .string ⟨#[110, 111, 116, 101]⟩, .string ⟨#[114, 111, 117, 116, 101]⟩, .string ⟨#[112, 114, 105, 111, 114, 105, 116, 121]⟩, .string ⟨#[107, 105, 110, 100]⟩] 9)) w.heap.size (.slice (some ⟨w.heap.size, 0, none⟩) 5 5) (all.take (5 + 0)) from str_lit w w.heap.size (Nat.le_refl _) (all.take 5) (by decide))
  have HA := Lib.hid fun o => (Below.refl w.heap.size w).alloc (Nat.le_refl _) o
  have HFT := Lib.hid fun W (j : Nat) (h : j < 8) => ft_at (w.heap.size + 1) W j h
  have HTB := Lib.hid fun W => table_any (w.heap.size + 1) W
  have HTK := Lib.hid fun k => @all_take k
  have HTL := Lib.hid fun k => @all_take_len k
  go_enter Tryz.func32, Tryz.ntmps32
  go_wp2_with (first
    | (go_at_call 56; (with_reducible refine (HTB.out _).mono ?_); rintro e w1 ⟨rfl, hb1⟩; have O1 := Lib.hid ((HL.out.alloc _).next hb1); have B1 := Lib.hid (((HA.out _).alloc (HA.out _).size _).trans (hb1.mono (by simp; omega))); clear hb1))
  go_loopw [8, 1] (fun i u wr => ∃ (k : Nat) (a3 : Option Addr) (n3 p3 : Nat), i = .int .i64 (k : Int) ∧ u = .slice a3 n3 p3 ∧ k ≤ 8 ∧ Hid (Strs.Own wr w.heap.size (.slice a3 n3 p3) (all.take (5 + k))) ∧ Hid (Below w.heap.size w wr)) (fun i _ _ => 8 - (RowKit.intOf i).toNat)
  case atStart => exact ⟨0, _, _, _, rfl, rfl, by omega, O1, B1⟩
  case round =>
    clear O1 B1
    obtain ⟨k, a3, n3, p3, rfl, rfl, hk, HO, HB⟩ := hrel
    by_cases hlt : k < 8
    · have hidx := HFT.out wr k hlt
      have HT := Lib.hid (HTK.out k hlt)
      have hln := HTL.out k (by omega)
      generalize nm (5 + k) = z at *
      generalize kdj k = kd at *
      generalize msj k = mj at *
      go_wp2_with (first
        | (refine wpList_line _ rfl _ _ rfl wr.heap.size wr ((Below.refl _ _).alloc (Nat.le_refl _) _) wr.heap.size (Nat.le_refl _) z _ kd mj _ rfl rfl (fb_new _ _) rfl ?_; intro wf hf hbf; have OF := Lib.hid (HO.out.next hbf); have BF := Lib.hid (HB.out.trans (hbf.mono HB.out.size)); have f0 : wf.cell? ⟨wr.heap.size, 0, none⟩ = some (.string z) := hf.cell 0; clear hf hbf)
        | (refine Strs.wpList_push _ rfl (.tmp 11) (.tmp 14) rfl w.heap.size w (.slice a3 n3 p3) (all.take (5 + k)) rfl (OF.out.alloc _) (BF.out.alloc BF.out.size _) (Nat.le_refl _) _ _ _ rfl _ _ (str_new wf z) [z] rfl rfl (by simp; omega) ?_; intro v3 w3 hown3 hb3 _; obtain ⟨a9, n9, p9, e9⟩ := slc4 hown3; subst e9; have O3 := Lib.hid hown3; have B3 := Lib.hid hb3; clear hown3 hb3))
      go_roundw
      case rel => exact ⟨k + 1, _, _, _, by go_num, rfl, by omega, Lib.hid (by rw [HT.out]; exact O3.out), B3⟩
      case measure => simp [RowKit.intOf]; omega
    · obtain rfl : k = 8 := by omega
      go_wp2_with fail
      go_ret
      exact ⟨_, rfl, HO.out.row, HB.out⟩
end Go.Proofs.YtehkiojohldlgaaGreatDoor.Jsn
