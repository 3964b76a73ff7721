/- Texts of my own, packed: TreO. Conditions: as each theorem states. -/
import Derived.Lib.OwnBridge
import Derived.Test.YtehkiojohldlgaaGreatDoorK02
import Derived.Test.YtehkiojohldlgaaGreatDoorK09
import Derived.Test.YtehkiojohldlgaaGreatDoorK11
namespace Go.Proofs.YtehkiojohldlgaaGreatDoor.Tre
open Go.RowKit Go.Lib Go.Shelf Go.Proofs.YtehkiojohldlgaaGreatDoor.Byt
open Go.Sort

theorem own_keep {w w' : World} {B sz n : Nat} {e : TypeId} {v : Value} {xs : List Value} (h : w.ownsRow B e sz v n xs) (hb : ∀ k, v.ownBlock = some k → w'.heap[k]? = w.heap[k]?) : w'.ownsRow B e sz v n xs := by
  refine ⟨h.1, ?_⟩
  rcases h.2 with hn | ⟨g, cap, cur, hv, hbg, hg, rest⟩
  · exact .inl hn
  · exact .inr ⟨g, cap, cur, hv, hbg, (hb g (by rw [hv]; rfl)).trans hg, rest⟩
def zeroC : List Value := [.int .i64 0, .int .i64 0, .string ⟨#[]⟩, .slice none 0 0, .slice none 0 0]
theorem zerosV (n : Nat) : (madeCells (Value.agg #[.int .i64 0, .int .i64 0, .string ⟨#[]⟩, .slice none 0 0, .slice none 0 0]).cells (n * 5)).toList = (List.replicate n zeroC).flatten := by
  have hF : Five (List.replicate n zeroC) := fun c hc => by rw [(List.mem_replicate.1 hc).2]; rfl
  have hl := flat_len _ hF
  rw [List.length_replicate] at hl
  have hz : (Value.agg #[.int .i64 0, .int .i64 0, .string ⟨#[]⟩, .slice none 0 0, .slice none 0 0]).cells = zeroC.toArray := rfl
  rw [hz]
  have hs : zeroC.toArray.size = 5 := rfl
  apply List.ext_getElem?
  intro j
  by_cases hj : j < n * 5
  · have h2 := flat_at _ hF (j / 5) (j % 5) (by rw [List.length_replicate]; omega) (Nat.mod_lt _ (by omega))
    rw [show j / 5 * 5 + j % 5 = j by omega] at h2
    rw [h2]
    have h3 : (List.replicate n zeroC).getD (j / 5) [] = zeroC := by
      rw [List.getD_eq_getElem?_getD, List.getElem?_replicate, if_pos (by omega)]; rfl
    rw [h3]
    have h5 : j % 5 < 5 := Nat.mod_lt _ (by omega)
    obtain ⟨u, hu⟩ : ∃ u, zeroC[j % 5]? = some u := ⟨_, List.getElem?_eq_getElem (show j % 5 < zeroC.length from h5)⟩
    simp [madeCells, hj, hs, hu]
  · have hm : (madeCells zeroC.toArray (n * 5)).toList.length = n * 5 := by simp [madeCells]
    rw [List.getElem?_eq_none (by omega), List.getElem?_eq_none (by omega)]
section
variable {ops : Array Oper} {rest : List Oper} {o : Oper} {a : Act} {Q : Exit → Act → World → Prop}
/-- 'make([]int, n)'. -/
theorem wpList_ints (W : World) (hg : o.guard = none) (x y : Operand) (ho : o.op = .makeSlice 106 x y) (B : Nat) (w0 : World) (hb : Below B w0 W) (hB : B ≤ W.heap.size) (n : Nat) (hx : a.eval x = .int .i64 (n : Int)) (hy : a.eval y = .int .i64 (n : Int)) (hlim : n * 8 ≤ 140737488355328)
    (h : ∀ w' G, W.heap.size ≤ G → Num.Own w' B (.slice (some ⟨G, 0, none⟩) n n) (List.replicate n 0) → Below B w0 w' → Below W.heap.size W w' → wpList Tryz.prog ops Q rest (a.put o.dst (.slice (some ⟨G, 0, none⟩) n n)) w') : wpList Tryz.prog ops Q (o :: rest) a W := by
  obtain ⟨i0, hi, hz0, hz1, hz2⟩ := info_parts Num.info64
  refine wpList_make_full W hg x y _ ho B _ i0 _ 1 Tryz.underlying106 hi hz0 hz1 .i64 .i64 _ _ n hx hy rfl rfl (by rw [hz2]; omega) (by unfold maxLen; omega) hB ?_
  intro w' h1 h2
  refine h w' _ (Nat.le_refl _) ?_ (hb.grown h2 hB (fun k hk => by cases hk)) ((Below.refl _ _).grown h2 (Nat.le_refl _) (fun k hk => by cases hk))
  unfold Num.Own
  rw [Nat.mul_one, show (Value.int .i64 0).cells = #[Value.int .i64 0] from rfl, toList_madeCells_one] at h1
  simpa using h1
/-- 'make([]string, n)'. -/
theorem wpList_strs (W : World) (hg : o.guard = none) (x y : Operand) (ho : o.op = .makeSlice 24 x y) (B : Nat) (w0 : World) (hb : Below B w0 W) (hB : B ≤ W.heap.size) (n : Nat) (hx : a.eval x = .int .i64 (n : Int)) (hy : a.eval y = .int .i64 (n : Int)) (hlim : n * 16 ≤ 140737488355328)
    (h : ∀ w' G, W.heap.size ≤ G → Strs.Own w' B (.slice (some ⟨G, 0, none⟩) n n) (List.replicate n ⟨#[]⟩) → Below B w0 w' → Below W.heap.size W w' → wpList Tryz.prog ops Q rest (a.put o.dst (.slice (some ⟨G, 0, none⟩) n n)) w') : wpList Tryz.prog ops Q (o :: rest) a W := by
  obtain ⟨i0, hi, hz0, hz1, hz2⟩ := info_parts Strs.info16
  refine wpList_make_full W hg x y _ ho B _ i0 _ 1 Tryz.underlying24 hi hz0 hz1 .i64 .i64 _ _ n hx hy rfl rfl (by rw [hz2]; omega) (by unfold maxLen; omega) hB ?_
  intro w' h1 h2
  refine h w' _ (Nat.le_refl _) ?_ (hb.grown h2 hB (fun k hk => by cases hk)) ((Below.refl _ _).grown h2 (Nat.le_refl _) (fun k hk => by cases hk))
  unfold Strs.Own
  rw [Nat.mul_one, show (Value.string ⟨#[]⟩).cells = #[Value.string ⟨#[]⟩] from rfl, toList_madeCells_one] at h1
  simpa using h1
/-- 'make([]api.Value, n)'. -/
theorem wpList_vals (W : World) (hg : o.guard = none) (x y : Operand) (ho : o.op = .makeSlice 23 x y) (B : Nat) (w0 : World) (hb : Below B w0 W) (hB : B ≤ W.heap.size) (n : Nat) (hx : a.eval x = .int .i64 (n : Int)) (hy : a.eval y = .int .i64 (n : Int)) (hlim : n * 80 ≤ 140737488355328)
    (h : ∀ w' G, W.heap.size ≤ G → OwnR w' B (.slice (some ⟨G, 0, none⟩) n n) (List.replicate n zeroC) → Below B w0 w' → Below W.heap.size W w' → wpList Tryz.prog ops Q rest (a.put o.dst (.slice (some ⟨G, 0, none⟩) n n)) w') : wpList Tryz.prog ops Q (o :: rest) a W := by
  obtain ⟨i0, hi, hz0, hz1, hz2⟩ := info_parts info80
  refine wpList_make_full W hg x y _ ho B _ i0 _ 5 Tryz.underlying23 hi hz0 hz1 .i64 .i64 _ _ n hx hy rfl rfl (by rw [hz2]; omega) (by unfold maxLen; omega) hB ?_
  intro w' h1 h2
  refine h w' _ (Nat.le_refl _) ⟨fun c hc => by rw [(List.mem_replicate.1 hc).2]; rfl, ?_⟩ (hb.grown h2 hB (fun k hk => by cases hk)) ((Below.refl _ _).grown h2 (Nat.le_refl _) (fun k hk => by cases hk))
  rw [zerosV] at h1
  simpa using h1
end

/-! ### places sorted -/
def nm (ns : List ByteArray) (i : Nat) : ByteArray := ns.getD i ⟨#[]⟩
def cfN (ns : List ByteArray) (x y : Fin ns.length) : Int := orI (cmpB (nm ns x) (nm ns y)) (Lib.compareInt (x.val : Int) (y.val : Int)) -- wants 87
theorem lt_cf (ns : List ByteArray) (x y : Fin ns.length) : ltOf (cfN ns) x y = true ↔ ltN (nm ns) x y := by
  unfold ltOf cfN orI cmpB Lib.compareInt ltN
  rw [decide_eq_true_eq]
  cases h1 : ltB (nm ns x) (nm ns y) with
  | true => simp
  | false =>
    cases h2 : ltB (nm ns y) (nm ns x) with
    | true =>
      have : ¬ nm ns x = nm ns y := fun q => by rw [q, lt_irrefl] at h2; cases h2
      simp [this]
    | false =>
      have e := lt_total h1 h2
      simp only [e]
      by_cases hxy : (x.val : Nat) < y.val
      · simp [hxy]
      · by_cases hyx : (y.val : Nat) < x.val
        · simp [hxy, hyx]
        · simp [hxy, hyx]
theorem cf_false (ns : List ByteArray) (x y : Fin ns.length) : ltOf (cfN ns) x y = false ↔ ¬ ltN (nm ns) x y := by
  rw [← lt_cf]; simp
theorem swoN (ns : List ByteArray) : SWO (ltOf (cfN ns)) where
  irrefl x := (cf_false ns x x).2 (ltN_irrefl _)
  trans x y z h1 h2 := (lt_cf ns x z).2 (ltN_trans ((lt_cf ns x y).1 h1) ((lt_cf ns y z).1 h2))
  ntrans x y z h1 h2 := by
    rw [cf_false] at *
    intro h
    by_cases e : x.val = y.val
    · rw [e] at h; exact h2 h
    · rcases ltN_total (key := nm ns) e with q | q
      · exact h1 q
      · by_cases e2 : y.val = z.val
        · rw [← e2] at h; exact ltN_irrefl _ (ltN_trans h q)
        · rcases ltN_total (key := nm ns) e2 with r | r
          · exact h2 r
          · exact ltN_irrefl _ (ltN_trans h (ltN_trans r q))
theorem totN (ns : List ByteArray) (x y : Fin ns.length) (h1 : ltOf (cfN ns) x y = false) (h2 : ltOf (cfN ns) y x = false) : x = y := by
  rw [cf_false] at h1 h2
  by_cases e : x.val = y.val
  · exact Fin.ext e
  · rcases ltN_total (key := nm ns) e with q | q
    · exact absurd q h1
    · exact absurd q h2
/-- The list of all places, sorted. -/
theorem merged (ns : List ByteArray) : ((List.finRange ns.length).mergeSort fun x y => !ltOf (cfN ns) y x).map (·.val) = plc ns := by
  have hp := List.mergeSort_perm (List.finRange ns.length) (fun x y => !ltOf (cfN ns) y x)
  have hr : (List.finRange ns.length).map (·.val) = List.range ns.length := by
    refine List.ext_getElem (by simp) fun i h1 h2 => by simp
  have hnd : (List.range ns.length).Nodup := List.nodup_range
  have hpm := hp.map (·.val)
  rw [hr] at hpm
  refine plc_one hpm ?_
  have hs : ((List.finRange ns.length).mergeSort fun x y => !ltOf (cfN ns) y x).Pairwise fun x y => (!ltOf (cfN ns) y x) = true :=
    List.pairwise_mergeSort (fun a b c h1 h2 => by
      simp only [Bool.not_eq_eq_eq_not, Bool.not_true] at *
      exact (swoN ns).ntrans _ _ _ h2 h1) (fun a b => by
      cases h : ltOf (cfN ns) b a with
      | false => simp
      | true =>
        have : ltOf (cfN ns) a b = false := (cf_false ns a b).2 fun q => ltN_irrefl _ (ltN_trans q ((lt_cf ns b a).1 h))
        simp [this]) _
  have hnd2 : (((List.finRange ns.length).mergeSort fun x y => !ltOf (cfN ns) y x).map (·.val)).Nodup := hpm.nodup_iff.2 hnd
  rw [List.pairwise_map]
  rw [List.Nodup, List.pairwise_map] at hnd2
  refine (hs.and hnd2).imp ?_
  rintro x y ⟨h1, h2⟩
  have h1' : ltOf (cfN ns) y x = false := by simpa using h1
  rcases ltN_total (key := nm ns) h2 with q | q
  · exact q
  · exact absurd q ((cf_false ns y x).1 h1')
theorem cell_sw {α : Type} [Inhabited α] (enc : α → Value) (W : World) (blk off n : Nat) (dk : Array α) (os : Array Obj) (a : Addr) (h1 : a.block ≠ blk) (h2 : a.block < W.heap.size) : (sortWorld enc W blk off n dk os).cell? a = W.cell? a := by -- wants 87
  unfold sortWorld
  rw [cell?_grow _ _ _ (by rw [size_putRow]; exact h2), cell?_putRow_other enc _ blk off dk a (Or.inl h1)]
  rfl
theorem sort_places (ns : List ByteArray) (B g g0 b off cap : Nat) (w w0 : World) (hown : Num.Own w B (.slice (some ⟨g, 0, none⟩) ns.length ns.length) ((List.range ns.length).map fun (i : Nat) => (i : Int))) (hB : Below B w0 w)
    (hg : g0 ≠ g) (hl : ns.length < 4611686018427387904) (hbox : 0 < ns.length → b ≠ g ∧ w.cell? ⟨g0, 0, none⟩ = some (.slice (some ⟨b, off, none⟩) ns.length cap) ∧ ∀ j, j < ns.length → w.cell? ⟨b, off + j, none⟩ = some (.string (ns.getD j ⟨#[]⟩))) :
    Calls Tryz.prog 87 #[.slice (some ⟨g, 0, none⟩) ns.length ns.length, .func (.func 88) #[] #[.pointer (some ⟨g0, 0, none⟩)]] w fun e w' => e = .returned (.tuple #[]) ∧
      Num.Own w' B (.slice (some ⟨g, 0, none⟩) ns.length ns.length) ((plc ns).map fun (i : Nat) => (i : Int)) ∧ Below B w0 w' ∧ w.heap.size ≤ w'.heap.size ∧ ∀ k, k < w.heap.size → k ≠ g → w'.heap[k]? = w.heap[k]? := by
  by_cases h0 : ns.length = 0
  · have hn := List.eq_nil_of_length_eq_zero h0
    subst hn
    refine (Tryz.slices_SortFunc_none (α := Nat) (some ⟨g, 0, none⟩) 0 _ w).mono ?_
    rintro e w' ⟨rfl, rfl⟩
    exact ⟨rfl, hown, hB, Nat.le_refl _, fun _ _ _ => rfl⟩
  · have hpos : 0 < ns.length := by omega
    obtain ⟨hbg, hc0, hcs⟩ := hbox hpos
    haveI : Inhabited (Fin ns.length) := ⟨⟨0, hpos⟩⟩
    have eg : ∀ args w, (callFunc 88 args).run Tryz.prog w = .ok (.enter 88 args) w := enters_of Tryz.func88 (by kernel_rfl) rfl
    have hzs : ((List.range ns.length).map fun (i : Nat) => (i : Int)).map (Value.int .i64) = (List.finRange ns.length).map fun (x : Fin ns.length) => Value.int .i64 (x.val : Int) := by
      refine List.ext_getElem (by simp) fun i h1 h2 => by simp
    have hlen : ((List.range ns.length).map fun (i : Nat) => (i : Int)).length = ns.length := by simp
    unfold Num.Own at hown
    rw [hzs, hlen] at hown
    obtain ⟨g', cap', e1, hBg, hgl, _, _, _, hH⟩ := holds_of_ownsRow hown (by intro q; cases q)
    injection e1 with e1 _ _
    injection e1 with e1
    injection e1 with e1
    subst e1
    have hcmp : CmpLays1 Tryz.prog 88 #[.pointer (some ⟨g0, 0, none⟩)] (fun x : Fin ns.length => Value.int .i64 (x.val : Int)) (cfN ns) g 0 (List.finRange ns.length).toArray.size w := by
      intro m os dk hs x y
      have hb0 := Strs.cell_lt hc0
      refine closure_any x.val y.val (nm ns x) (nm ns y) g0 b off ns.length cap _ x.isLt y.isLt ?_ ?_ ?_
      · rw [cell_sw _ _ _ _ _ _ _ _ hg hb0]; exact hc0
      · rw [cell_sw _ _ _ _ _ _ _ _ hbg (Strs.cell_lt (hcs x x.isLt))]; exact hcs x x.isLt
      · rw [cell_sw _ _ _ _ _ _ _ _ hbg (Strs.cell_lt (hcs y y.isLt))]; exact hcs y y.isLt
    have hsz : (List.finRange ns.length).toArray.size = ns.length := by simp
    have key := Tryz.slices_SortFunc_total (fun x : Fin ns.length => Value.int .i64 (x.val : Int)) (fun _ => rfl) (cfN ns) (swoN ns) 88 #[.pointer (some ⟨g0, 0, none⟩)] g 0 ns.length (List.finRange ns.length).toArray w eg hcmp hH hgl (by rw [hsz]; exact hl) (totN ns)
    rw [hsz, List.toList_toArray] at key
    refine key.mono ?_
    rintro e w' ⟨rfl, q, os, rfl⟩
    have hml : ((List.finRange ns.length).mergeSort fun x y => !ltOf (cfN ns) y x).length = ns.length := by simp
    have up := ownsRow_putRow (q := q) hown hml (Nat.le_refl _)
    rw [List.take_of_length_le (by rw [hml]; exact Nat.le_refl _)] at up
    have hsp : (putRow (fun x : Fin ns.length => Value.int .i64 (x.val : Int)) (Sort.ahead w q) g 0 ((List.finRange ns.length).mergeSort fun x y => !ltOf (cfN ns) y x).toArray).heap.size = w.heap.size := by simp [putRow, mapBlock, Sort.ahead]
    refine ⟨rfl, ?_, ?_, ?_, ?_⟩
    · unfold Num.Own
      rw [← merged ns, List.length_map, List.length_map, hml, List.map_map, List.map_map]
      refine own_keep up fun k hk => ?_
      have : g = k := Option.some.inj hk
      subst this
      unfold sortWorld
      rw [heap_grow_old _ _ (by rw [hsp]; exact hgl)]
    · have := below_putRow (enc := fun x : Fin ns.length => Value.int .i64 (x.val : Int)) (q := q) (d := ((List.finRange ns.length).mergeSort fun x y => !ltOf (cfN ns) y x).toArray) hB hBg
      refine ⟨this.os, this.tape, this.output, ?_, fun k hk => ?_⟩
      · unfold sortWorld grow
        rw [Array.size_append]
        have := this.size
        omega
      · have hkl : k < w.heap.size := by omega
        unfold sortWorld
        rw [heap_grow_old _ _ (by rw [hsp]; exact hkl)]
        exact this.block k hk
    · unfold sortWorld grow
      rw [Array.size_append, hsp]
      omega
    · intro k hk hne
      unfold sortWorld
      rw [heap_grow_old _ _ (by rw [hsp]; exact hk)]
      simp [putRow, mapBlock, Sort.ahead, Array.getElem?_modify, show g ≠ k from fun q => hne q.symm]
end Go.Proofs.YtehkiojohldlgaaGreatDoor.Tre
