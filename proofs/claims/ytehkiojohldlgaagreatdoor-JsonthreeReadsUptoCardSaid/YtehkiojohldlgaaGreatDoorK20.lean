/- Texts of my own, packed: TreW. Conditions: as each theorem states. -/
import Derived.Test.YtehkiojohldlgaaGreatDoorK18
import Derived.Test.YtehkiojohldlgaaGreatDoorK19
namespace Go.Proofs.YtehkiojohldlgaaGreatDoor.Tre
open Go.RowKit Go.Lib Go.Proofs.YtehkiojohldlgaaGreatDoor.Byt

theorem idx_from : ∀ (ns : List ByteArray) (s : ByteArray) (k : Nat), (Lib.idxFromS ns s k = -1 ∧ ∀ l, fnd ns l s = none) ∨ ∃ i : Nat, i < ns.length ∧ Lib.idxFromS ns s k = ((k + i : Nat) : Int) ∧ ∀ l, fnd ns l s = l[i]?
  | [], s, k => .inl ⟨rfl, fun l => by unfold fnd; rfl⟩
  | m :: ns, s, k => by
    by_cases h : m = s
    · subst h
      refine .inr ⟨0, by simp, by simp [Lib.idxFromS], fun l => ?_⟩
      cases l with
      | nil => unfold fnd; rfl
      | cons x l => unfold fnd; simp
    · rcases idx_from ns s (k + 1) with ⟨h1, h2⟩ | ⟨i, h1, h2, h3⟩
      · refine .inl ⟨by simp [Lib.idxFromS, h, h1], fun l => ?_⟩
        cases l with
        | nil => unfold fnd; rfl
        | cons x l => rw [fnd, if_neg h, h2 l]
      · refine .inr ⟨i + 1, by simpa using h1, by rw [show k + (i + 1) = k + 1 + i by omega, ← h2]; simp [Lib.idxFromS, h], fun l => ?_⟩
        cases l with
        | nil => unfold fnd; rfl
        | cons x l => rw [fnd, if_neg h, h3 l]; rfl
theorem idx_fnd (ns : List ByteArray) (s : ByteArray) : (Lib.idxOfS ns s = -1 ∧ ∀ l, fnd ns l s = none) ∨ ∃ i : Nat, i < ns.length ∧ Lib.idxOfS ns s = (i : Int) ∧ ∀ l, fnd ns l s = l[i]? := by
  rcases idx_from ns s 0 with h | ⟨i, h1, h2, h3⟩
  · exact .inl h
  · exact .inr ⟨i, h1, by rw [Nat.zero_add] at h2; exact h2, h3⟩
theorem InV_zero (w : World) : InV w V0 zeroC := (InV_iff w V0 zeroC).2 ⟨none, 0, .slice none 0 0, rfl, fun _ hj => absurd hj (Nat.not_lt_zero _), Strs.Row.nil w⟩
theorem index_any (ns : List ByteArray) (c : Value) (s : ByteArray) (w : World) (hr : Strs.Row w c ns) (hl : ns.length * 16 ≤ 140737488351232) :
    Calls Tryz.prog 102 #[c, .string s] w fun e w' => e = .returned (.int .i64 (Lib.idxOfS ns s)) ∧ w' = w := by
  rcases hr with ⟨rfl, a, cap, rfl⟩ | ⟨b, off, cap, rfl, hc⟩
  · exact Tryz.slices_Index_string_empty a cap s w
  · have := Tryz.slices_Index_string b off ns.length cap ns s w (Nat.le_refl _) (by omega) hc
    rwa [List.take_length] at this

set_option maxHeartbeats 4000000 in
set_option maxRecDepth 100000 in
theorem pfind (v : Vt) (hv : OkT v) (s : ByteArray) (cs : List Value) (w : World) (h : InV w v cs) :
    Calls Tryz.prog 77 #[.agg cs.toArray, .string s] w fun e w' => ∃ ds : List Value, e = .returned (.tuple #[.agg ds.toArray, .bool (find v s).isSome]) ∧ InV w' ((find v s).getD V0) ds ∧ Below w.heap.size w w' := by
  obtain ⟨a, cap, c4, rfl, hit, hr⟩ := (InV_iff w v cs).1 h
  obtain ⟨hok, hoks⟩ := (OkT_iff v).1 hv
  have HIX := Lib.hid fun (W : World) (hb : Below w.heap.size w W) => index_any v.ns c4 s W (hr.next hb) hok.2.2.2.2.1
  have HCL := Lib.hid fun x (hx : x ∈ v.l) cs (W : World) (hi : InV W x cs) => pclone x (hoks x hx) cs W hi
  obtain ⟨a2, cap2, rfl, _⟩ := hr.open_
  have hf : find v s = if v.k = 5 then fnd v.ns v.l s else none := rfl
  have HL := hok.2.2.2.1
  have HN := hok.2.2.2.2.1
  have hmx : v.l.length ≤ 9223372036854775807 := by omega
  have hmn : v.ns.length ≤ 9223372036854775807 := by omega
  have HIT := Lib.hid hit
  have B0 := Lib.hid fun (o p : Obj) => two_boxes (Below.refl ((w.alloc o).alloc p).heap.size ((w.alloc o).alloc p))
  have hF := idx_fnd v.ns s
  clear hv hok hoks hr hit h
  generalize find v s = FD at *
  generalize v.l = l at *
  generalize v.ns = ns at *
  generalize v.k = k at *
  generalize v.n = n at *
  generalize v.s = vs at *
  generalize hix : Lib.idxOfS ns s = ix at *
  by_cases hk : k = 5
  · rw [if_pos hk] at hf
    have k5 : ((k : Int) != 5) = false := by rw [hk]; rfl
    clear hk
    have hbad : (ix < 0 ∨ (l.length : Int) ≤ ix) ∧ FD = none ∨ ∃ i : Nat, i < l.length ∧ ix = (i : Int) ∧ FD = some (l.getD i V0) := by
      rcases hF with ⟨h1, h2⟩ | ⟨i, h1, h2, h3⟩
      · exact .inl ⟨.inl (by omega), hf.trans (h2 l)⟩
      · by_cases hil : i < l.length
        · refine .inr ⟨i, hil, h2, ?_⟩
          rw [hf, h3 l, List.getElem?_eq_getElem hil, List.getD_eq_getElem?_getD, List.getElem?_eq_getElem hil]; rfl
        · refine .inl ⟨.inr (by omega), ?_⟩
          rw [hf, h3 l, List.getElem?_eq_none (by omega)]
    clear hF hf hix
    rcases hbad with ⟨hb, rfl⟩ | ⟨i, hil, rfl, rfl⟩
    · have hb2 : (decide (ix < 0) = true) ∨ (decide (ix < 0) = false ∧ decide ((l.length : Int) ≤ ix) = true) := by
        by_cases q : ix < 0
        · exact .inl (decide_eq_true q)
        · exact .inr ⟨decide_eq_false q, decide_eq_true (hb.resolve_left q)⟩
      clear hb
      rcases hb2 with i0 | ⟨i0, i1⟩
      all_goals
        go_enter Tryz.func77, Tryz.ntmps77
        go_wp2_with (first
          | (go_at_call 102; refine (HIX.out _ (B0.out _ _).2.2).mono ?_; rintro e w2 ⟨rfl, rfl⟩)
          | (refine wpList_keep _ rfl _ _ rfl w.heap.size w (B0.out _ _).2.2 (w.heap.size + 1) (by omega) zeroC.toArray _ rfl rfl (B0.out _ _).2.1 rfl rfl (InS_one (InV_zero w)) ?_; intro w9 bx9 hb9 hk9 hs9; clear hs9))
        (try simp only [Exit.inBlock, Exit.then])
        refine bodyPost_ret (results_val2 rfl _ _ _ _ rfl bx9 rfl) rfl ?_
        exact ⟨zeroC, rfl, InV_zero _, hb9⟩
    · obtain ⟨b, off, rfl, ds, hrg, hin⟩ := HIT.out i hil
      rw [Nat.mul_comm 5 i] at hrg
      have H0 := Lib.hid fun (W : World) (hb : Below w.heap.size w W) => range_next hrg hb
      have HX := Lib.hid fun (W : World) (hb : Below w.heap.size w W) => HCL.out _ (mem_get hil) ds W (InV_next hb _ ds hin)
      have h5 := InV_five hin
      have hg0 : decide ((i : Int) < 0) = false := decide_eq_false (by omega)
      have hg1 : decide ((l.length : Int) ≤ (i : Int)) = false := decide_eq_false (by omega)
      generalize l.getD i V0 = X at *
      clear HIT HCL hin hrg
      go_enter Tryz.func77, Tryz.ntmps77
      go_wp2_with (first
        | (go_at_call 102; refine (HIX.out _ (B0.out _ _).2.2).mono ?_; rintro e w2 ⟨rfl, rfl⟩)
        | (refine wpList_take _ rfl _ rfl b (off + i * 5) ds rfl (H0.out _ (B0.out _ _).2.2) h5 ?_)
        | (go_at_call 103; refine (HX.out _ (B0.out _ _).2.2).mono ?_; rintro e w3 ⟨es, rfl, hS3, hb3⟩; have hw3 := (two_boxes hb3).2.2; have by3 := (two_boxes hb3).2.1; have e5 := size_toArray es (InS_five hS3); have e1 := InS_one (InS_in _ _ hS3))
        | (refine wpList_keep _ rfl _ _ rfl w.heap.size w hw3 (w.heap.size + 1) (by omega) es.toArray _ rfl rfl by3 rfl e5 (by simpa using e1) ?_; intro w9 bx9 hb9 hk9 hs9; clear hs9))
      (try simp only [Exit.inBlock, Exit.then])
      refine bodyPost_ret (results_val2 rfl _ _ _ _ rfl bx9 e5) rfl ?_
      refine ⟨es, rfl, InS_in _ _ (InS_upd (S' := fun _ => True) (fun q hq hl => ⟨hk9 q ?_, trivial⟩) _ _ hS3), hb9⟩
      have : w.heap.size + 2 ≤ q := by simpa using hq
      omega
  · rw [if_neg hk] at hf
    subst hf
    have k5 : ((k : Int) != 5) = true := by rw [bne_iff_ne]; exact hk
    clear hk hF hix HIX HCL HIT
    go_enter Tryz.func77, Tryz.ntmps77
    go_wp2_with (refine wpList_keep _ rfl _ _ rfl w.heap.size w (B0.out _ _).2.2 (w.heap.size + 1) (by omega) zeroC.toArray _ rfl rfl (B0.out _ _).2.1 rfl rfl (InS_one (InV_zero w)) ?_; intro w9 bx9 hb9 hk9 hs9; clear hs9)
    (try simp only [Exit.inBlock, Exit.then])
    refine bodyPost_ret (results_val2 rfl _ _ _ _ rfl bx9 rfl) rfl ?_
    exact ⟨zeroC, rfl, InV_zero _, hb9⟩
end Go.Proofs.YtehkiojohldlgaaGreatDoor.Tre
