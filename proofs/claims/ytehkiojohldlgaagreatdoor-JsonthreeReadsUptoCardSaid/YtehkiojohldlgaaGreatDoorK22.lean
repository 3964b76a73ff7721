/- Texts of my own, packed: TreRd. Conditions: as each theorem states. -/
import Derived.Test.YtehkiojohldlgaaGreatDoorK16
import Derived.Test.YtehkiojohldlgaaGreatDoorK21
namespace Go.Proofs.YtehkiojohldlgaaGreatDoor.Tre
open Go.RowKit Go.Lib Go.Proofs.YtehkiojohldlgaaGreatDoor.Byt

theorem fnd_hit : ∀ (ns : List ByteArray) (l : List Vt) (s : ByteArray) (i : Nat), i < ns.length → i < l.length → (∀ j, j < i → ns.getD j ⟨#[]⟩ ≠ s) → ns.getD i ⟨#[]⟩ = s → fnd ns l s = some (l.getD i V0)
  | [], _, _, i, h, _, _, _ => by simp at h
  | _ :: _, [], _, i, _, h, _, _ => by simp at h
  | m :: ns, x :: l, s, 0, _, _, _, h => by
    have : m = s := h
    rw [fnd, if_pos this]; rfl
  | m :: ns, x :: l, s, i + 1, h1, h2, h3, h4 => by
    have : m ≠ s := h3 0 (by omega)
    rw [fnd, if_neg this, fnd_hit ns l s i (by simpa using h1) (by simpa using h2) (fun j hj => h3 (j + 1) (by omega)) h4]
    rfl
theorem fnd_miss : ∀ (ns : List ByteArray) (l : List Vt) (s : ByteArray), (∀ j, j < ns.length → j < l.length → ns.getD j ⟨#[]⟩ ≠ s) → fnd ns l s = none
  | [], _, _, _ => by unfold fnd; rfl
  | _ :: _, [], _, _ => by unfold fnd; rfl
  | m :: ns, x :: l, s, h => by
    have : m ≠ s := h 0 (by simp) (by simp)
    rw [fnd, if_neg this]
    exact fnd_miss ns l s fun j h1 h2 => h (j + 1) (by simpa using h1) (by simpa using h2)

set_option maxHeartbeats 4000000 in
set_option maxRecDepth 100000 in
theorem rfindS (v : Vt) (hv : OkT v) (s : ByteArray) (cs : List Value) (w : World) (h : InV w v cs) :
    Calls Tryz.prog 40 #[.agg cs.toArray, .string s] w fun e w' => ∃ ds : List Value, e = .returned (.tuple #[.agg ds.toArray, .bool (find v s).isSome]) ∧ InS (fun b => w.heap.size ≤ b) w' ((find v s).getD V0) ds ∧ Below w.heap.size w w' := by
  obtain ⟨a, cap, c4, rfl, hit, hr⟩ := (InV_iff w v cs).1 h
  obtain ⟨hok, hoks⟩ := (OkT_iff v).1 hv
  have HCL := Lib.hid fun x (hx : x ∈ v.l) cs (W : World) (hi : InV W x cs) => rcopied x (hoks x hx) cs W hi
  obtain ⟨a2, cap2, rfl, hrow⟩ := hr.open_
  have hf : find v s = if v.k = 5 then fnd v.ns v.l s else none := rfl
  have HL := hok.2.2.2.1
  have HN := hok.2.2.2.2.1
  have hmx : v.l.length ≤ 9223372036854775807 := by omega
  have hmn : v.ns.length ≤ 9223372036854775807 := by omega
  have HIT := Lib.hid hit
  have HROW := Lib.hid hrow
  have B0 := Lib.hid fun (o p : Obj) => two_boxes (Below.refl ((w.alloc o).alloc p).heap.size ((w.alloc o).alloc p))
  clear hv hok hoks hr hit h hrow
  generalize find v s = FD at *
  generalize v.l = l at *
  generalize v.ns = ns at *
  generalize v.k = k at *
  generalize v.n = n at *
  generalize v.s = vs at *
  by_cases hk : k = 5
  · rw [if_pos hk] at hf
    subst hk
    have HF := Lib.hid hf
    clear hf
    go_enter Tryz.func40, Tryz.ntmps40
    go_wp2_with fail
    go_loopw [14] (fun x wr => ∃ i : Nat, x = .int .i64 (i : Int) ∧ i ≤ ns.length ∧ TB w (.cells #[.int .i64 5, .int .i64 n, .string vs, .slice a l.length cap, .slice a2 ns.length cap2] 26) (.cells zeroC.toArray 26) wr ∧ Hid (∀ j, j < i → j < l.length → ns.getD j ⟨#[]⟩ ≠ s))
      (fun x _ => ns.length - (RowKit.intOf x).toNat)
    case atStart => exact ⟨0, by go_num, by omega, TB.start _ _ _, Lib.hid fun j hj => absurd hj (Nat.not_lt_zero _)⟩
    case round =>
      obtain ⟨i, rfl, hi, tb, hz⟩ := hrel
      have b1 := tb.one
      have b2 := tb.two
      by_cases hlt : i < ns.length
      · obtain ⟨b, off, rfl, f1⟩ := HROW.out i hlt
        have x4 : wr.cell? ⟨w.heap.size, 4, none⟩ = some (.slice (some ⟨b, off, none⟩) ns.length cap2) := b1.cell 4
        have x3 : wr.cell? ⟨w.heap.size, 3, none⟩ = some (.slice a l.length cap) := b1.cell 3
        have g1 := (tb.below.cell (Strs.cell_lt f1)).trans f1
        obtain ⟨A, hA⟩ : ∃ A, A = ns.getD i ⟨#[]⟩ := ⟨_, rfl⟩
        rw [← hA] at g1
        have HA := Lib.hid hA
        clear f1 hA
        by_cases hAB : A = s
        · have e1 : (A.toList == s.toList) = true := by rw [hAB]; simp
          by_cases hil : i < l.length
          · have g2 : ((i : Int) < (l.length : Int)) := by omega
            obtain ⟨bb, oo, rfl, ds, hrg, hin⟩ := HIT.out i hil
            have hrg2 := range_next hrg tb.below
            rw [Nat.mul_comm 5 i] at hrg2
            have h5 := InV_five hin
            have HX := Lib.hid (HCL.out _ (mem_get hil) ds wr (InV_next tb.below _ _ hin))
            have HFD := Lib.hid (show FD = some (l.getD i V0) by rw [HF.out]; exact fnd_hit ns l s i hlt hil (fun j hj => hz.out j hj (by omega)) (HA.out ▸ hAB))
            clear hin hrg HIT HCL hz hAB HROW
            go_wp2_with (first
              | (refine wpList_take _ rfl _ rfl bb (oo + i * 5) ds rfl hrg2 h5 ?_)
              | (go_at_call 79; (with_reducible refine HX.out.mono ?_); rintro e w3 ⟨es, rfl, hT3, hb3⟩; have tb3 := tb.next hb3; have e5 := size_toArray es (InS_five hT3.ins); have e1 := InS_one (InS_in _ _ hT3.ins))
              | (refine wpList_keep _ rfl _ _ rfl w.heap.size w tb3.below (w.heap.size + 1) (by omega) es.toArray _ rfl rfl tb3.two rfl e5 (by simpa using e1) ?_; intro w9 bx9 hb9 hk9 hs9; clear hs9))
            (try simp only [Exit.inBlock, Exit.then])
            refine bodyPost_ret (results_val2 rfl _ _ _ _ rfl bx9 e5) rfl ?_
            refine ⟨es, by rw [HFD.out]; rfl, ?_, hb9⟩
            rw [HFD.out]
            have hw2 := b2.lt
            have hwr : w.heap.size ≤ wr.heap.size := tb.below.size
            exact InS_upd (fun q hq hl => ⟨hk9 q (by omega), by have := hwr; omega⟩) _ _ hT3.ins
          · have g2 : ¬ ((i : Int) < (l.length : Int)) := by omega
            have HZ := Lib.hid (show ∀ j, j < i + 1 → j < l.length → ns.getD j ⟨#[]⟩ ≠ s from fun j hj hjl => hz.out j (by omega) hjl)
            clear hz hAB
            go_wp2_with fail
            go_roundw
            case rel => exact ⟨i + 1, by go_num, by omega, tb, HZ⟩
            case measure => simp [RowKit.intOf]; omega
        · have e1 : (A.toList == s.toList) = false := Byt.str_neq hAB
          have HZ := Lib.hid (show ∀ j, j < i + 1 → j < l.length → ns.getD j ⟨#[]⟩ ≠ s from fun j hj hjl => by
            by_cases hji : j < i
            · exact hz.out j hji hjl
            · obtain rfl : j = i := by omega
              rw [← HA.out]; exact hAB)
          clear hz hAB
          go_wp2_with fail
          go_roundw
          case rel => exact ⟨i + 1, by go_num, by omega, tb, HZ⟩
          case measure => simp [RowKit.intOf]; omega
      · obtain rfl : i = ns.length := by omega
        have HFD := Lib.hid (show FD = none by rw [HF.out]; exact fnd_miss ns l s hz.out)
        clear hz
        go_wp2_with (refine wpList_keep _ rfl _ _ rfl w.heap.size w tb.below (w.heap.size + 1) (by omega) zeroC.toArray _ rfl rfl b2 rfl rfl (InS_one (InV_zero w)) ?_; intro w9 bx9 hb9 hk9 hs9; clear hs9)
        (try simp only [Exit.inBlock, Exit.then])
        refine bodyPost_ret (results_val2 rfl _ _ _ _ rfl bx9 rfl) rfl ?_
        exact ⟨zeroC, by rw [HFD.out]; rfl, by rw [HFD.out]; exact InS_zero _ _, hb9⟩
  · rw [if_neg hk] at hf
    subst hf
    have k5 : ((k : Int) != 5) = true := by rw [bne_iff_ne]; exact hk
    clear hk HCL HIT HROW
    go_enter Tryz.func40, Tryz.ntmps40
    go_wp2_with (refine wpList_keep _ rfl _ _ rfl w.heap.size w (B0.out _ _).2.2 (w.heap.size + 1) (by omega) zeroC.toArray _ rfl rfl (B0.out _ _).2.1 rfl rfl (InS_one (InV_zero w)) ?_; intro w9 bx9 hb9 hk9 hs9; clear hs9)
    (try simp only [Exit.inBlock, Exit.then])
    refine bodyPost_ret (results_val2 rfl _ _ _ _ rfl bx9 rfl) rfl ?_
    exact ⟨zeroC, rfl, InS_zero _ _, hb9⟩
theorem rfind (v : Vt) (hv : OkT v) (s : ByteArray) (cs : List Value) (w : World) (h : InV w v cs) :
    Calls Tryz.prog 40 #[.agg cs.toArray, .string s] w fun e w' => ∃ ds : List Value, e = .returned (.tuple #[.agg ds.toArray, .bool (find v s).isSome]) ∧ InV w' ((find v s).getD V0) ds ∧ Below w.heap.size w w' := by
  refine (rfindS v hv s cs w h).mono ?_
  rintro e w' ⟨ds, he, hi, hb⟩
  exact ⟨ds, he, InS_in _ _ hi, hb⟩
end Go.Proofs.YtehkiojohldlgaaGreatDoor.Tre
