/- The law IdentRising; the three laws as their proofs ask for them. Conditions: as each theorem states. -/
import Derived.Test.YtobedmdjkihfhaaIdeE
import Derived.Test.YtobedmdjkihfhaaOpn
import Derived.Test.YtobedmdjkihfhaaOpenStrs
namespace Go.Proofs.Ytobedmdjkihfhaa.Ide
open Go.RowKit Go.Lib Go.Proofs.Ytobedmdjkihfhaa.Byt

theorem z0_is (a : ByteArray) : a ++ ⟨#[0]⟩ = z0 a := by
  refine ByteArray.ext (Array.toList_inj.1 ?_)
  rw [app_list]
  simp [z0]
theorem z0_size (a : ByteArray) : (z0 a).size = a.size + 1 := by
  rw [← z0_is, ByteArray.size_append]
  rfl
set_option maxHeartbeats 8000000 in
set_option maxRecDepth 100000 in
theorem rises_any (l : List ByteArray) (v : Value) (w : World) (hr : Strs.Row w v l) (hl : l.length ≤ 9223372036854775807) :
    Calls Try.prog 4 #[v] w fun e w' => e = .returned (.bool true) ∧ Below w.heap.size w w' := by
  have HAW := Lib.hid awake_any
  have HLT := Lib.hid (light_any v l w hr hl)
  cases hlg : lgt l with
  | false =>
    rw [hlg] at HLT
    clear hr
    go_enter Try.func4, Try.ntmps4
    go_wp2_with (first
      | (go_at_call 6; (with_reducible refine HLT.out.mono ?_); rintro e w1 ⟨rfl, rfl⟩)
      | (go_at_call 7; (with_reducible refine (HAW.out _).mono ?_); rintro e w1 ⟨rfl, hb1⟩))
    go_ret
    exact ⟨rfl, hb1⟩
  | true =>
    rw [hlg] at HLT
    obtain ⟨hl60, hl100⟩ := lgt_yes hlg
    clear hlg
    have HG := Lib.hid (rising_any l v w hr (by omega))
    by_cases hrs : 0 ≤ rs l
    · have g0 : decide ((0 : Int) ≤ rs l) = true := decide_eq_true hrs
      generalize rs l = n2 at *
      clear hr
      go_enter Try.func4, Try.ntmps4
      go_wp2_with (first
        | (go_at_call 6; (with_reducible refine HLT.out.mono ?_); rintro e w1 ⟨rfl, rfl⟩)
        | (go_at_call 12; (with_reducible refine HG.out.mono ?_); rintro e w1 ⟨rfl, hb1⟩)
        | (go_at_call 7; (with_reducible refine (HAW.out _).mono ?_); rintro e w2 ⟨rfl, hb2⟩))
      go_ret
      exact ⟨rfl, hb1.trans (hb2.mono hb1.size)⟩
    · have g0 : decide ((0 : Int) ≤ rs l) = false := decide_eq_false hrs
      have hneg : rs l < 0 := by omega
      have HF := Lib.hid fun s W hr => find_any l v s hneg W hr (by omega)
      have HT := Lib.hid fun W hr => twice_any l v W hr (by omega) (fun x hx => by have := hl100 x hx; omega)
      have htw := tw_none hneg
      rw [htw] at HT
      have HO := Lib.hid fun i (h : i < l.length) => And.intro (fn_own hneg h) (And.intro (fi_own hneg h) (And.intro (fn_z0 hneg h) (fi_z0 hneg h)))
      have HM := Lib.hid fun i (h : i < l.length) => hl100 (ga l i) (ga_mem h)
      have HR := Lib.hid hr
      obtain ⟨a, cap, rfl, hc⟩ := hr.open_
      have HC := Lib.hid hc
      generalize rs l = n2 at *
      clear hc hr hl100 htw hrs hneg hl
      go_enter Try.func4, Try.ntmps4
      go_wp2_with (first
        | (go_at_call 6; (with_reducible refine HLT.out.mono ?_); rintro e w1 ⟨rfl, rfl⟩)
        | (go_at_call 12; (with_reducible refine HG.out.mono ?_); rintro e w1 ⟨rfl, hb1⟩))
      go_loopw [19] (fun x wr => ∃ i : Nat, x = .int .i64 (i : Int) ∧ i ≤ l.length ∧ Hid (Below w.heap.size w wr)) (fun x _ => l.length - (RowKit.intOf x).toNat)
      case atStart => exact ⟨0, by go_num, Nat.zero_le _, Lib.hid hb1⟩
      case round =>
        obtain ⟨i, rfl, hi, HB⟩ := hrel
        by_cases hlt : i < l.length
        · obtain ⟨b, off, rfl, f1⟩ := HC.out i hlt
          change w.cell? _ = some (Value.string (ga l i)) at f1
          have HF1 := Lib.hid f1
          obtain ⟨o1, o2, o3, o4⟩ := HO.out i hlt
          have hsz := HM.out i hlt
          have hx1 := (HB.out.cell (Strs.cell_lt f1)).trans f1
          have HX := Lib.hid (HF.out (ga l i))
          have HZ := Lib.hid (HF.out (z0 (ga l i)))
          rw [o1, o2] at HX
          rw [o3, o4] at HZ
          have hz := z0_size (ga l i)
          have r1 := add_run _ _ _ (z0_is (ga l i)) (by omega)
          have HB0 := Lib.hid fun (w2 : World) (h : Below w.heap.size w w2) => (h.cell (Strs.cell_lt HF1.out)).trans HF1.out
          have hli : (i : Int) < (l.length : Int) := by omega
          have e1 : ((i : Int) != (i : Int)) = false := by simp
          have e2 : ((i : Int) + 1 != (i : Int) + 1) = false := by simp
          have hcast : ((i + 1 : Nat) : Int) = (i : Int) + 1 := by omega
          rw [hcast] at HZ
          clear f1 o1 o2 o3 o4
          by_cases hn : i + 1 < l.length
          · obtain ⟨b', off', e', f2⟩ := HC.out (i + 1) hn
            obtain ⟨rfl, rfl⟩ : b = b' ∧ off = off' := by injection e' with e'; injection e' with q1 q2; exact ⟨q1, q2⟩
            change w.cell? _ = some (Value.string (ga l (i + 1))) at f2
            have HF2 := Lib.hid f2
            have HB1 := Lib.hid fun (w2 : World) (h : Below w.heap.size w w2) => (h.cell (Strs.cell_lt HF2.out)).trans HF2.out
            have g2 : decide ((i : Int) + 1 < (l.length : Int)) = true := decide_eq_true (by omega)
            have hj : ((i : Int) + 1) < (l.length : Int) := by omega
            clear f2 e'
            by_cases hq : ga l (i + 1) = z0 (ga l i)
            · rw [decide_eq_true (show i + 1 < l.length ∧ ga l (i + 1) = z0 (ga l i) from ⟨hn, hq⟩)] at HZ
              rw [hq] at HB1 HF2
              generalize z0 (ga l i) = z at *
              generalize ga l i = x at *
              have e3 : (z.toList == z.toList) = true := beq_self_eq_true _
              clear hq
              go_wp2_with (go_at_call 14; first
                | ((with_reducible refine (HX.out _ (HR.out.next HB.out)).mono ?_); rintro e w2 ⟨rfl, hb2⟩; have c2 := HB.out.trans (hb2.mono HB.out.size); have hx2 := HB0.out _ c2; clear hb2 hx1)
                | ((with_reducible refine (HZ.out _ (HR.out.next c2)).mono ?_); rintro e w3 ⟨rfl, hb3⟩; have c3 := c2.trans (hb3.mono c2.size); have hx3 := HB0.out _ c3; have hy3 := HB1.out _ c3; clear hb3 hx2 c2))
              go_region
              go_wp2_with fail
              go_roundw
              case rel => exact ⟨i + 1, by go_num, by omega, Lib.hid (by first | exact c3 | exact c3.drew)⟩
              case measure => simp [RowKit.intOf]; omega
            · rw [decide_eq_false (show ¬ (i + 1 < l.length ∧ ga l (i + 1) = z0 (ga l i)) from fun q => hq q.2)] at HZ
              generalize ga l (i + 1) = y at *
              generalize z0 (ga l i) = z at *
              generalize ga l i = x at *
              have e3 : (y.toList == z.toList) = false := Byt.str_neq hq
              clear hq
              go_wp2_with (go_at_call 14; first
                | ((with_reducible refine (HX.out _ (HR.out.next HB.out)).mono ?_); rintro e w2 ⟨rfl, hb2⟩; have c2 := HB.out.trans (hb2.mono HB.out.size); have hx2 := HB0.out _ c2; clear hb2 hx1)
                | ((with_reducible refine (HZ.out _ (HR.out.next c2)).mono ?_); rintro e w3 ⟨rfl, hb3⟩; have c3 := c2.trans (hb3.mono c2.size); have hx3 := HB0.out _ c3; have hy3 := HB1.out _ c3; clear hb3 hx2 c2))
              go_region
              go_wp2_with fail
              go_roundw
              case rel => exact ⟨i + 1, by go_num, by omega, Lib.hid (by first | exact c3 | exact c3.drew)⟩
              case measure => simp [RowKit.intOf]; omega
          · rw [decide_eq_false (show ¬ (i + 1 < l.length ∧ ga l (i + 1) = z0 (ga l i)) from fun q => hn q.1)] at HZ
            have g2 : decide ((i : Int) + 1 < (l.length : Int)) = false := decide_eq_false (by omega)
            generalize z0 (ga l i) = z at *
            generalize ga l i = x at *
            go_wp2_with (go_at_call 14; first
              | ((with_reducible refine (HX.out _ (HR.out.next HB.out)).mono ?_); rintro e w2 ⟨rfl, hb2⟩; have c2 := HB.out.trans (hb2.mono HB.out.size); have hx2 := HB0.out _ c2; clear hb2 hx1)
              | ((with_reducible refine (HZ.out _ (HR.out.next c2)).mono ?_); rintro e w3 ⟨rfl, hb3⟩; have c3 := c2.trans (hb3.mono c2.size); have hx3 := HB0.out _ c3; clear hb3 hx2 c2))
            go_region
            go_wp2_with fail
            go_roundw
            case rel => exact ⟨i + 1, by go_num, by omega, Lib.hid (by first | exact c3 | exact c3.drew)⟩
            case measure => simp [RowKit.intOf]; omega
        · obtain rfl : i = l.length := by omega
          have e5 : ((-1 : Int) == -1) = true := by simp
          go_wp2_with (first
            | (go_at_call 10; (with_reducible refine (HT.out _ (HR.out.next HB.out)).mono ?_); rintro e w2 ⟨rfl, hb2⟩; have c2 := HB.out.trans (hb2.mono HB.out.size))
            | (go_at_call 7; (with_reducible refine (HAW.out _).mono ?_); rintro e w3 ⟨rfl, hb3⟩))
          go_ret
          exact ⟨rfl, c2.trans (hb3.mono c2.size)⟩

theorem says_law (s : ByteArray) (l : List ByteArray) {v : Value} {Q : Prop} (ws : s.size ≤ maxLen) {W : World} (hr : Strs.Row W v l) (hl : l.length ≤ 9223372036854775807) (_ : Q) (_ : World) :
    Calls Try.prog 3 #[.string s, v] W fun e W' => e = .returned (.bool true) ∧ Below W.heap.size W W' := by
  exact says_any s l v W hr (by unfold maxLen at ws; omega) hl
theorem rising_law (l : List ByteArray) {v : Value} {Q : Prop} {W : World} (hr : Strs.Row W v l) (hl : l.length ≤ 9223372036854775807) (_ : Q) (_ : World) :
    Calls Try.prog 4 #[v] W fun e W' => e = .returned (.bool true) ∧ Below W.heap.size W W' := by
  exact rises_any l v W hr hl
theorem grows_law (s : ByteArray) (x : Int) (ws : s.size ≤ maxLen) (wn : (Lit.int .u8 x).wf = true) (W : World) :
    Calls Try.prog 5 #[.string s, .int .u8 x] W fun e W' => e = .returned (.bool true) ∧ Below W.heap.size W W' := by
  obtain ⟨n, rfl, hn⟩ := Opn.u8_nat wn
  exact grows_any s n W (by unfold maxLen at ws; omega) hn
end Go.Proofs.Ytobedmdjkihfhaa.Ide
