/- Contracts of order's digit, Key, Less, Best. Conditions: as each theorem states. -/
import Derived.Test.YtjkdhgjicajboaaOrdP
import Derived.Test.YtjkdhgjicajboaaMatG1
import Derived.Laws.Cover1
namespace Go.Proofs.Ytjkdhgjicajboaa.Ord
open Go.RowKit Go.Lib Go.Proofs.Ytjkdhgjicajboaa.Byt Go.Proofs.Ytjkdhgjicajboaa.Rou Go.Proofs.Ytjkdhgjicajboaa.Mat

/-! ### digit, Key -/
theorem digit_any (x : ByteArray) (w : World) : Calls Try.prog 18 #[.string x] w fun e w' => e = .returned (.int .u8 ((wgB x).toNat : Int)) ∧ w = w' := by
  have f2 := s1_eq x
  have f3 := s2_eq x
  by_cases h1 : x = ⟨#[42]⟩
  · rw [wgB_one h1]
    rw [decide_eq_true h1] at f2
    clear h1 f3
    go_enter Try.func18, Try.ntmps18
    go_wp2_with fail
    go_ret
    exact ⟨rfl, rfl⟩
  rw [decide_eq_false h1] at f2
  by_cases h2 : x = ⟨#[42, 42]⟩
  · rw [wgB_rest h2]
    rw [decide_eq_true h2] at f3
    clear h1 h2
    go_enter Try.func18, Try.ntmps18
    go_wp2_with fail
    go_ret
    exact ⟨rfl, rfl⟩
  rw [wgB_word h1 h2]
  rw [decide_eq_false h2] at f3
  clear h1 h2
  go_enter Try.func18, Try.ntmps18
  go_wp2_with fail
  go_ret
  exact ⟨rfl, rfl⟩
theorem byte_one (x : Int) (b : UInt8) (h : x = (b.toNat : Int)) : (#[Value.int .u8 x]).toList = byteCells [b] := by subst h; rfl
set_option maxHeartbeats 1000000 in
theorem key_any (p : ByteArray) (w : World) (hp : p.size ≤ 140737488355328) :
    Calls Try.prog 8 #[.string p] w fun e w' => e = .returned (.string (kyB p)) ∧ Below w.heap.size w w' := by
  have HP := Lib.hid (pat_at p (patB p) rfl hp)
  cases h : patB p with
  | false =>
    rw [h] at HP
    rw [key_none h]
    clear h
    go_enter Try.func8, Try.ntmps8
    go_wp2_with (go_at_call 16; (with_reducible refine (HP.out _).mono ?_); rintro e w1 ⟨rfl, hb1⟩)
    go_ret
    exact ⟨rfl, hb1⟩
  | true =>
    have HS := Lib.hid (split_at p (spB p) true rfl (pat_row h) hp)
    rw [h] at HP
    have hl := (spB_size p).1
    rw [key_yes h]
    generalize spB p = L at *
    clear h
    have HD := Lib.hid digit_any
    have HN := Lib.hid fun k (h : k < L.length) => kyK_next (L := L) h
    have HL := Lib.hid fun k (h : k ≤ L.length) => kyK_len (L := L) h
    go_enter Try.func8, Try.ntmps8
    go_wp2_with (first
      | (go_at_call 16; (with_reducible refine (HP.out _).mono ?_); rintro e w1 ⟨rfl, hb1⟩; clear HP)
      | (go_at_call 17; (with_reducible refine (HS.out _).mono ?_); rintro e w2 ⟨a2, c2, rfl, hr2, _, hb2⟩; have HB := Lib.hid (hb1.trans (hb2.mono hb1.size)); clear HS hb1 hb2)
      | (with_reducible refine wpList_emptied _ rfl _ _ rfl w2.heap.size w2 (Below.refl _ _) (Nat.le_refl _) _ _ (L.length + 1) rfl rfl rfl (by omega) (by omega) ?_; intro v3 w3 hown3 hb3))
    obtain ⟨a2', c2', e2, hc2⟩ := hr2.open_
    injection e2 with q1 _ q3
    subst q1 q3
    have HC := Lib.hid hc2
    clear hc2 hr2
    go_loopw [22, 5] (fun i v wr => ∃ k : Nat, i = .int .i64 (k : Int) ∧ k ≤ L.length ∧ Own wr w2.heap.size v (kyK L k) ∧ Below w2.heap.size w2 wr) (fun i _ _ => L.length - (RowKit.intOf i).toNat)
    case atStart => exact ⟨0, rfl, Nat.zero_le _, hown3, hb3⟩
    case round =>
      obtain ⟨k, rfl, hk, hown, hb⟩ := hrel
      by_cases hlt : k < L.length
      · obtain ⟨b, off, rfl, h1⟩ := HC.out k hlt
        have c1 := (hb.cell (Strs.cell_lt h1)).trans h1
        have HN2 := Lib.hid (HN.out k hlt)
        have hlen := HL.out k hk
        have HDx := Lib.hid (HD.out (L.getD k ⟨#[]⟩))
        clear h1 HN HL HD
        generalize wgB (L.getD k ⟨#[]⟩) = d at *
        generalize L.getD k ⟨#[]⟩ = x at *
        have hlim : (kyK L k).length + 1 ≤ 140737488355328 := by omega
        clear hlen
        go_wp2_with (first
          | (go_at_call 18; (with_reducible refine (HDx.out _).mono ?_); rintro e wx ⟨rfl, rfl⟩)
          | (with_reducible refine wpList_push _ rfl _ _ rfl w2.heap.size w2 _ _ rfl (hown.alloc _) (hb.alloc hb.size _) (Nat.le_refl _) _ _ _ rfl _ _ (heap_alloc_new _ _) [d] rfl (byte_one _ _ rfl) hlim ?_; intro v4 w4 hown4 hb4))
        go_roundw
        case rel => exact ⟨k + 1, by go_num, by omega, by rw [HN2.out]; exact hown4, hb4⟩
        case measure => simp [RowKit.intOf]; omega
      · obtain rfl : k = L.length := by omega
        have hlen := HL.out _ (Nat.le_refl _)
        have hlim : (kyK L L.length).length + 1 ≤ 140737488355328 := by omega
        clear hlen HN HL HD HC
        go_wp2_with (first
          | (with_reducible refine wpList_push _ rfl _ _ rfl w2.heap.size w2 _ _ rfl (hown.alloc _) (hb.alloc hb.size _) (Nat.le_refl _) _ _ _ rfl _ _ (heap_alloc_new _ _) [50] rfl (byte_one _ _ rfl) hlim ?_; intro v4 w4 hown4 hb4)
          | (with_reducible refine wpList_string _ rfl _ rfl _ _ _ rfl hown4 ?_))
        go_ret
        exact ⟨rfl, HB.out.trans (hb4.mono HB.out.size)⟩

/-! ### Less -/
theorem comp_any (a b : ByteArray) (w : World) : Calls Try.prog 23 #[.string a, .string b] w fun e w' => e = .returned (.int .i64 (cmpB a b)) ∧ w = w' :=
  (Try.strings_Compare a b w).mono fun _ _ ⟨h1, h2⟩ => ⟨h1, h2.symm⟩
theorem or_any (b : Nat) (x y : Int) (w : World) (h0 : w.cell? ⟨b, 0, none⟩ = some (.int .i64 x)) (h1 : w.cell? ⟨b, 1, none⟩ = some (.int .i64 y)) :
    Calls Try.prog 22 #[.slice (some ⟨b, 0, none⟩) 2 2] w fun e w' => e = .returned (.int .i64 (orI x y)) ∧ w = w' := by
  unfold orI
  by_cases hx : x = 0
  · rw [if_pos hx]
    subst hx
    by_cases hy : y = 0
    · subst hy
      go_enter Try.func22, Try.ntmps22
      go_wp2_with fail
      refine wp_loop_rounds 3 ?_
      rw [rounds_succ]
      go_wp2_with fail
      rw [rounds_succ]
      go_wp2_with fail
      rw [rounds_succ]
      go_wp2_with fail
      go_ret
      exact ⟨rfl, rfl⟩
    · have hb : ((y : Int) != 0) = true := by rw [bne_iff_ne]; exact hy
      go_enter Try.func22, Try.ntmps22
      go_wp2_with fail
      refine wp_loop_rounds 3 ?_
      rw [rounds_succ]
      go_wp2_with fail
      rw [rounds_succ]
      go_wp2_with fail
      go_ret
      exact ⟨rfl, rfl⟩
  · rw [if_neg hx]
    have hb : ((x : Int) != 0) = true := by rw [bne_iff_ne]; exact hx
    go_enter Try.func22, Try.ntmps22
    go_wp2_with fail
    refine wp_loop_rounds 3 ?_
    rw [rounds_succ]
    go_wp2_with fail
    go_ret
    exact ⟨rfl, rfl⟩
theorem pair_at (w : World) (A B : Int) : (w.alloc (.cells #[.int .i64 A, .int .i64 B] 3)).cell? ⟨w.heap.size, 0, none⟩ = some (.int .i64 A) ∧ (w.alloc (.cells #[.int .i64 A, .int .i64 B] 3)).cell? ⟨w.heap.size, 1, none⟩ = some (.int .i64 B) := by
  have h := heap_alloc_new w (.cells #[.int .i64 A, .int .i64 B] 3)
  constructor
  · unfold World.cell?; dsimp only; rw [h]; rfl
  · unfold World.cell?; dsimp only; rw [h]; rfl
set_option maxHeartbeats 1000000 in
theorem less_any (p q : ByteArray) (w : World) (hp : p.size ≤ 140737488355328) (hq : q.size ≤ 140737488355328) :
    Calls Try.prog 10 #[.string p, .string q] w fun e w' => e = .returned (.bool (ls p q)) ∧ Below w.heap.size w w' := by
  have HK1 := Lib.hid fun W => key_any p W hp
  have HK2 := Lib.hid fun W => key_any q W hq
  have HC1 := Lib.hid (comp_any (kyB p) (kyB q))
  have HC2 := Lib.hid (comp_any p q)
  have hls := ls_cmp p q
  generalize kyB p = a at *
  generalize kyB q = b at *
  generalize cmpB a b = A at *
  generalize cmpB p q = B at *
  have HO := Lib.hid fun (u : World) => or_any u.heap.size A B _ (pair_at u A B).1 (pair_at u A B).2
  generalize orI A B = C at *
  generalize ls p q = R at *
  go_enter Try.func10, Try.ntmps10
  go_wp2_with (first
    | (go_at_call 8; first
      | ((with_reducible refine (HK1.out _).mono ?_); rintro e w1 ⟨rfl, hb1⟩; clear HK1)
      | ((with_reducible refine (HK2.out _).mono ?_); rintro e w2 ⟨rfl, hb2⟩; have HB := Lib.hid (hb1.trans (hb2.mono hb1.size)); clear HK2 hb1 hb2))
    | (go_at_call 23; first
      | ((with_reducible refine (HC1.out _).mono ?_); rintro e wx ⟨rfl, rfl⟩; clear HC1)
      | ((with_reducible refine (HC2.out _).mono ?_); rintro e wx ⟨rfl, rfl⟩; clear HC2))
    | (go_at_call 22; refine (HO.out _).mono ?_; rintro e w3 ⟨rfl, rfl⟩))
  go_ret
  exact ⟨rfl, HB.out.alloc HB.out.size _⟩

/-! ### Best -/
/-- The place of the best one of l for the route s. -/
def beI (l : List ByteArray) (s : ByteArray) (k : Nat) : Int := bs (fun p => matB p s) l k
theorem ga_mem2 {l : List ByteArray} {k : Nat} (h : k < l.length) : ga l k ∈ l := by
  unfold ga
  rw [List.getD_eq_getElem?_getD, List.getElem?_eq_getElem h]
  exact List.getElem_mem h
set_option maxHeartbeats 2000000 in
set_option maxRecDepth 100000 in
theorem best_any (l : List ByteArray) (s : ByteArray) (v : Value) (w : World) (hr : Strs.Row w v l) (hl : l.length ≤ 140737488355328) (hm : ∀ x ∈ l, x.size ≤ 140737488355328) (hs : s.size ≤ 140737488355328) :
    Calls Try.prog 12 #[v, .string s] w fun e w' => e = .returned (.int .i64 (beI l s l.length)) ∧ Below w.heap.size w w' := by
  obtain ⟨a, cap, rfl, hc⟩ := hr.open_
  have HC := Lib.hid hc
  have HM := Lib.hid fun k (h : k < l.length) => hm _ (ga_mem2 h)
  obtain ⟨R, hR⟩ : ∃ R, beI l s l.length = R := ⟨_, rfl⟩
  have HR := Lib.hid hR
  rw [hR]
  clear hc hr hm hR
  go_enter Try.func12, Try.ntmps12
  go_wp2_with fail
  go_loopw [10, 5] (fun i b wr => ∃ (k : Nat) (m : Int), i = .int .i64 (k : Int) ∧ b = .int .i64 m ∧ k ≤ l.length ∧ Hid (beI l s k = m) ∧ Hid (Below w.heap.size w wr)) (fun i _ _ => l.length - (RowKit.intOf i).toNat)
  case atStart => exact ⟨0, -1, rfl, rfl, Nat.zero_le _, Lib.hid rfl, Lib.hid (Below.refl _ _)⟩
  case round =>
    obtain ⟨k, m, rfl, rfl, hk, HK, HB⟩ := hrel
    by_cases hlt : k < l.length
    · obtain ⟨b, off, rfl, h1⟩ := HC.out k hlt
      change w.cell? _ = some (Value.string (ga l k)) at h1
      have c1 := (HB.out.cell (Strs.cell_lt h1)).trans h1
      have HI := Lib.hid fun W => mat_any (ga l k) s W (HM.out k hlt) hs
      clear h1
      cases hf : matB (ga l k) s with
      | false =>
        have HN := Lib.hid (show beI l s (k + 1) = m from (bs_no hf).trans HK.out)
        rw [hf] at HI
        clear HK hf
        generalize ga l k = x at *
        go_wp2_with (go_at_call 15; (with_reducible refine (HI.out _).mono ?_); rintro e w1 ⟨rfl, hb1⟩; have HB := Lib.hid (HB.out.trans (hb1.mono HB.out.size)); clear hb1)
        go_roundw
        case rel => exact ⟨k + 1, m, by go_num, rfl, by omega, HN, HB⟩
        case measure => simp [RowKit.intOf]; omega
      | true =>
        rw [hf] at HI
        by_cases hneg : m < 0
        · have HN := Lib.hid (show beI l s (k + 1) = (k : Int) from bs_first hf (by rw [show bs _ l k = m from HK.out]; exact hneg))
          have g : decide (m < 0) = true := decide_eq_true hneg
          clear HK hf hneg
          generalize ga l k = x at *
          go_wp2_with (go_at_call 15; (with_reducible refine (HI.out _).mono ?_); rintro e w1 ⟨rfl, hb1⟩; have HB := Lib.hid (HB.out.trans (hb1.mono HB.out.size)); clear hb1)
          go_roundw
          case rel => exact ⟨k + 1, (k : Int), by go_num, rfl, by omega, HN, HB⟩
          case measure => simp [RowKit.intOf]; omega
        · obtain ⟨n, hn, hnk⟩ := bs_some (f := fun p => matB p s) (l := l) (k := k) (by rw [show bs _ l k = m from HK.out]; exact hneg)
          obtain rfl : m = (n : Int) := HK.out.symm.trans hn
          have hnl : n < l.length := by omega
          obtain ⟨b', off', e', h2⟩ := HC.out n hnl
          obtain ⟨rfl, rfl⟩ : b = b' ∧ off = off' := by injection e' with e'; injection e' with q1 q2; exact ⟨q1, q2⟩
          change w.cell? _ = some (Value.string (ga l n)) at h2
          have HC2 := Lib.hid fun (W : World) (hb : Below w.heap.size w W) => (hb.cell (Strs.cell_lt h2)).trans h2
          have HL := Lib.hid fun W => less_any (ga l k) (ga l n) W (HM.out k hlt) (HM.out n hnl)
          have g : decide ((n : Int) < 0) = false := decide_eq_false (by omega)
          have gi : (n : Int) < (l.length : Int) := by omega
          clear h2 e'
          cases hls : ls (ga l k) (ga l n) with
          | false =>
            have HN := Lib.hid (show beI l s (k + 1) = (n : Int) from bs_behind hf hn hls)
            rw [hls] at HL
            clear HK hf hneg hn hls
            generalize ga l k = x at *
            generalize ga l n = y at *
            go_wp2_with (first
              | (go_at_call 15; (with_reducible refine (HI.out _).mono ?_); rintro e w1 ⟨rfl, hb1⟩; have HB := Lib.hid (HB.out.trans (hb1.mono HB.out.size)); have c2 := HC2.out _ HB.out; clear hb1)
              | (go_at_call 10; (with_reducible refine (HL.out _).mono ?_); rintro e w2 ⟨rfl, hb2⟩; have HB := Lib.hid (HB.out.trans (hb2.mono HB.out.size)); clear hb2))
            go_roundw
            case rel => exact ⟨k + 1, (n : Int), by go_num, rfl, by omega, HN, HB⟩
            case measure => simp [RowKit.intOf]; omega
          | true =>
            have HN := Lib.hid (show beI l s (k + 1) = (k : Int) from bs_ahead hf hn hls)
            rw [hls] at HL
            clear HK hf hneg hn hls
            generalize ga l k = x at *
            generalize ga l n = y at *
            go_wp2_with (first
              | (go_at_call 15; (with_reducible refine (HI.out _).mono ?_); rintro e w1 ⟨rfl, hb1⟩; have HB := Lib.hid (HB.out.trans (hb1.mono HB.out.size)); have c2 := HC2.out _ HB.out; clear hb1)
              | (go_at_call 10; (with_reducible refine (HL.out _).mono ?_); rintro e w2 ⟨rfl, hb2⟩; have HB := Lib.hid (HB.out.trans (hb2.mono HB.out.size)); clear hb2))
            go_roundw
            case rel => exact ⟨k + 1, (k : Int), by go_num, rfl, by omega, HN, HB⟩
            case measure => simp [RowKit.intOf]; omega
    · obtain rfl : k = l.length := by omega
      obtain rfl : m = R := HK.out.symm.trans HR.out
      go_wp2_with fail
      go_ret
      exact ⟨rfl, HB.out⟩
end Go.Proofs.Ytjkdhgjicajboaa.Ord
