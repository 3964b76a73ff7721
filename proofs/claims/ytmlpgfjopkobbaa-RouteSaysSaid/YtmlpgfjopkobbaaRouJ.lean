/- Contracts of the library's Join at "/" and of route's Join. Conditions: as each theorem states. -/
import Derived.Test.YtmlpgfjopkobbaaRouE
import Derived.Test.YtmlpgfjopkobbaaBldG
import Derived.Lib.Join
namespace Go.Proofs.Ytmlpgfjopkobbaa.Rou
open Go.RowKit Go.Lib Go.Proofs.Ytmlpgfjopkobbaa.Byt Go.Proofs.Ytmlpgfjopkobbaa.Bld

def dts (l : List ByteArray) : List (List UInt8) := l.map fun x => x.data.toList
theorem dts_len (l : List ByteArray) : (dts l).length = l.length := List.length_map _
/-- Behind the first k pieces. -/
def jt (l : List (List UInt8)) : List UInt8 := Lib.joinTail [47] l
theorem sj_cons (p : List UInt8) (l : List (List UInt8)) : sj (p :: l) = p ++ jt l := by
  induction l generalizing p with
  | nil => show p = _; unfold jt Lib.joinTail; simp
  | cons q l ih =>
    show p ++ 47 :: sj (q :: l) = _
    rw [ih q]
    unfold jt Lib.joinTail
    simp
theorem jt_snoc {l : List (List UInt8)} {k : Nat} {y : List UInt8} (h : l[k]? = some y) : jt (l.take (k + 1)) = jt (l.take k) ++ [47] ++ y := Lib.joinTail_take_succ [47] l k y h
theorem jt_len (l : List (List UInt8)) : (jt l).length = l.length + Lib.lens l := by unfold jt; rw [Lib.joinTail_length]; simp
theorem ret_s {a b : ByteArray} (h : a = b) : Ending.returned (.string a) = .returned (.string b) := by rw [h]
/-- The parts l with a slash between two. -/
def sjB (l : List ByteArray) : ByteArray := mk (sj (dts l))
section
variable (l : List ByteArray) (a : Option Addr) (c : Nat) (w : World)
theorem ljoin_none (h : l = []) : Calls Try.prog 26 #[.slice a 0 c, .string ⟨#[47]⟩] w fun e w' => e = .returned (.string (sjB l)) ∧ Below w.heap.size w w' := by
  subst h
  show Calls _ _ _ _ fun e w' => e = .returned (.string ⟨#[]⟩) ∧ _
  go_enter Try.func26, Try.ntmps26
  go_wp2_with fail
  go_ret
  exact ⟨rfl, Below.refl _ _⟩
theorem ljoin_one (x : ByteArray) (h : l = [x]) (hr : Strs.Row w (.slice a 1 c) l) : Calls Try.prog 26 #[.slice a 1 c, .string ⟨#[47]⟩] w fun e w' => e = .returned (.string (sjB l)) ∧ Below w.heap.size w w' := by
  subst h
  have hq : sjB [x] = x := mk_data x
  rw [hq]
  obtain ⟨a', c', e, hc⟩ := hr.open_
  injection e with e1 e2 e3
  subst e1 e3
  obtain ⟨b, off, rfl, h0⟩ := hc 0 (by simp)
  have c0 : w.cell? ⟨b, off, none⟩ = some (.string x) := h0
  clear hc h0 hr e2 hq
  go_enter Try.func26, Try.ntmps26
  go_wp2_with fail
  go_ret
  exact ⟨rfl, Below.refl _ _⟩
end
set_option maxHeartbeats 4000000 in
set_option maxRecDepth 100000 in
theorem ljoin_many (x0 x1 : ByteArray) (r : List ByteArray) (b off c : Nat) (w : World) (hr : ∀ j, j < (x0 :: x1 :: r).length → w.cell? ⟨b, off + j, none⟩ = some (.string ((x0 :: x1 :: r).getD j ⟨#[]⟩))) (hcap : r.length + 2 ≤ c) (hlim : (sj (dts (x0 :: x1 :: r))).length ≤ 8000000) :
    Calls Try.prog 26 #[.slice (some ⟨b, off, none⟩) (r.length + 2) c, .string ⟨#[47]⟩] w fun e w' => e = .returned (.string (sjB (x0 :: x1 :: r))) ∧ Below w.heap.size w w' := by
  have hbk : b < w.heap.size := Strs.cell_lt (hr 0 (by simp))
  have HR := Lib.hid hr
  obtain ⟨L, hL⟩ : ∃ L, x0 :: x1 :: r = L := ⟨_, rfl⟩
  obtain ⟨T, hT⟩ : ∃ T, x1 :: r = T := ⟨_, rfl⟩
  have hLn : L.length = r.length + 2 := by rw [← hL]; rfl
  have hTn : T.length = r.length + 1 := by rw [← hT]; rfl
  have HT := Lib.hid fun j (h : j < T.length) => show w.cell? ⟨b, off + 1 + j, none⟩ = some (.string (T.getD j ⟨#[]⟩)) from by
    have := HR.out (j + 1) (by rw [hL]; omega)
    rw [show off + 1 + j = off + (j + 1) by omega, this, ← hT]
    rfl
  have c0 : w.cell? ⟨b, off, none⟩ = some (.string x0) := HR.out 0 (by simp)
  have hS : sj (dts L) = x0.data.toList ++ jt (dts T) := by rw [← hL, ← hT]; exact sj_cons _ _
  rw [hL] at HR hlim ⊢
  have hsum : Lib.lens (dts L) + r.length + 1 = (sj (dts L)).length := by
    rw [hS, List.length_append, jt_len, dts_len, hTn, ← hL, ← hT]
    unfold dts
    simp only [List.map_cons, Lib.lens, List.sum_cons]
    omega
  obtain ⟨R, hR⟩ : ∃ R, sjB L = R := ⟨_, rfl⟩
  have HRS := Lib.hid (show mk (x0.data.toList ++ jt ((dts T).take T.length)) = R by rw [← hR, List.take_of_length_le (by rw [dts_len]; exact Nat.le_refl _), ← hS]; rfl)
  have hle : ∀ k, (x0.data.toList ++ jt ((dts T).take k)).length ≤ 8000000 := fun k => by
    rw [hS, List.length_append] at hlim
    rw [List.length_append]
    have := Lib.joinTail_take_le [47] (dts T) k
    unfold jt at *
    omega
  have HLE := Lib.hid hle
  have HN := Lib.hid fun k (h : k < T.length) => jt_snoc (l := dts T) (k := k) (y := (T.getD k ⟨#[]⟩).data.toList) (by unfold dts; rw [List.getElem?_map, List.getD_eq_getElem?_getD, List.getElem?_eq_getElem h]; rfl)
  have HLN := Lib.hid fun k (h : k < L.length) => And.intro (Lib.lens_take_succ (dts L) k (L.getD k ⟨#[]⟩).data.toList (by unfold dts; rw [List.getElem?_map, List.getD_eq_getElem?_getD, List.getElem?_eq_getElem h]; rfl)) (Lib.lens_take_le (dts L) (k + 1))
  have hall : (dts L).take L.length = dts L := List.take_of_length_le (by rw [dts_len]; exact Nat.le_refl _)
  have HAL := Lib.hid hall
  rw [hR]
  obtain ⟨A, hA⟩ : ∃ A, Lib.lens (dts L) = A := ⟨_, rfl⟩
  rw [hA] at hsum
  have HAA := Lib.hid hA
  obtain ⟨n, hn⟩ : ∃ n, r.length + 2 = n := ⟨_, rfl⟩
  obtain ⟨m, hm⟩ : ∃ m, r.length + 1 = m := ⟨_, rfl⟩
  have hnm : n = m + 1 := by omega
  have hnA : A + m ≤ 8000000 := by omega
  rw [hn] at hLn hcap ⊢
  rw [hm] at hTn
  have HLn := Lib.hid hLn
  have HTn := Lib.hid hTn
  have hn2 : 2 ≤ n := by omega
  have hm1 : (n : Int) - 1 = (m : Int) := by omega
  have z0 : ((n : Int) == 0) = false := beq_eq_false_iff_ne.2 (by omega)
  have z1 : ((n : Int) == 1) = false := beq_eq_false_iff_ne.2 (by omega)
  have hdv : ¬ ((9223372036854775807 : Int) / (m : Int) ≤ 1) := by
    have : (2 : Int) ≤ 9223372036854775807 / (m : Int) := by rw [Int.le_ediv_iff_mul_le (by omega)]; omega
    omega
  clear hL hT hLn hTn hr hall hA hS hlim hle hR hn hm hsum
  have HNM := Lib.hid hnm
  clear hnm
  go_enter Try.func26, Try.ntmps26
  go_wp2_with fail
  go_loop [5, 41] (fun s i => ∃ k : Nat, k ≤ n ∧ i = .int .i64 (k : Int) ∧ s = .int .i64 ((m + Lib.lens ((dts L).take k) : Nat) : Int)) (fun _ i => n - (RowKit.intOf i).toNat)
  case atStart => exact ⟨0, Nat.zero_le _, rfl, by simp [Lib.lens]⟩
  case round =>
    obtain ⟨k, hk, rfl, rfl⟩ := hrel
    by_cases hlt : k < n
    · have hcl := HR.out k (by rw [HLn.out]; exact hlt)
      obtain ⟨s1, s2⟩ := HLN.out k (by rw [HLn.out]; exact hlt)
      rw [len_dt] at s1
      rw [HAA.out] at s2
      have S1 := Lib.hid s1
      have hb1 : Lib.lens ((dts L).take k) + (L.getD k ⟨#[]⟩).size ≤ A := by omega
      clear s1 s2
      generalize hA1 : Lib.lens ((dts L).take (k + 1)) = A1 at *
      have HA1 := Lib.hid hA1
      clear hA1
      generalize Lib.lens ((dts L).take k) = A0 at *
      generalize L.getD k ⟨#[]⟩ = x at *
      go_wp2_with fail
      go_round
      case rel => exact ⟨k + 1, by omega, by go_num, by rw [HA1.out, S1.out]; refine congrArg _ ?_; omega⟩
      case measure => simp [RowKit.intOf]; omega
    · obtain rfl : k = n := by omega
      have hal := HAL.out
      rw [HLn.out] at hal
      rw [hal, HAA.out]
      clear hal
      obtain ⟨N, hN⟩ : ∃ N, m + A = N := ⟨_, rfl⟩
      have hN1 : ((m : Int) + (A : Int)) = (N : Int) := by omega
      have hN2 : ((m + A : Nat) : Int) = (N : Int) := by omega
      rw [hN2]
      have HW := Lib.hid hbk
      have HG := Lib.hid (grow_any w.heap.size w.heap.size N (w.alloc (.cells #[.pointer none, .slice none 0 0] 44)) (Nat.le_refl _) (heap_alloc_new w _) (by simp) (by omega))
      have HB0 := Lib.hid ((Below.refl w.heap.size w).alloc (Nat.le_refl _) (.cells #[.pointer none, .slice none 0 0] 44))
      have HX := Lib.hid fun W hW hBW => write_any w.heap.size w.heap.size [] x0 W hW (by have := HLE.out 0; rw [List.length_append, len_dt] at this; simp only [List.length_nil]; omega) hBW
      have HC0 := Lib.hid c0
      clear hN hN1 hN2 c0 hbk
      go_wp2_with (first
        | (go_at_call 34; (with_reducible refine HG.out.mono ?_); rintro e w1 ⟨rfl, h1, hb1⟩; have b1 := Lib.hid (HB0.out.trans hb1); have hs1 := b1.out.size; have c1 := (b1.out.cell (p := ⟨b, off, none⟩) HW.out).trans HC0.out)
        | (go_at_call 35; (with_reducible refine (HX.out _ h1 hs1).mono ?_); rintro e w2 ⟨rfl, h2, hb2⟩; have b2 := Lib.hid (b1.out.trans hb2); have H2 := Lib.hid h2; clear h1 h2 hb1 hb2 b1 c1 hs1))
      go_loopw [65] (fun i wr => ∃ j : Nat, j ≤ m ∧ i = .int .i64 (j : Int) ∧ Hid (Holds wr w.heap.size w.heap.size (x0.data.toList ++ jt ((dts T).take j))) ∧ Hid (Below w.heap.size w wr)) (fun i _ => m - (RowKit.intOf i).toNat)
      case atStart => exact ⟨0, Nat.zero_le _, rfl, Lib.hid (by have := H2.out; simpa [jt, Lib.joinTail] using this), b2⟩
      case round =>
        obtain ⟨j, hj, rfl, HH, HB⟩ := hrel
        have hsz := HB.out.size
        by_cases hjm : j < m
        · have hjT : j < T.length := by rw [HTn.out]; exact hjm
          have hcl := (HB.out.cell (p := ⟨b, off + 1 + j, none⟩) HW.out).trans (HT.out j hjT)
          have hnx := HN.out j hjT
          have l1 := HLE.out (j + 1)
          rw [hnx] at l1
          simp only [List.length_append, len_dt] at l1
          have e47 : [(47 : UInt8)].length = 1 := rfl
          rw [e47] at l1
          have l0 : (x0.data.toList ++ jt ((dts T).take j)).length = x0.size + (jt ((dts T).take j)).length := by rw [List.length_append, len_dt]
          have HNX := Lib.hid hnx
          generalize T.getD j ⟨#[]⟩ = y at *
          have H1 := Lib.hid (write_any w.heap.size w.heap.size _ ⟨#[47]⟩ wr HH.out (by rw [l0]; show _ + 1 ≤ _; omega) hsz)
          have H3 := Lib.hid fun W hW hBW => write_any w.heap.size w.heap.size (x0.data.toList ++ jt ((dts T).take j) ++ [47]) y W hW (by rw [List.length_append, l0, e47]; omega) hBW
          have e1 : ∀ u : List UInt8, u ++ (⟨#[47]⟩ : ByteArray).data.toList = u ++ [47] := fun u => rfl
          rw [e1] at H1
          clear hnx l1 l0 HH hjT e47 e1
          go_wp2_with (go_at_call 35; first
            | ((with_reducible refine H1.out.mono ?_); rintro e w3 ⟨rfl, h3, hb3⟩; have h3s := Nat.le_trans hsz hb3.size; clear H1)
            | ((with_reducible refine (H3.out _ h3 h3s).mono ?_); rintro e w4 ⟨rfl, h4, hb4⟩))
          go_roundw
          case rel => exact ⟨j + 1, by omega, by go_num, Lib.hid (by rw [HNX.out, ← List.append_assoc, ← List.append_assoc]; exact h4), Lib.hid ((HB.out.trans hb3).trans hb4)⟩
          case measure => simp [RowKit.intOf]; omega
        · obtain rfl : j = m := by omega
          have HS := Lib.hid (string_any w.heap.size w.heap.size _ wr HH.out hsz)
          have hrs := HRS.out
          rw [HTn.out] at hrs
          have HQ := Lib.hid (show (⟨(x0.data.toList ++ jt ((dts T).take j)).toArray⟩ : ByteArray) = R from hrs)
          rw [HQ.out] at HS
          clear hrs HQ HH
          go_wp2_with (go_at_call 36; (with_reducible refine HS.out.mono ?_); rintro e w5 ⟨rfl, hb5⟩)
          go_ret
          exact ⟨rfl, HB.out.trans hb5⟩
end Go.Proofs.Ytmlpgfjopkobbaa.Rou
