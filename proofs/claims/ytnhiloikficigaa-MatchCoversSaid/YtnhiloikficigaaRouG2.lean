/- Contracts of the library's Join at "/" and of route's Join. Conditions: as each theorem states. · Contracts of route's Join and of the document's. Conditions: as each theorem states. -/
import Derived.Test.YtnhiloikficigaaRouG1
import Derived.Test.YtnhiloikficigaaBldG
import Derived.Lib.Join
namespace Go.Proofs.Ytnhiloikficigaa.Rou
open Go.RowKit Go.Lib Go.Proofs.Ytnhiloikficigaa.Byt Go.Proofs.Ytnhiloikficigaa.Bld

def dts (l : List ByteArray) : List (List UInt8) := l.map fun x => x.data.toList
theorem dts_len (l : List ByteArray) : (dts l).length = l.length := List.length_map _
/-- Behind the first k pieces. -/
def jt (l : List (List UInt8)) : List UInt8 := Lib.joinTail [47] l
theorem sj_cons (p : List UInt8) (l : List (List UInt8)) : sj (p :: l) = p ++ jt l := by
  induction l generalizing p with
  | nil => show p = _; unfold jt Lib.joinTail; simp
  | cons q l ih =>
    show p ++ 47 :: sj (q :: l) = _
    rw [ih q]
    unfold jt Lib.joinTail
    simp
theorem jt_snoc {l : List (List UInt8)} {k : Nat} {y : List UInt8} (h : l[k]? = some y) : jt (l.take (k + 1)) = jt (l.take k) ++ [47] ++ y := Lib.joinTail_take_succ [47] l k y h
theorem jt_len (l : List (List UInt8)) : (jt l).length = l.length + Lib.lens l := by unfold jt; rw [Lib.joinTail_length]; simp
theorem ret_s {a b : ByteArray} (h : a = b) : Ending.returned (.string a) = .returned (.string b) := by rw [h]
/-- The parts l with a slash between two. -/
def sjB (l : List ByteArray) : ByteArray := mk (sj (dts l))
section
variable (l : List ByteArray) (a : Option Addr) (c : Nat) (w : World)
theorem ljoin_none (h : l = []) : Calls Try.prog 37 #[.slice a 0 c, .string ⟨#[47]⟩] w fun e w' => e = .returned (.string (sjB l)) ∧ Below w.heap.size w w' := by
  subst h
  show Calls _ _ _ _ fun e w' => e = .returned (.string ⟨#[]⟩) ∧ _
  go_enter Try.func37, Try.ntmps37
  go_wp2_with fail
  go_ret
  exact ⟨rfl, Below.refl _ _⟩
theorem ljoin_one (x : ByteArray) (h : l = [x]) (hr : Strs.Row w (.slice a 1 c) l) : Calls Try.prog 37 #[.slice a 1 c, .string ⟨#[47]⟩] w fun e w' => e = .returned (.string (sjB l)) ∧ Below w.heap.size w w' := by
  subst h
  have hq : sjB [x] = x := mk_data x
  rw [hq]
  obtain ⟨a', c', e, hc⟩ := hr.open_
  injection e with e1 e2 e3
  subst e1 e3
  obtain ⟨b, off, rfl, h0⟩ := hc 0 (by simp)
  have c0 : w.cell? ⟨b, off, none⟩ = some (.string x) := h0
  clear hc h0 hr e2 hq
  go_enter Try.func37, Try.ntmps37
  go_wp2_with fail
  go_ret
  exact ⟨rfl, Below.refl _ _⟩
end
set_option maxHeartbeats 4000000 in
set_option maxRecDepth 100000 in
theorem ljoin_many (x0 x1 : ByteArray) (r : List ByteArray) (b off c : Nat) (w : World) (hr : ∀ j, j < (x0 :: x1 :: r).length → w.cell? ⟨b, off + j, none⟩ = some (.string ((x0 :: x1 :: r).getD j ⟨#[]⟩))) (hcap : r.length + 2 ≤ c) (hlim : (sj (dts (x0 :: x1 :: r))).length ≤ 8000000) :
    Calls Try.prog 37 #[.slice (some ⟨b, off, none⟩) (r.length + 2) c, .string ⟨#[47]⟩] w fun e w' => e = .returned (.string (sjB (x0 :: x1 :: r))) ∧ Below w.heap.size w w' := by
  have hbk : b < w.heap.size := Strs.cell_lt (hr 0 (by simp))
  have HR := Lib.hid hr
  obtain ⟨L, hL⟩ : ∃ L, x0 :: x1 :: r = L := ⟨_, rfl⟩
  obtain ⟨T, hT⟩ : ∃ T, x1 :: r = T := ⟨_, rfl⟩
  have hLn : L.length = r.length + 2 := by rw [← hL]; rfl
  have hTn : T.length = r.length + 1 := by rw [← hT]; rfl
  have HT := Lib.hid fun j (h : j < T.length) => show w.cell? ⟨b, off + 1 + j, none⟩ = some (.string (T.getD j ⟨#[]⟩)) from by
    have := HR.out (j + 1) (by rw [hL]; omega)
    rw [show off + 1 + j = off + (j + 1) by omega, this, ← hT]
    rfl
  have c0 : w.cell? ⟨b, off, none⟩ = some (.string x0) := HR.out 0 (by simp)
  have hS : sj (dts L) = x0.data.toList ++ jt (dts T) := by rw [← hL, ← hT]; exact sj_cons _ _
  rw [hL] at HR hlim ⊢
  have hsum : Lib.lens (dts L) + r.length + 1 = (sj (dts L)).length := by
    rw [hS, List.length_append, jt_len, dts_len, hTn, ← hL, ← hT]
    unfold dts
    simp only [List.map_cons, Lib.lens, List.sum_cons]
    omega
  obtain ⟨R, hR⟩ : ∃ R, sjB L = R := ⟨_, rfl⟩
  have HRS := Lib.hid (show mk (x0.data.toList ++ jt ((dts T).take T.length)) = R by rw [← hR, List.take_of_length_le (by rw [dts_len]; exact Nat.le_refl _), ← hS]; rfl)
  have hle : ∀ k, (x0.data.toList ++ jt ((dts T).take k)).length ≤ 8000000 := fun k => by
    rw [hS, List.length_append] at hlim
    rw [List.length_append]
    have := Lib.joinTail_take_le [47] (dts T) k
    unfold jt at *
    omega
  have HLE := Lib.hid hle
  have HN := Lib.hid fun k (h : k < T.length) => jt_snoc (l := dts T) (k := k) (y := (T.getD k ⟨#[]⟩).data.toList) (by unfold dts; rw [List.getElem?_map, List.getD_eq_getElem?_getD, List.getElem?_eq_getElem h]; rfl)
  have HLN := Lib.hid fun k (h : k < L.length) => And.intro (Lib.lens_take_succ (dts L) k (L.getD k ⟨#[]⟩).data.toList (by unfold dts; rw [List.getElem?_map, List.getD_eq_getElem?_getD, List.getElem?_eq_getElem h]; rfl)) (Lib.lens_take_le (dts L) (k + 1))
  have hall : (dts L).take L.length = dts L := List.take_of_length_le (by rw [dts_len]; exact Nat.le_refl _)
  have HAL := Lib.hid hall
  rw [hR]
  obtain ⟨A, hA⟩ : ∃ A, Lib.lens (dts L) = A := ⟨_, rfl⟩
  rw [hA] at hsum
  have HAA := Lib.hid hA
  obtain ⟨n, hn⟩ : ∃ n, r.length + 2 = n := ⟨_, rfl⟩
  obtain ⟨m, hm⟩ : ∃ m, r.length + 1 = m := ⟨_, rfl⟩
  have hnm : n = m + 1 := by omega
  have hnA : A + m ≤ 8000000 := by omega
  rw [hn] at hLn hcap ⊢
  rw [hm] at hTn
  have HLn := Lib.hid hLn
  have HTn := Lib.hid hTn
  have hn2 : 2 ≤ n := by omega
  have hm1 : (n : Int) - 1 = (m : Int) := by omega
  have z0 : ((n : Int) == 0) = false := beq_eq_false_iff_ne.2 (by omega)
  have z1 : ((n : Int) == 1) = false := beq_eq_false_iff_ne.2 (by omega)
  have hdv : ¬ ((9223372036854775807 : Int) / (m : Int) ≤ 1) := by
    have : (2 : Int) ≤ 9223372036854775807 / (m : Int) := by rw [Int.le_ediv_iff_mul_le (by omega)]; omega
    omega
  clear hL hT hLn hTn hr hall hA hS hlim hle hR hn hm hsum
  have HNM := Lib.hid hnm
  clear hnm
  go_enter Try.func37, Try.ntmps37
  go_wp2_with fail
  go_loop [5, 41] (fun s i => ∃ k : Nat, k ≤ n ∧ i = .int .i64 (k : Int) ∧ s = .int .i64 ((m + Lib.lens ((dts L).take k) : Nat) : Int)) (fun _ i => n - (RowKit.intOf i).toNat)
  case atStart => exact ⟨0, Nat.zero_le _, rfl, by simp [Lib.lens]⟩
  case round =>
    obtain ⟨k, hk, rfl, rfl⟩ := hrel
    by_cases hlt : k < n
    · have hcl := HR.out k (by rw [HLn.out]; exact hlt)
      obtain ⟨s1, s2⟩ := HLN.out k (by rw [HLn.out]; exact hlt)
      rw [len_dt] at s1
      rw [HAA.out] at s2
      have S1 := Lib.hid s1
      have hb1 : Lib.lens ((dts L).take k) + (L.getD k ⟨#[]⟩).size ≤ A := by omega
      clear s1 s2
      generalize hA1 : Lib.lens ((dts L).take (k + 1)) = A1 at *
      have HA1 := Lib.hid hA1
      clear hA1
      generalize Lib.lens ((dts L).take k) = A0 at *
      generalize L.getD k ⟨#[]⟩ = x at *
      go_wp2_with fail
      go_round
      case rel => exact ⟨k + 1, by omega, by go_num, by rw [HA1.out, S1.out]; refine congrArg _ ?_; omega⟩
      case measure => simp [RowKit.intOf]; omega
    · obtain rfl : k = n := by omega
      have hal := HAL.out
      rw [HLn.out] at hal
      rw [hal, HAA.out]
      clear hal
      obtain ⟨N, hN⟩ : ∃ N, m + A = N := ⟨_, rfl⟩
      have hN1 : ((m : Int) + (A : Int)) = (N : Int) := by omega
      have hN2 : ((m + A : Nat) : Int) = (N : Int) := by omega
      rw [hN2]
      have HW := Lib.hid hbk
      have HG := Lib.hid (grow_any w.heap.size w.heap.size N (w.alloc (.cells #[.pointer none, .slice none 0 0] 51)) (Nat.le_refl _) (heap_alloc_new w _) (by simp) (by omega))
      have HB0 := Lib.hid ((Below.refl w.heap.size w).alloc (Nat.le_refl _) (.cells #[.pointer none, .slice none 0 0] 51))
      have HX := Lib.hid fun W hW hBW => write_any w.heap.size w.heap.size [] x0 W hW (by have := HLE.out 0; rw [List.length_append, len_dt] at this; simp only [List.length_nil]; omega) hBW
      have HC0 := Lib.hid c0
      clear hN hN1 hN2 c0 hbk
      go_wp2_with (first
        | (go_at_call 48; (with_reducible refine HG.out.mono ?_); rintro e w1 ⟨rfl, h1, hb1⟩; have b1 := Lib.hid (HB0.out.trans hb1); have hs1 := b1.out.size; have c1 := (b1.out.cell (p := ⟨b, off, none⟩) HW.out).trans HC0.out)
        | (go_at_call 49; (with_reducible refine (HX.out _ h1 hs1).mono ?_); rintro e w2 ⟨rfl, h2, hb2⟩; have b2 := Lib.hid (b1.out.trans hb2); have H2 := Lib.hid h2; clear h1 h2 hb1 hb2 b1 c1 hs1))
      go_loopw [65] (fun i wr => ∃ j : Nat, j ≤ m ∧ i = .int .i64 (j : Int) ∧ Hid (Holds wr w.heap.size w.heap.size (x0.data.toList ++ jt ((dts T).take j))) ∧ Hid (Below w.heap.size w wr)) (fun i _ => m - (RowKit.intOf i).toNat)
      case atStart => exact ⟨0, Nat.zero_le _, rfl, Lib.hid (by have := H2.out; simpa [jt, Lib.joinTail] using this), b2⟩
      case round =>
        obtain ⟨j, hj, rfl, HH, HB⟩ := hrel
        have hsz := HB.out.size
        by_cases hjm : j < m
        · have hjT : j < T.length := by rw [HTn.out]; exact hjm
          have hcl := (HB.out.cell (p := ⟨b, off + 1 + j, none⟩) HW.out).trans (HT.out j hjT)
          have hnx := HN.out j hjT
          have l1 := HLE.out (j + 1)
          rw [hnx] at l1
          simp only [List.length_append, len_dt] at l1
          have e47 : [(47 : UInt8)].length = 1 := rfl
          rw [e47] at l1
          have l0 : (x0.data.toList ++ jt ((dts T).take j)).length = x0.size + (jt ((dts T).take j)).length := by rw [List.length_append, len_dt]
          have HNX := Lib.hid hnx
          generalize T.getD j ⟨#[]⟩ = y at *
          have H1 := Lib.hid (write_any w.heap.size w.heap.size _ ⟨#[47]⟩ wr HH.out (by rw [l0]; show _ + 1 ≤ _; omega) hsz)
          have H3 := Lib.hid fun W hW hBW => write_any w.heap.size w.heap.size (x0.data.toList ++ jt ((dts T).take j) ++ [47]) y W hW (by rw [List.length_append, l0, e47]; omega) hBW
          have e1 : ∀ u : List UInt8, u ++ (⟨#[47]⟩ : ByteArray).data.toList = u ++ [47] := fun u => rfl
          rw [e1] at H1
          clear hnx l1 l0 HH hjT e47 e1
          go_wp2_with (go_at_call 49; first
            | ((with_reducible refine H1.out.mono ?_); rintro e w3 ⟨rfl, h3, hb3⟩; have h3s := Nat.le_trans hsz hb3.size; clear H1)
            | ((with_reducible refine (H3.out _ h3 h3s).mono ?_); rintro e w4 ⟨rfl, h4, hb4⟩))
          go_roundw
          case rel => exact ⟨j + 1, by omega, by go_num, Lib.hid (by rw [HNX.out, ← List.append_assoc, ← List.append_assoc]; exact h4), Lib.hid ((HB.out.trans hb3).trans hb4)⟩
          case measure => simp [RowKit.intOf]; omega
        · obtain rfl : j = m := by omega
          have HS := Lib.hid (string_any w.heap.size w.heap.size _ wr HH.out hsz)
          have hrs := HRS.out
          rw [HTn.out] at hrs
          have HQ := Lib.hid (show (⟨(x0.data.toList ++ jt ((dts T).take j)).toArray⟩ : ByteArray) = R from hrs)
          rw [HQ.out] at HS
          clear hrs HQ HH
          go_wp2_with (go_at_call 50; (with_reducible refine HS.out.mono ?_); rintro e w5 ⟨rfl, hb5⟩)
          go_ret
          exact ⟨rfl, HB.out.trans hb5⟩
end Go.Proofs.Ytnhiloikficigaa.Rou

namespace Go.Proofs.Ytnhiloikficigaa.Rou
open Go.RowKit Go.Lib Go.Proofs.Ytnhiloikficigaa.Byt

theorem ljoin_any (l : List ByteArray) (v : Value) (w : World) (hr : Strs.Row w v l) (hcp : Cp v) (hlim : (sj (dts l)).length ≤ 8000000) :
    Calls Try.prog 37 #[v, .string ⟨#[47]⟩] w fun e w' => e = .returned (.string (sjB l)) ∧ Below w.heap.size w w' := by
  match l, hr, hlim with
  | [], hr, _ =>
    obtain ⟨a, c, rfl, _⟩ := hr.open_
    exact ljoin_none [] a c w rfl
  | [x], hr, _ =>
    obtain ⟨a, c, rfl, _⟩ := hr.open_
    exact ljoin_one [x] a c w x rfl hr
  | x0 :: x1 :: r, hr, hlim =>
    obtain ⟨a, c, rfl, hc⟩ := hr.open_
    obtain ⟨b, off, rfl, _⟩ := hc 0 (by simp)
    refine ljoin_many x0 x1 r b off c w (fun j hj => ?_) ?_ hlim
    · obtain ⟨b', off', e, h⟩ := hc j hj
      injection e with e
      injection e with e1 e2
      subst e1 e2
      exact h
    · obtain ⟨a', n, c', e, h⟩ := hcp
      injection e with e1 e2 e3
      simp only [List.length_cons] at e2
      omega
theorem app_data (a b : ByteArray) : (a ++ b).data.toList = a.data.toList ++ b.data.toList := by simp
theorem ext_data {a b : ByteArray} (h : a.data.toList = b.data.toList) : a = b := ByteArray.ext (Array.toList_inj.1 h)
theorem add_run (a b c : ByteArray) (h : a ++ b = c) (hs : c.size ≤ 8388608) : ∀ W, (Op.stringOp .add a b).run Try.prog W = .ok (.string c) W := by
  intro W
  subst h
  rw [ByteArray.size_append] at hs
  exact run_string_add W a b (by omega) (by omega)
/-- The row of the parts l. -/
def joB (l : List ByteArray) : ByteArray := mk (jP (dts l))
theorem joB_is (l : List ByteArray) : ⟨#[47]⟩ ++ sjB l = joB l := by
  refine ext_data ?_
  rw [app_data]
  unfold sjB joB
  rw [dt_mk, dt_mk, jP_sj]; rfl
theorem joB_size (l : List ByteArray) : (joB l).size = (sj (dts l)).length + 1 := by
  unfold joB
  rw [sz_mk, jP_sj]; rfl
theorem join_any (l : List ByteArray) (v : Value) (w : World) (hr : Strs.Row w v l) (hcp : Cp v) (hlim : (joB l).size ≤ 8000000) :
    Calls Try.prog 19 #[v] w fun e w' => e = .returned (.string (joB l)) ∧ Below w.heap.size w w' := by
  have hq := joB_is l
  have hz := joB_size l
  have HJ := Lib.hid fun W h => ljoin_any l v W h hcp (by omega)
  have hs1 : (sjB l).size ≤ 8000000 := by unfold sjB; rw [sz_mk]; omega
  have r1 := add_run _ _ _ hq (by omega)
  clear hq hz hlim hcp
  generalize joB l = R at *
  generalize sjB l = S at *
  go_enter Try.func19, Try.ntmps19
  go_wp2_with (go_at_call 37; (with_reducible refine (HJ.out _ hr).mono ?_); rintro e w1 ⟨rfl, hb1⟩)
  go_ret
  exact ⟨rfl, hb1⟩

/-! ### the document's -/
theorem jn_snoc {l : List (List UInt8)} {k : Nat} {y : List UInt8} (h : l[k]? = some y) : jn (l.take (k + 1)) = jn (l.take k) ++ (47 :: y) := by
  rw [List.take_add_one, h, jn_app]
  congr 1
  rw [Option.toList_some, jn_cons]
  simp [jn]
theorem jn_take_le (l : List (List UInt8)) (k : Nat) : (jn (l.take k)).length ≤ (jn l).length := by
  have := congrArg List.length (jn_app (l.take k) (l.drop k))
  rw [List.take_append_drop, List.length_append] at this
  omega
theorem jP_ne {l : List (List UInt8)} (h : l ≠ []) : jP l = jn l := by unfold jP; rw [if_neg h]
set_option maxHeartbeats 2000000 in
set_option maxRecDepth 100000 in
theorem rjoin_any (l : List ByteArray) (v : Value) (w : World) (hr : Strs.Row w v l) (hl : l.length ≤ 140737488355328) (hlim : (joB l).size ≤ 8000000) :
    Calls Try.prog 24 #[v] w fun e w' => e = .returned (.string (joB l)) ∧ w = w' := by
  obtain ⟨a, cap, rfl, hc⟩ := hr.open_
  by_cases h0 : l = []
  · subst h0
    have hq : joB [] = ⟨#[47]⟩ := rfl
    rw [hq]
    clear hc hr hlim hq
    go_enter Try.func24, Try.ntmps24
    go_wp2_with fail
    go_ret
    exact ⟨rfl, rfl⟩
  · have hq : joB l = mk (jn ((dts l).take l.length)) := by
      unfold joB
      rw [jP_ne (l := dts l) (fun e => h0 (List.map_eq_nil_iff.1 e)), List.take_of_length_le (by rw [dts_len]; exact Nat.le_refl _)]
    have hle : ∀ k, (mk (jn ((dts l).take k))).size ≤ 8000000 := fun k => by
      have := jn_take_le (dts l) k
      rw [hq, sz_mk, List.take_of_length_le (by rw [dts_len]; exact Nat.le_refl _)] at hlim
      rw [sz_mk]; omega
    have hst : ∀ k, k < l.length → mk (jn ((dts l).take k)) ++ (⟨#[47]⟩ ++ l.getD k ⟨#[]⟩) = mk (jn ((dts l).take (k + 1))) := fun k hk => by
      refine ext_data ?_
      rw [app_data, app_data, dt_mk, dt_mk, jn_snoc (k := k) (y := (l.getD k ⟨#[]⟩).data.toList) (by unfold dts; rw [List.getElem?_map, List.getD_eq_getElem?_getD, List.getElem?_eq_getElem hk]; rfl)]
      rfl
    have HC := Lib.hid hc
    have HL := Lib.hid hle
    have HS := Lib.hid hst
    have hne : 0 < l.length := List.length_pos_iff.2 h0
    have z0 : ((l.length : Int) == 0) = false := beq_eq_false_iff_ne.2 (by omega)
    rw [hq]
    have e0 : mk (jn ((dts l).take 0)) = ⟨#[]⟩ := rfl
    have HE := Lib.hid e0
    clear hc hr hlim hq hle hst h0 e0
    go_enter Try.func24, Try.ntmps24
    go_wp2_with fail
    go_loop [3, 10] (fun s i => ∃ k : Nat, k ≤ l.length ∧ i = .int .i64 (k : Int) ∧ s = .string (mk (jn ((dts l).take k)))) (fun _ i => l.length - (RowKit.intOf i).toNat)
    case atStart => exact ⟨0, Nat.zero_le _, rfl, by rw [HE.out]⟩
    case round =>
      obtain ⟨k, hk, rfl, rfl⟩ := hrel
      by_cases hlt : k < l.length
      · obtain ⟨b, off, rfl, hcl⟩ := HC.out k hlt
        have h1 := HS.out k hlt
        have z1 := HL.out k
        have z2 := HL.out (k + 1)
        generalize hO : mk (jn ((dts l).take (k + 1))) = o2 at *
        generalize mk (jn ((dts l).take k)) = o1 at *
        generalize l.getD k ⟨#[]⟩ = x at *
        have h3 : (o1 ++ (⟨#[47]⟩ ++ x)).size ≤ 8000000 := by rw [h1]; exact z2
        rw [ByteArray.size_append] at h3
        have r1 := add_run ⟨#[47]⟩ x _ rfl (by omega)
        generalize (⟨#[47]⟩ ++ x : ByteArray) = y at *
        have r2 := add_run o1 y o2 h1 (by omega)
        have HO := Lib.hid hO
        clear h1 h3 z1 z2 hO
        go_wp2_with fail
        go_round
        case rel => exact ⟨k + 1, by omega, by go_num, by rw [HO.out]⟩
        case measure => simp [RowKit.intOf]; omega
      · obtain rfl : k = l.length := by omega
        generalize hO : mk (jn ((dts l).take l.length)) = o at *
        have HO := Lib.hid (ret_s hO.symm)
        clear hO
        go_wp2_with fail
        go_ret
        exact ⟨HO.out, rfl⟩
end Go.Proofs.Ytnhiloikficigaa.Rou
