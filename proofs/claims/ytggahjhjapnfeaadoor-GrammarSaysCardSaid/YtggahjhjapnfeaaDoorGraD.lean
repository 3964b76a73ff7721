/- Contracts of takeName, takeValue, takeNext. Conditions: as each theorem states. -/
import Derived.Test.YtggahjhjapnfeaaDoorGraC
namespace Go.Proofs.YtggahjhjapnfeaaDoor.Gr
open Go.RowKit Go.Lib Go.Proofs.YtggahjhjapnfeaaDoor.Byt Go.Proofs.YtggahjhjapnfeaaDoor.Lx

/-- What a step hands back, and where the reader is behind it. -/
def Post (w0 : World) (b : Nat) (s : ByteArray) (p : Nat) (r : Option (St × Nat)) (e : Ending) (w' : World) : Prop :=
  match r with
  | none => e = .returned (.bool false) ∧ Below w0.heap.size w0 w'
  | some q => e = .returned (.bool true) ∧ Sr w0 b s (p + q.2) q.1.ex q.1.E q.1.lv w'

/-! ### takeName -/
set_option maxHeartbeats 1000000 in
set_option maxRecDepth 100000 in
theorem name_none (w0 : World) (b : Nat) (s : ByteArray) (p ex : Nat) (E : List UInt8) (lv : Nat) (W : World) (h : Sr w0 b s p ex E lv W) (hs : s.size ≤ 1000000) (hq : qn (sf s p) = 0) :
    Calls Tryd.prog 24 #[.pointer (some ⟨b, 0, none⟩)] W fun e w' => e = .returned (.bool false) ∧ Below w0.heap.size w0 w' := by
  have H := fun W h => text_at w0 b s p ex E lv W h hs
  rw [hq, decide_eq_false (by simp)] at H
  have HT := Lib.hid H
  have HR := Lib.hid h
  clear H hq h
  go_enter Tryd.func24, Tryd.ntmps24
  go_wp2_with (go_at_call 30; (with_reducible refine (HT.out _ HR.out).mono ?_); rintro e wx ⟨rfl, hx⟩)
  go_ret
  exact ⟨rfl, hx.bel⟩
set_option maxHeartbeats 1000000 in
set_option maxRecDepth 100000 in
theorem name_some (w0 : World) (b : Nat) (s : ByteArray) (p ex : Nat) (E : List UInt8) (lv k : Nat) (W : World) (h : Sr w0 b s p ex E lv W) (hs : s.size ≤ 1000000) (hq : qn (sf s p) ≠ 0) (hk : k = p + kn (sf s p)) :
    Calls Tryd.prog 24 #[.pointer (some ⟨b, 0, none⟩)] W fun e w' => (by8 s k = 58 → e = .returned (.bool true) ∧ Sr w0 b s (k + 1) 0 E lv w') ∧ (by8 s k ≠ 58 → e = .returned (.bool false) ∧ Below w0.heap.size w0 w') := by
  have H := fun W h => text_at w0 b s p ex E lv W h hs
  rw [decide_eq_true hq] at H
  have HT := Lib.hid H
  have hqle : p + qn (sf s p) ≤ s.size := by
    have h1 := qn_le (sf s p)
    rw [sf_len] at h1
    omega
  have H2 := fun W h => blanks_at w0 b s (p + qn (sf s p)) ex E lv W h hqle hs
  have hk2 : p + qn (sf s p) + skp (sf s (p + qn (sf s p))) = k := by rw [hk]; unfold kn; rw [sf_drop]; omega
  rw [hk2] at H2
  have HB := Lib.hid H2
  have hks : k ≤ s.size := by
    have h1 := skp_le (sf s (p + qn (sf s p)))
    rw [sf_len] at h1
    omega
  have HR := Lib.hid h
  clear H H2 hq h hk hk2 hqle
  generalize p + qn (sf s p) = u at *
  by_cases hke : k = s.size
  · have hb0 : by8 s k = 0 := by8_end s k (by omega)
    rw [hb0]
    have ee : ((k : Int) == (s.size : Int)) = true := by rw [beq_iff_eq]; omega
    clear hke hb0
    go_enter Tryd.func24, Tryd.ntmps24
    go_wp2_with (first
      | (go_at_call 30; (with_reducible refine (HT.out _ HR.out).mono ?_); rintro e wx ⟨rfl, hx⟩; have HX := Lib.hid hx; clear hx)
      | (go_at_call 15; (with_reducible refine (HB.out _ HX.out).mono ?_); rintro e wy ⟨rfl, hy⟩))
    have c0 := hy.c0
    have c1 := hy.c1
    go_quiet (fail)
    have HY := Lib.hid (hy.drewN nq)
    generalize wy.drewN nq = wz at *
    clear hy
    go_wp2_with fail
    go_ret
    exact ⟨fun h => absurd h (by decide), fun _ => ⟨rfl, HY.out.bel⟩⟩
  · have hkl : k < s.size := by omega
    have ee : ((k : Int) == (s.size : Int)) = false := by rw [beq_eq_false_iff_ne]; omega
    have hix := fun w => index_of s k (k : Int) rfl hkl w
    clear hke
    by_cases h58 : by8 s k = 58
    · rw [h58] at hix ⊢
      clear h58
      go_enter Tryd.func24, Tryd.ntmps24
      go_wp2_with (first
        | (go_at_call 30; (with_reducible refine (HT.out _ HR.out).mono ?_); rintro e wx ⟨rfl, hx⟩; have HX := Lib.hid hx; clear hx)
        | (go_at_call 15; (with_reducible refine (HB.out _ HX.out).mono ?_); rintro e wy ⟨rfl, hy⟩))
      have c0 := hy.c0
      have c1 := hy.c1
      go_quiet (fail)
      have HY := Lib.hid (hy.drewN nq)
      generalize wy.drewN nq = wz at *
      clear hy c0 c1
      have c1 := HY.out.c1
      have c2 := HY.out.c2
      have f1 := HY.out.free 1
      have hz := HY.out.set1 (k + 1)
      push_cast at hz
      have f2 := hz.free 2
      have HZ := Lib.hid (hz.set2 0)
      clear hz
      go_wp2_with fail
      go_ret
      exact ⟨fun _ => ⟨rfl, HZ.out⟩, fun h => absurd rfl h⟩
    · have hne : ((by8 s k : Int) != 58) = true := by rw [bne_iff_ne]; omega
      generalize by8 s k = x at *
      have HN := Lib.hid h58
      clear h58
      go_enter Tryd.func24, Tryd.ntmps24
      go_wp2_with (first
        | (go_at_call 30; (with_reducible refine (HT.out _ HR.out).mono ?_); rintro e wx ⟨rfl, hx⟩; have HX := Lib.hid hx; clear hx)
        | (go_at_call 15; (with_reducible refine (HB.out _ HX.out).mono ?_); rintro e wy ⟨rfl, hy⟩))
      have c0 := hy.c0
      have c1 := hy.c1
      go_quiet (fail)
      have HY := Lib.hid (hy.drewN nq)
      generalize wy.drewN nq = wz at *
      clear hy
      go_wp2_with fail
      go_ret
      exact ⟨fun h => absurd h HN.out, fun _ => ⟨rfl, HY.out.bel⟩⟩
theorem name_any (w0 : World) (b : Nat) (s : ByteArray) (p ex : Nat) (E : List UInt8) (lv : Nat) (W : World) (h : Sr w0 b s p ex E lv W) (hs : s.size ≤ 1000000) :
    Calls Tryd.prog 24 #[.pointer (some ⟨b, 0, none⟩)] W (Post w0 b s p (nStep ⟨ex, E, lv⟩ (sf s p))) := by
  by_cases hq : qn (sf s p) = 0
  · have e : nStep ⟨ex, E, lv⟩ (sf s p) = none := if_neg fun h => h.1 hq
    rw [e]
    exact name_none w0 b s p ex E lv W h hs hq
  · refine (name_some w0 b s p ex E lv _ W h hs hq rfl).mono ?_
    rintro e w' ⟨h1, h2⟩
    have e8 : hd ((sf s p).drop (kn (sf s p))) = by8 s (p + kn (sf s p)) := by rw [sf_drop, sf_hd]
    by_cases h58 : by8 s (p + kn (sf s p)) = 58
    · have e : nStep ⟨ex, E, lv⟩ (sf s p) = some (⟨0, E, lv⟩, kn (sf s p) + 1) := if_pos ⟨hq, by rw [e8]; exact h58⟩
      rw [e]
      exact h1 h58
    · have e : nStep ⟨ex, E, lv⟩ (sf s p) = none := if_neg fun h => h58 (by rw [← e8]; exact h.2)
      rw [e]
      exact h2 h58

/-! ### takeEnd, takeComma, told by the machine's steps -/
theorem end_any (w0 : World) (b : Nat) (s : ByteArray) (p ex : Nat) (E : List UInt8) (lv : Nat) (W : World) (h : Sr w0 b s p ex E lv W) (hp : p < s.size) (hs : s.size ≤ 1000000) (hl : E.length ≤ 1000000) :
    (∃ q, eStep ⟨ex, E, lv⟩ (sf s p) = some q ∧ Calls Tryd.prog 23 #[.pointer (some ⟨b, 0, none⟩)] W (fun e w' => e = .returned (.bool true) ∧ Sr w0 b s (p + q.2) q.1.ex q.1.E q.1.lv w')) ∨
    (eStep ⟨ex, E, lv⟩ (sf s p) = none ∧ Calls Tryd.prog 23 #[.pointer (some ⟨b, 0, none⟩)] W (fun e w' => e = .returned (.bool false) ∧ Sr w0 b s p ex E lv w')) := by
  cases E with
  | nil => exact .inr ⟨if_neg fun h => h.1 rfl, end_none w0 b s p ex lv W h⟩
  | cons c F =>
    simp only [List.length_cons] at hl
    by_cases hc : by8 s p = c.toNat
    · exact .inl ⟨_, if_pos ⟨by simp, by rw [sf_hd]; exact hc⟩, end_yes w0 b s p ex c F lv W h hp hs (by omega) hc⟩
    · exact .inr ⟨if_neg fun h => hc (by have := h.2; rw [sf_hd] at this; exact this), end_other w0 b s p ex c F lv W h hp (by omega) hc⟩
theorem comma_any (w0 : World) (b : Nat) (s : ByteArray) (p ex : Nat) (E : List UInt8) (lv : Nat) (W : World) (h : Sr w0 b s p ex E lv W) (hp : p < s.size) (hs : s.size ≤ 1000000) (hl : E.length ≤ 1000000) :
    (∃ q, cStep ⟨ex, E, lv⟩ (sf s p) = some q ∧ Calls Tryd.prog 25 #[.pointer (some ⟨b, 0, none⟩)] W (fun e w' => e = .returned (.bool true) ∧ Sr w0 b s (p + q.2) q.1.ex q.1.E q.1.lv w')) ∨
    (cStep ⟨ex, E, lv⟩ (sf s p) = none ∧ Calls Tryd.prog 25 #[.pointer (some ⟨b, 0, none⟩)] W (fun e w' => e = .returned (.bool false) ∧ Sr w0 b s p ex E lv w')) := by
  cases E with
  | nil => exact .inr ⟨if_neg fun h => h.1 rfl, comma_none w0 b s p ex lv W h⟩
  | cons c F =>
    simp only [List.length_cons] at hl
    by_cases hc : by8 s p = 44
    · exact .inl ⟨_, if_pos ⟨by simp, by rw [sf_hd]; exact hc⟩, comma_yes w0 b s p ex c F lv W h hp hs (by omega) hc _ rfl⟩
    · exact .inr ⟨if_neg fun h => hc (by have := h.2; rw [sf_hd] at this; exact this), comma_other w0 b s p ex c F lv W h hp (by omega) hc⟩

/-! ### takeValue -/
set_option maxHeartbeats 1000000 in
set_option maxRecDepth 100000 in
theorem value_list (w0 : World) (b : Nat) (s : ByteArray) (p ex : Nat) (E : List UInt8) (lv : Nat) (W : World) (h : Sr w0 b s p ex E lv W) (hp : p < s.size) (hs : s.size ≤ 1000000) (hl : E.length ≤ 1000000) (hc : by8 s p = 91) :
    Calls Tryd.prog 22 #[.pointer (some ⟨b, 0, none⟩)] W fun e w' => e = .returned (.bool true) ∧ Sr w0 b s (p + 1) 1 (93 :: E) (max lv (E.length + 1)) w' := by
  have HO : Hid (∀ W, Sr w0 b s p ex E lv W → Calls Tryd.prog 29 #[.pointer (some ⟨b, 0, none⟩), .int .u8 93, .int .i64 1] W fun e w' => e = .returned (.bool true) ∧ Sr w0 b s (p + 1) 1 (93 :: E) (max lv (E.length + 1)) w') := Lib.hid fun W h => open_any w0 b s p ex E lv W h hp hs hl 93 1
  have c0 := h.c0
  have c1 := h.c1
  have hix := fun w => index_of s p (p : Int) rfl hp w
  rw [hc] at hix
  have HR := Lib.hid h
  clear h hc
  go_enter Tryd.func22, Tryd.ntmps22
  go_wp2_with fail
  go_quiet (fail)
  have HY := Lib.hid (HR.out.drewN nq)
  generalize W.drewN nq = wz at *
  go_wp2_with (go_at_call 29; (with_reducible refine (HO.out _ HY.out).mono ?_); rintro e wx ⟨rfl, hx⟩)
  go_ret
  exact ⟨rfl, hx⟩
set_option maxHeartbeats 1000000 in
set_option maxRecDepth 100000 in
theorem value_object (w0 : World) (b : Nat) (s : ByteArray) (p ex : Nat) (E : List UInt8) (lv : Nat) (W : World) (h : Sr w0 b s p ex E lv W) (hp : p < s.size) (hs : s.size ≤ 1000000) (hl : E.length ≤ 1000000) (hc : by8 s p = 123) :
    Calls Tryd.prog 22 #[.pointer (some ⟨b, 0, none⟩)] W fun e w' => e = .returned (.bool true) ∧ Sr w0 b s (p + 1) 2 (125 :: E) (max lv (E.length + 1)) w' := by
  have HO : Hid (∀ W, Sr w0 b s p ex E lv W → Calls Tryd.prog 29 #[.pointer (some ⟨b, 0, none⟩), .int .u8 125, .int .i64 2] W fun e w' => e = .returned (.bool true) ∧ Sr w0 b s (p + 1) 2 (125 :: E) (max lv (E.length + 1)) w') := Lib.hid fun W h => open_any w0 b s p ex E lv W h hp hs hl 125 2
  have c0 := h.c0
  have c1 := h.c1
  have hix := fun w => index_of s p (p : Int) rfl hp w
  rw [hc] at hix
  have HR := Lib.hid h
  clear h hc
  go_enter Tryd.func22, Tryd.ntmps22
  go_wp2_with fail
  go_quiet (fail)
  have HY := Lib.hid (HR.out.drewN nq)
  generalize W.drewN nq = wz at *
  go_wp2_with (go_at_call 29; (with_reducible refine (HO.out _ HY.out).mono ?_); rintro e wx ⟨rfl, hx⟩)
  go_ret
  exact ⟨rfl, hx⟩
set_option maxHeartbeats 1000000 in
set_option maxRecDepth 100000 in
theorem value_text (w0 : World) (b : Nat) (s : ByteArray) (p ex : Nat) (E : List UInt8) (lv : Nat) (W : World) (h : Sr w0 b s p ex E lv W) (hp : p < s.size) (hs : s.size ≤ 1000000) (h1 : by8 s p ≠ 91) (h2 : by8 s p ≠ 123) (hq : qn (sf s p) ≠ 0) :
    Calls Tryd.prog 22 #[.pointer (some ⟨b, 0, none⟩)] W fun e w' => e = .returned (.bool true) ∧ Sr w0 b s (p + qn (sf s p)) 4 E lv w' := by
  have HT := fun W (h : Sr w0 b s p 4 E lv W) => text_at w0 b s p 4 E lv W h hs
  rw [decide_eq_true hq] at HT
  have HT := Lib.hid HT
  clear hq
  have c0 := h.c0
  have c1 := h.c1
  have hix := fun w => index_of s p (p : Int) rfl hp w
  have n1 : ((by8 s p : Int) == 91) = false := by rw [beq_eq_false_iff_ne]; omega
  have n2 : ((by8 s p : Int) == 123) = false := by rw [beq_eq_false_iff_ne]; omega
  generalize by8 s p = x at *
  have HR := Lib.hid h
  clear h h1 h2
  go_enter Tryd.func22, Tryd.ntmps22
  go_wp2_with fail
  go_quiet (fail)
  have HY := Lib.hid (HR.out.drewN nq)
  generalize W.drewN nq = wz at *
  have c2 := HY.out.c2
  have f2 := HY.out.free 2
  have HZ := Lib.hid (HY.out.set2 4)
  push_cast at HZ
  go_wp2_with ((go_at_call 30; (with_reducible refine (HT.out _ HZ.out).mono ?_); rintro e wa ⟨rfl, ha⟩; have HA := Lib.hid ha; clear ha))
  go_ret
  exact ⟨rfl, HA.out⟩
set_option maxHeartbeats 1000000 in
set_option maxRecDepth 100000 in
theorem value_int (w0 : World) (b : Nat) (s : ByteArray) (p ex : Nat) (E : List UInt8) (lv : Nat) (W : World) (h : Sr w0 b s p ex E lv W) (hp : p < s.size) (hs : s.size ≤ 1000000) (h1 : by8 s p ≠ 91) (h2 : by8 s p ≠ 123) (hq : qn (sf s p) = 0) (hj : jn (sf s p) ≠ 0) :
    Calls Tryd.prog 22 #[.pointer (some ⟨b, 0, none⟩)] W fun e w' => e = .returned (.bool true) ∧ Sr w0 b s (p + jn (sf s p)) 4 E lv w' := by
  have HT : Hid (∀ W, Sr w0 b s p 4 E lv W → Calls Tryd.prog _ #[.pointer (some ⟨b, 0, none⟩)] W fun e w' => e = .returned (.bool false) ∧ Sr w0 b s p 4 E lv w') := Lib.hid fun W h => by have := text_at w0 b s p 4 E lv W h hs; rw [hq, Nat.add_zero, decide_eq_false (by simp)] at this; exact this
  have HI := fun W (h : Sr w0 b s p 4 E lv W) => int_any w0 b s p 4 E lv W h hp hs
  rw [decide_eq_true hj] at HI
  have HI := Lib.hid HI
  clear hq hj
  have c0 := h.c0
  have c1 := h.c1
  have hix := fun w => index_of s p (p : Int) rfl hp w
  have n1 : ((by8 s p : Int) == 91) = false := by rw [beq_eq_false_iff_ne]; omega
  have n2 : ((by8 s p : Int) == 123) = false := by rw [beq_eq_false_iff_ne]; omega
  generalize by8 s p = x at *
  have HR := Lib.hid h
  clear h h1 h2
  go_enter Tryd.func22, Tryd.ntmps22
  go_wp2_with fail
  go_quiet (fail)
  have HY := Lib.hid (HR.out.drewN nq)
  generalize W.drewN nq = wz at *
  have c2 := HY.out.c2
  have f2 := HY.out.free 2
  have HZ := Lib.hid (HY.out.set2 4)
  push_cast at HZ
  go_wp2_with (first | (go_at_call 30; (with_reducible refine (HT.out _ HZ.out).mono ?_); rintro e wa ⟨rfl, ha⟩; have HA := Lib.hid ha; clear ha) | (go_at_call 31; (with_reducible refine (HI.out _ HA.out).mono ?_); rintro e wb ⟨rfl, hb⟩; have HB := Lib.hid hb; clear hb))
  go_ret
  exact ⟨rfl, HB.out⟩
set_option maxHeartbeats 1000000 in
set_option maxRecDepth 100000 in
theorem value_word (w0 : World) (b : Nat) (s : ByteArray) (p ex : Nat) (E : List UInt8) (lv : Nat) (W : World) (h : Sr w0 b s p ex E lv W) (hp : p < s.size) (hs : s.size ≤ 1000000) (h1 : by8 s p ≠ 91) (h2 : by8 s p ≠ 123) (hq : qn (sf s p) = 0) (hj : jn (sf s p) = 0) (hw : wn (sf s p) ≠ 0) :
    Calls Tryd.prog 22 #[.pointer (some ⟨b, 0, none⟩)] W fun e w' => e = .returned (.bool true) ∧ Sr w0 b s (p + wn (sf s p)) 4 E lv w' := by
  have HT : Hid (∀ W, Sr w0 b s p 4 E lv W → Calls Tryd.prog _ #[.pointer (some ⟨b, 0, none⟩)] W fun e w' => e = .returned (.bool false) ∧ Sr w0 b s p 4 E lv w') := Lib.hid fun W h => by have := text_at w0 b s p 4 E lv W h hs; rw [hq, Nat.add_zero, decide_eq_false (by simp)] at this; exact this
  have HI : Hid (∀ W, Sr w0 b s p 4 E lv W → Calls Tryd.prog _ #[.pointer (some ⟨b, 0, none⟩)] W fun e w' => e = .returned (.bool false) ∧ Sr w0 b s p 4 E lv w') := Lib.hid fun W h => by have := int_any w0 b s p 4 E lv W h hp hs; rw [hj, Nat.add_zero, decide_eq_false (by simp)] at this; exact this
  have HW := fun W (h : Sr w0 b s p 4 E lv W) => word_any w0 b s p 4 E lv W h (by omega) hs
  rw [decide_eq_true hw] at HW
  have HW := Lib.hid HW
  clear hq hj hw
  have c0 := h.c0
  have c1 := h.c1
  have hix := fun w => index_of s p (p : Int) rfl hp w
  have n1 : ((by8 s p : Int) == 91) = false := by rw [beq_eq_false_iff_ne]; omega
  have n2 : ((by8 s p : Int) == 123) = false := by rw [beq_eq_false_iff_ne]; omega
  generalize by8 s p = x at *
  have HR := Lib.hid h
  clear h h1 h2
  go_enter Tryd.func22, Tryd.ntmps22
  go_wp2_with fail
  go_quiet (fail)
  have HY := Lib.hid (HR.out.drewN nq)
  generalize W.drewN nq = wz at *
  have c2 := HY.out.c2
  have f2 := HY.out.free 2
  have HZ := Lib.hid (HY.out.set2 4)
  push_cast at HZ
  go_wp2_with (first | (go_at_call 30; (with_reducible refine (HT.out _ HZ.out).mono ?_); rintro e wa ⟨rfl, ha⟩; have HA := Lib.hid ha; clear ha) | (go_at_call 31; (with_reducible refine (HI.out _ HA.out).mono ?_); rintro e wb ⟨rfl, hb⟩; have HB := Lib.hid hb; clear hb) | (go_at_call 32; (with_reducible refine (HW.out _ HB.out).mono ?_); rintro e wd ⟨rfl, hd⟩; have HD := Lib.hid hd; clear hd))
  go_ret
  exact ⟨rfl, HD.out⟩
set_option maxHeartbeats 1000000 in
set_option maxRecDepth 100000 in
theorem value_none (w0 : World) (b : Nat) (s : ByteArray) (p ex : Nat) (E : List UInt8) (lv : Nat) (W : World) (h : Sr w0 b s p ex E lv W) (hp : p < s.size) (hs : s.size ≤ 1000000) (h1 : by8 s p ≠ 91) (h2 : by8 s p ≠ 123) (hq : qn (sf s p) = 0) (hj : jn (sf s p) = 0) (hw : wn (sf s p) = 0) :
    Calls Tryd.prog 22 #[.pointer (some ⟨b, 0, none⟩)] W fun e w' => e = .returned (.bool false) ∧ Below w0.heap.size w0 w' := by
  have HT : Hid (∀ W, Sr w0 b s p 4 E lv W → Calls Tryd.prog _ #[.pointer (some ⟨b, 0, none⟩)] W fun e w' => e = .returned (.bool false) ∧ Sr w0 b s p 4 E lv w') := Lib.hid fun W h => by have := text_at w0 b s p 4 E lv W h hs; rw [hq, Nat.add_zero, decide_eq_false (by simp)] at this; exact this
  have HI : Hid (∀ W, Sr w0 b s p 4 E lv W → Calls Tryd.prog _ #[.pointer (some ⟨b, 0, none⟩)] W fun e w' => e = .returned (.bool false) ∧ Sr w0 b s p 4 E lv w') := Lib.hid fun W h => by have := int_any w0 b s p 4 E lv W h hp hs; rw [hj, Nat.add_zero, decide_eq_false (by simp)] at this; exact this
  have HW : Hid (∀ W, Sr w0 b s p 4 E lv W → Calls Tryd.prog _ #[.pointer (some ⟨b, 0, none⟩)] W fun e w' => e = .returned (.bool false) ∧ Sr w0 b s p 4 E lv w') := Lib.hid fun W h => by have := word_any w0 b s p 4 E lv W h (by omega) hs; rw [hw, Nat.add_zero, decide_eq_false (by simp)] at this; exact this
  clear hq hj hw
  have c0 := h.c0
  have c1 := h.c1
  have hix := fun w => index_of s p (p : Int) rfl hp w
  have n1 : ((by8 s p : Int) == 91) = false := by rw [beq_eq_false_iff_ne]; omega
  have n2 : ((by8 s p : Int) == 123) = false := by rw [beq_eq_false_iff_ne]; omega
  generalize by8 s p = x at *
  have HR := Lib.hid h
  clear h h1 h2
  go_enter Tryd.func22, Tryd.ntmps22
  go_wp2_with fail
  go_quiet (fail)
  have HY := Lib.hid (HR.out.drewN nq)
  generalize W.drewN nq = wz at *
  have c2 := HY.out.c2
  have f2 := HY.out.free 2
  have HZ := Lib.hid (HY.out.set2 4)
  push_cast at HZ
  go_wp2_with (first | (go_at_call 30; (with_reducible refine (HT.out _ HZ.out).mono ?_); rintro e wa ⟨rfl, ha⟩; have HA := Lib.hid ha; clear ha) | (go_at_call 31; (with_reducible refine (HI.out _ HA.out).mono ?_); rintro e wb ⟨rfl, hb⟩; have HB := Lib.hid hb; clear hb) | (go_at_call 32; (with_reducible refine (HW.out _ HB.out).mono ?_); rintro e wd ⟨rfl, hd⟩; have HD := Lib.hid hd; clear hd))
  go_ret
  exact ⟨rfl, HD.out.bel⟩
theorem value_any (w0 : World) (b : Nat) (s : ByteArray) (p ex : Nat) (E : List UInt8) (lv : Nat) (W : World) (h : Sr w0 b s p ex E lv W) (hp : p < s.size) (hs : s.size ≤ 1000000) (hl : E.length ≤ 1000000) :
    Calls Tryd.prog 22 #[.pointer (some ⟨b, 0, none⟩)] W (Post w0 b s p (vStep ⟨ex, E, lv⟩ (sf s p))) := by
  by_cases h1 : by8 s p = 91
  · have e : vStep ⟨ex, E, lv⟩ (sf s p) = some (opened ⟨ex, E, lv⟩ 1 93, 1) := if_pos (by rw [sf_hd]; exact h1)
    rw [e]
    exact value_list w0 b s p ex E lv W h hp hs hl h1
  · by_cases h2 : by8 s p = 123
    · have e : vStep ⟨ex, E, lv⟩ (sf s p) = some (opened ⟨ex, E, lv⟩ 2 125, 1) := by
        unfold vStep; rw [if_neg (by rw [sf_hd]; exact h1), if_pos (by rw [sf_hd]; exact h2)]
      rw [e]
      exact value_object w0 b s p ex E lv W h hp hs hl h2
    · have e : vStep ⟨ex, E, lv⟩ (sf s p) = if sn (sf s p) ≠ 0 then some (⟨4, E, lv⟩, sn (sf s p)) else none := by
        unfold vStep; rw [if_neg (by rw [sf_hd]; exact h1), if_neg (by rw [sf_hd]; exact h2)]
      rw [e]
      by_cases hq : qn (sf s p) = 0
      · by_cases hj : jn (sf s p) = 0
        · rw [sn_w hq hj]
          by_cases hw : wn (sf s p) = 0
          · rw [if_neg (by simpa using hw)]
            exact value_none w0 b s p ex E lv W h hp hs h1 h2 hq hj hw
          · rw [if_pos hw]
            exact value_word w0 b s p ex E lv W h hp hs h1 h2 hq hj hw
        · rw [sn_j hq hj, if_pos hj]
          exact value_int w0 b s p ex E lv W h hp hs h1 h2 hq hj
      · rw [sn_q hq, if_pos hq]
        exact value_text w0 b s p ex E lv W h hp hs h1 h2 hq

/-! ### takeNext -/
set_option maxHeartbeats 1000000 in
set_option maxRecDepth 100000 in
theorem next_0Vy (w0 : World) (b : Nat) (s : ByteArray) (p ex : Nat) (E : List UInt8) (lv : Nat) (W : World) (q : St × Nat) (h : Sr w0 b s p ex E lv W) (hex : ex = 0)
    (H : Hid (Calls Tryd.prog 22 #[.pointer (some ⟨b, 0, none⟩)] W fun e w' => e = .returned (.bool true) ∧ Sr w0 b s (p + q.2) q.1.ex q.1.E q.1.lv w')) :
    Calls Tryd.prog 16 #[.pointer (some ⟨b, 0, none⟩)] W fun e w' => e = .returned (.bool true) ∧ Sr w0 b s (p + q.2) q.1.ex q.1.E q.1.lv w' := by
  subst hex
  have c2 := h.c2
  go_enter Tryd.func16, Tryd.ntmps16
  go_wp2_with (go_at_call 22; (with_reducible refine H.out.mono ?_); rintro e wx ⟨rfl, hx⟩)
  go_ret
  exact ⟨rfl, hx⟩
set_option maxHeartbeats 1000000 in
set_option maxRecDepth 100000 in
theorem next_0Vn (w0 : World) (b : Nat) (s : ByteArray) (p ex : Nat) (E : List UInt8) (lv : Nat) (W : World) (h : Sr w0 b s p ex E lv W) (hex : ex = 0)
    (H : Hid (Calls Tryd.prog 22 #[.pointer (some ⟨b, 0, none⟩)] W fun e w' => e = .returned (.bool false) ∧ Below w0.heap.size w0 w')) :
    Calls Tryd.prog 16 #[.pointer (some ⟨b, 0, none⟩)] W fun e w' => e = .returned (.bool false) ∧ Below w0.heap.size w0 w' := by
  subst hex
  have c2 := h.c2
  go_enter Tryd.func16, Tryd.ntmps16
  go_wp2_with (go_at_call 22; (with_reducible refine H.out.mono ?_); rintro e wx ⟨rfl, hx⟩)
  go_ret
  exact ⟨rfl, hx⟩
set_option maxHeartbeats 1000000 in
set_option maxRecDepth 100000 in
theorem next_1Ey (w0 : World) (b : Nat) (s : ByteArray) (p ex : Nat) (E : List UInt8) (lv : Nat) (W : World) (q : St × Nat) (h : Sr w0 b s p ex E lv W) (hex : ex = 1)
    (H : Hid (Calls Tryd.prog 23 #[.pointer (some ⟨b, 0, none⟩)] W fun e w' => e = .returned (.bool true) ∧ Sr w0 b s (p + q.2) q.1.ex q.1.E q.1.lv w')) :
    Calls Tryd.prog 16 #[.pointer (some ⟨b, 0, none⟩)] W fun e w' => e = .returned (.bool true) ∧ Sr w0 b s (p + q.2) q.1.ex q.1.E q.1.lv w' := by
  subst hex
  have c2 := h.c2
  go_enter Tryd.func16, Tryd.ntmps16
  go_wp2_with (go_at_call 23; (with_reducible refine H.out.mono ?_); rintro e wx ⟨rfl, hx⟩)
  go_ret
  exact ⟨rfl, hx⟩
set_option maxHeartbeats 1000000 in
set_option maxRecDepth 100000 in
theorem next_1EVy (w0 : World) (b : Nat) (s : ByteArray) (p ex : Nat) (E : List UInt8) (lv : Nat) (W : World) (q : St × Nat) (h : Sr w0 b s p ex E lv W) (hex : ex = 1)
    (H1 : Hid (Calls Tryd.prog 23 #[.pointer (some ⟨b, 0, none⟩)] W fun e w' => e = .returned (.bool false) ∧ Sr w0 b s p ex E lv w')) (H : Hid (∀ W, Sr w0 b s p ex E lv W → Calls Tryd.prog 22 #[.pointer (some ⟨b, 0, none⟩)] W fun e w' => e = .returned (.bool true) ∧ Sr w0 b s (p + q.2) q.1.ex q.1.E q.1.lv w')) :
    Calls Tryd.prog 16 #[.pointer (some ⟨b, 0, none⟩)] W fun e w' => e = .returned (.bool true) ∧ Sr w0 b s (p + q.2) q.1.ex q.1.E q.1.lv w' := by
  subst hex
  have c2 := h.c2
  go_enter Tryd.func16, Tryd.ntmps16
  go_wp2_with (first
    | (go_at_call 23; (with_reducible refine H1.out.mono ?_); rintro e wy ⟨rfl, hy⟩; have HY := Lib.hid hy; clear hy)
    | (go_at_call 22; (with_reducible refine (H.out _ HY.out).mono ?_); rintro e wx ⟨rfl, hx⟩))
  go_ret
  exact ⟨rfl, hx⟩
set_option maxHeartbeats 1000000 in
set_option maxRecDepth 100000 in
theorem next_1EVn (w0 : World) (b : Nat) (s : ByteArray) (p ex : Nat) (E : List UInt8) (lv : Nat) (W : World) (h : Sr w0 b s p ex E lv W) (hex : ex = 1)
    (H1 : Hid (Calls Tryd.prog 23 #[.pointer (some ⟨b, 0, none⟩)] W fun e w' => e = .returned (.bool false) ∧ Sr w0 b s p ex E lv w')) (H : Hid (∀ W, Sr w0 b s p ex E lv W → Calls Tryd.prog 22 #[.pointer (some ⟨b, 0, none⟩)] W fun e w' => e = .returned (.bool false) ∧ Below w0.heap.size w0 w')) :
    Calls Tryd.prog 16 #[.pointer (some ⟨b, 0, none⟩)] W fun e w' => e = .returned (.bool false) ∧ Below w0.heap.size w0 w' := by
  subst hex
  have c2 := h.c2
  go_enter Tryd.func16, Tryd.ntmps16
  go_wp2_with (first
    | (go_at_call 23; (with_reducible refine H1.out.mono ?_); rintro e wy ⟨rfl, hy⟩; have HY := Lib.hid hy; clear hy)
    | (go_at_call 22; (with_reducible refine (H.out _ HY.out).mono ?_); rintro e wx ⟨rfl, hx⟩))
  go_ret
  exact ⟨rfl, hx⟩
set_option maxHeartbeats 1000000 in
set_option maxRecDepth 100000 in
theorem next_2Ey (w0 : World) (b : Nat) (s : ByteArray) (p ex : Nat) (E : List UInt8) (lv : Nat) (W : World) (q : St × Nat) (h : Sr w0 b s p ex E lv W) (hex : ex = 2)
    (H : Hid (Calls Tryd.prog 23 #[.pointer (some ⟨b, 0, none⟩)] W fun e w' => e = .returned (.bool true) ∧ Sr w0 b s (p + q.2) q.1.ex q.1.E q.1.lv w')) :
    Calls Tryd.prog 16 #[.pointer (some ⟨b, 0, none⟩)] W fun e w' => e = .returned (.bool true) ∧ Sr w0 b s (p + q.2) q.1.ex q.1.E q.1.lv w' := by
  subst hex
  have c2 := h.c2
  go_enter Tryd.func16, Tryd.ntmps16
  go_wp2_with (go_at_call 23; (with_reducible refine H.out.mono ?_); rintro e wx ⟨rfl, hx⟩)
  go_ret
  exact ⟨rfl, hx⟩
set_option maxHeartbeats 1000000 in
set_option maxRecDepth 100000 in
theorem next_2ENy (w0 : World) (b : Nat) (s : ByteArray) (p ex : Nat) (E : List UInt8) (lv : Nat) (W : World) (q : St × Nat) (h : Sr w0 b s p ex E lv W) (hex : ex = 2)
    (H1 : Hid (Calls Tryd.prog 23 #[.pointer (some ⟨b, 0, none⟩)] W fun e w' => e = .returned (.bool false) ∧ Sr w0 b s p ex E lv w')) (H : Hid (∀ W, Sr w0 b s p ex E lv W → Calls Tryd.prog 24 #[.pointer (some ⟨b, 0, none⟩)] W fun e w' => e = .returned (.bool true) ∧ Sr w0 b s (p + q.2) q.1.ex q.1.E q.1.lv w')) :
    Calls Tryd.prog 16 #[.pointer (some ⟨b, 0, none⟩)] W fun e w' => e = .returned (.bool true) ∧ Sr w0 b s (p + q.2) q.1.ex q.1.E q.1.lv w' := by
  subst hex
  have c2 := h.c2
  go_enter Tryd.func16, Tryd.ntmps16
  go_wp2_with (first
    | (go_at_call 23; (with_reducible refine H1.out.mono ?_); rintro e wy ⟨rfl, hy⟩; have HY := Lib.hid hy; clear hy)
    | (go_at_call 24; (with_reducible refine (H.out _ HY.out).mono ?_); rintro e wx ⟨rfl, hx⟩))
  go_ret
  exact ⟨rfl, hx⟩
set_option maxHeartbeats 1000000 in
set_option maxRecDepth 100000 in
theorem next_2ENn (w0 : World) (b : Nat) (s : ByteArray) (p ex : Nat) (E : List UInt8) (lv : Nat) (W : World) (h : Sr w0 b s p ex E lv W) (hex : ex = 2)
    (H1 : Hid (Calls Tryd.prog 23 #[.pointer (some ⟨b, 0, none⟩)] W fun e w' => e = .returned (.bool false) ∧ Sr w0 b s p ex E lv w')) (H : Hid (∀ W, Sr w0 b s p ex E lv W → Calls Tryd.prog 24 #[.pointer (some ⟨b, 0, none⟩)] W fun e w' => e = .returned (.bool false) ∧ Below w0.heap.size w0 w')) :
    Calls Tryd.prog 16 #[.pointer (some ⟨b, 0, none⟩)] W fun e w' => e = .returned (.bool false) ∧ Below w0.heap.size w0 w' := by
  subst hex
  have c2 := h.c2
  go_enter Tryd.func16, Tryd.ntmps16
  go_wp2_with (first
    | (go_at_call 23; (with_reducible refine H1.out.mono ?_); rintro e wy ⟨rfl, hy⟩; have HY := Lib.hid hy; clear hy)
    | (go_at_call 24; (with_reducible refine (H.out _ HY.out).mono ?_); rintro e wx ⟨rfl, hx⟩))
  go_ret
  exact ⟨rfl, hx⟩
set_option maxHeartbeats 1000000 in
set_option maxRecDepth 100000 in
theorem next_3Ny (w0 : World) (b : Nat) (s : ByteArray) (p ex : Nat) (E : List UInt8) (lv : Nat) (W : World) (q : St × Nat) (h : Sr w0 b s p ex E lv W) (hex : ex = 3)
    (H : Hid (Calls Tryd.prog 24 #[.pointer (some ⟨b, 0, none⟩)] W fun e w' => e = .returned (.bool true) ∧ Sr w0 b s (p + q.2) q.1.ex q.1.E q.1.lv w')) :
    Calls Tryd.prog 16 #[.pointer (some ⟨b, 0, none⟩)] W fun e w' => e = .returned (.bool true) ∧ Sr w0 b s (p + q.2) q.1.ex q.1.E q.1.lv w' := by
  subst hex
  have c2 := h.c2
  go_enter Tryd.func16, Tryd.ntmps16
  go_wp2_with (go_at_call 24; (with_reducible refine H.out.mono ?_); rintro e wx ⟨rfl, hx⟩)
  go_ret
  exact ⟨rfl, hx⟩
set_option maxHeartbeats 1000000 in
set_option maxRecDepth 100000 in
theorem next_3Nn (w0 : World) (b : Nat) (s : ByteArray) (p ex : Nat) (E : List UInt8) (lv : Nat) (W : World) (h : Sr w0 b s p ex E lv W) (hex : ex = 3)
    (H : Hid (Calls Tryd.prog 24 #[.pointer (some ⟨b, 0, none⟩)] W fun e w' => e = .returned (.bool false) ∧ Below w0.heap.size w0 w')) :
    Calls Tryd.prog 16 #[.pointer (some ⟨b, 0, none⟩)] W fun e w' => e = .returned (.bool false) ∧ Below w0.heap.size w0 w' := by
  subst hex
  have c2 := h.c2
  go_enter Tryd.func16, Tryd.ntmps16
  go_wp2_with (go_at_call 24; (with_reducible refine H.out.mono ?_); rintro e wx ⟨rfl, hx⟩)
  go_ret
  exact ⟨rfl, hx⟩
set_option maxHeartbeats 1000000 in
set_option maxRecDepth 100000 in
theorem next_4Cy (w0 : World) (b : Nat) (s : ByteArray) (p ex : Nat) (E : List UInt8) (lv : Nat) (W : World) (q : St × Nat) (h : Sr w0 b s p ex E lv W) (hex : ex = 4)
    (H : Hid (Calls Tryd.prog 25 #[.pointer (some ⟨b, 0, none⟩)] W fun e w' => e = .returned (.bool true) ∧ Sr w0 b s (p + q.2) q.1.ex q.1.E q.1.lv w')) :
    Calls Tryd.prog 16 #[.pointer (some ⟨b, 0, none⟩)] W fun e w' => e = .returned (.bool true) ∧ Sr w0 b s (p + q.2) q.1.ex q.1.E q.1.lv w' := by
  subst hex
  have c2 := h.c2
  go_enter Tryd.func16, Tryd.ntmps16
  go_wp2_with (go_at_call 25; (with_reducible refine H.out.mono ?_); rintro e wx ⟨rfl, hx⟩)
  go_ret
  exact ⟨rfl, hx⟩
set_option maxHeartbeats 1000000 in
set_option maxRecDepth 100000 in
theorem next_4CEy (w0 : World) (b : Nat) (s : ByteArray) (p ex : Nat) (E : List UInt8) (lv : Nat) (W : World) (q : St × Nat) (h : Sr w0 b s p ex E lv W) (hex : ex = 4)
    (H1 : Hid (Calls Tryd.prog 25 #[.pointer (some ⟨b, 0, none⟩)] W fun e w' => e = .returned (.bool false) ∧ Sr w0 b s p ex E lv w')) (H : Hid (∀ W, Sr w0 b s p ex E lv W → Calls Tryd.prog 23 #[.pointer (some ⟨b, 0, none⟩)] W fun e w' => e = .returned (.bool true) ∧ Sr w0 b s (p + q.2) q.1.ex q.1.E q.1.lv w')) :
    Calls Tryd.prog 16 #[.pointer (some ⟨b, 0, none⟩)] W fun e w' => e = .returned (.bool true) ∧ Sr w0 b s (p + q.2) q.1.ex q.1.E q.1.lv w' := by
  subst hex
  have c2 := h.c2
  go_enter Tryd.func16, Tryd.ntmps16
  go_wp2_with (first
    | (go_at_call 25; (with_reducible refine H1.out.mono ?_); rintro e wy ⟨rfl, hy⟩; have HY := Lib.hid hy; clear hy)
    | (go_at_call 23; (with_reducible refine (H.out _ HY.out).mono ?_); rintro e wx ⟨rfl, hx⟩))
  go_ret
  exact ⟨rfl, hx⟩
set_option maxHeartbeats 1000000 in
set_option maxRecDepth 100000 in
theorem next_4CEn (w0 : World) (b : Nat) (s : ByteArray) (p ex : Nat) (E : List UInt8) (lv : Nat) (W : World) (h : Sr w0 b s p ex E lv W) (hex : ex = 4)
    (H1 : Hid (Calls Tryd.prog 25 #[.pointer (some ⟨b, 0, none⟩)] W fun e w' => e = .returned (.bool false) ∧ Sr w0 b s p ex E lv w')) (H : Hid (∀ W, Sr w0 b s p ex E lv W → Calls Tryd.prog 23 #[.pointer (some ⟨b, 0, none⟩)] W fun e w' => e = .returned (.bool false) ∧ Below w0.heap.size w0 w')) :
    Calls Tryd.prog 16 #[.pointer (some ⟨b, 0, none⟩)] W fun e w' => e = .returned (.bool false) ∧ Below w0.heap.size w0 w' := by
  subst hex
  have c2 := h.c2
  go_enter Tryd.func16, Tryd.ntmps16
  go_wp2_with (first
    | (go_at_call 25; (with_reducible refine H1.out.mono ?_); rintro e wy ⟨rfl, hy⟩; have HY := Lib.hid hy; clear hy)
    | (go_at_call 23; (with_reducible refine (H.out _ HY.out).mono ?_); rintro e wx ⟨rfl, hx⟩))
  go_ret
  exact ⟨rfl, hx⟩
theorem next_any (w0 : World) (b : Nat) (s : ByteArray) (p ex : Nat) (E : List UInt8) (lv : Nat) (W : World) (h : Sr w0 b s p ex E lv W) (hp : p < s.size) (hs : s.size ≤ 1000000) (hl : E.length ≤ 1000000) (hex : ex ≤ 4) :
    Calls Tryd.prog 16 #[.pointer (some ⟨b, 0, none⟩)] W (Post w0 b s p (step ⟨ex, E, lv⟩ (sf s p))) := by
  have HV := fun W h => value_any w0 b s p ex E lv W h hp hs hl
  have HN := fun W h => name_any w0 b s p ex E lv W h hs
  have HE := fun W h => end_any w0 b s p ex E lv W h hp hs hl
  have HC := comma_any w0 b s p ex E lv W h hp hs hl
  have h5 : ex = 0 ∨ ex = 1 ∨ ex = 2 ∨ ex = 3 ∨ ex = 4 := by omega
  rcases h5 with h5 | h5 | h5 | h5 | h5
  · rw [step_0 h5]
    cases hv : vStep ⟨ex, E, lv⟩ (sf s p) with
    | none => rw [hv] at HV; exact next_0Vn w0 b s p ex E lv W h h5 (Lib.hid (HV W h))
    | some q => rw [hv] at HV; exact next_0Vy w0 b s p ex E lv W q h h5 (Lib.hid (HV W h))
  · rw [step_1 h5]
    rcases HE W h with ⟨q, e, H⟩ | ⟨e, H⟩
    · rw [e]; exact next_1Ey w0 b s p ex E lv W q h h5 (Lib.hid H)
    · rw [e]
      show Calls _ _ _ _ (Post w0 b s p (vStep ⟨ex, E, lv⟩ (sf s p)))
      cases hv : vStep ⟨ex, E, lv⟩ (sf s p) with
      | none => rw [hv] at HV; exact next_1EVn w0 b s p ex E lv W h h5 (Lib.hid H) (Lib.hid HV)
      | some q => rw [hv] at HV; exact next_1EVy w0 b s p ex E lv W q h h5 (Lib.hid H) (Lib.hid HV)
  · rw [step_2 h5]
    rcases HE W h with ⟨q, e, H⟩ | ⟨e, H⟩
    · rw [e]; exact next_2Ey w0 b s p ex E lv W q h h5 (Lib.hid H)
    · rw [e]
      show Calls _ _ _ _ (Post w0 b s p (nStep ⟨ex, E, lv⟩ (sf s p)))
      cases hv : nStep ⟨ex, E, lv⟩ (sf s p) with
      | none => rw [hv] at HN; exact next_2ENn w0 b s p ex E lv W h h5 (Lib.hid H) (Lib.hid HN)
      | some q => rw [hv] at HN; exact next_2ENy w0 b s p ex E lv W q h h5 (Lib.hid H) (Lib.hid HN)
  · rw [step_3 h5]
    cases hv : nStep ⟨ex, E, lv⟩ (sf s p) with
    | none => rw [hv] at HN; exact next_3Nn w0 b s p ex E lv W h h5 (Lib.hid (HN W h))
    | some q => rw [hv] at HN; exact next_3Ny w0 b s p ex E lv W q h h5 (Lib.hid (HN W h))
  · rw [step_4 h5]
    rcases HC with ⟨q, e, H⟩ | ⟨e, H⟩
    · rw [e]; exact next_4Cy w0 b s p ex E lv W q h h5 (Lib.hid H)
    · rw [e]
      show Calls _ _ _ _ (Post w0 b s p (eStep ⟨ex, E, lv⟩ (sf s p)))
      have HE2 : (∃ q, eStep ⟨ex, E, lv⟩ (sf s p) = some q ∧ ∀ W, Sr w0 b s p ex E lv W → Calls Tryd.prog 23 #[.pointer (some ⟨b, 0, none⟩)] W (fun e w' => e = .returned (.bool true) ∧ Sr w0 b s (p + q.2) q.1.ex q.1.E q.1.lv w')) ∨
          (eStep ⟨ex, E, lv⟩ (sf s p) = none ∧ ∀ W, Sr w0 b s p ex E lv W → Calls Tryd.prog 23 #[.pointer (some ⟨b, 0, none⟩)] W (fun e w' => e = .returned (.bool false) ∧ Below w0.heap.size w0 w')) := by
        cases hv : eStep ⟨ex, E, lv⟩ (sf s p) with
        | none =>
          right
          refine ⟨rfl, fun W h => ?_⟩
          rcases HE W h with ⟨q, e2, H2⟩ | ⟨_, H2⟩
          · rw [hv] at e2; cases e2
          · exact H2.mono fun _ _ h => ⟨h.1, h.2.bel⟩
        | some q =>
          left
          refine ⟨q, rfl, fun W h => ?_⟩
          rcases HE W h with ⟨q2, e2, H2⟩ | ⟨e2, _⟩
          · rw [hv] at e2; cases e2; exact H2
          · rw [hv] at e2; cases e2
      rcases HE2 with ⟨q, e2, H2⟩ | ⟨e2, H2⟩
      · rw [e2]; exact next_4CEy w0 b s p ex E lv W q h h5 (Lib.hid H) (Lib.hid H2)
      · rw [e2]; exact next_4CEn w0 b s p ex E lv W h h5 (Lib.hid H) (Lib.hid H2)
end Go.Proofs.YtggahjhjapnfeaaDoor.Gr
