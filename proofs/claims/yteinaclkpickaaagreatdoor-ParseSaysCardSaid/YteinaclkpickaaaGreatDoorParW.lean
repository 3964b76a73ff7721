/- The contract of the document's value. Conditions: as each theorem states. -/
import Derived.Test.YteinaclkpickaaaGreatDoorParV
namespace Go.Proofs.YteinaclkpickaaaGreatDoor.Par
open Go.RowKit Go.Lib Go.Proofs.YteinaclkpickaaaGreatDoor.Byt Go.Proofs.YteinaclkpickaaaGreatDoor.Lx
open Go.Proofs.YteinaclkpickaaaGreatDoor.Tre (Vt V0 InS InS_upd InS_iff)

theorem rvalue_bad (w0 : World) (b : Nat) (s : ByteArray) (m : Int) (p o e : Nat) (he : e ≠ 0) (W : World) (h : Qr w0 b s p o e W) :
    Calls Tryz.prog 15 #[.pointer (some ⟨b, 0, none⟩), badT, .int .i64 m] W fun e' W' => e' = .returned nilV ∧ Below W.heap.size W W' := by
  have e0 : Below W.heap.size W ((W.alloc (.cells #[.int .i64 (-1), .int .i64 0, .int .i64 0, .string ⟨#[]⟩, .int .i64 0] 41)).alloc (.cells #[.int .i64 0, .int .i64 0, .string ⟨#[]⟩, .slice none 0 0, .slice none 0 0] 26)) := ((Below.refl _ _).alloc (Nat.le_refl _) _).alloc (by simp) _
  have hnw := two_new W #[.int .i64 (-1), .int .i64 0, .int .i64 0, .string ⟨#[]⟩, .int .i64 0] #[.int .i64 0, .int .i64 0, .string ⟨#[]⟩, .slice none 0 0, .slice none 0 0] 41 26
  have bt : Box _ W.heap.size _ := hnw.1
  have bv : Tre.Box _ (W.heap.size + 1) _ := hnw.2.1
  have hz2 := hnw.2.2
  have h1 := h.next e0
  have HW := Lib.hid (fun W hw => rwrong_more w0 b s p o e he W hw)
  clear he hnw
  go_enter Tryz.func15, Tryz.ntmps15
  go_wp2_with fail
  refine (HW.out _ h1).mono ?_
  rintro e' w1 ⟨rfl, hb1⟩
  have bv1 := bv.next hb1 (by omega)
  have lw := Below.refl W.heap.size w1
  have o1 := e0.trans (hb1.mono e0.size)
  go_wp2_with (refine Tre.wpList_keep _ rfl _ _ rfl W.heap.size _ lw (W.heap.size + 1) (by omega) _ _ rfl rfl bv1 rfl rfl (by intro u hu; simp at hu; rcases hu with rfl | rfl | rfl | rfl | rfl <;> rfl) ?_; intro w9 bx9 hb9 hk9 hs9; clear hs9)
  (try simp only [Exit.inBlock, Exit.then])
  refine bodyPost_ret (Tre.results_val rfl _ _ _ _ rfl bx9 rfl) rfl ?_
  exact ⟨rfl, o1.trans hb9⟩
set_option maxRecDepth 100000 in
set_option maxHeartbeats 8000000 in
theorem rvalue_at (w0 : World) (b : Nat) (s : ByteArray) (hs : s.size ≤ 1000000) : ∀ (f : Nat) (t : Tk) (lv p : Nat) (W : World) (m : Int), m = 64 - (lv : Int) → Qr w0 b s p 0 0 W → At s.data.toList t p → Fu s.data.toList f t p → lv ≤ 64 →
    Calls Tryz.prog 15 #[.pointer (some ⟨b, 0, none⟩), tkV t, .int .i64 m] W (OutR w0 b s W (val (nt s.data.toList) f t lv p)) := by
  intro f
  induction f with
  | zero =>
    intro t lv p W m hm h ha hf hlv
    have := ha.le
    rcases hf with h | h <;> omega
  | succ f ih =>
  intro t lv p W m hm h ha hf hlv
  have hsl : s.data.toList.length = s.size := by simp
  have hp : p ≤ s.size := by have := ha.le; omega
  have e0 : Below W.heap.size W ((W.alloc (.cells #[.int .i64 (t.k : Int), .int .i64 (t.o : Int), .int .i64 (t.z : Int), .string ⟨t.v.toArray⟩, .int .i64 t.n] 41)).alloc (.cells #[.int .i64 0, .int .i64 0, .string ⟨#[]⟩, .slice none 0 0, .slice none 0 0] 26)) := ((Below.refl _ _).alloc (Nat.le_refl _) _).alloc (by simp) _
  have hbl := h.lt
  have hwz := h.bel.size
  have RF := Lib.hid (fun w hw => rwrong_first w0 b s p t w hw)
  have hnw := two_new W #[.int .i64 (t.k : Int), .int .i64 (t.o : Int), .int .i64 (t.z : Int), .string ⟨t.v.toArray⟩, .int .i64 t.n] #[.int .i64 0, .int .i64 0, .string ⟨#[]⟩, .slice none 0 0, .slice none 0 0] 41 26
  rw [val]
  unfold tkV at *
  rcases kinds t.k with ⟨hk, k11⟩ | ⟨k11, n11, ⟨hk, k10⟩ | ⟨k10, n10, ⟨hk, k9⟩ | ⟨k9, n9, ⟨hk, k8⟩ | ⟨k8, n8, ⟨hk, k7⟩ | ⟨k7, n7, ⟨hk, k3⟩ | ⟨k3, n3, ⟨hk, k1⟩ | ⟨k1, n1⟩⟩⟩⟩⟩⟩⟩
  · rw [if_pos hk]
    have hbt : Box _ W.heap.size _ := hnw.1
    have t0 : _ = some (Value.int .i64 (t.k : Int)) := hbt.cell 0
    clear ih hf ha hk RF hnw
    go_enter Tryz.func15, Tryz.ntmps15
    go_wp2_with fail
    go_returns
    exact ⟨.of (((Below.refl _ _).alloc (Nat.le_refl _) _).alloc (by simp) _), _, _, _, _, _, rfl, scal_in _ _ _ _ _, h.next (((Below.refl _ _).alloc (Nat.le_refl _) _).alloc (by simp) _), .inl ⟨rfl, rfl, rfl⟩⟩
  · rw [if_neg n11, if_pos hk]
    have hbt : Box _ W.heap.size _ := hnw.1
    have t0 : _ = some (Value.int .i64 (t.k : Int)) := hbt.cell 0
    have k9 : ((t.k : Int) == 9) = false := by rw [hk]; rfl
    clear ih hf ha hk RF hnw
    go_enter Tryz.func15, Tryz.ntmps15
    go_wp2_with fail
    go_returns
    exact ⟨.of (((Below.refl _ _).alloc (Nat.le_refl _) _).alloc (by simp) _), _, _, _, _, _, rfl, scal_in _ _ _ _ _, h.next (((Below.refl _ _).alloc (Nat.le_refl _) _).alloc (by simp) _), .inl ⟨rfl, rfl, rfl⟩⟩
  · rw [if_neg n11, if_neg n10, if_pos hk]
    have hbt : Box _ W.heap.size _ := hnw.1
    have t0 : _ = some (Value.int .i64 (t.k : Int)) := hbt.cell 0
    clear ih hf ha hk RF hnw
    go_enter Tryz.func15, Tryz.ntmps15
    go_wp2_with fail
    go_returns
    exact ⟨.of (((Below.refl _ _).alloc (Nat.le_refl _) _).alloc (by simp) _), _, _, _, _, _, rfl, scal_in _ _ _ _ _, h.next (((Below.refl _ _).alloc (Nat.le_refl _) _).alloc (by simp) _), .inl ⟨rfl, rfl, rfl⟩⟩
  · rw [if_neg n11, if_neg n10, if_neg n9, if_pos hk]
    have hbt : Box _ W.heap.size _ := hnw.1
    have t0 : _ = some (Value.int .i64 (t.k : Int)) := hbt.cell 0
    have t4 : _ = some (Value.int .i64 t.n) := hbt.cell 4
    clear ih hf ha hk RF hnw
    go_enter Tryz.func15, Tryz.ntmps15
    go_wp2_with fail
    go_returns
    exact ⟨.of (((Below.refl _ _).alloc (Nat.le_refl _) _).alloc (by simp) _), _, _, _, _, _, rfl, scal_in _ _ _ _ _, h.next (((Below.refl _ _).alloc (Nat.le_refl _) _).alloc (by simp) _), .inl ⟨rfl, rfl, rfl⟩⟩
  · rw [if_neg n11, if_neg n10, if_neg n9, if_neg n8, if_pos hk]
    have hbt : Box _ W.heap.size _ := hnw.1
    have t0 : _ = some (Value.int .i64 (t.k : Int)) := hbt.cell 0
    have t3 : _ = some (Value.string ⟨t.v.toArray⟩) := hbt.cell 3
    clear ih hf ha hk RF hnw
    go_enter Tryz.func15, Tryz.ntmps15
    go_wp2_with fail
    go_returns
    exact ⟨.of (((Below.refl _ _).alloc (Nat.le_refl _) _).alloc (by simp) _), _, _, _, _, _, rfl, scal_in _ _ _ _ _, h.next (((Below.refl _ _).alloc (Nat.le_refl _) _).alloc (by simp) _), .inl ⟨rfl, rfl, rfl⟩⟩
  · rw [if_neg n11, if_neg n10, if_neg n9, if_neg n8, if_neg n7, if_pos hk]
    have hbt : Box _ W.heap.size _ := hnw.1
    have hbv : Tre.Box _ (W.heap.size + 1) _ := hnw.2.1
    have t0 : _ = some (Value.int .i64 (t.k : Int)) := hbt.cell 0
    have t1 : _ = some (Value.int .i64 (t.o : Int)) := hbt.cell 1
    have hz2 := hnw.2.2
    have hf2 : s.size + 1 ≤ f + p := by rcases hf with h | h <;> omega
    clear ha hf hk RF hnw
    by_cases h64 : lv = 64
    · rw [if_pos h64]
      have hm1 : decide (m < 1) = true := decide_eq_true (by omega)
      have HF : Hid (∀ W, Qr w0 b s p 0 0 W → Calls Tryz.prog 17 #[.pointer (some ⟨b, 0, none⟩), .int .i64 (t.o : Int), .int .i64 10] W fun e w' => e = .returned (.tuple #[]) ∧ Qr w0 b s p t.o 10 w' ∧ Only b W w') := Lib.hid (fun W hw => fail_first w0 b s p 0 W hw t.o 10)
      clear ih h64 hm
      go_enter Tryz.func15, Tryz.ntmps15
      go_wp2_with fail
      refine (HF.out _ (h.next e0)).mono ?_
      rintro e w1 ⟨rfl, hq1, hO1⟩
      have bv2 := hO1.boxV hbv (by omega)
      have lw := Below.refl W.heap.size w1
      have o2 := (Only.of e0).trans hO1
      clear hbt hbv t0 t1
      go_wp2_with (refine Tre.wpList_keep _ rfl _ _ rfl W.heap.size _ lw (W.heap.size + 1) (by omega) _ _ rfl rfl bv2 rfl rfl (by intro u hu; simp at hu; rcases hu with rfl | rfl | rfl | rfl | rfl <;> rfl) ?_; intro w9 bx9 hb9 hk9 hs9; clear hs9)
      (try simp only [Exit.inBlock, Exit.then])
      refine bodyPost_ret (Tre.results_val rfl _ _ _ _ rfl bx9 rfl) rfl ?_
      exact ⟨o2.low2 hb9, _, _, _, _, _, rfl, scal_in _ _ _ _ _, hq1.low hb9 hbl hwz, .inr ⟨by omega, rfl⟩⟩
    · rw [if_neg h64]
      have hm1 : decide (m < 1) = false := decide_eq_false (by omega)
      have hwm : IntKind.i64.wrap (m - 1) = m - 1 := by rw [IntKind.wrap_i64]; omega
      have hl2 : lv + 1 ≤ 64 := by omega
      have HL := Lib.hid (rlist_at (m - 1) f (lv + 1) hl2 w0 b s hs (fun t p W h ha hf => ih t (lv + 1) p W (m - 1) (by omega) h ha hf hl2) (fun p o e W he h => rvalue_bad w0 b s (m - 1) p o e he W h) p)
      generalize lst0 (nt s.data.toList) (fun t p => val (nt s.data.toList) f t (lv + 1) p) f p = R at *
      clear ih h64 hl2 hm
      go_enter Tryz.func15, Tryz.ntmps15
      go_wp2_with fail
      refine (HL.out _ (h.next e0) hp hf2).mono ?_
      rintro e w2 ⟨hO2, v, cs, p2, o2, e2, rfl, hI, hq2, hK⟩
      have bv2 := hO2.boxV hbv (by omega)
      have hone := Tre.InS_one (Tre.InS_in _ _ hI)
      have h5 : cs.toArray.size = 5 := by simp [Tre.InS_five hI]
      have lw := Below.refl W.heap.size w2
      have HI := Lib.hid hI
      have HK := Lib.hid hK
      have oo2 := (Only.of e0).trans hO2
      clear hI hO2 hbv hbt t0 t1 hK
      go_wp2_with (refine Tre.wpList_keep _ rfl _ _ rfl W.heap.size _ lw (W.heap.size + 1) (by omega) _ _ rfl rfl bv2 rfl h5 (by simpa using hone) ?_; intro w9 bx9 hb9 hk9 hs9; clear hs9)
      (try simp only [Exit.inBlock, Exit.then])
      refine bodyPost_ret (Tre.results_val rfl _ _ _ _ rfl bx9 h5) rfl ?_
      exact ⟨oo2.low2 hb9, v, cs, p2, o2, e2, rfl, InS_upd (fun b' hb' _ => ⟨hk9 b' (by omega), by omega⟩) _ _ HI.out, hq2.low hb9 hbl hwz, HK.out⟩
  · rw [if_neg n11, if_neg n10, if_neg n9, if_neg n8, if_neg n7, if_neg n3, if_pos hk]
    have hbt : Box _ W.heap.size _ := hnw.1
    have hbv : Tre.Box _ (W.heap.size + 1) _ := hnw.2.1
    have t0 : _ = some (Value.int .i64 (t.k : Int)) := hbt.cell 0
    have t1 : _ = some (Value.int .i64 (t.o : Int)) := hbt.cell 1
    have hz2 := hnw.2.2
    have hf2 : s.size + 1 ≤ f + p := by rcases hf with h | h <;> omega
    clear ha hf hk RF hnw
    by_cases h64 : lv = 64
    · rw [if_pos h64]
      have hm1 : decide (m < 1) = true := decide_eq_true (by omega)
      have HF : Hid (∀ W, Qr w0 b s p 0 0 W → Calls Tryz.prog 17 #[.pointer (some ⟨b, 0, none⟩), .int .i64 (t.o : Int), .int .i64 10] W fun e w' => e = .returned (.tuple #[]) ∧ Qr w0 b s p t.o 10 w' ∧ Only b W w') := Lib.hid (fun W hw => fail_first w0 b s p 0 W hw t.o 10)
      clear ih h64 hm
      go_enter Tryz.func15, Tryz.ntmps15
      go_wp2_with fail
      refine (HF.out _ (h.next e0)).mono ?_
      rintro e w1 ⟨rfl, hq1, hO1⟩
      have bv2 := hO1.boxV hbv (by omega)
      have lw := Below.refl W.heap.size w1
      have o2 := (Only.of e0).trans hO1
      clear hbt hbv t0 t1
      go_wp2_with (refine Tre.wpList_keep _ rfl _ _ rfl W.heap.size _ lw (W.heap.size + 1) (by omega) _ _ rfl rfl bv2 rfl rfl (by intro u hu; simp at hu; rcases hu with rfl | rfl | rfl | rfl | rfl <;> rfl) ?_; intro w9 bx9 hb9 hk9 hs9; clear hs9)
      (try simp only [Exit.inBlock, Exit.then])
      refine bodyPost_ret (Tre.results_val rfl _ _ _ _ rfl bx9 rfl) rfl ?_
      exact ⟨o2.low2 hb9, _, _, _, _, _, rfl, scal_in _ _ _ _ _, hq1.low hb9 hbl hwz, .inr ⟨by omega, rfl⟩⟩
    · rw [if_neg h64]
      have hm1 : decide (m < 1) = false := decide_eq_false (by omega)
      have hwm : IntKind.i64.wrap (m - 1) = m - 1 := by rw [IntKind.wrap_i64]; omega
      have hl2 : lv + 1 ≤ 64 := by omega
      have HL := Lib.hid (robject_at (m - 1) f (lv + 1) hl2 w0 b s hs (fun t p W h ha hf => ih t (lv + 1) p W (m - 1) (by omega) h ha hf hl2) (fun p o e W he h => rvalue_bad w0 b s (m - 1) p o e he W h) p)
      generalize obj0 (nt s.data.toList) (fun t p => val (nt s.data.toList) f t (lv + 1) p) f p = R at *
      clear ih h64 hl2 hm
      go_enter Tryz.func15, Tryz.ntmps15
      go_wp2_with fail
      refine (HL.out _ (h.next e0) hp hf2).mono ?_
      rintro e w2 ⟨hO2, v, cs, p2, o2, e2, rfl, hI, hq2, hK⟩
      have bv2 := hO2.boxV hbv (by omega)
      have hone := Tre.InS_one (Tre.InS_in _ _ hI)
      have h5 : cs.toArray.size = 5 := by simp [Tre.InS_five hI]
      have lw := Below.refl W.heap.size w2
      have HI := Lib.hid hI
      have HK := Lib.hid hK
      have oo2 := (Only.of e0).trans hO2
      clear hI hO2 hbv hbt t0 t1 hK
      go_wp2_with (refine Tre.wpList_keep _ rfl _ _ rfl W.heap.size _ lw (W.heap.size + 1) (by omega) _ _ rfl rfl bv2 rfl h5 (by simpa using hone) ?_; intro w9 bx9 hb9 hk9 hs9; clear hs9)
      (try simp only [Exit.inBlock, Exit.then])
      refine bodyPost_ret (Tre.results_val rfl _ _ _ _ rfl bx9 h5) rfl ?_
      exact ⟨oo2.low2 hb9, v, cs, p2, o2, e2, rfl, InS_upd (fun b' hb' _ => ⟨hk9 b' (by omega), by omega⟩) _ _ HI.out, hq2.low hb9 hbl hwz, HK.out⟩
  · rw [if_neg n11, if_neg n10, if_neg n9, if_neg n8, if_neg n7, if_neg n3, if_neg n1]
    have hbt : Box _ W.heap.size _ := hnw.1
    have hbv : Tre.Box _ (W.heap.size + 1) _ := hnw.2.1
    have t0 : _ = some (Value.int .i64 (t.k : Int)) := hbt.cell 0
    have hz2 := hnw.2.2
    have hfe : (if t.k = 0 then 3 else 4) ≠ 0 := by split <;> omega
    have HE := Lib.hid hfe
    clear ih hf ha hnw hfe
    unfold refu
    generalize (if t.k = 0 then 3 else 4) = er at *
    go_enter Tryz.func15, Tryz.ntmps15
    go_wp2_with fail
    refine (RF.out _ (h.next e0)).mono ?_
    rintro e w1 ⟨rfl, hO1, hq1⟩
    have bv2 := hO1.boxV hbv (by omega)
    have lw := Below.refl W.heap.size w1
    have o2 := (Only.of e0).trans hO1
    clear hbt hbv t0
    go_wp2_with (refine Tre.wpList_keep _ rfl _ _ rfl W.heap.size _ lw (W.heap.size + 1) (by omega) _ _ rfl rfl bv2 rfl rfl (by intro u hu; simp at hu; rcases hu with rfl | rfl | rfl | rfl | rfl <;> rfl) ?_; intro w9 bx9 hb9 hk9 hs9; clear hs9)
    (try simp only [Exit.inBlock, Exit.then])
    refine bodyPost_ret (Tre.results_val rfl _ _ _ _ rfl bx9 rfl) rfl ?_
    exact ⟨o2.low2 hb9, _, _, _, _, _, rfl, scal_in _ _ _ _ _, hq1.low hb9 hbl hwz, .inr ⟨HE.out, rfl⟩⟩
end Go.Proofs.YteinaclkpickaaaGreatDoor.Par
