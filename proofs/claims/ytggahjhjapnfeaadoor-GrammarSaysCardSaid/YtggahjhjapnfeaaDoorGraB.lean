/- Contracts of takeText, takeWord, takeInteger. Conditions: as each theorem states. -/
import Derived.Test.YtggahjhjapnfeaaDoorGraA
import Derived.Deep.RegionHeld3
namespace Go.Proofs.YtggahjhjapnfeaaDoor.Gr
open Go.RowKit Go.Lib Go.Proofs.YtggahjhjapnfeaaDoor.Byt Go.Proofs.YtggahjhjapnfeaaDoor.Lx Go.Proofs.YtggahjhjapnfeaaDoor.Quo

/-! ### takeText -/
theorem tQ_qn (s : ByteArray) (p : Nat) : (qn (sf s p) = 0 ∧ (tQ s (p : Int)).1 ≠ 0) ∨ (qn (sf s p) ≠ 0 ∧ (tQ s (p : Int)).1 = 0 ∧ (tQ s (p : Int)).2.1 = p + qn (sf s p)) := by
  have e1 : dr s (p + 1) = (sf s p).drop 1 := (sf_drop s p 1).symm
  have e2 : Utf.bt s p = hd (sf s p) := (sf_hd s p).symm
  unfold tQ
  rw [Int.toNat_natCast, e1, e2]
  by_cases h : hd (sf s p) = 34
  · have hlt : p < s.size := by
      rcases Nat.lt_or_ge p s.size with h' | h'
      · exact h'
      · rw [sf_nil s p h'] at h; cases h
    rw [if_pos ⟨by omega, by omega, h⟩]
    unfold Quo.fin
    simp only
    by_cases h2 : (tkQ ((sf s p).drop 1)).1 = 0
    · have e3 : qn (sf s p) = (tkQ ((sf s p).drop 1)).2.1 + 1 := if_pos ⟨h, h2⟩
      rw [e3]; right; exact ⟨by omega, h2, by omega⟩
    · have e3 : qn (sf s p) = 0 := if_neg (fun h3 => h2 h3.2)
      rw [e3]; left; exact ⟨rfl, h2⟩
  · have e3 : qn (sf s p) = 0 := qn_none h
    rw [e3, if_neg (fun h3 => h h3.2.2)]; left; exact ⟨rfl, by show (4 : Nat) ≠ 0; decide⟩
set_option maxHeartbeats 1000000 in
set_option maxRecDepth 100000 in
theorem text_at (w0 : World) (b : Nat) (s : ByteArray) (p ex : Nat) (E : List UInt8) (lv : Nat) (W : World) (h : Sr w0 b s p ex E lv W) (hs : s.size ≤ 1000000) :
    Calls Tryd.prog 30 #[.pointer (some ⟨b, 0, none⟩)] W fun e w' => e = .returned (.bool (decide (qn (sf s p) ≠ 0))) ∧ Sr w0 b s (p + qn (sf s p)) ex E lv w' := by
  have HQ := fun W (hw : Sr w0 b s p ex E lv W) => qtake_any s (p : Int) W hw.env.syn hw.env.tabs hs
  have hc := tQ_qn s p
  unfold rT at HQ
  generalize tQ s (p : Int) = t at *
  obtain ⟨e0, n, v⟩ := t
  simp only at HQ hc
  have d0 := fun W (hw : Sr w0 b s p ex E lv W) => hw.c0
  have d1 := fun W (hw : Sr w0 b s p ex E lv W) => hw.c1
  have H := Lib.hid HQ
  clear HQ
  have hdr := h.drew
  generalize (⟨v.toArray⟩ : ByteArray) = V at *
  rcases hc with ⟨q0, q1⟩ | ⟨q0, rfl, rfl⟩
  · rw [q0, Nat.add_zero, decide_eq_false (by simp)]
    have hne : ((e0 : Int) != 0) = true := by rw [bne_iff_ne]; omega
    clear q0
    go_enter Tryd.func30, Tryd.ntmps30
    go_wp2_with fail
    go_region_held3 (Sr w0 b s p ex E lv) (first | exact hdr | assumption)
      ((go_at_call 35; (with_reducible refine (H.out _ (by assumption)).mono ?_); rintro e wx ⟨rfl, hbx⟩; have srx := Sr.next (by assumption) hbx))
    all_goals
      go_wp2_with fail
      go_ret
      exact ⟨rfl, srx⟩
  · have hq := q0
    rw [decide_eq_true q0]
    generalize qn (sf s p) = q at *
    go_enter Tryd.func30, Tryd.ntmps30
    go_wp2_with fail
    go_region_held3 (Sr w0 b s p ex E lv) (first | exact hdr | assumption)
      ((go_at_call 35; (with_reducible refine (H.out _ (by assumption)).mono ?_); rintro e wx ⟨rfl, hbx⟩; have srx := Sr.next (by assumption) hbx))
    all_goals
      have f1 := srx.free 1
      go_wp2_with fail
      go_ret
      exact ⟨rfl, srx.set1 (p + q)⟩

/-! ### takeWord -/
/-- What the words from the k-th on say. -/
def wG (k : Nat) (l : List UInt8) : Nat :=
  if k = 0 ∧ l.take 4 = [110, 117, 108, 108] then 4 else if k ≤ 1 ∧ l.take 4 = [116, 114, 117, 101] then 4 else if k ≤ 2 ∧ l.take 5 = [102, 97, 108, 115, 101] then 5 else 0
theorem wG_zero (l : List UInt8) : wG 0 l = wn l := by unfold wG wn; simp
theorem wG_0 {l : List UInt8} (h : l.take 4 = [110, 117, 108, 108]) : wG 0 l = 4 := if_pos ⟨rfl, h⟩
theorem wG_1 {l : List UInt8} (h : l.take 4 = [116, 114, 117, 101]) : wG 1 l = 4 := by unfold wG; rw [if_neg (by simp), if_pos ⟨by omega, h⟩]
theorem wG_2 {l : List UInt8} (h : l.take 5 = [102, 97, 108, 115, 101]) : wG 2 l = 5 := by unfold wG; rw [if_neg (by simp), if_neg (by simp), if_pos ⟨by omega, h⟩]
theorem wG_n0 {l : List UInt8} (h : l.take 4 ≠ [110, 117, 108, 108]) : wG 0 l = wG 1 l := by unfold wG; simp [h]
theorem wG_n1 {l : List UInt8} (h : l.take 4 ≠ [116, 114, 117, 101]) : wG 1 l = wG 2 l := by unfold wG; simp [h]
theorem wG_n2 {l : List UInt8} (h : l.take 5 ≠ [102, 97, 108, 115, 101]) : wG 2 l = wG 3 l := by unfold wG; simp [h]
theorem word_quiet (s : ByteArray) (i : Nat) (x : ByteArray) (w : World) (n : Nat) :
    Calls Tryd.prog 36 #[.string (cutB s i (s.size - i)), .string x] (w.drewN n) fun e w' => e = .returned (.bool (decide ((sf s i).take x.data.toList.length = x.data.toList))) ∧ ∃ m, w' = w.drewN m :=
  (word_find s i x (w.drewN n)).mono fun _ _ ⟨h1, h2⟩ => ⟨h1, n, h2.symm⟩
set_option maxHeartbeats 1000000 in
set_option maxRecDepth 100000 in
theorem word_any (w0 : World) (b : Nat) (s : ByteArray) (p ex : Nat) (E : List UInt8) (lv : Nat) (W : World) (h : Sr w0 b s p ex E lv W) (hp : p ≤ s.size) (hs : s.size ≤ 1000000) :
    Calls Tryd.prog 32 #[.pointer (some ⟨b, 0, none⟩)] W fun e w' => e = .returned (.bool (decide (wn (sf s p) ≠ 0))) ∧ Sr w0 b s (p + wn (sf s p)) ex E lv w' := by
  have hsl := fun w => sl_from s p (s.size - p) (by omega) w
  have H0 : Hid (∀ (w : World) (n : Nat), Calls Tryd.prog 36 #[.string (cutB s p (s.size - p)), .string ⟨#[110, 117, 108, 108]⟩] (w.drewN n) fun e w' => e = .returned (.bool (decide ((sf s p).take 4 = [110, 117, 108, 108]))) ∧ ∃ m, w' = w.drewN m) := Lib.hid fun w n => word_quiet s p ⟨#[110, 117, 108, 108]⟩ w n
  have H1 : Hid (∀ (w : World) (n : Nat), Calls Tryd.prog 36 #[.string (cutB s p (s.size - p)), .string ⟨#[116, 114, 117, 101]⟩] (w.drewN n) fun e w' => e = .returned (.bool (decide ((sf s p).take 4 = [116, 114, 117, 101]))) ∧ ∃ m, w' = w.drewN m) := Lib.hid fun w n => word_quiet s p ⟨#[116, 114, 117, 101]⟩ w n
  have H2 : Hid (∀ (w : World) (n : Nat), Calls Tryd.prog 36 #[.string (cutB s p (s.size - p)), .string ⟨#[102, 97, 108, 115, 101]⟩] (w.drewN n) fun e w' => e = .returned (.bool (decide ((sf s p).take 5 = [102, 97, 108, 115, 101]))) ∧ ∃ m, w' = w.drewN m) := Lib.hid fun w n => word_quiet s p ⟨#[102, 97, 108, 115, 101]⟩ w n
  go_enter Tryd.func32, Tryd.ntmps32
  go_wp2_with fail
  go_loopw [6] (fun x wr => ∃ (k : Nat) (a : Int), x = .int .i64 a ∧ a = (k : Int) ∧ k ≤ 3 ∧ Sr w0 b s p ex E lv wr ∧ Hid (wn (sf s p) = wG k (sf s p))) (fun x _ => 3 - (RowKit.intOf x).toNat)
  case atStart => exact ⟨0, 0, rfl, rfl, by omega, h, Lib.hid (wG_zero _).symm⟩
  case round =>
    obtain ⟨k, a, rfl, ha, hk, hR, hh⟩ := hrel
    have c0 := hR.c0
    have c1 := hR.c1
    have hk4 : k = 0 ∨ k = 1 ∨ k = 2 ∨ k = 3 := by omega
    rcases hk4 with rfl | rfl | rfl | rfl
    · obtain rfl : a = 0 := by omega
      clear ha hk
      have hwd : ∀ w, (Instr.index 46 (.agg #[.string ⟨#[110, 117, 108, 108]⟩, .string ⟨#[116, 114, 117, 101]⟩, .string ⟨#[102, 97, 108, 115, 101]⟩]) (.int .i64 0)).run Tryd.prog w = .ok (.string ⟨#[110, 117, 108, 108]⟩) w := fun w => by
        simp [Instr.index, run_underlying Tryd.underlying46, asIntOf, go_sem]
      by_cases h : (sf s p).take 4 = [110, 117, 108, 108]
      · rw [decide_eq_true h] at H0
        have HR := Lib.hid (hh.out.trans (wG_0 h))
        clear h hh
        go_wp2_with fail
        go_quiet ((go_at_call 36; with_reducible exact H0.out _ _))
        have hR2 := hR.drewN nq
        generalize wr.drewN nq = wq at *
        have c1 := hR2.c1
        have f1 := hR2.free 1
        go_wp2_with fail
        first | go_ret | go_returns
        have h9 := hR2.set1 (p + 4)
        push_cast at h9
        rw [HR.out]
        exact ⟨rfl, h9⟩
      · rw [decide_eq_false h] at H0
        have HR := Lib.hid (hh.out.trans (wG_n0 h))
        clear h hh
        go_wp2_with fail
        go_quiet ((go_at_call 36; with_reducible exact H0.out _ _))
        have hR2 := hR.drewN nq
        generalize wr.drewN nq = wq at *
        go_wp2_with fail
        go_roundw
        case rel => exact ⟨1, _, rfl, by omega, by omega, hR2, HR⟩
        case measure => simp [RowKit.intOf]
    · obtain rfl : a = 1 := by omega
      clear ha hk
      have hwd : ∀ w, (Instr.index 46 (.agg #[.string ⟨#[110, 117, 108, 108]⟩, .string ⟨#[116, 114, 117, 101]⟩, .string ⟨#[102, 97, 108, 115, 101]⟩]) (.int .i64 1)).run Tryd.prog w = .ok (.string ⟨#[116, 114, 117, 101]⟩) w := fun w => by
        simp [Instr.index, run_underlying Tryd.underlying46, asIntOf, go_sem]
      by_cases h : (sf s p).take 4 = [116, 114, 117, 101]
      · rw [decide_eq_true h] at H1
        have HR := Lib.hid (hh.out.trans (wG_1 h))
        clear h hh
        go_wp2_with fail
        go_quiet ((go_at_call 36; with_reducible exact H1.out _ _))
        have hR2 := hR.drewN nq
        generalize wr.drewN nq = wq at *
        have c1 := hR2.c1
        have f1 := hR2.free 1
        go_wp2_with fail
        first | go_ret | go_returns
        have h9 := hR2.set1 (p + 4)
        push_cast at h9
        rw [HR.out]
        exact ⟨rfl, h9⟩
      · rw [decide_eq_false h] at H1
        have HR := Lib.hid (hh.out.trans (wG_n1 h))
        clear h hh
        go_wp2_with fail
        go_quiet ((go_at_call 36; with_reducible exact H1.out _ _))
        have hR2 := hR.drewN nq
        generalize wr.drewN nq = wq at *
        go_wp2_with fail
        go_roundw
        case rel => exact ⟨2, _, rfl, by omega, by omega, hR2, HR⟩
        case measure => simp [RowKit.intOf]
    · obtain rfl : a = 2 := by omega
      clear ha hk
      have hwd : ∀ w, (Instr.index 46 (.agg #[.string ⟨#[110, 117, 108, 108]⟩, .string ⟨#[116, 114, 117, 101]⟩, .string ⟨#[102, 97, 108, 115, 101]⟩]) (.int .i64 2)).run Tryd.prog w = .ok (.string ⟨#[102, 97, 108, 115, 101]⟩) w := fun w => by
        simp [Instr.index, run_underlying Tryd.underlying46, asIntOf, go_sem]
      by_cases h : (sf s p).take 5 = [102, 97, 108, 115, 101]
      · rw [decide_eq_true h] at H2
        have HR := Lib.hid (hh.out.trans (wG_2 h))
        clear h hh
        go_wp2_with fail
        go_quiet ((go_at_call 36; with_reducible exact H2.out _ _))
        have hR2 := hR.drewN nq
        generalize wr.drewN nq = wq at *
        have c1 := hR2.c1
        have f1 := hR2.free 1
        go_wp2_with fail
        first | go_ret | go_returns
        have h9 := hR2.set1 (p + 5)
        push_cast at h9
        rw [HR.out]
        exact ⟨rfl, h9⟩
      · rw [decide_eq_false h] at H2
        have HR := Lib.hid (hh.out.trans (wG_n2 h))
        clear h hh
        go_wp2_with fail
        go_quiet ((go_at_call 36; with_reducible exact H2.out _ _))
        have hR2 := hR.drewN nq
        generalize wr.drewN nq = wq at *
        go_wp2_with fail
        go_roundw
        case rel => exact ⟨3, _, rfl, by omega, by omega, hR2, HR⟩
        case measure => simp [RowKit.intOf]
    · obtain rfl : a = 3 := by omega
      have HR := Lib.hid hh.out
      clear hh ha hk
      go_wp2_with fail
      first | go_ret | go_returns
      rw [HR.out]
      exact ⟨rfl, hR⟩

/-! ### takeInteger -/
theorem ltsize {s : ByteArray} {k : Nat} (h : by8 s k ≠ 0) : k < s.size := by
  rcases Nat.lt_or_ge k s.size with h' | h'
  · exact h'
  · exact absurd (by8_end s k h') h
set_option maxHeartbeats 1000000 in
set_option maxRecDepth 100000 in
theorem int_from (w0 : World) (b : Nat) (s : ByteArray) (p ex : Nat) (E : List UInt8) (lv f z q : Nat) (r : Bool) (W : World) (h : Sr w0 b s p ex E lv W) (hp : p < s.size) (hs : s.size ≤ 1000000)
    (hf : f = p + sgn (sf s p)) (hz : z = dgc (sf s f)) (hr : (z = 0 → r = false ∧ q = p) ∧ (z ≠ 0 → r = true ∧ q = f + z)) :
    Calls Tryd.prog 31 #[.pointer (some ⟨b, 0, none⟩)] W fun e w' => e = .returned (.bool r) ∧ Sr w0 b s q ex E lv w' := by
  have c0 := h.c0
  have c1 := h.c1
  have f1 := h.free 1
  have hR := Lib.hid h
  have hi0 := fun w => index_of s p (p : Int) rfl hp w
  have hs1 : (f : Int) = if by8 s p = 45 then (p : Int) + 1 else (p : Int) := by
    rw [hf]; unfold sgn; rw [sf_hd]; split <;> push_cast <;> omega
  have hfs : f ≤ s.size := by rw [hf]; unfold sgn; split <;> omega
  have HS := Lib.hid hs1
  clear hs1 hf
  have HZ := Lib.hid hz
  have HR := Lib.hid hr
  clear hz h hr
  by_cases h48 : by8 s f = 48
  · have hlt : f < s.size := ltsize (by omega)
    have hi1 := fun w => index_of s f (f : Int) rfl hlt w
    rw [h48] at hi1
    have hz1 : z = 1 := by rw [HZ.out]; unfold dgc; rw [sf_hd, if_pos h48]
    subst hz1
    obtain ⟨rfl, rfl⟩ := HR.out.2 (by decide)
    clear HZ h48
    have hf1 := HS.out
    have hfs1 : (f : Int) < s.size := by omega
    by_cases hm1 : by8 s p = 45
    · rw [if_pos hm1] at hf1
      rw [hm1] at hi0
      rw [hf1] at hi1 hfs1
      have HF := Lib.hid hf1
      clear HS hm1 hf1
      go_enter Tryd.func31, Tryd.ntmps31
      go_wp2_with fail
      go_loop [4] (fun x => x = .int .i64 ((p : Int) + 1)) (fun x => 0)
      case atStart => rfl
      case round =>
        obtain rfl := hrel
        go_wp2_with fail
        first | go_ret | go_returns
        have h9 := hR.out.set1 (f + 1)
        rw [show ((f + 1 : Nat) : Int) = (p : Int) + 1 + 1 by have := HF.out; omega] at h9
        exact ⟨rfl, h9⟩
    · rw [if_neg hm1] at hf1
      obtain rfl : f = p := by omega
      have hne : ((by8 s f : Int) == 45) = false := by rw [beq_eq_false_iff_ne]; omega
      clear HS hm1 hf1
      go_enter Tryd.func31, Tryd.ntmps31
      go_wp2_with fail
      go_loop [4] (fun x => x = .int .i64 (f : Int)) (fun x => 0)
      case atStart => rfl
      case round =>
        obtain rfl := hrel
        go_wp2_with fail
        first | go_ret | go_returns
        have h9 := hR.out.set1 (f + 1)
        push_cast at h9
        exact ⟨rfl, h9⟩
  · have hz1 : z = dgs (sf s f) := by rw [HZ.out]; unfold dgc; rw [sf_hd, if_neg h48]
    have HZ2 := Lib.hid (show f + z = f + dgs (sf s f) by rw [hz1])
    have h48b : f < s.size → ((by8 s f : Int) == 48) = false := fun _ => by rw [beq_eq_false_iff_ne]; omega
    have hi1 : f < s.size → ∀ w, (Instr.index 9 (.string s) (.int .i64 (f : Int))).run Tryd.prog w = .ok (.int .u8 (by8 s f : Int)) w := fun hlt w => index_of s f (f : Int) rfl hlt w
    clear HZ hz1 h48
    have hent : ((p : Int) = f ∧ ((by8 s p : Int) == 45) = false) ∨ ((f : Int) = (p : Int) + 1 ∧ ((by8 s p : Int) == 45) = true) := by
      have := HS.out
      by_cases hm1 : by8 s p = 45
      · rw [if_pos hm1] at this; right; exact ⟨this, by rw [beq_iff_eq]; omega⟩
      · rw [if_neg hm1] at this; left; exact ⟨this.symm, by rw [beq_eq_false_iff_ne]; omega⟩
    clear HS
    have hfin : ∀ k, f + z = k → Hid ((k = f → r = false ∧ q = p) ∧ (k ≠ f → r = true ∧ q = k)) := fun k hk => Lib.hid ⟨fun h => HR.out.1 (by omega), fun h => by have := HR.out.2 (by omega); exact ⟨this.1, by omega⟩⟩
    have HN := Lib.hid hfin
    clear hfin
    rcases hent with ⟨e1, e2⟩ | ⟨e1, e2⟩
    · obtain rfl : f = p := by omega
      clear e1
      go_enter Tryd.func31, Tryd.ntmps31
      go_wp2_with fail
      go_loop [4] (fun x => ∃ k : Nat, x = .int .i64 (k : Int) ∧ f ≤ k ∧ k ≤ s.size ∧ Hid (f + z = k + dgs (sf s k))) (fun x => s.size - (RowKit.intOf x).toNat)
      case atStart => exact ⟨f, rfl, Nat.le_refl _, hfs, HZ2⟩
      case round =>
        obtain ⟨k, rfl, hfk, hk, hh⟩ := hrel
        have st := dgs_sf s k
        have fin0 : dg (by8 s k) = false → Hid ((k = f → r = false ∧ q = f) ∧ (k ≠ f → r = true ∧ q = k)) := fun hd => by
          rw [hd, if_neg (by simp)] at st
          have := hh.out
          rw [st] at this
          exact HN.out k this
        by_cases hkl : k < s.size
        · have hix := fun w => index_of s k (k : Int) rfl hkl w
          have hif := hi1 (by omega)
          have hnf := h48b (by omega)
          cases hd : dg (by8 s k) with
          | true =>
            rw [if_pos hd] at st
            have HE2 := Lib.hid (show f + z = k + 1 + dgs (sf s (k + 1)) by rw [hh.out, st]; omega)
            rw [dg_iff] at hd
            obtain ⟨g1, g2⟩ := hd
            generalize by8 s k = c at *
            generalize by8 s f = cf at *
            have d1 : decide ((48 : Int) ≤ (c : Int)) = true := decide_eq_true (by omega)
            have d2 : decide ((c : Int) ≤ 57) = true := decide_eq_true (by omega)
            clear st hh fin0
            go_wp2_with fail
            go_round
            case rel => exact ⟨k + 1, by go_num, by omega, by omega, HE2⟩
            case measure => simp [RowKit.intOf]; omega
          | false =>
            have HF := fin0 hd
            have hd2 : (by8 s k < 48) ∨ (48 ≤ by8 s k ∧ 57 < by8 s k) := by
              have : ¬ (48 ≤ by8 s k ∧ by8 s k ≤ 57) := fun h => by rw [(dg_iff _).2 h] at hd; cases hd
              omega
            generalize by8 s k = c at *
            generalize by8 s f = cf at *
            clear st hh fin0 hd
            have ee : ((k : Int) == (f : Int)) = decide (k = f) := by rw [Bool.eq_iff_iff, beq_iff_eq, decide_eq_true_iff]; omega
            rcases hd2 with g1 | ⟨g1, g2⟩
            · have d1 : decide ((48 : Int) ≤ (c : Int)) = false := decide_eq_false (by omega)
              by_cases hkf : k = f
              · rw [decide_eq_true hkf] at ee
                obtain ⟨rfl, rfl⟩ := HF.out.1 hkf
                clear HF hkf
                go_wp2_with fail
                first | go_ret | go_returns
                exact ⟨rfl, hR.out⟩
              · rw [decide_eq_false hkf] at ee
                obtain ⟨rfl, rfl⟩ := HF.out.2 hkf
                clear HF hkf
                go_wp2_with fail
                first | go_ret | go_returns
                exact ⟨rfl, hR.out.set1 _⟩
            · have d1 : decide ((48 : Int) ≤ (c : Int)) = true := decide_eq_true (by omega)
              have d2 : decide ((c : Int) ≤ 57) = false := decide_eq_false (by omega)
              by_cases hkf : k = f
              · rw [decide_eq_true hkf] at ee
                obtain ⟨rfl, rfl⟩ := HF.out.1 hkf
                clear HF hkf
                go_wp2_with fail
                first | go_ret | go_returns
                exact ⟨rfl, hR.out⟩
              · rw [decide_eq_false hkf] at ee
                obtain ⟨rfl, rfl⟩ := HF.out.2 hkf
                clear HF hkf
                go_wp2_with fail
                first | go_ret | go_returns
                exact ⟨rfl, hR.out.set1 _⟩
        · have HF := fin0 (by rw [by8_end s k (by omega)]; rfl)
          have ee : ((k : Int) == (f : Int)) = decide (k = f) := by rw [Bool.eq_iff_iff, beq_iff_eq, decide_eq_true_iff]; omega
          have d0 : decide ((k : Int) < (s.size : Int)) = false := decide_eq_false (by omega)
          clear st hh fin0
          by_cases hkf : k = f
          · rw [decide_eq_true hkf] at ee
            obtain ⟨rfl, rfl⟩ := HF.out.1 hkf
            clear HF hkf
            go_wp2_with fail
            first | go_ret | go_returns
            exact ⟨rfl, hR.out⟩
          · rw [decide_eq_false hkf] at ee
            obtain ⟨rfl, rfl⟩ := HF.out.2 hkf
            clear HF hkf
            go_wp2_with fail
            first | go_ret | go_returns
            exact ⟨rfl, hR.out.set1 _⟩
    · have he : (p : Int) + 1 = (f : Int) := e1.symm
      clear e1
      go_enter Tryd.func31, Tryd.ntmps31
      go_wp2_with fail
      go_loop [4] (fun x => ∃ k : Nat, x = .int .i64 (k : Int) ∧ f ≤ k ∧ k ≤ s.size ∧ Hid (f + z = k + dgs (sf s k))) (fun x => s.size - (RowKit.intOf x).toNat)
      case atStart => exact ⟨f, rfl, Nat.le_refl _, hfs, HZ2⟩
      case round =>
        obtain ⟨k, rfl, hfk, hk, hh⟩ := hrel
        have st := dgs_sf s k
        have fin0 : dg (by8 s k) = false → Hid ((k = f → r = false ∧ q = p) ∧ (k ≠ f → r = true ∧ q = k)) := fun hd => by
          rw [hd, if_neg (by simp)] at st
          have := hh.out
          rw [st] at this
          exact HN.out k this
        by_cases hkl : k < s.size
        · have hix := fun w => index_of s k (k : Int) rfl hkl w
          have hif := hi1 (by omega)
          have hnf := h48b (by omega)
          cases hd : dg (by8 s k) with
          | true =>
            rw [if_pos hd] at st
            have HE2 := Lib.hid (show f + z = k + 1 + dgs (sf s (k + 1)) by rw [hh.out, st]; omega)
            rw [dg_iff] at hd
            obtain ⟨g1, g2⟩ := hd
            generalize by8 s k = c at *
            generalize by8 s f = cf at *
            have d1 : decide ((48 : Int) ≤ (c : Int)) = true := decide_eq_true (by omega)
            have d2 : decide ((c : Int) ≤ 57) = true := decide_eq_true (by omega)
            clear st hh fin0
            go_wp2_with fail
            go_round
            case rel => exact ⟨k + 1, by go_num, by omega, by omega, HE2⟩
            case measure => simp [RowKit.intOf]; omega
          | false =>
            have HF := fin0 hd
            have hd2 : (by8 s k < 48) ∨ (48 ≤ by8 s k ∧ 57 < by8 s k) := by
              have : ¬ (48 ≤ by8 s k ∧ by8 s k ≤ 57) := fun h => by rw [(dg_iff _).2 h] at hd; cases hd
              omega
            generalize by8 s k = c at *
            generalize by8 s f = cf at *
            clear st hh fin0 hd
            have ee : ((k : Int) == (f : Int)) = decide (k = f) := by rw [Bool.eq_iff_iff, beq_iff_eq, decide_eq_true_iff]; omega
            rcases hd2 with g1 | ⟨g1, g2⟩
            · have d1 : decide ((48 : Int) ≤ (c : Int)) = false := decide_eq_false (by omega)
              by_cases hkf : k = f
              · rw [decide_eq_true hkf] at ee
                obtain ⟨rfl, rfl⟩ := HF.out.1 hkf
                clear HF hkf
                go_wp2_with fail
                first | go_ret | go_returns
                exact ⟨rfl, hR.out⟩
              · rw [decide_eq_false hkf] at ee
                obtain ⟨rfl, rfl⟩ := HF.out.2 hkf
                clear HF hkf
                go_wp2_with fail
                first | go_ret | go_returns
                exact ⟨rfl, hR.out.set1 _⟩
            · have d1 : decide ((48 : Int) ≤ (c : Int)) = true := decide_eq_true (by omega)
              have d2 : decide ((c : Int) ≤ 57) = false := decide_eq_false (by omega)
              by_cases hkf : k = f
              · rw [decide_eq_true hkf] at ee
                obtain ⟨rfl, rfl⟩ := HF.out.1 hkf
                clear HF hkf
                go_wp2_with fail
                first | go_ret | go_returns
                exact ⟨rfl, hR.out⟩
              · rw [decide_eq_false hkf] at ee
                obtain ⟨rfl, rfl⟩ := HF.out.2 hkf
                clear HF hkf
                go_wp2_with fail
                first | go_ret | go_returns
                exact ⟨rfl, hR.out.set1 _⟩
        · have HF := fin0 (by rw [by8_end s k (by omega)]; rfl)
          have ee : ((k : Int) == (f : Int)) = decide (k = f) := by rw [Bool.eq_iff_iff, beq_iff_eq, decide_eq_true_iff]; omega
          have d0 : decide ((k : Int) < (s.size : Int)) = false := decide_eq_false (by omega)
          clear st hh fin0
          by_cases hkf : k = f
          · rw [decide_eq_true hkf] at ee
            obtain ⟨rfl, rfl⟩ := HF.out.1 hkf
            clear HF hkf
            go_wp2_with fail
            first | go_ret | go_returns
            exact ⟨rfl, hR.out⟩
          · rw [decide_eq_false hkf] at ee
            obtain ⟨rfl, rfl⟩ := HF.out.2 hkf
            clear HF hkf
            go_wp2_with fail
            first | go_ret | go_returns
            exact ⟨rfl, hR.out.set1 _⟩
theorem int_any (w0 : World) (b : Nat) (s : ByteArray) (p ex : Nat) (E : List UInt8) (lv : Nat) (W : World) (h : Sr w0 b s p ex E lv W) (hp : p < s.size) (hs : s.size ≤ 1000000) :
    Calls Tryd.prog 31 #[.pointer (some ⟨b, 0, none⟩)] W fun e w' => e = .returned (.bool (decide (jn (sf s p) ≠ 0))) ∧ Sr w0 b s (p + jn (sf s p)) ex E lv w' := by
  refine int_from w0 b s p ex E lv (p + sgn (sf s p)) (dgc (sf s (p + sgn (sf s p)))) _ _ W h hp hs rfl rfl ?_
  have e : dgc (sf s (p + sgn (sf s p))) = dc (sf s p) := by unfold dc; rw [sf_drop]
  rw [e]
  constructor
  · intro h0
    have : jn (sf s p) = 0 := if_pos h0
    rw [this]
    exact ⟨rfl, rfl⟩
  · intro h0
    have : jn (sf s p) = sgn (sf s p) + dc (sf s p) := if_neg h0
    rw [this]
    exact ⟨decide_eq_true (by omega), by omega⟩
end Go.Proofs.YtggahjhjapnfeaaDoor.Gr
