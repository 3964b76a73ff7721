/- Contracts of the document's number and escape. Conditions: as each theorem states. -/
import Derived.Test.YtggahjhjapnfeaaDoorQuoE
namespace Go.Proofs.YtggahjhjapnfeaaDoor.Quo
open Go.RowKit Go.Lib Go.Proofs.YtggahjhjapnfeaaDoor.Byt Go.Proofs.YtggahjhjapnfeaaDoor.Oct Go.Proofs.YtggahjhjapnfeaaDoor.Utf

theorem nO_cut (s : ByteArray) (i : Nat) : nO (dr s i) = if cutS s (i : Int) 2 = ⟨#[92, 117]⟩ then hO s ((i : Int) + 2) else none := by
  unfold cutS
  cases h : has s (i : Int) 2 with
  | false =>
    rw [nO_short s i h, if_neg]
    simp only [Bool.false_eq_true, if_false]
    intro h2
    have := congrArg ByteArray.size h2
    exact absurd this (by decide)
  | true =>
    simp only [if_true]
    rw [show ((i : Int)).toNat = i from rfl, show ((2 : Int)).toNat = 2 from rfl]
    by_cases hc : cutB s i 2 = ⟨#[92, 117]⟩
    · rw [if_pos hc, nO_mark s i hc]
    · rw [if_neg hc, nO_other s i hc]

/-- What the document's number hands back. -/
def rN (n : Nat) (o : Option Nat) : Value := if vB (nP n o).1 = true then .tuple #[.int .i64 ((nP n o).1 : Int), .int .i64 ((nP n o).2 - 1 : Nat), .int .i64 0] else .tuple #[.int .i64 0, .int .i64 0, .int .i64 8]
theorem rN_yes {n r k : Nat} {o : Option Nat} (h : nP n o = (r, k + 1)) (hv : vB r = true) : rN n o = .tuple #[.int .i64 (r : Int), .int .i64 (k : Int), .int .i64 0] := by
  unfold rN; rw [h]; simp only; rw [if_pos hv]; rfl
theorem rN_no {n : Nat} {o : Option Nat} (h : nP n o = (n, 6)) (hv : vB n = false) : rN n o = .tuple #[.int .i64 0, .int .i64 0, .int .i64 8] := by
  unfold rN; rw [h]; simp only; rw [if_neg (by rw [hv]; simp)]
theorem nP_no {n m : Nat} (h : ¬ ((55296 ≤ n ∧ n ≤ 56319) ∧ 56320 ≤ m ∧ m ≤ 57343)) : nP n (some m) = (n, 6) := by
  unfold nP; simp only; rw [show pr n m = false from decide_eq_false h, if_neg (by simp)]
theorem nP_yes {n m : Nat} (h : (55296 ≤ n ∧ n ≤ 56319) ∧ 56320 ≤ m ∧ m ≤ 57343) : nP n (some m) = (65536 + (n - 55296) * 1024 + (m - 56320), 12) := by
  unfold nP; simp only; rw [show pr n m = true from decide_eq_true h, if_pos rfl]
theorem isSome_getD {o : Option Nat} (h : o.isSome = true) : o = some (o.getD 0) := by cases o with
  | none => cases h
  | some m => rfl
theorem isSome_none {o : Option Nat} (h : o.isSome = false) : o = none := by cases o with
  | none => rfl
  | some m => cases h

set_option maxRecDepth 100000 in
set_option maxHeartbeats 1000000 in
theorem rnumber_at (s : ByteArray) (i : Nat) (y : Int) (hy : y = (i : Int) + 1) (w : World) (hs : s.size ≤ 1000000) (hi : i ≤ 1000000) :
    Calls Tryd.prog 44 #[.string s, .int .i64 y] w fun e w' => e = .returned (match hO s ((i : Int) + 2) with | none => .tuple #[.int .i64 0, .int .i64 0, .int .i64 4] | some n => rN n (nO (dr s (i + 6)))) ∧ w = w' := by
  have y0 : 0 ≤ y := by omega
  have y1 : y ≤ 2000000 := by omega
  have HX2 := Lib.hid (fun w => rhexes_any s (y + 1) w (by omega) (by omega) (by omega))
  have HX8 := Lib.hid (fun w => rhexes_any s (y + 7) w (by omega) (by omega) (by omega))
  have HC := Lib.hid (fun w => rcut_any s (y + 5) 2 w (by omega) (by omega) (by omega))
  have HO := nO_cut s (i + 6)
  rw [show ((i + 6 : Nat) : Int) = y + 5 by omega, show y + 5 + 2 = y + 7 by omega] at HO
  rw [show (i : Int) + 2 = y + 1 by omega]
  unfold hN hB at HX2 HX8
  clear hy
  cases h1 : hO s (y + 1) with
  | none =>
    rw [h1] at HX2
    clear HO h1
    simp only
    go_enter Tryd.func44, Tryd.ntmps44
    go_wp2_with (go_at_call 53; (with_reducible refine (HX2.out _).mono ?_); rintro e w1 ⟨rfl, rfl⟩)
    go_ret3
    exact ⟨rfl, rfl⟩
  | some n =>
    have hn : n < 65536 := by
      unfold hO at h1
      rw [if_pos (by omega)] at h1
      exact (h4_lt h1).1
    have HX2b : Hid (∀ w, Calls Tryd.prog 53 #[.string s, .int .i64 (y + 1)] w fun e w' => e = .returned (.tuple #[.int .i64 (n : Int), .bool true]) ∧ w = w') := Lib.hid (by
      have := HX2.out; rw [h1] at this; exact this)
    simp only
    clear HX2 h1
    by_cases c0 : n < 55296 ∨ 57343 < n
    · have hv : vB n = true := by unfold vB; simp only [decide_eq_true_eq]; omega
      rw [rN_yes (k := 5) (nP_low (by omega) _) hv]
      clear HO hv
      rcases c0 with c0 | c0
      · go_enter Tryd.func44, Tryd.ntmps44
        go_wp2_with (go_at_call 53; (with_reducible refine (HX2b.out _).mono ?_); rintro e w1 ⟨rfl, rfl⟩)
        go_ret3
        exact ⟨rfl, rfl⟩
      · have c1 : 55296 ≤ n := by omega
        go_enter Tryd.func44, Tryd.ntmps44
        go_wp2_with (go_at_call 53; (with_reducible refine (HX2b.out _).mono ?_); rintro e w1 ⟨rfl, rfl⟩)
        go_ret3
        exact ⟨rfl, rfl⟩
    · have b0 : 55296 ≤ n := by omega
      have b1 : n ≤ 57343 := by omega
      have hv : vB n = false := by unfold vB; simp only [decide_eq_false_iff_not]; omega
      clear c0
      generalize nO (dr s (i + 6)) = o at *
      generalize hO s (y + 7) = p at *
      generalize cutS s (y + 5) 2 = q at *
      generalize has s (y + 5) 2 = hb at *
      by_cases c1 : 56319 < n
      · rw [rN_no (nP_low (by omega) _) hv]
        clear HO hv
        generalize p.getD 0 = m at *
        generalize p.isSome = pb at *
        go_enter Tryd.func44, Tryd.ntmps44
        go_wp2_with (first
          | (go_at_call 53; first | ((with_reducible refine (HX2b.out _).mono ?_); rintro e w1 ⟨rfl, rfl⟩) | ((with_reducible refine (HX8.out _).mono ?_); rintro e w1 ⟨rfl, rfl⟩))
          | (go_at_call 54; refine (HC.out _).mono ?_; rintro e w1 ⟨rfl, rfl⟩))
        go_ret3
        exact ⟨rfl, rfl⟩
      · have c2 : n ≤ 56319 := by omega
        by_cases hq : q = ⟨#[92, 117]⟩
        · subst hq
          rw [if_pos rfl] at HO
          subst HO
          cases hp : o.isSome with
          | false =>
            obtain rfl := isSome_none hp
            rw [rN_no rfl hv]
            clear hv hp
            go_enter Tryd.func44, Tryd.ntmps44
            go_wp2_with (first
              | (go_at_call 53; first | ((with_reducible refine (HX2b.out _).mono ?_); rintro e w1 ⟨rfl, rfl⟩) | ((with_reducible refine (HX8.out _).mono ?_); rintro e w1 ⟨rfl, rfl⟩))
              | (go_at_call 54; refine (HC.out _).mono ?_; rintro e w1 ⟨rfl, rfl⟩))
            go_ret3
            exact ⟨rfl, rfl⟩
          | true =>
            have ho := isSome_getD hp
            rw [hp] at HX8
            generalize o.getD 0 = m at *
            subst ho
            clear hp
            have cm : m < 56320 ∨ (56320 ≤ m ∧ 57343 < m) ∨ (56320 ≤ m ∧ m ≤ 57343) := by omega
            rcases cm with m0 | ⟨m0, m1⟩ | ⟨m0, m1⟩
            · rw [rN_no (nP_no (by omega)) hv]
              clear hv
              go_enter Tryd.func44, Tryd.ntmps44
              go_wp2_with (first
                | (go_at_call 53; first | ((with_reducible refine (HX2b.out _).mono ?_); rintro e w1 ⟨rfl, rfl⟩) | ((with_reducible refine (HX8.out _).mono ?_); rintro e w1 ⟨rfl, rfl⟩))
                | (go_at_call 54; refine (HC.out _).mono ?_; rintro e w1 ⟨rfl, rfl⟩))
              go_ret3
              exact ⟨rfl, rfl⟩
            · rw [rN_no (nP_no (by omega)) hv]
              clear hv
              go_enter Tryd.func44, Tryd.ntmps44
              go_wp2_with (first
                | (go_at_call 53; first | ((with_reducible refine (HX2b.out _).mono ?_); rintro e w1 ⟨rfl, rfl⟩) | ((with_reducible refine (HX8.out _).mono ?_); rintro e w1 ⟨rfl, rfl⟩))
                | (go_at_call 54; refine (HC.out _).mono ?_; rintro e w1 ⟨rfl, rfl⟩))
              go_ret3
              exact ⟨rfl, rfl⟩
            · obtain ⟨r, hr⟩ : ∃ r, r = 65536 + (n - 55296) * 1024 + (m - 56320) := ⟨_, rfl⟩
              rw [rN_yes (k := 11) (r := r) (by rw [hr]; exact nP_yes (by omega)) (by unfold vB; simp only [decide_eq_true_eq]; omega)]
              have HR := Lib.hid (show 65536 + ((n : Int) - 55296) * 1024 + (m : Int) - 56320 = (r : Int) by omega)
              have hm : m < 65536 := by omega
              clear hv hr
              go_enter Tryd.func44, Tryd.ntmps44
              go_wp2_with (first
                | (go_at_call 53; first | ((with_reducible refine (HX2b.out _).mono ?_); rintro e w1 ⟨rfl, rfl⟩) | ((with_reducible refine (HX8.out _).mono ?_); rintro e w1 ⟨rfl, rfl⟩))
                | (go_at_call 54; refine (HC.out _).mono ?_; rintro e w1 ⟨rfl, rfl⟩))
              go_ret3
              exact ⟨by rw [← HR.out]; rfl, rfl⟩
        · rw [if_neg hq] at HO
          subst HO
          rw [rN_no rfl hv]
          have hne : (q.toList == [92, 117]) = false := by
            have h2 := str_neq hq
            rwa [Byt.toList_data ⟨#[92, 117]⟩] at h2
          clear hv hq
          generalize p.getD 0 = m at *
          generalize p.isSome = pb at *
          go_enter Tryd.func44, Tryd.ntmps44
          go_wp2_with (first
            | (go_at_call 53; first | ((with_reducible refine (HX2b.out _).mono ?_); rintro e w1 ⟨rfl, rfl⟩) | ((with_reducible refine (HX8.out _).mono ?_); rintro e w1 ⟨rfl, rfl⟩))
            | (go_at_call 54; refine (HC.out _).mono ?_; rintro e w1 ⟨rfl, rfl⟩))
          go_ret3
          exact ⟨rfl, rfl⟩

/-! ### escape -/
theorem nO_not (s : ByteArray) (i : Nat) (h : bt s (i + 1) ≠ 117) : nO (dr s i) = none := by
  unfold nO
  refine if_neg fun h2 => h ?_
  rw [← dr_get s i 1]
  have h3 : ((dr s i).take 2).getD 1 0 = 117 := by rw [h2]; rfl
  rw [List.getD_eq_getElem?_getD, List.getElem?_take, if_pos (by decide), ← List.getD_eq_getElem?_getD] at h3
  rw [h3]; rfl
theorem nO_is (s : ByteArray) (i : Nat) (h0 : bt s i = 92) (h : bt s (i + 1) = 117) (hs : i + 2 ≤ s.size) : nO (dr s i) = hO s ((i : Int) + 2) := by
  unfold nO hO
  have g0 := dr_get s i 0
  have g1 := dr_get s i 1
  have hl := dr_len s i
  rw [show i + 0 = i from rfl, h0] at g0
  rw [h] at g1
  rw [if_pos (show (0 : Int) ≤ (i : Int) + 2 by omega), show ((i : Int) + 2).toNat = i + 2 by omega]
  change _ = h4 (dr s (i + 2))
  rw [← dr_drop]
  cases hd : dr s i with
  | nil => rw [hd, List.length_nil] at hl; omega
  | cons a t =>
    cases t with
    | nil => rw [hd, List.length_cons, List.length_nil] at hl; omega
    | cons b t =>
      rw [hd] at g0 g1
      simp only [List.getD_cons_zero, List.getD_cons_succ] at g0 g1
      have ea : a = 92 := UInt8.toNat_inj.1 (by rw [g0]; rfl)
      have eb : b = 117 := UInt8.toNat_inj.1 (by rw [g1]; rfl)
      subst ea eb
      rw [if_pos (by simp)]
theorem rput_one (n : Nat) (hn : n ≤ 2000000) (hv : vB n = true) (T : TypeId) (w : World) :
    Calls Tryd.prog 45 #[.slice (some ⟨w.heap.size, 0, none⟩) 1 1] (w.alloc (.cells #[.int .i64 (n : Int)] T)) fun e w' =>
      e = .returned (.tuple #[.string ⟨(encodeRune (n : Int)).toArray⟩, .bool true]) ∧ Below w.heap.size w w' := by
  refine (rput_any _ [(n : Int)] _ (row_one w n T) (by simp) (by intro m hm; rw [List.mem_singleton] at hm; omega)).mono ?_
  rintro e w' ⟨rfl, hb⟩
  refine ⟨?_, ((Below.refl _ w).alloc (Nat.le_refl _) _).trans (hb.mono (by simp))⟩
  have e1 : pB [(n : Int)] = true := by unfold pB; simp [vI_vB, hv]
  rw [e1, pS_yes e1]
  simp [encZ]
/-- What the document's escape hands back. -/
def rE (p : Nat × Nat × List UInt8) : Value := .tuple #[.string ⟨p.2.2.toArray⟩, .int .i64 ((p.2.1 - 1 : Nat) : Int), .int .i64 (p.1 : Int)]
theorem one_u8 (m : Nat) (x : Int) (hm : m < 256) (h : x = (m : Int)) : (#[Value.int .u8 x]).toList = byteCells [UInt8.ofNat m] := by
  subst h
  have := ofNat_toNat m hm
  simp [byteCells, this]
set_option maxRecDepth 100000 in
set_option maxHeartbeats 1000000 in
theorem rescape_at (s : ByteArray) (i : Nat) (y : Int) (hy : y = (i : Int) + 1) (w : World) (hs : s.size ≤ 1000000) (hi : i < s.size) (h92 : bt s i = 92) :
    Calls Tryd.prog 37 #[.string s, .int .i64 y] w fun e w' => e = .returned (rE (escL (dr s i))) ∧ Below w.heap.size w w' := by
  unfold escL
  rw [dr_get]
  have HN := Lib.hid (fun w => rnumber_at s i y hy w hs (by omega))
  by_cases hlt : i + 1 < s.size
  · have hix := fun w => index_at s (i + 1) y (by omega) hlt w
    have hb := bt_lt s (i + 1)
    have HL := Lib.hid (fun w => rletter_any (bt s (i + 1)) w)
    have y1 : y < (s.size : Int) := by omega
    have y0 : 0 ≤ y := by omega
    clear hy
    by_cases hl : ltN (bt s (i + 1)) < 256
    · rw [if_pos hl] at HL ⊢
      have HLT := Lib.hid hl
      generalize ltN (bt s (i + 1)) = m at *
      generalize bt s (i + 1) = c at *
      have HO := Lib.hid (Own.lit w w.heap.size [UInt8.ofNat m] #[.int .u8 (m : Int)] 1 (Nat.le_refl _) rfl (one_u8 m _ hl rfl) (by unfold maxLen; simp))
      have hstr : (⟨[UInt8.ofNat m].toArray⟩ : ByteArray) = ⟨#[UInt8.ofNat m]⟩ := rfl
      unfold rE
      simp only
      clear hl HN HLT
      go_enter Tryd.func37, Tryd.ntmps37
      go_wp2_with (first
        | (go_at_call 43; (with_reducible refine (HL.out _).mono ?_); rintro e w1 ⟨rfl, rfl⟩)
        | (with_reducible refine wpList_string _ rfl _ rfl _ _ _ rfl HO.out ?_))
      go_ret3
      exact ⟨rfl, (Below.refl _ w).alloc (Nat.le_refl _) _⟩
    · rw [if_neg hl] at HL ⊢
      by_cases hu : bt s (i + 1) = 117
      · rw [nO_is s i h92 hu (by omega), dr_drop]
        rw [hu] at hix HL
        clear hl hb hu
        cases hn : hO s ((i : Int) + 2) with
        | none =>
          rw [hn] at HN
          unfold rE
          simp only at HN ⊢
          clear hn
          go_enter Tryd.func37, Tryd.ntmps37
          go_wp2_with (first
            | (go_at_call 43; refine (HL.out _).mono ?_; rintro e w1 ⟨rfl, rfl⟩)
            | (go_at_call 44; refine (HN.out _).mono ?_; rintro e w1 ⟨rfl, rfl⟩))
          go_ret3
          exact ⟨rfl, Below.refl _ _⟩
        | some n =>
          rw [hn] at HN
          simp only at HN ⊢
          clear hn
          cases hv : vB (nP n (nO (dr s (i + 6)))).1 with
          | false =>
            unfold rN at HN
            rw [hv, if_neg (by simp)] at HN
            rw [if_neg (by simp)]
            unfold rE
            simp only
            clear hv
            go_enter Tryd.func37, Tryd.ntmps37
            go_wp2_with (first
              | (go_at_call 43; refine (HL.out _).mono ?_; rintro e w1 ⟨rfl, rfl⟩)
              | (go_at_call 44; refine (HN.out _).mono ?_; rintro e w1 ⟨rfl, rfl⟩))
            go_ret3
            exact ⟨rfl, Below.refl _ _⟩
          | true =>
            unfold rN at HN
            rw [hv, if_pos rfl] at HN
            rw [if_pos rfl]
            unfold rE
            simp only
            have hr : (nP n (nO (dr s (i + 6)))).1 ≤ 2000000 := by unfold vB at hv; simp only [decide_eq_true_eq] at hv; omega
            generalize nP n (nO (dr s (i + 6))) = p at *
            obtain ⟨r, k⟩ := p
            simp only at *
            have HP := Lib.hid (fun T w => rput_one r hr hv T w)
            generalize (⟨(encodeRune ((r : Nat) : Int)).toArray⟩ : ByteArray) = q at *
            generalize k - 1 = j at *
            clear hv
            go_enter Tryd.func37, Tryd.ntmps37
            go_wp2_with (first
              | (go_at_call 43; refine (HL.out _).mono ?_; rintro e w1 ⟨rfl, rfl⟩)
              | (go_at_call 44; refine (HN.out _).mono ?_; rintro e w1 ⟨rfl, rfl⟩)
              | (go_at_call 45; refine (HP.out _ _).mono ?_; rintro e w2 ⟨rfl, hb2⟩))
            go_ret3
            exact ⟨rfl, hb2⟩
      · rw [nO_not s i hu]
        have hnu : ((bt s (i + 1) : Int) != 117) = true := by rw [bne_iff_ne]; omega
        generalize bt s (i + 1) = c at *
        unfold rE
        simp only
        clear hl hu
        go_enter Tryd.func37, Tryd.ntmps37
        go_wp2_with (go_at_call 43; refine (HL.out _).mono ?_; rintro e w1 ⟨rfl, rfl⟩)
        go_ret3
        exact ⟨rfl, Below.refl _ _⟩
  · have hz : bt s (i + 1) = 0 := bt_out s (i + 1) (by omega)
    rw [hz, if_neg (by decide), nO_not s i (by omega)]
    have y1 : (s.size : Int) ≤ y := by omega
    clear hy
    unfold rE
    simp only
    clear hz HN
    go_enter Tryd.func37, Tryd.ntmps37
    go_wp2_with fail
    go_ret3
    exact ⟨rfl, Below.refl _ _⟩
end Go.Proofs.YtggahjhjapnfeaaDoor.Quo
