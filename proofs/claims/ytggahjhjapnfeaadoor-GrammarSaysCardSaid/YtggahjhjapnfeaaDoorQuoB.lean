/- Contracts of takeNumber, takeLetter, isPair, takeEscape and takePiece. Conditions: the two tables of unicode/utf8 are as its text lays them, strconv.ErrSyntax holds an error; as each theorem states. -/
import Derived.Test.YtggahjhjapnfeaaDoorQuoA
import Derived.Test.YtggahjhjapnfeaaDoorUtfB
import Derived.Test.YtggahjhjapnfeaaDoorUtfC
namespace Go.Proofs.YtggahjhjapnfeaaDoor.Quo
open Go.RowKit Go.Lib Go.Proofs.YtggahjhjapnfeaaDoor.Byt Go.Proofs.YtggahjhjapnfeaaDoor.Oct Go.Proofs.YtggahjhjapnfeaaDoor.Utf

/-- The bytes from i on. -/
def dr (s : ByteArray) (i : Nat) : List UInt8 := s.data.toList.drop i
theorem dr_len (s : ByteArray) (i : Nat) : (dr s i).length = s.size - i := by
  have hl : s.data.toList.length = s.size := Lib.size_eq s
  unfold dr; rw [List.length_drop, hl]
theorem dr_drop (s : ByteArray) (i k : Nat) : (dr s i).drop k = dr s (i + k) := by unfold dr; rw [List.drop_drop]
theorem dr_get (s : ByteArray) (i k : Nat) : ((dr s i).getD k 0).toNat = bt s (i + k) := by
  unfold dr bt
  rw [List.getD_eq_getElem?_getD, List.getElem?_drop, List.getD_eq_getElem?_getD]
theorem dr_ne (s : ByteArray) (i : Nat) (h : i < s.size) : dr s i ≠ [] := drop_some s i h
theorem dr_nil (s : ByteArray) (i : Nat) (h : s.size ≤ i) : dr s i = [] := drop_none s i h
theorem wS_dr (s : ByteArray) (i : Nat) : wS s i = wL (dr s i) := rfl
theorem bt_out (s : ByteArray) (i : Nat) (h : s.size ≤ i) : bt s i = 0 := by
  have hl : s.data.toList.length = s.size := Lib.size_eq s
  unfold bt
  rw [List.getD_eq_getElem?_getD, List.getElem?_eq_none (by omega)]
  rfl
theorem cut_dr (s : ByteArray) (i n : Nat) : cutB s i n = ⟨((dr s i).take n).toArray⟩ := rfl

/-! ### a number -/
theorem nO_short (s : ByteArray) (i : Nat) (h : has s (i : Int) 2 = false) : nO (dr s i) = none := by
  unfold nO
  refine if_neg fun h2 => ?_
  have h3 := congrArg List.length h2
  rw [List.length_take, dr_len] at h3
  unfold has at h
  simp only [decide_eq_false_iff_not] at h
  simp at h3
  omega
theorem nO_other (s : ByteArray) (i : Nat) (h : cutB s i 2 ≠ ⟨#[92, 117]⟩) : nO (dr s i) = none := by
  unfold nO
  refine if_neg fun h2 => h ?_
  rw [cut_dr, h2]
theorem nO_mark (s : ByteArray) (i : Nat) (h : cutB s i 2 = ⟨#[92, 117]⟩) : nO (dr s i) = hO s ((i : Int) + 2) := by
  unfold nO hO
  rw [cut_dr] at h
  have h2 : (dr s i).take 2 = [92, 117] := by
    have := congrArg (fun b : ByteArray => b.data.toList) h
    simpa using this
  rw [if_pos h2, if_pos (by omega), dr_drop, show ((i : Int) + 2).toNat = i + 2 by omega]
  rfl
theorem number_at (s : ByteArray) (i : Nat) (x : Int) (hx : x = (i : Int)) (w : World) (hS : Syn w) (hs : s.size ≤ 140737488355328) (hi : i ≤ 140737488355400) :
    Calls Tryd.prog 56 #[.string s, .int .i64 x] w fun e w' => e = .returned (.tuple #[.int .i64 ((nO (dr s i)).getD 0 : Nat), .bool (nO (dr s i)).isSome]) ∧ Below w.heap.size w w' := by
  subst hx
  cases h : has s (i : Int) 2 with
  | false =>
    rw [nO_short s i h]
    have HN2 := Lib.hid (fun w => cut_no s (i : Int) 2 w h hs (by omega) (by omega))
    clear h
    go_enter Tryd.func56, Tryd.ntmps56
    go_wp2_with (go_at_call 61; refine (HN2.out _).mono ?_; rintro e w1 ⟨rfl, rfl⟩)
    go_ret2
    exact ⟨rfl, Below.refl _ _⟩
  | true =>
    have hkm : i + 2 ≤ s.size := by unfold has at h; simp only [decide_eq_true_eq] at h; omega
    have HY : Hid (∀ w, Calls Tryd.prog 61 #[.string s, .int .i64 (i : Int), .int .i64 2] w fun e w' => e = .returned (.tuple #[.string (cutB s i 2), .bool true]) ∧ Below w.heap.size w w') := Lib.hid (fun w => cut_yes s i 2 w hkm hs)
    have HS := Lib.hid hS
    clear h hS
    by_cases hc : cutB s i 2 = ⟨#[92, 117]⟩
    · rw [nO_mark s i hc]
      rw [hc] at HY
      have HH : Hid (∀ w, Syn w → Calls Tryd.prog 62 #[.string s, .int .i64 ((i : Int) + 2)] w fun e w' => e = .returned (.tuple #[.int .i64 (((hO s ((i : Int) + 2)).getD 0 : Nat) : Int), .bool (hO s ((i : Int) + 2)).isSome]) ∧ Below w.heap.size w w') := Lib.hid (fun w hS => hexes_any s ((i : Int) + 2) w hS hs (by omega) (by omega))
      generalize (hO s ((i : Int) + 2)).getD 0 = n at *
      generalize (hO s ((i : Int) + 2)).isSome = b at *
      clear hc
      go_enter Tryd.func56, Tryd.ntmps56
      go_wp2_with (first
        | (go_at_call 61; refine (HY.out _).mono ?_; rintro e w1 ⟨rfl, hb1⟩)
        | (go_at_call 62; refine (HH.out _ (HS.out.next hb1)).mono ?_; rintro e w2 ⟨rfl, hb2⟩))
      go_ret2
      exact ⟨rfl, hb1.trans (hb2.mono hb1.size)⟩
    · rw [nO_other s i hc]
      have hne : ((cutB s i 2).toList == [92, 117]) = false := by
        have h2 := str_neq hc
        rwa [Byt.toList_data ⟨#[92, 117]⟩] at h2
      clear hc
      generalize cutB s i 2 = c at *
      go_enter Tryd.func56, Tryd.ntmps56
      go_wp2_with (go_at_call 61; refine (HY.out _).mono ?_; rintro e w1 ⟨rfl, hb1⟩)
      go_ret2
      exact ⟨rfl, hb1⟩

/-! ### a letter -/
def ltI (c : Nat) : Nat := if c = 34 then 0 else if c = 92 then 1 else if c = 98 then 2 else if c = 102 then 3 else if c = 110 then 4 else if c = 114 then 5 else if c = 116 then 6 else 7
theorem letter_dig : ∀ n : Fin 256, Lib.indexByte [34, 92, 98, 102, 110, 114, 116, 47] (UInt8.ofNat n.val) = if ltN n.val < 256 then (ltI n.val : Int) else -1 := by decide +kernel
theorem letter_mean : ∀ n : Fin 256, ltN n.val < 256 → cutB ⟨#[34, 92, 8, 12, 10, 13, 9, 47]⟩ (ltI n.val) 1 = ⟨#[UInt8.ofNat (ltN n.val)]⟩ ∧ ltI n.val < 8 := by decide +kernel
theorem letter_find (c : Nat) (hc : c < 256) (w : World) :
    Calls Tryd.prog 21 #[.string ⟨#[34, 92, 98, 102, 110, 114, 116, 47]⟩, .int .u8 (c : Int)] w fun e w' => e = .returned (.int .i64 (if ltN c < 256 then (ltI c : Int) else -1)) ∧ w = w' :=
  (Tryd.strings_IndexByte _ _ w).mono fun e w' ⟨h1, h2⟩ => ⟨by
    rw [h1, Int.toNat_natCast]
    exact congrArg (fun x => Ending.returned (.int .i64 x)) (letter_dig ⟨c, hc⟩), h2.symm⟩
theorem letter_at (s : ByteArray) (i : Nat) (x : Int) (hx : x = (i : Int)) (w : World) :
    Calls Tryd.prog 55 #[.string s, .int .i64 x] w fun e w' => e = .returned (if ltN (bt s i) < 256 then .tuple #[.string ⟨#[UInt8.ofNat (ltN (bt s i))]⟩, .bool true] else .tuple #[.string ⟨#[]⟩, .bool false]) ∧ w = w' := by
  subst hx
  by_cases hlt : i < s.size
  · have hix := fun w => index_at s i _ rfl hlt w
    have hb := bt_lt s i
    have HF := Lib.hid (fun w => letter_find (bt s i) hb w)
    have HM := Lib.hid (letter_mean ⟨bt s i, hb⟩)
    generalize bt s i = c at *
    by_cases hl : ltN c < 256
    · rw [if_pos hl]
      rw [if_pos hl] at HF
      obtain ⟨h1, h2⟩ := HM.out hl
      simp only at h1 h2
      have hsl := run_cut ⟨#[34, 92, 8, 12, 10, 13, 9, 47]⟩ (ltI c : Int) ((ltI c : Int) + 1) (ltI c) 1 rfl (by omega) (by show ltI c + 1 ≤ 8; omega)
      rw [h1] at hsl
      generalize ltI c = j at *
      generalize (⟨#[UInt8.ofNat (ltN c)]⟩ : ByteArray) = r at *
      clear HM h1 hl
      go_enter Tryd.func55, Tryd.ntmps55
      go_wp2_with (go_at_call 21; refine (HF.out _).mono ?_; rintro e w1 ⟨rfl, rfl⟩)
      go_ret2
      exact ⟨rfl, rfl⟩
    · rw [if_neg hl]
      rw [if_neg hl] at HF
      clear HM hl
      go_enter Tryd.func55, Tryd.ntmps55
      go_wp2_with (go_at_call 21; refine (HF.out _).mono ?_; rintro e w1 ⟨rfl, rfl⟩)
      go_ret2
      exact ⟨rfl, rfl⟩
  · rw [bt_out s i (by omega), if_neg (by decide)]
    go_enter Tryd.func55, Tryd.ntmps55
    go_wp2_with fail
    go_ret2
    exact ⟨rfl, rfl⟩

/-! ### a pair -/
theorem pair_any (n m : Nat) (w : World) : Calls Tryd.prog 57 #[.int .i64 (n : Int), .int .i64 (m : Int)] w fun e w' => e = .returned (.bool (pr n m)) ∧ w = w' := by
  by_cases h : (55296 ≤ n ∧ n ≤ 56319) ∧ 56320 ≤ m ∧ m ≤ 57343
  · have e : pr n m = true := decide_eq_true h
    rw [e]
    obtain ⟨⟨h1, h2⟩, h3, h4⟩ := h
    have hd : decide ((m : Int) ≤ 57343) = true := by simp; omega
    clear e
    go_enter Tryd.func57, Tryd.ntmps57
    go_wp2_with fail
    go_ret
    exact ⟨rfl, rfl⟩
  · have e : pr n m = false := decide_eq_false h
    rw [e]
    have h' : n < 55296 ∨ (55296 ≤ n ∧ 56319 < n) ∨ (55296 ≤ n ∧ n ≤ 56319 ∧ m < 56320) ∨ (55296 ≤ n ∧ n ≤ 56319 ∧ 56320 ≤ m ∧ 57343 < m) := by omega
    clear e h
    have hd : 57343 < m → decide ((m : Int) ≤ 57343) = false := fun h => by simp; omega
    rcases h' with h1 | ⟨h1, h2⟩ | ⟨h1, h2, h3⟩ | ⟨h1, h2, h3, h4⟩
    all_goals
      first | have hd2 := hd h4 | skip
      clear hd
      go_enter Tryd.func57, Tryd.ntmps57
      go_wp2_with fail
      go_ret
      exact ⟨rfl, rfl⟩

/-! ### an escape -/
theorem row_one (w : World) (n : Int) (T : TypeId) : Num.Row (w.alloc (.cells #[.int .i64 n] T)) (.slice (some ⟨w.heap.size, 0, none⟩) 1 1) [n] := by
  refine .inr ⟨w.heap.size, 0, 1, rfl, fun j hj => ?_⟩
  obtain rfl : j = 0 := by simp at hj; omega
  rw [World.cell?_alloc_mark]; rfl
theorem vI_vB (n : Nat) : vI (n : Int) = vB n := by
  unfold vI vB
  rw [decide_eq_decide]
  omega
theorem put_one (n : Nat) (x : Int) (hx : x = (n : Int)) (T : TypeId) (w : World) :
    Calls Tryd.prog 58 #[.slice (some ⟨w.heap.size, 0, none⟩) 1 1] (w.alloc (.cells #[.int .i64 x] T)) fun e w' =>
      e = .returned (if vB n = true then .tuple #[.string ⟨(encodeRune (n : Int)).toArray⟩, .bool true] else .tuple #[.string ⟨#[]⟩, .bool false]) ∧ Below w.heap.size w w' := by
  subst hx
  refine (put_any _ [(n : Int)] _ (row_one w n T) (by simp)).mono ?_
  rintro e w' ⟨rfl, hb⟩
  refine ⟨?_, ((Below.refl _ w).alloc (Nat.le_refl _) _).trans (hb.mono (by simp))⟩
  have e1 : pB [(n : Int)] = vB n := by unfold pB; simp [vI_vB]
  cases hv : vB n with
  | true =>
    rw [hv] at e1
    rw [if_pos rfl, e1, pS_yes e1]
    simp [encZ]
  | false =>
    rw [hv] at e1
    rw [if_neg (by simp), e1, pS_no e1]

/-- What takeEscape and takePiece hand back. -/
def rT (p : Nat × Nat × List UInt8) : Value := .tuple #[.string ⟨p.2.2.toArray⟩, .int .i64 (p.2.1 : Int), .int .i64 (p.1 : Int)]
theorem next2 {a b c : World} (h : Below a.heap.size a b) (k : Below b.heap.size b c) : Below a.heap.size a c := h.trans (k.mono h.size)

set_option maxHeartbeats 1000000 in
theorem escape_at (s : ByteArray) (i : Nat) (w : World) (hS : Syn w) (hT : Tabs w) (h : i < s.size) (hs : s.size ≤ 140737488355328) :
    Calls Tryd.prog 50 #[.string s, .int .i64 (i : Int)] w fun e w' => e = .returned (rT (escL (dr s i))) ∧ Below w.heap.size w w' := by
  have HS := Lib.hid hS
  have HT := Lib.hid hT
  clear hS hT
  unfold escL
  rw [dr_get]
  have HL := Lib.hid (fun w => letter_at s (i + 1) ((i : Int) + 1) (by omega) w)
  by_cases hl : ltN (bt s (i + 1)) < 256
  · rw [if_pos hl] at HL
    rw [if_pos hl]
    unfold rT
    generalize UInt8.ofNat (ltN (bt s (i + 1))) = c at *
    clear hl
    go_enter Tryd.func50, Tryd.ntmps50
    go_wp2_with (go_at_call 55; refine (HL.out _).mono ?_; rintro e w1 ⟨rfl, rfl⟩)
    go_ret3
    exact ⟨rfl, Below.refl _ _⟩
  · rw [if_neg hl] at HL
    rw [if_neg hl]
    have HN1 := Lib.hid (fun w hS => number_at s i (i : Int) rfl w hS hs (by omega))
    have HN6 := Lib.hid (fun w hS => number_at s (i + 6) ((i : Int) + 6) (by omega) w hS hs (by omega))
    rw [dr_drop]
    clear hl
    cases hn : nO (dr s i) with
    | none =>
      rw [hn] at HN1
      clear hn
      simp only
      unfold rT
      go_enter Tryd.func50, Tryd.ntmps50
      go_wp2_with (first
        | (go_at_call 55; refine (HL.out _).mono ?_; rintro e w1 ⟨rfl, rfl⟩)
        | (go_at_call 56; with_reducible refine (HN1.out _ HS.out).mono ?_; rintro e w2 ⟨rfl, hb2⟩))
      go_ret3
      exact ⟨rfl, hb2⟩
    | some n =>
      have hn2 := (nO_lt hn).1
      have HN1b : Hid (∀ w, Syn w → Calls Tryd.prog 56 #[.string s, .int .i64 (i : Int)] w fun e w' => e = .returned (.tuple #[.int .i64 (n : Int), .bool true]) ∧ Below w.heap.size w w') := Lib.hid (by
        have := HN1.out; rw [hn] at this; exact this)
      simp only
      clear hn HN1
      cases hm : nO (dr s (i + 6)) with
      | none =>
        have HN6b : Hid (∀ w, Syn w → Calls Tryd.prog 56 #[.string s, .int .i64 ((i : Int) + 6)] w fun e w' => e = .returned (.tuple #[.int .i64 0, .bool false]) ∧ Below w.heap.size w w') := Lib.hid (by
          have := HN6.out; rw [hm] at this; exact this)
        have e : nP n none = (n, 6) := rfl
        rw [e]
        simp only
        unfold rT
        clear HN6 hm e
        have HPr := Lib.hid (fun w => pair_any n 0 w)
        have HP := Lib.hid (fun x hx T w => put_one n x hx T w)
        cases hv : vB n with
        | true =>
          rw [if_pos rfl]
          rw [hv, if_pos rfl] at HP
          generalize (⟨(encodeRune ((n : Nat) : Int)).toArray⟩ : ByteArray) = piece at *
          clear hv
          go_enter Tryd.func50, Tryd.ntmps50
          go_wp2_with (first
            | (go_at_call 55; refine (HL.out _).mono ?_; rintro e w1 ⟨rfl, rfl⟩)
            | (go_at_call 56; first | ((with_reducible refine (HN1b.out _ HS.out).mono ?_); rintro e w2 ⟨rfl, hb2⟩) | ((with_reducible refine (HN6b.out _ (HS.out.next hb2)).mono ?_); rintro e w3 ⟨rfl, hb3⟩))
            | (go_at_call 57; refine (HPr.out _).mono ?_; rintro e w4 ⟨rfl, rfl⟩)
            | (go_at_call 58; refine (HP.out _ (by omega) _ _).mono ?_; rintro e w5 ⟨rfl, hb5⟩))
          go_ret3
          exact ⟨rfl, next2 (next2 hb2 hb3) hb5⟩
        | false =>
          rw [if_neg (by simp)]
          rw [hv, if_neg (by simp)] at HP
          clear hv
          go_enter Tryd.func50, Tryd.ntmps50
          go_wp2_with (first
            | (go_at_call 55; refine (HL.out _).mono ?_; rintro e w1 ⟨rfl, rfl⟩)
            | (go_at_call 56; first | ((with_reducible refine (HN1b.out _ HS.out).mono ?_); rintro e w2 ⟨rfl, hb2⟩) | ((with_reducible refine (HN6b.out _ (HS.out.next hb2)).mono ?_); rintro e w3 ⟨rfl, hb3⟩))
            | (go_at_call 57; refine (HPr.out _).mono ?_; rintro e w4 ⟨rfl, rfl⟩)
            | (go_at_call 58; refine (HP.out _ (by omega) _ _).mono ?_; rintro e w5 ⟨rfl, hb5⟩))
          go_ret3
          exact ⟨rfl, next2 (next2 hb2 hb3) hb5⟩
      | some m =>
        have hm2 := (nO_lt hm).1
        have HN6b : Hid (∀ w, Syn w → Calls Tryd.prog 56 #[.string s, .int .i64 ((i : Int) + 6)] w fun e w' => e = .returned (.tuple #[.int .i64 (m : Int), .bool true]) ∧ Below w.heap.size w w') := Lib.hid (by
          have := HN6.out; rw [hm] at this; exact this)
        have HPr := Lib.hid (fun w => pair_any n m w)
        clear HN6 hm
        cases hp : pr n m with
        | false =>
          rw [hp] at HPr
          have e : nP n (some m) = (n, 6) := by unfold nP; simp only; rw [hp, if_neg (by simp)]
          rw [e]
          simp only
          unfold rT
          clear e hp
          have HP := Lib.hid (fun x hx T w => put_one n x hx T w)
          cases hv : vB n with
          | true =>
            rw [if_pos rfl]
            rw [hv, if_pos rfl] at HP
            generalize (⟨(encodeRune ((n : Nat) : Int)).toArray⟩ : ByteArray) = piece at *
            clear hv
            go_enter Tryd.func50, Tryd.ntmps50
            go_wp2_with (first
              | (go_at_call 55; refine (HL.out _).mono ?_; rintro e w1 ⟨rfl, rfl⟩)
              | (go_at_call 56; first | ((with_reducible refine (HN1b.out _ HS.out).mono ?_); rintro e w2 ⟨rfl, hb2⟩) | ((with_reducible refine (HN6b.out _ (HS.out.next hb2)).mono ?_); rintro e w3 ⟨rfl, hb3⟩))
              | (go_at_call 57; refine (HPr.out _).mono ?_; rintro e w4 ⟨rfl, rfl⟩)
              | (go_at_call 58; refine (HP.out _ (by omega) _ _).mono ?_; rintro e w5 ⟨rfl, hb5⟩))
            go_ret3
            exact ⟨rfl, next2 (next2 hb2 hb3) hb5⟩
          | false =>
            rw [if_neg (by simp)]
            rw [hv, if_neg (by simp)] at HP
            clear hv
            go_enter Tryd.func50, Tryd.ntmps50
            go_wp2_with (first
              | (go_at_call 55; refine (HL.out _).mono ?_; rintro e w1 ⟨rfl, rfl⟩)
              | (go_at_call 56; first | ((with_reducible refine (HN1b.out _ HS.out).mono ?_); rintro e w2 ⟨rfl, hb2⟩) | ((with_reducible refine (HN6b.out _ (HS.out.next hb2)).mono ?_); rintro e w3 ⟨rfl, hb3⟩))
              | (go_at_call 57; refine (HPr.out _).mono ?_; rintro e w4 ⟨rfl, rfl⟩)
              | (go_at_call 58; refine (HP.out _ (by omega) _ _).mono ?_; rintro e w5 ⟨rfl, hb5⟩))
            go_ret3
            exact ⟨rfl, next2 (next2 hb2 hb3) hb5⟩
        | true =>
          rw [hp] at HPr
          obtain ⟨⟨p1, p2⟩, p3, p4⟩ := of_decide_eq_true hp
          obtain ⟨r, hr⟩ : ∃ r, r = 65536 + (n - 55296) * 1024 + (m - 56320) := ⟨_, rfl⟩
          have e : nP n (some m) = (r, 12) := by unfold nP; simp only; rw [hp, if_pos rfl, hr]
          have hr2 : (r : Int) = 65536 + ((n : Int) - 55296) * 1024 + (m : Int) - 56320 := by omega
          rw [e]
          simp only
          unfold rT
          clear e hp hr
          have HP := Lib.hid (fun x (hx : x = 65536 + ((n : Int) - 55296) * 1024 + (m : Int) - 56320) T w => put_one r x (hx.trans hr2.symm) T w)
          clear hr2
          cases hv : vB r with
          | true =>
            rw [if_pos rfl]
            rw [hv, if_pos rfl] at HP
            generalize (⟨(encodeRune ((r : Nat) : Int)).toArray⟩ : ByteArray) = piece at *
            clear hv
            go_enter Tryd.func50, Tryd.ntmps50
            go_wp2_with (first
              | (go_at_call 55; refine (HL.out _).mono ?_; rintro e w1 ⟨rfl, rfl⟩)
              | (go_at_call 56; first | ((with_reducible refine (HN1b.out _ HS.out).mono ?_); rintro e w2 ⟨rfl, hb2⟩) | ((with_reducible refine (HN6b.out _ (HS.out.next hb2)).mono ?_); rintro e w3 ⟨rfl, hb3⟩))
              | (go_at_call 57; refine (HPr.out _).mono ?_; rintro e w4 ⟨rfl, rfl⟩)
              | (go_at_call 58; refine (HP.out _ (by omega) _ _).mono ?_; rintro e w5 ⟨rfl, hb5⟩))
            go_ret3
            exact ⟨rfl, next2 (next2 hb2 hb3) hb5⟩
          | false =>
            rw [if_neg (by simp)]
            rw [hv, if_neg (by simp)] at HP
            clear hv
            go_enter Tryd.func50, Tryd.ntmps50
            go_wp2_with (first
              | (go_at_call 55; refine (HL.out _).mono ?_; rintro e w1 ⟨rfl, rfl⟩)
              | (go_at_call 56; first | ((with_reducible refine (HN1b.out _ HS.out).mono ?_); rintro e w2 ⟨rfl, hb2⟩) | ((with_reducible refine (HN6b.out _ (HS.out.next hb2)).mono ?_); rintro e w3 ⟨rfl, hb3⟩))
              | (go_at_call 57; refine (HPr.out _).mono ?_; rintro e w4 ⟨rfl, rfl⟩)
              | (go_at_call 58; refine (HP.out _ (by omega) _ _).mono ?_; rintro e w5 ⟨rfl, hb5⟩))
            go_ret3
            exact ⟨rfl, next2 (next2 hb2 hb3) hb5⟩

/-! ### a piece -/
set_option maxHeartbeats 1000000 in
theorem piece_at (s : ByteArray) (i : Nat) (w : World) (hS : Syn w) (hT : Tabs w) (h : i < s.size) (hs : s.size ≤ 140737488355328) :
    Calls Tryd.prog 40 #[.string s, .int .i64 (i : Int)] w fun e w' => e = .returned (rT (stp (dr s i))) ∧ Below w.heap.size w w' := by
  have hg : ((dr s i).getD 0 0).toNat = bt s i := dr_get s i 0
  unfold stp
  rw [hg]
  have hix := fun w => index_at s i _ rfl h w
  have HE := Lib.hid (fun w hS hT => escape_at s i w hS hT h hs)
  have HW := Lib.hid (fun w hT => width_in s i w hT h)
  rw [wS_dr] at HW
  have hle := wL_le (dr s i)
  rw [dr_len] at hle
  have hcut := fun n => cut_dr s i n
  have hrun := fun (n : Nat) hn => run_cut s (i : Int) ((i : Int) + (n : Int)) i n rfl rfl hn
  have HS := Lib.hid hS
  have HT := Lib.hid hT
  clear hS hT hg
  generalize bt s i = c at *
  by_cases h1 : c = 92
  · subst h1
    rw [if_pos rfl]
    clear hcut hrun hle HW
    generalize escL (dr s i) = p at *
    unfold rT at *
    go_enter Tryd.func40, Tryd.ntmps40
    go_wp2_with (go_at_call 50; refine (HE.out _ HS.out HT.out).mono ?_; rintro e w1 ⟨rfl, hb1⟩)
    go_ret3
    exact ⟨rfl, hb1⟩
  · rw [if_neg h1]
    by_cases h2 : c < 32
    · rw [if_pos h2]
      unfold rT
      clear hcut hrun hle HW HE
      go_enter Tryd.func40, Tryd.ntmps40
      go_wp2_with fail
      go_ret3
      exact ⟨rfl, Below.refl _ _⟩
    · rw [if_neg h2]
      by_cases h3 : wL (dr s i) = 0
      · rw [if_pos h3]
        rw [h3] at HW
        unfold rT
        clear hcut hrun hle HE h3
        go_enter Tryd.func40, Tryd.ntmps40
        go_wp2_with (go_at_call 51; refine (HW.out _ HT.out).mono ?_; rintro e w1 ⟨rfl, hb1⟩)
        go_ret3
        exact ⟨rfl, hb1⟩
      · rw [if_neg h3]
        unfold rT
        have hr := hrun (wL (dr s i)) (by omega)
        rw [hcut] at hr
        simp only
        clear hcut hrun HE
        generalize (⟨((dr s i).take (wL (dr s i))).toArray⟩ : ByteArray) = q at *
        generalize wL (dr s i) = W at *
        have hw0 : ((W : Int) == 0) = false := by rw [beq_eq_false_iff_ne]; omega
        go_enter Tryd.func40, Tryd.ntmps40
        go_wp2_with (go_at_call 51; refine (HW.out _ HT.out).mono ?_; rintro e w1 ⟨rfl, hb1⟩)
        go_ret3
        exact ⟨rfl, hb1⟩
end Go.Proofs.YtggahjhjapnfeaaDoor.Quo
