/- What strconv.ParseInt says of a number's bytes; takeNumber. Conditions: strconv.ErrRange holds an error (what the row lists); as each theorem states. -/
import Derived.Test.YtbikbniaoceodaaDoorLexT
import Derived.Shelf.Strconv.ParseIntPublic10
namespace Go.Proofs.YtbikbniaoceodaaDoor.Lx
open Go.RowKit Go.Lib Go.Proofs.YtbikbniaoceodaaDoor.Byt

/-- strconv.ErrRange holds an error. -/
def Rng (w : World) : Prop := ∃ tp p, w.cell? ⟨2, 0, none⟩ = some (.iface tp p)
theorem Rng.next {w w' : World} (h : Rng w) (hb : Below w.heap.size w w') : Rng w' := by
  obtain ⟨tp, p, hc⟩ := h
  exact ⟨tp, p, (hb.cell (Lib.lt_of_cell hc)).trans hc⟩

/-! ### the number's bytes -/
def vlA (a : Nat) (l : List UInt8) : Nat := l.foldl (fun n c => 10 * n + (c.toNat - 48)) a
theorem vlA_zero (l : List UInt8) : vlA 0 l = vl l := by unfold vlA vl; rfl
theorem vlA_cons (a : Nat) (c : UInt8) (l : List UInt8) : vlA a (c :: l) = vlA (10 * a + (c.toNat - 48)) l := by unfold vlA; rw [List.foldl_cons]
theorem vlA_ge (l : List UInt8) : ∀ a : Nat, a ≤ vlA a l := by
  induction l with
  | nil => intro a; exact Nat.le_refl _
  | cons c l ih => intro a; rw [vlA_cons]; have := ih (10 * a + (c.toNat - 48)); omega
theorem parseM (l : List UInt8) : ∀ a : Nat, allD l → Lib.parseUintM 18446744073709551615 a l = if vlA a l ≤ 18446744073709551615 then .ok (vlA a l) else if l = [] then .ok a else .range := by
  induction l with
  | nil => intro a _; rw [Lib.parseUintM]; split <;> rfl
  | cons c l ih =>
    intro a h
    have hc := h c List.mem_cons_self
    have hl : allD l := fun d hd => h d (List.mem_cons_of_mem _ hd)
    unfold dg at hc
    rw [decide_eq_true_eq] at hc
    have hge := vlA_ge l (10 * a + (c.toNat - 48))
    rw [Lib.parseUintM, if_pos hc, vlA_cons]
    by_cases h1 : 1844674407370955162 ≤ a
    · rw [if_pos h1, if_neg (by omega), if_neg (List.cons_ne_nil c l)]
    · rw [if_neg h1]
      by_cases h2 : 18446744073709551615 < a * 10 + (c.toNat - 48)
      · rw [if_pos h2, if_neg (by omega), if_neg (List.cons_ne_nil c l)]
      · rw [if_neg h2, show a * 10 + (c.toNat - 48) = 10 * a + (c.toNat - 48) by omega, ih _ hl]
        by_cases h3 : vlA (10 * a + (c.toNat - 48)) l ≤ 18446744073709551615
        · rw [if_pos h3, if_pos h3]
        · rw [if_neg h3, if_neg h3, if_neg (List.cons_ne_nil c l)]
          by_cases h4 : l = []
          · subst h4
            have e : vlA (10 * a + (c.toNat - 48)) [] = 10 * a + (c.toNat - 48) := rfl
            rw [e] at h3
            exact absurd (by omega) h3
          · rw [if_neg h4]
theorem parseB (l : List UInt8) (hl : l ≠ []) (h : allD l) : Lib.parseUintB 64 l = if vl l ≤ 18446744073709551615 then .ok (vl l) else .range := by
  unfold Lib.parseUintB
  rw [if_neg hl, show 2 ^ 64 - 1 = 18446744073709551615 from rfl, parseM l 0 h, vlA_zero, if_neg hl]
theorem dgs_take : ∀ l : List UInt8, allD (l.take (dgs l))
  | [] => by simp [dgs, allD]
  | c :: l => by
    rw [dgs]
    by_cases h : dg c.toNat = true
    · rw [if_pos h, List.take_succ_cons]
      intro d hd
      rcases List.mem_cons.1 hd with rfl | hd
      · exact h
      · exact dgs_take l d hd
    · rw [if_neg h]; simp [allD]
theorem dgc_take (l : List UInt8) : allD (l.take (dgc l)) := by
  unfold dgc
  by_cases h : hd l = 48
  · rw [if_pos h]
    cases l with
    | nil => simp [allD]
    | cons c l =>
      intro d hd
      rw [List.take_succ_cons, List.take_zero, List.mem_singleton] at hd
      subst hd
      have : d.toNat = 48 := h
      rw [this]; rfl
  · rw [if_neg h]; exact dgs_take l
theorem parse_is (l : List UInt8) (h : 0 < dc l) : Lib.parseIntB 64 (l.take (sgn l + dc l)) = if vo l = true then .ok (vi l) else .range := by
  have hle := dc_le l
  have ha : allD ((l.drop (sgn l)).take (dc l)) := dgc_take _
  have hlen : ((l.drop (sgn l)).take (dc l)).length = dc l := by rw [List.length_take, List.length_drop]; omega
  have hne : (l.drop (sgn l)).take (dc l) ≠ [] := fun e => by rw [e] at hlen; simp at hlen; omega
  have hp := parseB _ hne ha
  have hv : vl ((l.drop (sgn l)).take (dc l)) = vz l := rfl
  rw [hv] at hp
  have e : l.take (sgn l + dc l) = l.take (sgn l) ++ (l.drop (sgn l)).take (dc l) := by rw [List.take_add]
  rw [e]
  have h63 : (2 : Nat) ^ (64 - 1) = 9223372036854775808 := rfl
  by_cases h45 : hd l = 45
  · have hs : sgn l = 1 := if_pos h45
    have hvi : vi l = -(vz l : Int) := if_pos hs
    have ht : l.take (sgn l) = [45] := by
      rw [hs]
      cases l with
      | nil => cases h45
      | cons c l =>
        have : c.toNat = 45 := h45
        have : c = 45 := UInt8.toNat_inj.1 this
        rw [this]; rfl
    rw [ht, List.singleton_append, Lib.parseIntB_minus, hp, h63]
    unfold vo
    rw [hvi]
    by_cases g : vz l ≤ 18446744073709551615
    · rw [if_pos g]
      by_cases g2 : vz l ≤ 9223372036854775808
      · rw [if_pos (by simp; omega)]; unfold Lib.signedC; simp only; rw [if_neg (by omega)]
      · rw [if_neg (by simp; omega)]; unfold Lib.signedC; simp only; rw [if_pos (by omega)]
    · rw [if_neg g, if_neg (by simp; omega)]; rfl
  · have hs : sgn l = 0 := if_neg h45
    have hvi : vi l = (vz l : Int) := if_neg (by rw [hs]; simp)
    rw [hs] at hne ha ⊢
    rw [hs] at hp
    rw [List.take_zero, List.nil_append]
    cases hD : (l.drop 0).take (dc l) with
    | nil => exact absurd hD hne
    | cons c r =>
      rw [hD] at ha hp
      have hc := ha c List.mem_cons_self
      unfold dg at hc
      rw [decide_eq_true_eq] at hc
      rw [Lib.parseIntB_plain 64 c r (by omega) (by omega), hp, h63]
      unfold vo
      rw [hvi]
      by_cases g : vz l ≤ 18446744073709551615
      · rw [if_pos g]
        by_cases g2 : vz l < 9223372036854775808
        · rw [if_pos (by simp; omega)]; unfold Lib.signlessC; simp only; rw [if_neg (by omega)]
        · rw [if_neg (by simp; omega)]; unfold Lib.signlessC; simp only; rw [if_pos (by omega)]
      · rw [if_neg g, if_neg (by simp; omega)]; rfl

/-! ### takeNumber -/
def mkI (c : Nat) : Int := if c = 46 then 0 else if c = 101 then 1 else if c = 69 then 2 else -1
theorem mark_dig : ∀ n : Fin 256, Lib.indexByte [46, 101, 69] (UInt8.ofNat n.val) = mkI n.val ∧ (mk n.val = true → 0 ≤ mkI n.val) ∧ (mk n.val = false → mkI n.val = -1) := by decide +kernel
theorem mark_find (c : Nat) (hc : c < 256) (w : World) :
    Calls Tryd.prog 14 #[.string ⟨#[46, 101, 69]⟩, .int .u8 (c : Int)] w fun e w' => e = .returned (.int .i64 (mkI c)) ∧ w = w' :=
  (Tryd.strings_IndexByte _ _ w).mono fun e w' ⟨h1, h2⟩ => ⟨by
    rw [h1, Int.toNat_natCast]
    exact congrArg (fun x => Ending.returned (.int .i64 x)) (mark_dig ⟨c, hc⟩).1, h2.symm⟩
theorem cut_take (s : ByteArray) (i n : Nat) : (cutB s i n).data.toList = (sf s i).take n := by unfold cutB sf; simp
theorem int_ok (s : ByteArray) (i : Nat) (h : 0 < dc (sf s i)) (hs : s.size ≤ 140737488355328) (hv : vo (sf s i) = true) (w : World) :
    Calls Tryd.prog 29 #[.string (cutB s i (sgn (sf s i) + dc (sf s i))), .int .i64 10, .int .i64 64] w fun e w' => e = .returned (.tuple #[.int .i64 (vi (sf s i)), .nilIface]) ∧ Below w.heap.size w w' := by
  have hp := parse_is (sf s i) h
  rw [if_pos hv, ← cut_take] at hp
  have hz := dc_le (sf s i)
  rw [sf_len] at hz
  refine (Tryd.strconv_ParseInt_10_at64_ok _ ?_ _ hp w).mono ?_
  · by_cases hi : i ≤ s.size
    · rw [cutB_size s i _ (by omega)]; omega
    · unfold dc at h; rw [sf_nil s i (by omega)] at h; exact absurd h (by decide)
  · rintro e w' ⟨rfl, rfl | ⟨t, rfl⟩⟩
    · exact ⟨rfl, Below.refl _ _⟩
    · exact ⟨rfl, Lib.bytesWorld_below _ _ _⟩
theorem int_over (s : ByteArray) (i : Nat) (h : 0 < dc (sf s i)) (hs : s.size ≤ 140737488355328) (hv : vo (sf s i) = false) (w : World) (hR : Rng w) :
    Calls Tryd.prog 29 #[.string (cutB s i (sgn (sf s i) + dc (sf s i))), .int .i64 10, .int .i64 64] w fun e w' => ∃ (n : Int) (N : Nat), e = .returned (.tuple #[.int .i64 n, .iface 78 (.pointer (some ⟨N, 0, none⟩))]) ∧ Below w.heap.size w w' := by
  have hp := parse_is (sf s i) h
  rw [if_neg (by rw [hv]; simp), ← cut_take] at hp
  have hz := dc_le (sf s i)
  rw [sf_len] at hz
  obtain ⟨tp, p, hc⟩ := hR
  refine (Tryd.strconv_ParseInt_10_at64_range _ ?_ hp (.iface tp p) w hc (.inr ⟨tp, p, rfl⟩)).mono ?_
  · by_cases hi : i ≤ s.size
    · rw [cutB_size s i _ (by omega)]; omega
    · unfold dc at h; rw [sf_nil s i (by omega)] at h; exact absurd h (by decide)
  · rintro e w' ⟨N, rfl, _, _, hb⟩
    exact ⟨_, N, rfl, hb⟩

set_option maxRecDepth 100000 in
set_option maxHeartbeats 2000000 in
theorem takeNumber_any (s : ByteArray) (i : Nat) (x : Int) (hx : x = (i : Int)) (hi : i < s.size) (hs : s.size ≤ 140737488355328) (hc : by8 s i = 45 ∨ dg (by8 s i) = true) (w : World) (hR : Rng w) :
    Calls Tryd.prog 17 #[.string s, .int .i64 x] w fun e w' => e = .returned (nR (atR i (num (sf s i)))) ∧ Below w.heap.size w w' := by
  subst hx
  have HRg := Lib.hid hR
  have hix := fun w => index_of s i (i : Int) rfl hi w
  have hle := dc_le (sf s i)
  rw [sf_len] at hle
  have hgl := sgn_le1 (sf s i)
  have hdc : dgc (sf s (i + sgn (sf s i))) = dc (sf s i) := by unfold dc; rw [sf_drop]
  have HS0 : ∀ w, Calls Tryd.prog 28 #[.string s, .int .i64 ((i + sgn (sf s i) : Nat) : Int)] w fun e w' => e = .returned (.int .i64 ((i + sgn (sf s i) + dc (sf s i) : Nat) : Int)) ∧ w = w' := fun w => by
    have := skipDigits_any s (i + sgn (sf s i)) _ rfl (by omega) hs w
    rwa [hdc] at this
  obtain ⟨E, hE⟩ : ∃ E, E = i + sgn (sf s i) + dc (sf s i) := ⟨_, rfl⟩
  rw [← hE] at HS0
  have hsg : sgn (sf s i) = if by8 s i = 45 then 1 else 0 := by unfold sgn; rw [sf_hd]
  have hmk : ((sf s i).getD (sgn (sf s i) + dc (sf s i)) 0).toNat = by8 s E := by rw [sf_get, hE, Nat.add_assoc]
  have hnum : num (sf s i) = if dc (sf s i) = 0 then (4, bad 0) else if mk (by8 s E) = true then (18, bad 0) else if vo (sf s i) = true then (0, ⟨8, 0, sgn (sf s i) + dc (sf s i), [], vi (sf s i)⟩) else (6, bad 0) := by unfold num; rw [hmk]
  have hok := int_ok s i
  have hov := int_over s i
  have hcut := fun w => run_cut s (i : Int) (E : Int) i (sgn (sf s i) + dc (sf s i)) rfl (by omega) (by omega) w
  have sgns : (by8 s i = 45 ∧ sgn (sf s i) = 1) ∨ (by8 s i ≠ 45 ∧ sgn (sf s i) = 0 ∧ dc (sf s i) ≠ 0) := by
    by_cases h : by8 s i = 45
    · exact .inl ⟨h, by rw [hsg, if_pos h]⟩
    · refine .inr ⟨h, by rw [hsg, if_neg h], ?_⟩
      rcases hc with h2 | h2
      · exact absurd h2 h
      · have hs0 : sgn (sf s i) = 0 := by rw [hsg, if_neg h]
        rw [← hdc, hs0, Nat.add_zero]
        unfold dgc
        rw [sf_hd]
        split
        · omega
        · rw [dgs_sf, if_pos h2]; omega
  generalize num (sf s i) = R at *
  generalize vi (sf s i) = V at *
  generalize vo (sf s i) = O at *
  generalize dc (sf s i) = D at *
  generalize sgn (sf s i) = g at *
  rcases sgns with ⟨h45, rfl⟩ | ⟨h45, rfl, hD0⟩
  · have HS : Hid (∀ w, Calls Tryd.prog 28 #[.string s, .int .i64 ((i : Int) + 1)] w fun e w' => e = .returned (.int .i64 (E : Int)) ∧ w = w') := Lib.hid fun w => by
      have := HS0 w; push_cast at this; exact this
    rw [h45] at hix
    clear HS0 hsg hdc hmk hc h45 hR
    by_cases hD0 : D = 0
    · have hEq : ((E : Int) == (i : Int) + 1) = true := by rw [beq_iff_eq]; omega
      rw [if_pos hD0] at hnum
      have HN := Lib.hid hnum
      clear hnum hok hov hcut HRg hE hle hD0 hgl
      go_enter Tryd.func17, Tryd.ntmps17
      go_wp2_with (go_at_call 28; refine (HS.out _).mono ?_; rintro e w1 ⟨rfl, rfl⟩)
      go_returns
      exact ⟨by rw [HN.out]; rfl, ((Below.refl _ _).alloc (Nat.le_refl _) _).alloc (by simp) _⟩
    · have hne : ((E : Int) == (i : Int) + 1) = false := by rw [beq_eq_false_iff_ne]; omega
      have HZ : Hid (((1 + D : Nat) : Int) = (E : Int) - (i : Int)) := Lib.hid (by omega)
      have hE1 : i + 1 < E := by omega
      have hE2 : E ≤ s.size := by omega
      have hD : 0 < D := by omega
      rw [if_neg (by omega)] at hnum
      clear hE hle hD0 hgl
      cases hm : mk (by8 s E) with
      | true =>
        rw [hm, if_pos rfl] at hnum
        have hEl : E < s.size := by
          rcases Nat.lt_or_ge E s.size with h | h
          · exact h
          · rw [by8_end s E h] at hm; cases hm
        have hiE := fun w => index_of s E (E : Int) rfl hEl w
        have hb := by8_lt s E
        have HM := Lib.hid (fun w => mark_find (by8 s E) hb w)
        have hj := (mark_dig ⟨by8 s E, hb⟩).2.1 hm
        simp only at hj
        have HN := Lib.hid hnum
        generalize mkI (by8 s E) = j at *
        generalize by8 s E = c at *
        clear hnum hm hok hov hcut hb hD HRg HZ
        go_enter Tryd.func17, Tryd.ntmps17
        go_wp2_with (first
          | (go_at_call 28; (with_reducible refine (HS.out _).mono ?_); rintro e w1 ⟨rfl, rfl⟩)
          | (go_at_call 14; (with_reducible refine (HM.out _).mono ?_); rintro e w1 ⟨rfl, rfl⟩))
        go_returns
        exact ⟨by rw [HN.out]; rfl, ((Below.refl _ _).alloc (Nat.le_refl _) _).alloc (by simp) _⟩
      | false =>
        rw [hm, if_neg (by simp)] at hnum
        have hends : (E < s.size ∧ (∀ w, (Instr.index 9 (.string s) (.int .i64 (E : Int))).run Tryd.prog w = .ok (.int .u8 (by8 s E : Int)) w) ∧ Hid (∀ w, Calls Tryd.prog 14 #[.string ⟨#[46, 101, 69]⟩, .int .u8 (by8 s E : Int)] w fun e w' => e = .returned (.int .i64 (-1)) ∧ w = w')) ∨ s.size ≤ E := by
          rcases Nat.lt_or_ge E s.size with h | h
          · refine .inl ⟨h, fun w => index_of s E (E : Int) rfl h w, Lib.hid fun w => ?_⟩
            have hb := by8_lt s E
            have := mark_find (by8 s E) hb w
            rwa [(mark_dig ⟨by8 s E, hb⟩).2.2 hm] at this
          · exact .inr (by omega)
        clear hm
        cases O with
        | true =>
          rw [if_pos rfl] at hnum
          have HP := Lib.hid (fun w => hok hD hs rfl w)
          have HN := Lib.hid hnum
          clear hnum hok hov hD HRg
          rcases hends with ⟨hEl, hiE, HM⟩ | hEl
          all_goals
            go_enter Tryd.func17, Tryd.ntmps17
            go_wp2_with (first
              | (go_at_call 28; (with_reducible refine (HS.out _).mono ?_); rintro e w1 ⟨rfl, rfl⟩)
              | (go_at_call 14; (with_reducible refine (HM.out _).mono ?_); rintro e w1 ⟨rfl, rfl⟩))
            refine (HP.out _).mono ?_
            rintro e w1 ⟨rfl, hb1⟩
            have hb0 : Below w.heap.size w w1 := (((Below.refl _ _).alloc (Nat.le_refl _) _).alloc (by simp) _).trans (hb1.mono (by simp; omega))
            have hk4 : Box w1 w.heap.size _ := (box_old (box_new w _) _).next hb1 (by simp; omega)
            clear hb1
            go_wp2_with (refine wpList_keep _ rfl _ _ rfl w.heap.size w hb0 w.heap.size (Nat.le_refl _) _ _ _ _ _ _ rfl rfl hk4 rfl ?_; intro w2 hk5 hb5 _)
            try simp only [Exit.inBlock, Exit.then]
            refine bodyPost_ret (results_tok rfl _ _ _ _ rfl hk5 rfl) rfl ?_
            exact ⟨by rw [HN.out]; unfold nR tkV atR Tk.sh; simp only; rw [HZ.out]; rfl, hb5⟩
        | false =>
          rw [if_neg (by simp)] at hnum
          have HP := Lib.hid (fun w hR => hov hD hs rfl w hR)
          have HN := Lib.hid hnum
          clear hnum hok hov hD HZ
          rcases hends with ⟨hEl, hiE, HM⟩ | hEl
          all_goals
            go_enter Tryd.func17, Tryd.ntmps17
            go_wp2_with (first
              | (go_at_call 28; (with_reducible refine (HS.out _).mono ?_); rintro e w1 ⟨rfl, rfl⟩)
              | (go_at_call 14; (with_reducible refine (HM.out _).mono ?_); rintro e w1 ⟨rfl, rfl⟩))
            refine (HP.out _ (HRg.out.next (((Below.refl _ _).alloc (Nat.le_refl _) _).alloc (by simp) _))).mono ?_
            rintro e w1 ⟨n, N, rfl, hb1⟩
            have hb0 : Below w.heap.size w w1 := (((Below.refl _ _).alloc (Nat.le_refl _) _).alloc (by simp) _).trans (hb1.mono (by simp; omega))
            have hk4 : Box w1 w.heap.size _ := (box_old (box_new w _) _).next hb1 (by simp; omega)
            have hk6 : Box w1 (w.heap.size + 1) #[.int .i64 0, .int .i64 (i : Int), .int .i64 0, .string ⟨#[]⟩, .int .i64 0] := by
              refine Box.next ?_ hb1 (by simp)
              have := box_new (w.alloc (.cells #[.int .i64 0, .int .i64 0, .int .i64 0, .string ⟨#[]⟩, .int .i64 0] 28)) #[.int .i64 0, .int .i64 (i : Int), .int .i64 0, .string ⟨#[]⟩, .int .i64 0]
              simpa using this
            clear hb1
            go_wp2_with (first
              | (refine wpList_fetch _ rfl _ rfl (w.heap.size + 1) _ rfl hk6 rfl ?_)
              | (refine wpList_keep _ rfl _ _ rfl w.heap.size w hb0 w.heap.size (Nat.le_refl _) _ _ _ _ _ _ rfl rfl hk4 rfl ?_; intro w2 hk5 hb5 _))
            try simp only [Exit.inBlock, Exit.then]
            refine bodyPost_ret (results_tok rfl _ _ _ _ rfl hk5 rfl) rfl ?_
            exact ⟨by rw [HN.out]; rfl, hb5⟩
  · have HS : Hid (∀ w, Calls Tryd.prog 28 #[.string s, .int .i64 (i : Int)] w fun e w' => e = .returned (.int .i64 (E : Int)) ∧ w = w') := Lib.hid fun w => by
      have := HS0 w; rw [Nat.add_zero] at this; exact this
    have h45b : ((by8 s i : Int) == 45) = false := by rw [beq_eq_false_iff_ne]; omega
    clear HS0 hsg hdc hmk hc h45 hR
    generalize by8 s i = ci at *
    simp only [Nat.zero_add] at hcut hok hov hnum
    · have hne : ((E : Int) == (i : Int)) = false := by rw [beq_eq_false_iff_ne]; omega
      have HZ : Hid (((D : Nat) : Int) = (E : Int) - (i : Int)) := Lib.hid (by omega)
      have hE1 : i < E := by omega
      have hE2 : E ≤ s.size := by omega
      have hD : 0 < D := by omega
      rw [if_neg (by omega)] at hnum
      clear hE hle hD0 hgl
      cases hm : mk (by8 s E) with
      | true =>
        rw [hm, if_pos rfl] at hnum
        have hEl : E < s.size := by
          rcases Nat.lt_or_ge E s.size with h | h
          · exact h
          · rw [by8_end s E h] at hm; cases hm
        have hiE := fun w => index_of s E (E : Int) rfl hEl w
        have hb := by8_lt s E
        have HM := Lib.hid (fun w => mark_find (by8 s E) hb w)
        have hj := (mark_dig ⟨by8 s E, hb⟩).2.1 hm
        simp only at hj
        have HN := Lib.hid hnum
        generalize mkI (by8 s E) = j at *
        generalize by8 s E = c at *
        clear hnum hm hok hov hcut hb hD HRg HZ
        go_enter Tryd.func17, Tryd.ntmps17
        go_wp2_with (first
          | (go_at_call 28; (with_reducible refine (HS.out _).mono ?_); rintro e w1 ⟨rfl, rfl⟩)
          | (go_at_call 14; (with_reducible refine (HM.out _).mono ?_); rintro e w1 ⟨rfl, rfl⟩))
        go_returns
        exact ⟨by rw [HN.out]; rfl, ((Below.refl _ _).alloc (Nat.le_refl _) _).alloc (by simp) _⟩
      | false =>
        rw [hm, if_neg (by simp)] at hnum
        have hends : (E < s.size ∧ (∀ w, (Instr.index 9 (.string s) (.int .i64 (E : Int))).run Tryd.prog w = .ok (.int .u8 (by8 s E : Int)) w) ∧ Hid (∀ w, Calls Tryd.prog 14 #[.string ⟨#[46, 101, 69]⟩, .int .u8 (by8 s E : Int)] w fun e w' => e = .returned (.int .i64 (-1)) ∧ w = w')) ∨ s.size ≤ E := by
          rcases Nat.lt_or_ge E s.size with h | h
          · refine .inl ⟨h, fun w => index_of s E (E : Int) rfl h w, Lib.hid fun w => ?_⟩
            have hb := by8_lt s E
            have := mark_find (by8 s E) hb w
            rwa [(mark_dig ⟨by8 s E, hb⟩).2.2 hm] at this
          · exact .inr (by omega)
        clear hm
        cases O with
        | true =>
          rw [if_pos rfl] at hnum
          have HP := Lib.hid (fun w => hok hD hs rfl w)
          have HN := Lib.hid hnum
          clear hnum hok hov hD HRg
          rcases hends with ⟨hEl, hiE, HM⟩ | hEl
          all_goals
            go_enter Tryd.func17, Tryd.ntmps17
            go_wp2_with (first
              | (go_at_call 28; (with_reducible refine (HS.out _).mono ?_); rintro e w1 ⟨rfl, rfl⟩)
              | (go_at_call 14; (with_reducible refine (HM.out _).mono ?_); rintro e w1 ⟨rfl, rfl⟩))
            refine (HP.out _).mono ?_
            rintro e w1 ⟨rfl, hb1⟩
            have hb0 : Below w.heap.size w w1 := (((Below.refl _ _).alloc (Nat.le_refl _) _).alloc (by simp) _).trans (hb1.mono (by simp; omega))
            have hk4 : Box w1 w.heap.size _ := (box_old (box_new w _) _).next hb1 (by simp; omega)
            clear hb1
            go_wp2_with (refine wpList_keep _ rfl _ _ rfl w.heap.size w hb0 w.heap.size (Nat.le_refl _) _ _ _ _ _ _ rfl rfl hk4 rfl ?_; intro w2 hk5 hb5 _)
            try simp only [Exit.inBlock, Exit.then]
            refine bodyPost_ret (results_tok rfl _ _ _ _ rfl hk5 rfl) rfl ?_
            exact ⟨by rw [HN.out]; unfold nR tkV atR Tk.sh; simp only; rw [HZ.out]; rfl, hb5⟩
        | false =>
          rw [if_neg (by simp)] at hnum
          have HP := Lib.hid (fun w hR => hov hD hs rfl w hR)
          have HN := Lib.hid hnum
          clear hnum hok hov hD HZ
          rcases hends with ⟨hEl, hiE, HM⟩ | hEl
          all_goals
            go_enter Tryd.func17, Tryd.ntmps17
            go_wp2_with (first
              | (go_at_call 28; (with_reducible refine (HS.out _).mono ?_); rintro e w1 ⟨rfl, rfl⟩)
              | (go_at_call 14; (with_reducible refine (HM.out _).mono ?_); rintro e w1 ⟨rfl, rfl⟩))
            refine (HP.out _ (HRg.out.next (((Below.refl _ _).alloc (Nat.le_refl _) _).alloc (by simp) _))).mono ?_
            rintro e w1 ⟨n, N, rfl, hb1⟩
            have hb0 : Below w.heap.size w w1 := (((Below.refl _ _).alloc (Nat.le_refl _) _).alloc (by simp) _).trans (hb1.mono (by simp; omega))
            have hk4 : Box w1 w.heap.size _ := (box_old (box_new w _) _).next hb1 (by simp; omega)
            have hk6 : Box w1 (w.heap.size + 1) #[.int .i64 0, .int .i64 (i : Int), .int .i64 0, .string ⟨#[]⟩, .int .i64 0] := by
              refine Box.next ?_ hb1 (by simp)
              have := box_new (w.alloc (.cells #[.int .i64 0, .int .i64 0, .int .i64 0, .string ⟨#[]⟩, .int .i64 0] 28)) #[.int .i64 0, .int .i64 (i : Int), .int .i64 0, .string ⟨#[]⟩, .int .i64 0]
              simpa using this
            clear hb1
            go_wp2_with (first
              | (refine wpList_fetch _ rfl _ rfl (w.heap.size + 1) _ rfl hk6 rfl ?_)
              | (refine wpList_keep _ rfl _ _ rfl w.heap.size w hb0 w.heap.size (Nat.le_refl _) _ _ _ _ _ _ rfl rfl hk4 rfl ?_; intro w2 hk5 hb5 _))
            try simp only [Exit.inBlock, Exit.then]
            refine bodyPost_ret (results_tok rfl _ _ _ _ rfl hk5 rfl) rfl ?_
            exact ⟨by rw [HN.out]; rfl, hb5⟩
end Go.Proofs.YtbikbniaoceodaaDoor.Lx
