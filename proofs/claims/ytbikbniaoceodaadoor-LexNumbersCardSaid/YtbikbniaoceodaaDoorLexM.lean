/- LexNumbers. Conditions: the tables of unicode/utf8 and the errors of strconv (what the row lists). -/
import Derived.Test.YtbikbniaoceodaaDoorLexI
import Derived.Test.YtbikbniaoceodaaDoorLexNum
namespace Go.Proofs.YtbikbniaoceodaaDoor.Lx
open Go.RowKit Go.Lib Go.Proofs.YtbikbniaoceodaaDoor.Byt Go.Proofs.YtbikbniaoceodaaDoor.Quo

theorem one_str (x : UInt8) (W : World) (g : Nat) (h0 : W.cell? ⟨g, 0, none⟩ = some (.int .u8 (x.toNat : Int))) :
    (convert 36 9 (.slice (some ⟨g, 0, none⟩) 1 1)).run Tryd.prog W = .ok (.string ⟨#[x]⟩) W :=
  run_convert_bytes_back W 36 9 5 ⟨g, 0, none⟩ 1 [x] Tryd.underlying36 Tryd.underlying5 Tryd.underlying9 (fun j hj => by
    have hj2 : j < 1 := hj
    obtain rfl : j = 0 := by omega
    rw [add_at]
    exact h0)
theorem cat_lists (a b : List UInt8) : (ByteArray.mk a.toArray) ++ (ByteArray.mk b.toArray) = ⟨(a ++ b).toArray⟩ := by
  apply ByteArray.ext
  apply Array.toList_inj.1
  simp [ByteArray.data_append]
theorem list_size (l : List UInt8) : (⟨l.toArray⟩ : ByteArray).size = l.length := by show (List.toArray _).size = _; simp
/-- What is read of a text whose first token is known. -/
theorem nxA_zero (l : List UInt8) : nxA ⟨l.toArray⟩ 0 = nx l := by
  have h : cl ⟨l.toArray⟩ 0 = 0 := by unfold cl; omega
  unfold nxA
  rw [h]
  have : sf ⟨l.toArray⟩ 0 = l := by unfold sf; simp
  rw [this]
  unfold atR Tk.sh
  simp
theorem nR_split (r : Nat × Tk) : nR r = .tuple #[.agg #[.int .i64 (r.2.k : Int), .int .i64 (r.2.o : Int), .int .i64 (r.2.z : Int), .string ⟨r.2.v.toArray⟩, .int .i64 r.2.n], .int .i64 (r.1 : Int)] := rfl

theorem cell_first (W : World) (v : Value) (T : TypeId) : (W.alloc (.cells #[v] T)).cell? ⟨W.heap.size, 0, none⟩ = some v := by
  have h := heap_alloc_new W (.cells #[v] T)
  simp only [World.cell?, h]
  rfl
theorem str_new (W : World) (k : Nat) (hk : k < 10) (C : Int) (hC : C = 48 + (k : Int)) :
    (convert 36 9 (.slice (some ⟨W.heap.size, 0, none⟩) 1 1)).run Tryd.prog (W.alloc (.cells #[.int .u8 C] 5)) = .ok (.string ⟨#[d8 k]⟩) (W.alloc (.cells #[.int .u8 C] 5)) := by
  refine one_str (d8 k) _ _ ?_
  rw [cell_first, d8_nat hk, hC]
  congr 2
theorem str_new2 (W : World) (o : Obj) (k : Nat) (hk : k < 10) (C : Int) (hC : C = 48 + (k : Int)) :
    (convert 36 9 (.slice (some ⟨W.heap.size + 1, 0, none⟩) 1 1)).run Tryd.prog ((W.alloc o).alloc (.cells #[.int .u8 C] 5)) = .ok (.string ⟨#[d8 k]⟩) ((W.alloc o).alloc (.cells #[.int .u8 C] 5)) := by
  have h := str_new (W.alloc o) k hk C hC
  rwa [show (W.alloc o).heap.size = W.heap.size + 1 by simp] at h

attribute [local irreducible] dcL nx d8 nL2








set_option maxRecDepth 100000 in
set_option maxHeartbeats 8000000 in
theorem numbers_pos (n q : Int) (w : World) (hE : Env w) (h0 : 0 ≤ n) (h1 : n ≤ 9223372036854775807) (hq : 0 ≤ q) (hq' : q ≤ 255) :
    Calls Tryd.prog 6 #[.int .i64 n, .int .u8 q] w fun e w' => e = .returned (.bool true) ∧ Below w.heap.size w w' := by
  have HE := Lib.hid hE
  clear hE
  obtain ⟨U, hU⟩ : ∃ U : Nat, n = (U : Int) := ⟨n.natAbs, by omega⟩
  have hna : n.natAbs = U := by omega
  have hw1 : IntKind.u64.wrap n = (U : Int) := by rw [IntKind.wrap_u64]; omega
  have d0 : decide (n < 0) = false := by simp; omega
  obtain ⟨hnum, hnz, hmore, hdl⟩ : nx (nL2 n) = (0, ⟨8, 0, (nL2 n).length, [], n⟩) ∧ (nL2 n).length ≤ 21 ∧ (n ≠ 0 → nx (nL2 n ++ [d8 (q.toNat % 10)]) = if -9223372036854775808 ≤ 10 * n + (if n < 0 then -((q.toNat % 10 : Nat) : Int) else ((q.toNat % 10 : Nat) : Int)) ∧ 10 * n + (if n < 0 then -((q.toNat % 10 : Nat) : Int) else ((q.toNat % 10 : Nat) : Int)) ≤ 9223372036854775807 then (0, ⟨8, 0, (nL2 n ++ [d8 (q.toNat % 10)]).length, [], 10 * n + (if n < 0 then -((q.toNat % 10 : Nat) : Int) else ((q.toNat % 10 : Nat) : Int))⟩) else (6, bad 0)) ∧ (dcL U).length ≤ 20 :=
    ⟨number_is n (by omega) (by omega), nL2_len _, fun h => number_more n (q.toNat % 10) (by omega) (by omega) (by omega) h, dcL_len U⟩
  have hnl : nL2 n = dcL U := by
    unfold nL2 sL
    rw [if_neg (by omega)]
    rw [hna]; rfl
  have hQ : q % 10 = ((q.toNat % 10 : Nat) : Int) := by omega
  have hk10 : q.toNat % 10 < 10 := by omega
  generalize q.toNat % 10 = Q at *
  have HNL := Lib.hid hnl
  have HNUM := Lib.hid hnum
  have HMORE := Lib.hid hmore
  have HQ := Lib.hid hQ
  have hUm : U ≤ 9223372036854775808 := by omega
  clear hnl hnum hmore hQ hU hna
  go_enter Tryd.func6, Tryd.ntmps6
  go_wp2_with fail
  go_loopw [6, 7] (fun u t wr => ∃ (m : Nat) (l : List UInt8) (T : ByteArray), u = .int .u64 (m : Int) ∧ t = .string T ∧ m ≤ 9223372036854775808 ∧ T.size ≤ 100 ∧ Below w.heap.size w wr ∧ Hid (T = ⟨l.toArray⟩) ∧ Hid (dcL U = dcL m ++ l))
    (fun u _ _ => (RowKit.intOf u).toNat)
  case atStart => exact ⟨U, [], ⟨#[]⟩, by go_num, rfl, hUm, by decide, Below.refl _ _, Lib.hid rfl, Lib.hid (by simp)⟩
  case round =>
    obtain ⟨m, l, T, rfl, rfl, hm, hTz, hb, hT, hD⟩ := hrel
    have hsz := hb.size
    have hcv := str_new wr (m % 10) (by omega) (48 + (m : Int) % 10) (by omega)
    have hcat : (⟨#[d8 (m % 10)]⟩ : ByteArray) ++ T = ⟨([d8 (m % 10)] ++ l).toArray⟩ := by rw [hT.out]; exact cat_lists [d8 (m % 10)] l
    have hcz : (⟨#[d8 (m % 10)]⟩ : ByteArray).size = 1 := rfl
    by_cases h10 : m < 10
    · have he : ((m : Int) / 10 == 0) = true := by rw [beq_iff_eq]; omega
      have hS : (⟨#[d8 (m % 10)]⟩ : ByteArray) ++ T = ⟨(dcL U).toArray⟩ := by
        rw [hcat, hD.out, dcL_low h10, Nat.mod_eq_of_lt h10]
      have hSz : ((⟨#[d8 (m % 10)]⟩ : ByteArray) ++ T).size ≤ 20 := by rw [hS, list_size]; exact hdl
      have HS := Lib.hid hS
      have hb1 := hb.alloc hsz (.cells #[.int .u8 (48 + (m : Int) % 10)] 5)
      clear hT hD hcat hS
      generalize hS0 : ((⟨#[d8 (m % 10)]⟩ : ByteArray) ++ T) = S0 at *
      obtain ⟨S, hSS⟩ : ∃ S : ByteArray, S = S0 := ⟨_, rfl⟩
      have hSl : S = ⟨(nL2 n).toArray⟩ := by
        rw [hSS, HS.out, HNL.out]
        
      have hSz2 : S.size ≤ 21 := by rw [hSl, list_size]; exact hnz
      have HN : Hid (∀ w, Env w → Calls Tryd.prog 10 #[.string S, .int .i64 0] w fun e w' => e = .returned (.tuple #[.agg #[.int .i64 8, .int .i64 0, .int .i64 (S.size : Int), .string ⟨#[]⟩, .int .i64 n], .int .i64 0]) ∧ Below w.heap.size w w') := Lib.hid fun w hE => by
        have := next_any S 0 (by omega) w hE (by omega) (by omega)
        rw [hSl, nxA_zero, HNUM.out] at this
        rw [hSl, list_size]
        exact this
      have hS2 : S ++ ⟨#[d8 Q]⟩ = ⟨(nL2 n ++ [d8 Q]).toArray⟩ := by rw [hSl]; exact cat_lists _ [d8 Q]
      have HM0 : ∀ w, Env w → Calls Tryd.prog 10 #[.string (S ++ ⟨#[d8 Q]⟩), .int .i64 0] w fun e w' => e = .returned (.tuple #[.agg #[.int .i64 ((nx (nL2 n ++ [d8 Q])).2.k : Int), .int .i64 ((nx (nL2 n ++ [d8 Q])).2.o : Int), .int .i64 ((nx (nL2 n ++ [d8 Q])).2.z : Int), .string ⟨(nx (nL2 n ++ [d8 Q])).2.v.toArray⟩, .int .i64 (nx (nL2 n ++ [d8 Q])).2.n], .int .i64 ((nx (nL2 n ++ [d8 Q])).1 : Int)]) ∧ Below w.heap.size w w' := fun w hE => by
        have := next_any (S ++ ⟨#[d8 Q]⟩) 0 (by rw [hS2, list_size, List.length_append]; simp; omega) w hE (by omega) (by omega)
        rw [hS2, nxA_zero] at this
        rw [hS2]
        exact this
      have hq1 : (⟨#[d8 Q]⟩ : ByteArray).size = 1 := rfl
      have hout : 1000000000000000000 ≤ n ∨ (n = 0 ∨ (100000000000000000 < n ∧ n < 1000000000000000000)) ∨ (0 < n ∧ n ≤ 100000000000000000) := by omega
      have hR2 := HMORE.out
      generalize hRR : nx (nL2 n ++ [d8 Q]) = R2 at *
      clear hSl hS2 HNUM HNL HS hRR HMORE
      subst hSS
      
      have HEb := Lib.hid (HE.out.next hb1)
      go_wp2_with fail
      refine (HN.out _ HEb.out).mono ?_; rintro e w1 ⟨rfl, hb2⟩
      have HE1 := Lib.hid (HEb.out.next hb2)
      have hb02 := next hb1 hb2
      have hc2 := str_new2 w1 (.cells #[.int .i64 8, .int .i64 0, .int .i64 (S.size : Int), .string ⟨#[]⟩, .int .i64 n] 28) Q hk10 (48 + q % 10) (by rw [HQ.out])
      have HEA : Hid (∀ o o' : Obj, Env ((w1.alloc o).alloc o')) := Lib.hid fun o o' => HE1.out.next (((Below.refl w1.heap.size w1).alloc (Nat.le_refl _) o).alloc (by simp) o')
      clear hb1 hb2
      go_wp2_with fail
      rcases hout with ho | ho | ho
      · rw [if_neg (by rw [if_neg (by omega)]; omega)] at hR2
        have hR3 := hR2 (by omega)
        rw [hR3] at HM0
        have HM : Hid (∀ w, Env w → Calls Tryd.prog 10 #[.string (S ++ ⟨#[d8 Q]⟩), .int .i64 0] w fun e w' => e = .returned (.tuple #[.agg #[.int .i64 0, .int .i64 0, .int .i64 0, .string ⟨#[]⟩, .int .i64 0], .int .i64 6]) ∧ Below w.heap.size w w') := Lib.hid HM0
        clear HM0 hR2 hR3 hm h10 hUm
        refine (HM.out _ (HEA.out _ _)).mono ?_
        rintro e w2 ⟨rfl, hb3⟩
        have hb4 : Below w1.heap.size w1 w2 := (((Below.refl w1.heap.size w1).alloc (Nat.le_refl _) _).alloc (by simp) _).trans (hb3.mono (by simp; omega))
        have HE2 := Lib.hid ((HE1.out.next hb4).next ((Below.refl w2.heap.size w2).alloc (Nat.le_refl _) (.cells #[] 28)))
        have HE3 := Lib.hid (fun cs => (HE1.out.next hb4).next ((Below.refl w2.heap.size w2).alloc (Nat.le_refl _) (.cells cs 28)))
        have hb5 := next hb02 hb4
        clear hb3 hb4 HE2
        go_wp2_with fail
        refine (awake_any _ (HE3.out _)).mono ?_; rintro e w3 ⟨rfl, hb6⟩
        go_wp2_with fail
        go_ret
        exact ⟨rfl, (hb5.alloc hb5.size _).trans (hb6.mono (by simp; have := hb5.size; omega))⟩
      · have HM := Lib.hid HM0
        clear HM0 hR2
        generalize R2.1 = R21 at *
        generalize R2.2 = R22 at *
        clear hm h10 hUm
        rcases ho with ho | ⟨ho, ho2⟩
        all_goals
          refine (HM.out _ (HEA.out _ _)).mono ?_
          rintro e w2 ⟨rfl, hb3⟩
          have hb4 : Below w1.heap.size w1 w2 := (((Below.refl w1.heap.size w1).alloc (Nat.le_refl _) _).alloc (by simp) _).trans (hb3.mono (by simp; omega))
          have HE2 := Lib.hid ((HE1.out.next hb4).next ((Below.refl w2.heap.size w2).alloc (Nat.le_refl _) (.cells #[] 28)))
          have HE3 := Lib.hid (fun cs => (HE1.out.next hb4).next ((Below.refl w2.heap.size w2).alloc (Nat.le_refl _) (.cells cs 28)))
          have hb5 := next hb02 hb4
          clear hb3 hb4 HE2
          go_wp2_with fail
          refine (awake_any _ (HE3.out _)).mono ?_; rintro e w3 ⟨rfl, hb6⟩
          go_wp2_with fail
          go_ret
          exact ⟨rfl, (hb5.alloc hb5.size _).trans (hb6.mono (by simp; have := hb5.size; omega))⟩
      · rw [if_pos (by rw [if_neg (by omega)]; omega)] at hR2
        have hR3 := hR2 (by omega)
        rw [hR3] at HM0
        have HM : Hid (∀ w, Env w → Calls Tryd.prog 10 #[.string (S ++ ⟨#[d8 Q]⟩), .int .i64 0] w fun e w' => e = .returned (.tuple #[.agg #[.int .i64 8, .int .i64 0, .int .i64 (((nL2 n ++ [d8 Q]).length : Nat) : Int), .string ⟨#[]⟩, .int .i64 (10 * n + q % 10)], .int .i64 0]) ∧ Below w.heap.size w w') := Lib.hid fun w hE => by
          have := HM0 w hE
          rw [if_neg (by omega)] at this
          rw [HQ.out]
          exact this
        clear HM0 hR2 hR3
        generalize (nL2 n ++ [d8 Q]).length = Z at *
        clear hm h10 hUm
        obtain ⟨ho1, ho2⟩ := ho
        refine (HM.out _ (HEA.out _ _)).mono ?_
        rintro e w2 ⟨rfl, hb3⟩
        have hb4 : Below w1.heap.size w1 w2 := (((Below.refl w1.heap.size w1).alloc (Nat.le_refl _) _).alloc (by simp) _).trans (hb3.mono (by simp; omega))
        have HE2 := Lib.hid ((HE1.out.next hb4).next ((Below.refl w2.heap.size w2).alloc (Nat.le_refl _) (.cells #[] 28)))
        have HE3 := Lib.hid (fun cs => (HE1.out.next hb4).next ((Below.refl w2.heap.size w2).alloc (Nat.le_refl _) (.cells cs 28)))
        have hb5 := next hb02 hb4
        clear hb3 hb4 HE2
        go_wp2_with fail
        refine (awake_any _ (HE3.out _)).mono ?_; rintro e w3 ⟨rfl, hb6⟩
        go_wp2_with fail
        go_ret
        exact ⟨rfl, (hb5.alloc hb5.size _).trans (hb6.mono (by simp; have := hb5.size; omega))⟩
    · have he : ((m : Int) / 10 == 0) = false := by rw [beq_eq_false_iff_ne]; omega
      have HCAT := Lib.hid hcat
      have hl2 : ([d8 (m % 10)] ++ l).length ≤ 20 := by
        have := congrArg List.length hD.out
        rw [dcL_high h10 (by omega), List.length_append, List.length_append, List.length_singleton] at this
        rw [List.length_append, List.length_singleton]
        omega
      have hz2 : ((⟨#[d8 (m % 10)]⟩ : ByteArray) ++ T).size ≤ 100 := by rw [hcat, list_size]; omega
      have hD2 : dcL U = dcL (m / 10) ++ ([d8 (m % 10)] ++ l) := by rw [hD.out, dcL_high h10 (by omega), List.append_assoc]
      clear hcat
      go_wp2_with fail
      go_roundw
      case rel => exact ⟨m / 10, [d8 (m % 10)] ++ l, _, by go_num, rfl, by omega, hz2, hb.alloc hsz _, HCAT, Lib.hid hD2⟩
      case measure => simp [RowKit.intOf]; omega

set_option maxRecDepth 100000 in
set_option maxHeartbeats 8000000 in
theorem numbers_neg (n q : Int) (w : World) (hE : Env w) (h0 : n < 0) (h1 : -9223372036854775808 ≤ n) (hq : 0 ≤ q) (hq' : q ≤ 255) :
    Calls Tryd.prog 6 #[.int .i64 n, .int .u8 q] w fun e w' => e = .returned (.bool true) ∧ Below w.heap.size w w' := by
  have HE := Lib.hid hE
  clear hE
  obtain ⟨U, hU⟩ : ∃ U : Nat, n = -(U : Int) := ⟨n.natAbs, by omega⟩
  have hna : n.natAbs = U := by omega
  obtain ⟨x, hx⟩ : ∃ x : Int, x = n + 18446744073709551616 := ⟨_, rfl⟩
  have hw1 : IntKind.u64.wrap n = x := by rw [IntKind.wrap_u64]; omega
  have hw2 : IntKind.u64.wrap (-x) = (U : Int) := by rw [IntKind.wrap_u64]; omega
  have d0 : decide (n < 0) = true := by simp; omega
  clear hx
  obtain ⟨hnum, hnz, hmore, hdl⟩ : nx (nL2 n) = (0, ⟨8, 0, (nL2 n).length, [], n⟩) ∧ (nL2 n).length ≤ 21 ∧ (n ≠ 0 → nx (nL2 n ++ [d8 (q.toNat % 10)]) = if -9223372036854775808 ≤ 10 * n + (if n < 0 then -((q.toNat % 10 : Nat) : Int) else ((q.toNat % 10 : Nat) : Int)) ∧ 10 * n + (if n < 0 then -((q.toNat % 10 : Nat) : Int) else ((q.toNat % 10 : Nat) : Int)) ≤ 9223372036854775807 then (0, ⟨8, 0, (nL2 n ++ [d8 (q.toNat % 10)]).length, [], 10 * n + (if n < 0 then -((q.toNat % 10 : Nat) : Int) else ((q.toNat % 10 : Nat) : Int))⟩) else (6, bad 0)) ∧ (dcL U).length ≤ 20 :=
    ⟨number_is n (by omega) (by omega), nL2_len _, fun h => number_more n (q.toNat % 10) (by omega) (by omega) (by omega) h, dcL_len U⟩
  have hnl : nL2 n = [45] ++ dcL U := by
    unfold nL2 sL
    rw [if_pos (by omega)]
    rw [hna]
  have hQ : q % 10 = ((q.toNat % 10 : Nat) : Int) := by omega
  have hk10 : q.toNat % 10 < 10 := by omega
  generalize q.toNat % 10 = Q at *
  have HNL := Lib.hid hnl
  have HNUM := Lib.hid hnum
  have HMORE := Lib.hid hmore
  have HQ := Lib.hid hQ
  have hUm : U ≤ 9223372036854775808 := by omega
  clear hnl hnum hmore hQ hU hna
  go_enter Tryd.func6, Tryd.ntmps6
  go_wp2_with fail
  go_loopw [6, 7] (fun u t wr => ∃ (m : Nat) (l : List UInt8) (T : ByteArray), u = .int .u64 (m : Int) ∧ t = .string T ∧ m ≤ 9223372036854775808 ∧ T.size ≤ 100 ∧ Below w.heap.size w wr ∧ Hid (T = ⟨l.toArray⟩) ∧ Hid (dcL U = dcL m ++ l))
    (fun u _ _ => (RowKit.intOf u).toNat)
  case atStart => exact ⟨U, [], ⟨#[]⟩, by go_num, rfl, hUm, by decide, Below.refl _ _, Lib.hid rfl, Lib.hid (by simp)⟩
  case round =>
    obtain ⟨m, l, T, rfl, rfl, hm, hTz, hb, hT, hD⟩ := hrel
    have hsz := hb.size
    have hcv := str_new wr (m % 10) (by omega) (48 + (m : Int) % 10) (by omega)
    have hcat : (⟨#[d8 (m % 10)]⟩ : ByteArray) ++ T = ⟨([d8 (m % 10)] ++ l).toArray⟩ := by rw [hT.out]; exact cat_lists [d8 (m % 10)] l
    have hcz : (⟨#[d8 (m % 10)]⟩ : ByteArray).size = 1 := rfl
    by_cases h10 : m < 10
    · have he : ((m : Int) / 10 == 0) = true := by rw [beq_iff_eq]; omega
      have hS : (⟨#[d8 (m % 10)]⟩ : ByteArray) ++ T = ⟨(dcL U).toArray⟩ := by
        rw [hcat, hD.out, dcL_low h10, Nat.mod_eq_of_lt h10]
      have hSz : ((⟨#[d8 (m % 10)]⟩ : ByteArray) ++ T).size ≤ 20 := by rw [hS, list_size]; exact hdl
      have HS := Lib.hid hS
      have hb1 := hb.alloc hsz (.cells #[.int .u8 (48 + (m : Int) % 10)] 5)
      clear hT hD hcat hS
      generalize hS0 : ((⟨#[d8 (m % 10)]⟩ : ByteArray) ++ T) = S0 at *
      obtain ⟨S, hSS⟩ : ∃ S : ByteArray, S = ⟨#[45]⟩ ++ S0 := ⟨_, rfl⟩
      have hSl : S = ⟨(nL2 n).toArray⟩ := by
        rw [hSS, HS.out, HNL.out]
        exact cat_lists [45] (dcL U)
      have hSz2 : S.size ≤ 21 := by rw [hSl, list_size]; exact hnz
      have HN : Hid (∀ w, Env w → Calls Tryd.prog 10 #[.string S, .int .i64 0] w fun e w' => e = .returned (.tuple #[.agg #[.int .i64 8, .int .i64 0, .int .i64 (S.size : Int), .string ⟨#[]⟩, .int .i64 n], .int .i64 0]) ∧ Below w.heap.size w w') := Lib.hid fun w hE => by
        have := next_any S 0 (by omega) w hE (by omega) (by omega)
        rw [hSl, nxA_zero, HNUM.out] at this
        rw [hSl, list_size]
        exact this
      have hS2 : S ++ ⟨#[d8 Q]⟩ = ⟨(nL2 n ++ [d8 Q]).toArray⟩ := by rw [hSl]; exact cat_lists _ [d8 Q]
      have HM0 : ∀ w, Env w → Calls Tryd.prog 10 #[.string (S ++ ⟨#[d8 Q]⟩), .int .i64 0] w fun e w' => e = .returned (.tuple #[.agg #[.int .i64 ((nx (nL2 n ++ [d8 Q])).2.k : Int), .int .i64 ((nx (nL2 n ++ [d8 Q])).2.o : Int), .int .i64 ((nx (nL2 n ++ [d8 Q])).2.z : Int), .string ⟨(nx (nL2 n ++ [d8 Q])).2.v.toArray⟩, .int .i64 (nx (nL2 n ++ [d8 Q])).2.n], .int .i64 ((nx (nL2 n ++ [d8 Q])).1 : Int)]) ∧ Below w.heap.size w w' := fun w hE => by
        have := next_any (S ++ ⟨#[d8 Q]⟩) 0 (by rw [hS2, list_size, List.length_append]; simp; omega) w hE (by omega) (by omega)
        rw [hS2, nxA_zero] at this
        rw [hS2]
        exact this
      have hq1 : (⟨#[d8 Q]⟩ : ByteArray).size = 1 := rfl
      have hout : n ≤ -1000000000000000000 ∨ (n < -100000000000000000 ∧ -1000000000000000000 < n) ∨ (n < 0 ∧ -100000000000000000 ≤ n) := by omega
      have hR2 := HMORE.out
      generalize hRR : nx (nL2 n ++ [d8 Q]) = R2 at *
      clear hSl hS2 HNUM HNL HS hRR HMORE
      
      replace hSS := hSS.symm
      have HEb := Lib.hid (HE.out.next hb1)
      go_wp2_with fail
      refine (HN.out _ HEb.out).mono ?_; rintro e w1 ⟨rfl, hb2⟩
      have HE1 := Lib.hid (HEb.out.next hb2)
      have hb02 := next hb1 hb2
      have hc2 := str_new2 w1 (.cells #[.int .i64 8, .int .i64 0, .int .i64 (S.size : Int), .string ⟨#[]⟩, .int .i64 n] 28) Q hk10 (48 + q % 10) (by rw [HQ.out])
      have HEA : Hid (∀ o o' : Obj, Env ((w1.alloc o).alloc o')) := Lib.hid fun o o' => HE1.out.next (((Below.refl w1.heap.size w1).alloc (Nat.le_refl _) o).alloc (by simp) o')
      clear hb1 hb2
      go_wp2_with fail
      rcases hout with ho | ho | ho
      · rw [if_neg (by rw [if_pos (by omega)]; omega)] at hR2
        have hR3 := hR2 (by omega)
        rw [hR3] at HM0
        have HM : Hid (∀ w, Env w → Calls Tryd.prog 10 #[.string (S ++ ⟨#[d8 Q]⟩), .int .i64 0] w fun e w' => e = .returned (.tuple #[.agg #[.int .i64 0, .int .i64 0, .int .i64 0, .string ⟨#[]⟩, .int .i64 0], .int .i64 6]) ∧ Below w.heap.size w w') := Lib.hid HM0
        clear HM0 hR2 hR3 hm h10 hUm
        refine (HM.out _ (HEA.out _ _)).mono ?_
        rintro e w2 ⟨rfl, hb3⟩
        have hb4 : Below w1.heap.size w1 w2 := (((Below.refl w1.heap.size w1).alloc (Nat.le_refl _) _).alloc (by simp) _).trans (hb3.mono (by simp; omega))
        have HE2 := Lib.hid ((HE1.out.next hb4).next ((Below.refl w2.heap.size w2).alloc (Nat.le_refl _) (.cells #[] 28)))
        have HE3 := Lib.hid (fun cs => (HE1.out.next hb4).next ((Below.refl w2.heap.size w2).alloc (Nat.le_refl _) (.cells cs 28)))
        have hb5 := next hb02 hb4
        clear hb3 hb4 HE2
        go_wp2_with fail
        refine (awake_any _ (HE3.out _)).mono ?_; rintro e w3 ⟨rfl, hb6⟩
        go_wp2_with fail
        go_ret
        exact ⟨rfl, (hb5.alloc hb5.size _).trans (hb6.mono (by simp; have := hb5.size; omega))⟩
      · have HM := Lib.hid HM0
        clear HM0 hR2
        generalize R2.1 = R21 at *
        generalize R2.2 = R22 at *
        clear hm h10 hUm
        obtain ⟨ho, ho2⟩ := ho
        refine (HM.out _ (HEA.out _ _)).mono ?_
        rintro e w2 ⟨rfl, hb3⟩
        have hb4 : Below w1.heap.size w1 w2 := (((Below.refl w1.heap.size w1).alloc (Nat.le_refl _) _).alloc (by simp) _).trans (hb3.mono (by simp; omega))
        have HE2 := Lib.hid ((HE1.out.next hb4).next ((Below.refl w2.heap.size w2).alloc (Nat.le_refl _) (.cells #[] 28)))
        have HE3 := Lib.hid (fun cs => (HE1.out.next hb4).next ((Below.refl w2.heap.size w2).alloc (Nat.le_refl _) (.cells cs 28)))
        have hb5 := next hb02 hb4
        clear hb3 hb4 HE2
        go_wp2_with fail
        refine (awake_any _ (HE3.out _)).mono ?_; rintro e w3 ⟨rfl, hb6⟩
        go_wp2_with fail
        go_ret
        exact ⟨rfl, (hb5.alloc hb5.size _).trans (hb6.mono (by simp; have := hb5.size; omega))⟩
      · rw [if_pos (by rw [if_pos (by omega)]; omega)] at hR2
        have hR3 := hR2 (by omega)
        rw [hR3] at HM0
        have HM : Hid (∀ w, Env w → Calls Tryd.prog 10 #[.string (S ++ ⟨#[d8 Q]⟩), .int .i64 0] w fun e w' => e = .returned (.tuple #[.agg #[.int .i64 8, .int .i64 0, .int .i64 (((nL2 n ++ [d8 Q]).length : Nat) : Int), .string ⟨#[]⟩, .int .i64 (10 * n + -(q % 10))], .int .i64 0]) ∧ Below w.heap.size w w') := Lib.hid fun w hE => by
          have := HM0 w hE
          rw [if_pos (by omega)] at this
          rw [HQ.out]
          exact this
        clear HM0 hR2 hR3
        generalize (nL2 n ++ [d8 Q]).length = Z at *
        clear hm h10 hUm
        obtain ⟨ho1, ho2⟩ := ho
        refine (HM.out _ (HEA.out _ _)).mono ?_
        rintro e w2 ⟨rfl, hb3⟩
        have hb4 : Below w1.heap.size w1 w2 := (((Below.refl w1.heap.size w1).alloc (Nat.le_refl _) _).alloc (by simp) _).trans (hb3.mono (by simp; omega))
        have HE2 := Lib.hid ((HE1.out.next hb4).next ((Below.refl w2.heap.size w2).alloc (Nat.le_refl _) (.cells #[] 28)))
        have HE3 := Lib.hid (fun cs => (HE1.out.next hb4).next ((Below.refl w2.heap.size w2).alloc (Nat.le_refl _) (.cells cs 28)))
        have hb5 := next hb02 hb4
        clear hb3 hb4 HE2
        go_wp2_with fail
        refine (awake_any _ (HE3.out _)).mono ?_; rintro e w3 ⟨rfl, hb6⟩
        go_wp2_with fail
        go_ret
        exact ⟨rfl, (hb5.alloc hb5.size _).trans (hb6.mono (by simp; have := hb5.size; omega))⟩
    · have he : ((m : Int) / 10 == 0) = false := by rw [beq_eq_false_iff_ne]; omega
      have HCAT := Lib.hid hcat
      have hl2 : ([d8 (m % 10)] ++ l).length ≤ 20 := by
        have := congrArg List.length hD.out
        rw [dcL_high h10 (by omega), List.length_append, List.length_append, List.length_singleton] at this
        rw [List.length_append, List.length_singleton]
        omega
      have hz2 : ((⟨#[d8 (m % 10)]⟩ : ByteArray) ++ T).size ≤ 100 := by rw [hcat, list_size]; omega
      have hD2 : dcL U = dcL (m / 10) ++ ([d8 (m % 10)] ++ l) := by rw [hD.out, dcL_high h10 (by omega), List.append_assoc]
      clear hcat
      go_wp2_with fail
      go_roundw
      case rel => exact ⟨m / 10, [d8 (m % 10)] ++ l, _, by go_num, rfl, by omega, hz2, hb.alloc hsz _, HCAT, Lib.hid hD2⟩
      case measure => simp [RowKit.intOf]; omega

theorem numbers_walk (n q : Int) (w : World) (hE : Env w) (h1 : -9223372036854775808 ≤ n) (h2 : n ≤ 9223372036854775807) (hq : 0 ≤ q) (hq' : q ≤ 255) :
    Calls Tryd.prog 6 #[.int .i64 n, .int .u8 q] w fun e w' => e = .returned (.bool true) ∧ Below w.heap.size w w' := by
  by_cases h : n < 0
  · exact numbers_neg n q w hE h h1 hq hq'
  · exact numbers_pos n q w hE (by omega) h2 hq hq'
end Go.Proofs.YtbikbniaoceodaaDoor.Lx
