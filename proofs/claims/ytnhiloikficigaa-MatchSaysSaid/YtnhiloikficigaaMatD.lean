/- Contracts of the document's pick, long and Both. Conditions: as each theorem states. -/
import Derived.Test.YtnhiloikficigaaMatC
import Derived.StillTailTactics
namespace Go.Proofs.Ytnhiloikficigaa.Mat
open Go.RowKit Go.Lib Go.Proofs.Ytnhiloikficigaa.Byt Go.Proofs.Ytnhiloikficigaa.Rou

/-! ### pick -/
theorem wrB_in {L : Bs} {k : Nat} (hL : Ne L) (h : k < L.length) : wrB (L.getD k ⟨#[]⟩) = (!decide (L.getD k ⟨#[]⟩ = ⟨#[42]⟩) && !decide (L.getD k ⟨#[]⟩ = ⟨#[42, 42]⟩)) := by
  unfold wrB
  rw [decide_not, decide_not, decide_not, decide_eq_false (hL k h)]; rfl
theorem wrB_out {L : Bs} {k : Nat} (h : ¬ k < L.length) : wrB (L.getD k ⟨#[]⟩) = false := by
  rw [get_no (Nat.le_of_not_lt h)]; decide
set_option maxHeartbeats 4000000 in
set_option maxRecDepth 100000 in
theorem pick_any (L M : Bs) (u v : Value) (k : Nat) (w : World) (hu : Strs.Row w u L) (hv : Strs.Row w v M) (hL : Ne L) (hM : Ne M) :
    Calls Try.prog 23 #[u, v, .int .i64 (k : Int)] w fun e w' => e = .returned (.string (bf L M k)) ∧ ∃ n, w' = w.drewN n := by
  obtain ⟨a1, c1, rfl, hc1⟩ := hu.open_
  obtain ⟨a2, c2, rfl, hc2⟩ := hv.open_
  have s1 := s1_eq (L.getD k ⟨#[]⟩)
  have s2 := s2_eq (L.getD k ⟨#[]⟩)
  have s3 := s1_eq (M.getD k ⟨#[]⟩)
  have s4 := s2_eq (M.getD k ⟨#[]⟩)
  unfold bf chB
  by_cases hl : k < L.length
  · have g1 : decide ((k : Int) < (L.length : Int)) = true := decide_eq_true (by omega)
    have g1n : decide (k < L.length) = true := decide_eq_true hl
    obtain ⟨b, off, rfl, k1⟩ := hc1 k hl
    have c1 : ∀ n, (w.drewN n).cell? ⟨b, off + k, none⟩ = some (.string (L.getD k ⟨#[]⟩)) := fun n => k1
    rw [wrB_in hL hl]
    by_cases hm : k < M.length
    · have g2 : decide ((k : Int) < (M.length : Int)) = true := decide_eq_true (by omega)
      have g2n : decide (k < M.length) = true := decide_eq_true hm
      obtain ⟨b', off', rfl, k2⟩ := hc2 k hm
      have c2 : ∀ n, (w.drewN n).cell? ⟨b', off' + k, none⟩ = some (.string (M.getD k ⟨#[]⟩)) := fun n => k2
      rw [wrB_in hM hm]
      clear hc1 hc2 hu hv hL hM
      generalize decide (L.getD k ⟨#[]⟩ = ⟨#[42]⟩) = d1 at *
      generalize decide (L.getD k ⟨#[]⟩ = ⟨#[42, 42]⟩) = d2 at *
      generalize decide (M.getD k ⟨#[]⟩ = ⟨#[42]⟩) = d3 at *
      generalize decide (M.getD k ⟨#[]⟩ = ⟨#[42, 42]⟩) = d4 at *
      generalize L.getD k ⟨#[]⟩ = x at *
      generalize M.getD k ⟨#[]⟩ = y at *
      have n1 : (x.toList != [42]) = !d1 := by rw [bne, s1]
      have n2 : (x.toList != [42, 42]) = !d2 := by rw [bne, s2]
      have n3 : (y.toList != [42]) = !d3 := by rw [bne, s3]
      have n4 : (y.toList != [42, 42]) = !d4 := by rw [bne, s4]
      generalize L.length = m1 at *
      generalize M.length = m2 at *
      cases d1 <;> cases d2 <;> cases d3 <;> cases d4
      all_goals
        go_enter Try.func23, Try.ntmps23
        go_wp2_with fail
        go_ret
        first | exact ⟨rfl, 0, rfl⟩ | exact ⟨rfl, 1, rfl⟩ | exact ⟨rfl, 2, rfl⟩
    · have g2 : decide ((k : Int) < (M.length : Int)) = false := decide_eq_false (by omega)
      have g2n : decide (k < M.length) = false := decide_eq_false hm
      rw [wrB_out hm]
      clear hc1 hc2 hu hv hL hM s3 s4
      generalize decide (L.getD k ⟨#[]⟩ = ⟨#[42]⟩) = d1 at *
      generalize decide (L.getD k ⟨#[]⟩ = ⟨#[42, 42]⟩) = d2 at *
      generalize L.getD k ⟨#[]⟩ = x at *
      have n1 : (x.toList != [42]) = !d1 := by rw [bne, s1]
      have n2 : (x.toList != [42, 42]) = !d2 := by rw [bne, s2]
      generalize L.length = m1 at *
      generalize M.length = m2 at *
      cases d1 <;> cases d2
      all_goals
        go_enter Try.func23, Try.ntmps23
        go_wp2_with fail
        go_ret
        first | exact ⟨rfl, 0, rfl⟩ | exact ⟨rfl, 1, rfl⟩ | exact ⟨rfl, 2, rfl⟩
  · have g1 : decide ((k : Int) < (L.length : Int)) = false := decide_eq_false (by omega)
    have g1n : decide (k < L.length) = false := decide_eq_false hl
    rw [wrB_out hl]
    by_cases hm : k < M.length
    · have g2 : decide ((k : Int) < (M.length : Int)) = true := decide_eq_true (by omega)
      have g2n : decide (k < M.length) = true := decide_eq_true hm
      obtain ⟨b', off', rfl, k2⟩ := hc2 k hm
      have c2 : ∀ n, (w.drewN n).cell? ⟨b', off' + k, none⟩ = some (.string (M.getD k ⟨#[]⟩)) := fun n => k2
      rw [wrB_in hM hm]
      clear hc1 hc2 hu hv hL hM s1 s2
      generalize decide (M.getD k ⟨#[]⟩ = ⟨#[42]⟩) = d3 at *
      generalize decide (M.getD k ⟨#[]⟩ = ⟨#[42, 42]⟩) = d4 at *
      generalize M.getD k ⟨#[]⟩ = y at *
      have n3 : (y.toList != [42]) = !d3 := by rw [bne, s3]
      have n4 : (y.toList != [42, 42]) = !d4 := by rw [bne, s4]
      generalize L.length = m1 at *
      generalize M.length = m2 at *
      cases d3 <;> cases d4
      all_goals
        go_enter Try.func23, Try.ntmps23
        go_wp2_with fail
        go_ret
        first | exact ⟨rfl, 0, rfl⟩ | exact ⟨rfl, 1, rfl⟩ | exact ⟨rfl, 2, rfl⟩
    · have g2 : decide ((k : Int) < (M.length : Int)) = false := decide_eq_false (by omega)
      have g2n : decide (k < M.length) = false := decide_eq_false hm
      rw [wrB_out hm]
      clear hc1 hc2 hu hv hL hM s1 s2 s3 s4
      generalize L.length = m1 at *
      generalize M.length = m2 at *
      go_enter Try.func23, Try.ntmps23
      go_wp2_with fail
      go_ret
      first | exact ⟨rfl, 0, rfl⟩ | exact ⟨rfl, 1, rfl⟩ | exact ⟨rfl, 2, rfl⟩

/-! ### long -/
set_option maxRecDepth 100000 in
theorem long_any (L : Bs) (v : Value) (w : World) (hr : Strs.Row w v L) (hl : L.length ≤ 140737488355328) :
    Calls Try.prog 22 #[v] w fun e w' => e = .returned (.int .i64 (sgl L : Int)) ∧ ∃ n, w' = w.drewN n := by
  obtain ⟨a, cap, rfl, hc⟩ := hr.open_
  cases hn : L.length with
  | zero =>
    obtain rfl : L = [] := List.eq_nil_of_length_eq_zero hn
    have hq : sgl [] = 0 := rfl
    rw [hq]
    clear hr hq hn hl hc
    go_enter Try.func22, Try.ntmps22
    go_wp2_with fail
    go_ret
    first | exact ⟨rfl, 0, rfl⟩ | exact ⟨rfl, 1, rfl⟩ | exact ⟨rfl, 2, rfl⟩
  | succ m =>
    obtain ⟨b, off, rfl, k1⟩ := hc m (by omega)
    have c1 : ∀ n, (w.drewN n).cell? ⟨b, off + m, none⟩ = some (.string (L.getD m ⟨#[]⟩)) := fun n => k1
    have hs := s2_eq (L.getD m ⟨#[]⟩)
    rw [last_ss hn]
    rw [hn] at hl
    obtain ⟨n, hN⟩ : ∃ n, m + 1 = n := ⟨_, rfl⟩
    have h1 : (n : Int) - 1 = (m : Int) := by omega
    have g0 : decide ((0 : Int) < (n : Int)) = true := decide_eq_true (by omega)
    have g0n : decide (0 < n) = true := decide_eq_true (by omega)
    have hmn : m < n := by omega
    rw [hN] at hl ⊢
    by_cases hx : L.getD m ⟨#[]⟩ = ⟨#[42, 42]⟩
    · rw [if_pos hx]
      rw [decide_eq_true hx] at hs
      clear hx hr hn hN hc
      generalize L.getD m ⟨#[]⟩ = x at *
      go_enter Try.func22, Try.ntmps22
      go_wp2_with fail
      go_ret
      first | exact ⟨rfl, 0, rfl⟩ | exact ⟨rfl, 1, rfl⟩ | exact ⟨rfl, 2, rfl⟩
    · rw [if_neg hx]
      rw [decide_eq_false hx] at hs
      clear hx hr hn hN hc
      generalize L.getD m ⟨#[]⟩ = x at *
      go_enter Try.func22, Try.ntmps22
      go_wp2_with fail
      go_ret
      first | exact ⟨rfl, 0, rfl⟩ | exact ⟨rfl, 1, rfl⟩ | exact ⟨rfl, 2, rfl⟩

/-! ### Both -/
def bk (L M : Bs) (k : Nat) : Bs := (List.range k).map (bf L M)
theorem bk_len (L M : Bs) (k : Nat) : (bk L M k).length = k := by unfold bk; rw [List.length_map, List.length_range]
theorem bk_snoc (L M : Bs) (k : Nat) : bk L M k ++ [bf L M k] = bk L M (k + 1) := by
  unfold bk; rw [List.range_succ, List.map_append]; rfl
theorem bk_end (L M : Bs) : bk L M (max (sgl L) (sgl M)) = btB L M := rfl
theorem row_drewN {w : World} {v : Value} {l : Bs} (h : Strs.Row w v l) (n : Nat) : Strs.Row (w.drewN n) v l := h
theorem str_one (x : ByteArray) : (#[Value.string x] : Array Value).toList = [x].map Value.string := rfl
set_option maxHeartbeats 8000000 in
set_option maxRecDepth 100000 in
theorem rboth_any (p q : ByteArray) (w : World) (hp : p.size ≤ 140737488355328) (hq : q.size ≤ 140737488355328) :
    Calls Try.prog 8 #[.string p, .string q] w fun e w' => e = .returned (.tuple #[.string (botB p q), .bool (bokB p q)]) ∧ Below w.heap.size w w' := by
  have HP := Lib.hid fun W => rparts_any p W hp
  have HQ := Lib.hid fun W => rparts_any q W hq
  have HM := Lib.hid fun W => rmts_any p q W hp hq
  rw [mtsB_pt] at HM
  have h1 := ptB_len p
  have h2 := ptB_len q
  have hn := ptB_ne q
  have hn1 := ptB_ne p
  have HK := Lib.hid fun (W : World) (k : Nat) (u v : Value) (hu : Strs.Row W u (ptB p)) (hv : Strs.Row W v (ptB q)) => pick_any (ptB p) (ptB q) u v k W hu hv hn1 hn
  have HL1 := Lib.hid fun (W : World) (u : Value) (hu : Strs.Row W u (ptB p)) => long_any (ptB p) u W hu (by omega)
  have HL2 := Lib.hid fun (W : World) (u : Value) (hu : Strs.Row W u (ptB q)) => long_any (ptB q) u W hu (by omega)
  have HZ := rt2_size (p := p) (q := q)
  have HI := Lib.hid fun (h : (rt2 p q).size ≤ 8000000) => fun W => ris_any (rt2 p q) W (by omega)
  have hbl : (btB (ptB p) (ptB q)).length ≤ 32 := by
    rw [btB_len]
    have := sgl_le (ptB p)
    have := sgl_le (ptB q)
    omega
  have HJ := Lib.hid fun (h : (rt2 p q).size ≤ 8000000) (W : World) (v : Value) (hr : Strs.Row W v (btB (ptB p) (ptB q))) => rjoin_any (btB (ptB p) (ptB q)) v W hr (by omega) h
  change Hid ((rt2 p q).size ≤ 8000000 → ∀ (W : World) (v : Value), Strs.Row W v (btB (ptB p) (ptB q)) → Calls Try.prog 24 #[v] W fun e w' => e = .returned (.string (rt2 p q)) ∧ W = w') at HJ
  have HE := Lib.hid (bk_end (ptB p) (ptB q))
  have HS := Lib.hid (bk_snoc (ptB p) (ptB q))
  have HL := Lib.hid (bk_len (ptB p) (ptB q))
  rw [bokB_pt, botB_pt]
  have s1 := sgl_le (ptB p)
  have s2 := sgl_le (ptB q)
  have hx := fun W => max_run (sgl (ptB p)) (sgl (ptB q)) W
  obtain ⟨N, hN⟩ : ∃ N, max (sgl (ptB p)) (sgl (ptB q)) = N := ⟨_, rfl⟩
  rw [hN] at hx HE
  have hN2 : N ≤ 32 := by omega
  generalize isB (rt2 p q) = b4 at *
  generalize rt2 p q = R at *
  generalize btB (ptB p) (ptB q) = T at *
  generalize meB (ptB p) (ptB q) = b3 at *
  generalize sgl (ptB p) = m1 at *
  generalize sgl (ptB q) = m2 at *
  generalize ptB p = L at *
  generalize ptB q = M at *
  generalize patB p = b1 at *
  generalize patB q = b2 at *
  clear hn hn1 hN s1 s2 hbl
  by_cases hb : (b1 && b2 && b3) = true
  · obtain ⟨⟨rfl, rfl⟩, rfl⟩ : (b1 = true ∧ b2 = true) ∧ b3 = true := by rwa [Bool.and_eq_true, Bool.and_eq_true] at hb
    have hR := HZ rfl rfl
    have HI1 := Lib.hid (HI.out hR)
    have HJ1 := Lib.hid (HJ.out hR)
    clear HI HJ HZ hb
    rw [Bool.true_and, Bool.true_and, Bool.true_and]
    change Hid (∀ W, Calls Try.prog 14 #[.string p, .string q] W fun e w' => e = .returned (.bool true) ∧ Below W.heap.size W w') at HM
    go_enter Try.func8, Try.ntmps8
    go_wp2_with (first
      | (go_at_call 21; first
        | ((with_reducible refine (HP.out _).mono ?_); rintro e w1 ⟨a1, c1, rfl, hr1, hb1⟩; clear HP)
        | ((with_reducible refine (HQ.out _).mono ?_); rintro e w2 ⟨a2, c2, rfl, hr2, hb2⟩; have HR := Lib.hid (hr1.next hb2); have HB := Lib.hid (hb1.trans (hb2.mono hb1.size)); clear HQ hr1 hb1 hb2))
      | (go_at_call 14; (with_reducible refine (HM.out _).mono ?_); rintro e w3 ⟨rfl, hb3⟩; have HR := Lib.hid (HR.out.next hb3); have HR2 := Lib.hid (hr2.next hb3); have HB := Lib.hid (HB.out.trans (hb3.mono HB.out.size)); clear HM hr2 hb3)
      | (go_at_call 22; first
        | ((with_reducible refine (HL1.out _ _ HR.out).mono ?_); rintro e w4 ⟨rfl, n4, rfl⟩; have HR2 := Lib.hid (row_drewN HR2.out n4); clear HL1)
        | ((with_reducible refine (HL2.out _ _ HR2.out).mono ?_); rintro e w5 ⟨rfl, n5, rfl⟩; clear HL2)))
    clear hx
    have HB1 := Lib.hid (below_drewN (n := n4 + n5) HB.out)
    have HRa := Lib.hid (row_drewN HR.out (n4 + n5))
    have HRb := Lib.hid (show Strs.Row (w3.drewN (n4 + n5)) _ M from HR2.out)
    clear HR HR2 HB
    generalize w3.drewN (n4 + n5) = w6 at *
    go_loopw [10, 32] (fun v i wr => ∃ k : Nat, i = .int .i64 (k : Int) ∧ k ≤ N ∧ Strs.Own wr w6.heap.size v (bk L M k) ∧ Below w6.heap.size w6 wr) (fun _ i _ => N - (RowKit.intOf i).toNat)
    case atStart => exact ⟨0, rfl, Nat.zero_le _, Strs.Own.nil _ _, Below.refl _ _⟩
    case round =>
      obtain ⟨k, rfl, hk, hown, hb⟩ := hrel
      have hsz := hb.size
      by_cases hlt : k < N
      · have HK1 := Lib.hid (HK.out _ k _ _ (HRa.out.next hb) (HRb.out.next hb))
        have hs := HS.out k
        have hl := HL.out k
        have HKN := Lib.hid hs
        generalize bf L M k = z at *
        clear hs
        go_wp2_with (first
          | (go_at_call 23; (with_reducible refine HK1.out.mono ?_); rintro e w7 ⟨rfl, n7, rfl⟩; have ho7 := hown.drewN n7; have hb7 := below_drewN (n := n7) hb)
          | (with_reducible refine Strs.wpList_push _ rfl _ _ rfl w6.heap.size w6 _ _ rfl (ho7.alloc _) (hb7.alloc hb7.size _) (Nat.le_refl _) _ _ _ rfl _ _ (heap_alloc_new _ _) [z] rfl (str_one z) (by simp; omega) ?_; intro v3 w8 hown3 hb3 _))
        rw [HKN.out] at hown3
        go_roundw
        case rel => exact ⟨k + 1, by go_num, by omega, hown3, hb3⟩
        case measure => simp [RowKit.intOf]; omega
      · obtain rfl : k = N := by omega
        rw [HE.out] at hown
        have HJ2 := Lib.hid (HJ1.out _ _ hown.row)
        have HBB := Lib.hid (HB1.out.trans (hb.mono HB1.out.size))
        clear hown hb hsz HJ1 HRa HRb HE HS HL HK HB1
        cases b4
        all_goals
          go_wp2_with (first
            | (go_at_call 24; (with_reducible refine HJ2.out.mono ?_); rintro e w9 ⟨rfl, rfl⟩)
            | (go_at_call 25; (with_reducible refine (HI1.out _).mono ?_); rintro e w9 ⟨rfl, hb9⟩))
          go_ret2
          exact ⟨rfl, HBB.out.trans (hb9.mono HBB.out.size)⟩
  · have hR : (b1 && b2 && b3) = false := by rwa [Bool.not_eq_true] at hb
    rw [hR, Bool.false_and]
    rw [hR] at HM
    clear hb hR HZ HI HJ HK HE HS HL hx
    go_enter Try.func8, Try.ntmps8
    go_wp2_with (first
      | (go_at_call 21; first
        | ((with_reducible refine (HP.out _).mono ?_); rintro e w1 ⟨a1, c1, rfl, hr1, hb1⟩; clear HP)
        | ((with_reducible refine (HQ.out _).mono ?_); rintro e w2 ⟨a2, c2, rfl, hr2, hb2⟩; have HB := Lib.hid (hb1.trans (hb2.mono hb1.size)); clear HQ hr1 hb1 hb2))
      | (go_at_call 14; (with_reducible refine (HM.out _).mono ?_); rintro e w3 ⟨rfl, hb3⟩; have HB := Lib.hid (HB.out.trans (hb3.mono HB.out.size)); clear hb3))
    go_ret2
    exact ⟨rfl, HB.out⟩
end Go.Proofs.Ytnhiloikficigaa.Mat
