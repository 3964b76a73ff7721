/- Contracts of the document's parts, Is, Covers, Meets, pick, long, Both. Conditions: as each theorem states. · Contracts of the document's pick, long and Both. Conditions: as each theorem states. -/
import Derived.Test.YtjkdhgjicajboaaMatG1
import Derived.Test.YtjkdhgjicajboaaRouG3
import Derived.StillTailTactics
namespace Go.Proofs.Ytjkdhgjicajboaa.Mat
open Go.RowKit Go.Lib Go.Proofs.Ytjkdhgjicajboaa.Byt Go.Proofs.Ytjkdhgjicajboaa.Rou

/-! ### plain -/
def mtK (L M : Bs) (k : Nat) : Bool := mt (dts (L.drop k)) (dts (M.drop k))
theorem mtK_zero (L M : Bs) : mtK L M 0 = mtB L M := by unfold mtK mtB; rw [List.drop_zero, List.drop_zero]
theorem mtK_ss {L M : Bs} {k : Nat} (hk : k < L.length) (h : L.getD k ⟨#[]⟩ = ⟨#[42, 42]⟩) : mtK L M k = true := by
  unfold mtK
  rw [drop_at hk, h]
  exact mt_ss _ _
theorem mtK_no {L M : Bs} {k : Nat} (hk : k < L.length) (h : L.getD k ⟨#[]⟩ ≠ ⟨#[42, 42]⟩) (hm : M.length ≤ k) : mtK L M k = false := by
  unfold mtK
  rw [drop_at hk, drop_no hm, mt_nil _ (ne_ss h)]
theorem one_dt (x y : ByteArray) : one x.data.toList y.data.toList = (decide (x = ⟨#[42]⟩) || decide (x = y)) := by
  unfold one
  congr 1
  · exact decide_eq_decide.2 (dt_inj (y := ⟨#[42]⟩))
  · exact decide_eq_decide.2 dt_inj
theorem mtK_step {L M : Bs} {k : Nat} (hk : k < L.length) (h : L.getD k ⟨#[]⟩ ≠ ⟨#[42, 42]⟩) (hm : k < M.length) :
    mtK L M k = ((decide (L.getD k ⟨#[]⟩ = ⟨#[42]⟩) || decide (L.getD k ⟨#[]⟩ = M.getD k ⟨#[]⟩)) && mtK L M (k + 1)) := by
  unfold mtK
  rw [drop_at hk, drop_at hm, mt_cons _ _ _ (ne_ss h), one_dt]
theorem mtK_end {L M : Bs} (h : L.length ≤ M.length) : mtK L M L.length = decide (L.length = M.length) := by
  unfold mtK
  rw [drop_no (Nat.le_refl _)]
  show decide (dts (M.drop L.length) = []) = _
  refine decide_eq_decide.2 ⟨fun e => ?_, fun e => drop_no (by omega)⟩
  have := congrArg List.length e
  rw [dts_len, List.length_drop] at this
  show L.length = M.length
  have h0 : ([] : List T).length = 0 := rfl
  omega
theorem cvK_no {L M : Bs} {k : Nat} (hk : k < L.length) (h : L.getD k ⟨#[]⟩ ≠ ⟨#[42, 42]⟩) (hm : M.length ≤ k) : cvK L M k = false := by
  unfold cvK
  rw [drop_at hk, drop_no hm, cv_nil _ (ne_ss h)]
theorem cvK_in {L M : Bs} {k : Nat} (hM : Ne M) (hk : k < L.length) (h : L.getD k ⟨#[]⟩ ≠ ⟨#[42, 42]⟩) (hm : k < M.length) :
    cvK L M k = (!decide (M.getD k ⟨#[]⟩ = ⟨#[42, 42]⟩) && (decide (L.getD k ⟨#[]⟩ = ⟨#[42]⟩) || decide (L.getD k ⟨#[]⟩ = M.getD k ⟨#[]⟩)) && cvK L M (k + 1)) := by
  rw [cvK_step hM hk h]
  unfold cpB
  rw [decide_eq_false (hM k hm), Bool.false_or]
theorem meK_l {L M : Bs} {k : Nat} (hk : k < L.length) (h : L.getD k ⟨#[]⟩ ≠ ⟨#[42, 42]⟩) (hm : M.length ≤ k) : meK L M k = false := by
  unfold meK
  rw [drop_at hk, drop_no hm]
  show decide (_ = ss) = _
  exact decide_eq_false (ne_ss h)
theorem meK_r {L M : Bs} {k : Nat} (hk : k < M.length) (h : M.getD k ⟨#[]⟩ ≠ ⟨#[42, 42]⟩) (hm : L.length ≤ k) : meK L M k = false := by
  unfold meK
  rw [drop_at hk, drop_no hm]
  show decide (_ = ss) = _
  exact decide_eq_false (ne_ss h)
theorem meK_in {L M : Bs} {k : Nat} (hk : k < L.length) (h1 : L.getD k ⟨#[]⟩ ≠ ⟨#[42, 42]⟩) (hm : k < M.length) (h2 : M.getD k ⟨#[]⟩ ≠ ⟨#[42, 42]⟩) :
    meK L M k = ((decide (L.getD k ⟨#[]⟩ = ⟨#[42]⟩) || decide (M.getD k ⟨#[]⟩ = ⟨#[42]⟩) || decide (L.getD k ⟨#[]⟩ = M.getD k ⟨#[]⟩)) && meK L M (k + 1)) := by
  unfold meK
  rw [drop_at hk, drop_at hm, me_cons _ _ (ne_ss h1) (ne_ss h2)]
  congr 1
  congr 1
  · congr 1
    · exact decide_eq_decide.2 (dt_inj (y := ⟨#[42]⟩))
    · exact decide_eq_decide.2 (dt_inj (y := ⟨#[42]⟩))
  · exact decide_eq_decide.2 dt_inj

/-! ### parts -/
theorem rparts_any (p : ByteArray) (w : World) (hp : p.size ≤ 140737488355328) :
    Calls Try.prog 36 #[.string p] w fun e w' => ∃ a c, e = .returned (.tuple #[.slice a (ptB p).length c, .bool (patB p)]) ∧ Strs.Row w' (.slice a (ptB p).length c) (ptB p) ∧ Below w.heap.size w w' := by
  have HP := Lib.hid fun W => rpat_any p W hp
  cases h : patB p with
  | false =>
    rw [h] at HP
    rw [ptB_no h]
    clear h
    show Calls Try.prog _ _ w fun e w' => ∃ a c, e = .returned (.tuple #[.slice a 0 c, .bool false]) ∧ Strs.Row w' (.slice a 0 c) [] ∧ _
    go_enter Try.func36, Try.ntmps36
    go_wp2_with (go_at_call 19; (with_reducible refine (HP.out _).mono ?_); rintro e w1 ⟨rfl, hb1⟩)
    go_ret2
    exact ⟨_, _, rfl, Strs.Row.nil _, hb1⟩
  | true =>
    have HS := Lib.hid fun W => rsplit_any p W hp
    rw [pat_row h] at HS
    rw [h] at HP
    rw [ptB_yes h]
    generalize spB p = L at *
    clear h
    go_enter Try.func36, Try.ntmps36
    go_wp2_with (first
      | (go_at_call 19; (with_reducible refine (HP.out _).mono ?_); rintro e w1 ⟨rfl, hb1⟩)
      | (go_at_call 20; (with_reducible refine (HS.out _).mono ?_); rintro e w2 ⟨a2, c2, rfl, hr2, hb2⟩))
    go_ret2
    exact ⟨_, _, rfl, hr2, hb1.trans (hb2.mono hb1.size)⟩

/-! ### Is -/
theorem matB_pt (p s : ByteArray) : matB p s = (patB p && isB s && mtB (ptB p) (spB s)) := by
  unfold matB ptB
  cases patB p <;> rfl
set_option maxHeartbeats 4000000 in
set_option maxRecDepth 100000 in
theorem rmat_any (p s : ByteArray) (w : World) (hp : p.size ≤ 140737488355328) (hs : s.size ≤ 140737488355328) :
    Calls Try.prog 24 #[.string p, .string s] w fun e w' => e = .returned (.bool (matB p s)) ∧ Below w.heap.size w w' := by
  have HP := Lib.hid fun W => rparts_any p W hp
  have HQ := Lib.hid fun W => rsplit_any s W hs
  have HI := Lib.hid fun W => ris_any s W hs
  have h1 := ptB_len p
  have h2 := (spB_size s).1
  rw [matB_pt]
  generalize ptB p = L at *
  generalize spB s = M at *
  generalize patB p = b1 at *
  generalize isB s = b2 at *
  generalize rowB s = b0 at *
  by_cases hb : b1 = true ∧ b2 = true
  · obtain ⟨rfl, rfl⟩ := hb
    rw [Bool.true_and, Bool.true_and, ← mtK_zero]
    obtain ⟨R, hR⟩ : ∃ R, mtK L M 0 = R := ⟨_, rfl⟩
    rw [hR]
    have H0 := Lib.hid hR
    have HS := Lib.hid fun k (h : k < L.length) => mtK_ss (L := L) (M := M) h
    have HN := Lib.hid fun k (h : k < L.length) => mtK_no (L := L) (M := M) h
    have HT := Lib.hid fun k (h : k < L.length) => mtK_step (L := L) (M := M) h
    have HE := Lib.hid (mtK_end (L := L) (M := M))
    clear hR
    go_enter Try.func24, Try.ntmps24
    go_wp2_with (first
      | (go_at_call 36; (with_reducible refine (HP.out _).mono ?_); rintro e w1 ⟨a1, c1, rfl, hr1, hb1⟩)
      | (go_at_call 20; (with_reducible refine (HQ.out _).mono ?_); rintro e w2 ⟨a2, c2, rfl, hr2, hb2⟩)
      | (go_at_call 37; (with_reducible refine (HI.out _).mono ?_); rintro e w3 ⟨rfl, hb3⟩))
    have HB := Lib.hid ((hb1.trans (hb2.mono hb1.size)).trans (hb3.mono (hb1.trans (hb2.mono hb1.size)).size))
    obtain ⟨a1', c1', e1, hc1⟩ := ((hr1.next hb2).next hb3).open_
    injection e1 with q1 _ q3
    subst q1 q3
    obtain ⟨a2', c2', e2, hc2⟩ := (hr2.next hb3).open_
    injection e2 with q1 _ q3
    subst q1 q3
    have HC1 := Lib.hid hc1
    have HC2 := Lib.hid hc2
    clear hc1 hc2 hr1 hr2 hb1 hb2 hb3 HP HQ HI
    go_loopw [29] (fun i wr => ∃ k n : Nat, i = .int .i64 (k : Int) ∧ wr = w3.drewN n ∧ k ≤ L.length ∧ k ≤ M.length ∧ Hid (mtK L M k = R)) (fun i _ => L.length - (RowKit.intOf i).toNat)
    case atStart => exact ⟨0, 0, rfl, rfl, Nat.zero_le _, Nat.zero_le _, H0⟩
    case round =>
      obtain ⟨k, nd, rfl, rfl, hk, hk2, HK⟩ := hrel
      by_cases hlt : k < L.length
      · obtain ⟨b, off, rfl, h1⟩ := HC1.out k hlt
        have c1 : ∀ n, (w3.drewN n).cell? ⟨b, off + k, none⟩ = some (.string (L.getD k ⟨#[]⟩)) := fun n => h1
        clear h1
        have s1 := s2_eq (L.getD k ⟨#[]⟩)
        by_cases hx : L.getD k ⟨#[]⟩ = ⟨#[42, 42]⟩
        · obtain rfl : R = true := HK.out.symm.trans (HS.out k hlt hx)
          rw [decide_eq_true hx] at s1
          clear HK HS HN HT HE H0 hx HC1 HC2
          generalize L.getD k ⟨#[]⟩ = x at *
          go_wp2_with fail
          go_ret
          first | exact ⟨rfl, below_drewN HB.out⟩ | exact ⟨rfl, below_drewN (n := 1) (below_drewN HB.out)⟩
        · rw [decide_eq_false hx] at s1
          have s3 := s1_eq (L.getD k ⟨#[]⟩)
          have s4 := sb_eq (x := L.getD k ⟨#[]⟩) (y := M.getD k ⟨#[]⟩)
          by_cases hlm : k < M.length
          · have g1 : decide ((M.length : Int) ≤ (k : Int)) = false := decide_eq_false (by omega)
            have g2 : decide (M.length ≤ k) = false := decide_eq_false (by omega)
            obtain ⟨b', off', rfl, h2⟩ := HC2.out k hlm
            have c2 : ∀ n, (w3.drewN n).cell? ⟨b', off' + k, none⟩ = some (.string (M.getD k ⟨#[]⟩)) := fun n => h2
            have hst := HK.out.symm.trans (HT.out k hlt hx hlm)
            clear h2 HK HS HN HT HE H0 hx HC1 HC2
            generalize decide (L.getD k ⟨#[]⟩ = ⟨#[42]⟩) = d1 at *
            generalize decide (L.getD k ⟨#[]⟩ = M.getD k ⟨#[]⟩) = d2 at *
            have HK2 := Lib.hid (show (d1 || d2) = true → mtK L M (k + 1) = R from fun h => by rw [hst, h, Bool.true_and])
            have HR := Lib.hid (show (d1 || d2) = false → R = false from fun h => by rw [hst, h, Bool.false_and])
            clear hst
            generalize L.getD k ⟨#[]⟩ = x at *
            generalize M.getD k ⟨#[]⟩ = y at *
            have n3 : (x.toList != [42]) = !d1 := by rw [bne, s3]
            have n4 : (x.toList != y.toList) = !d2 := by rw [bne, s4]
            cases d1 <;> cases d2
            · obtain rfl : R = false := HR.out rfl
              go_wp2_with fail
              go_region
              go_wp2_with fail
              go_ret
              first | exact ⟨rfl, below_drewN HB.out⟩ | exact ⟨rfl, below_drewN (n := 1) (below_drewN HB.out)⟩
            all_goals
              go_wp2_with fail
              go_region
              go_wp2_with fail
              go_roundw
              case rel => exact ⟨k + 1, _, by go_num, rfl, by omega, by omega, Lib.hid (HK2.out rfl)⟩
              case measure => simp [RowKit.intOf]; omega
          · have g1 : decide ((M.length : Int) ≤ (k : Int)) = true := decide_eq_true (by omega)
            have g2 : decide (M.length ≤ k) = true := decide_eq_true (by omega)
            obtain rfl : R = false := HK.out.symm.trans (HN.out k hlt hx (by omega))
            clear HK HS HN HT HE H0 hx HC1 HC2 s3 s4
            generalize L.getD k ⟨#[]⟩ = x at *
            go_wp2_with fail
            go_region
            go_wp2_with fail
            go_ret
            first | exact ⟨rfl, below_drewN HB.out⟩ | exact ⟨rfl, below_drewN (n := 1) (below_drewN HB.out)⟩
      · obtain rfl : k = L.length := by omega
        have he := HK.out.symm.trans (HE.out hk2)
        have hq : ((L.length : Int) == (M.length : Int)) = decide (L.length = M.length) := by rw [Bool.eq_iff_iff, beq_iff_eq, decide_eq_true_eq]; omega
        rw [← he] at hq
        clear HK HS HN HT HE H0 he HC1 HC2
        generalize L.length = n at *
        generalize M.length = m at *
        go_wp2_with fail
        go_ret
        first | exact ⟨rfl, below_drewN HB.out⟩ | exact ⟨rfl, below_drewN (n := 1) (below_drewN HB.out)⟩
  · have hR : (b1 && b2 && mtB L M) = false := by
      cases b1 <;> cases b2
      · rfl
      · rfl
      · rfl
      · exact absurd ⟨rfl, rfl⟩ hb
    rw [hR]
    clear hR
    cases b1 <;> cases b2
    all_goals first
      | (exact absurd ⟨rfl, rfl⟩ hb)
      | (clear hb
         go_enter Try.func24, Try.ntmps24
         go_wp2_with (first
           | (go_at_call 36; (with_reducible refine (HP.out _).mono ?_); rintro e w1 ⟨a1, c1, rfl, hr1, hb1⟩; have HB := Lib.hid hb1; clear hb1)
           | (go_at_call 20; (with_reducible refine (HQ.out _).mono ?_); rintro e w2 ⟨a2, c2, rfl, hr2, hb2⟩; have HB := Lib.hid (HB.out.trans (hb2.mono HB.out.size)); clear hb2)
           | (go_at_call 37; (with_reducible refine (HI.out _).mono ?_); rintro e w3 ⟨rfl, hb3⟩; have HB := Lib.hid (HB.out.trans (hb3.mono HB.out.size)); clear hb3))
         go_ret
         exact ⟨rfl, HB.out⟩)

/-! ### Covers -/
/-! ### Meets -/
end Go.Proofs.Ytjkdhgjicajboaa.Mat

namespace Go.Proofs.Ytjkdhgjicajboaa.Mat
open Go.RowKit Go.Lib Go.Proofs.Ytjkdhgjicajboaa.Byt Go.Proofs.Ytjkdhgjicajboaa.Rou

/-! ### pick -/
theorem wrB_in {L : Bs} {k : Nat} (hL : Ne L) (h : k < L.length) : wrB (L.getD k ⟨#[]⟩) = (!decide (L.getD k ⟨#[]⟩ = ⟨#[42]⟩) && !decide (L.getD k ⟨#[]⟩ = ⟨#[42, 42]⟩)) := by
  unfold wrB
  rw [decide_not, decide_not, decide_not, decide_eq_false (hL k h)]; rfl
theorem wrB_out {L : Bs} {k : Nat} (h : ¬ k < L.length) : wrB (L.getD k ⟨#[]⟩) = false := by
  rw [get_no (Nat.le_of_not_lt h)]; decide
/-! ### long -/
/-! ### Both -/
def bk (L M : Bs) (k : Nat) : Bs := (List.range k).map (bf L M)
theorem bk_len (L M : Bs) (k : Nat) : (bk L M k).length = k := by unfold bk; rw [List.length_map, List.length_range]
theorem bk_snoc (L M : Bs) (k : Nat) : bk L M k ++ [bf L M k] = bk L M (k + 1) := by
  unfold bk; rw [List.range_succ, List.map_append]; rfl
theorem bk_end (L M : Bs) : bk L M (max (sgl L) (sgl M)) = btB L M := rfl
theorem row_drewN {w : World} {v : Value} {l : Bs} (h : Strs.Row w v l) (n : Nat) : Strs.Row (w.drewN n) v l := h
theorem str_one (x : ByteArray) : (#[Value.string x] : Array Value).toList = [x].map Value.string := rfl
end Go.Proofs.Ytjkdhgjicajboaa.Mat
