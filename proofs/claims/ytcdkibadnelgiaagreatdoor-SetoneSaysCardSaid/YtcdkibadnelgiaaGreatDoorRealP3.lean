/- The document's answer for thousandths. Conditions: as each theorem states. · The document's answer for thousandths, at every number. Conditions: as each theorem states. · The statements of layer 2 as contracts over every input. Conditions: the arguments fit their kinds. · The other statements of layer 2 as contracts over every input. Conditions: the arguments fit their kinds. · The statement RealBack as a contract over every input. Conditions: the arguments fit their kinds. -/
import Derived.Test.YtcdkibadnelgiaaGreatDoorRealP2
import Derived.OpenShut
import Derived.Below
import Derived.RegionTactic
namespace Go.Proofs.YtcdkibadnelgiaaGreatDoor.Real
open Go.RowKit Go.Lib

def oddF (P k : Nat) : Bool := if k = 0 then false else P / 2 ^ (k - 1) % 2 == 1
def restF (P k : Nat) : Bool := if k = 0 then false else P % 2 ^ (k - 1) != 0
theorem oddF_succ (P k : Nat) : oddF P (k + 1) = (P / 2 ^ k % 2 == 1) := by unfold oddF; simp
theorem restF_succ (P k : Nat) : restF P (k + 1) = (restF P k || oddF P k) := by
  unfold oddF restF
  rcases Nat.eq_zero_or_pos k with h | h
  · subst h; simp [Nat.mod_one]
  · obtain ⟨j, rfl⟩ : ∃ j, k = j + 1 := ⟨k - 1, by omega⟩
    simp only [Nat.add_sub_cancel, Nat.add_one_ne_zero, if_false]
    have e1 : P % 2 ^ (j + 1) = P % 2 ^ j + 2 ^ j * (P / 2 ^ j % 2) := by rw [Nat.pow_succ, Nat.mod_mul]
    have hp := Nat.two_pow_pos j
    rw [e1]
    generalize P % 2 ^ j = m
    rcases Nat.mod_two_eq_zero_or_one (P / 2 ^ j) with h2 | h2 <;> rw [h2]
    · simp
    · generalize 2 ^ j = d at *
      have : (m + d * 1 != 0) = true := by simp; omega
      rw [this]; simp
theorem near_fold (P k : Nat) : near P (2 ^ (k + 1)) = P / 2 ^ (k + 1) + (if oddF P (k + 1) && (restF P (k + 1) || P / 2 ^ (k + 1) % 2 == 1) then 1 else 0) := by
  have e : restF P (k + 1) = (P % 2 ^ k != 0) := by unfold restF; simp
  rw [near_bits, oddF_succ, e]
  congr 1
  by_cases c : P / 2 ^ k % 2 = 1 ∧ (P % 2 ^ k ≠ 0 ∨ P / 2 ^ (k + 1) % 2 = 1)
  · rw [if_pos c, if_pos (by simpa using c)]
  · rw [if_neg c, if_neg (by simpa using c)]

theorem ret_int2' {k : IntKind} {a b c d : Int} {A : Prop} (h : a = b) (h' : c = d) (hA : A) : Ending.returned (.tuple #[.int k a, .int k c]) = .returned (.tuple #[.int k b, .int k d]) ∧ A := ⟨by rw [h, h'], hA⟩

set_option maxRecDepth 100000 in
set_option maxHeartbeats 2000000 in
theorem rMilli_loop (b : Nat) (hb : b < 18446744073709551616) (w : World) (h1 : nan b = false) (r c e f n K M N E : Nat) (hc : Hid (cls b = c)) (c1 : 2 ≤ c) (c2 : c ≤ 4)
    (ho' : (FloatKind.f64.format.order b 0 == some .lt) = false) (h6 : (FloatKind.f64.format.order b 4696837146684686336 == some .gt) = false)
    (q1 : bits .and .u64 (b : Int) 9223372036854775807 = (r : Int)) (q2 : bits .and .u64 (r : Int) 4503599627370495 = (f : Int))
    (he' : (r : Int) / 4503599627370496 = (e : Int)) (e1 : e ≤ 1042) (f1 : f < 4503599627370496)
    (hM : (e = 0 ∧ M = f) ∨ (0 < e ∧ M = f + 4503599627370496)) (hK : (K : Int) + 1 = 1075 - max (e : Int) 1) (hn : near (M * 1000) (2 ^ (K + 1)) = n)
    (hN : (1000000 < n ∧ N = 0 ∧ E = 6) ∨ (n ≤ 1000000 ∧ N = n ∧ E = 0)) :
    Calls Tryz.prog 22 #[.float .f64 b] w fun e w' => e = .returned (.tuple #[.int .i64 (N : Nat), .int .i64 (E : Nat)]) ∧ ∃ n, w' = w.drewN n := by
  have hr : ((c : Int) == 0) = false := by simp; omega
  have hr1 : ((c : Int) == 1) = false := by simp; omega
  have hr5 : ((c : Int) == 5) = false := by simp; omega
  have HN := Lib.hid hn
  have hMlt : M < 9007199254740992 := by omega
  have hxK : M * 1000 / 2 ^ (K + 1) < 4294967296 := by
    have a1 : M * 1000 / 2 ^ (K + 1) ≤ M * 1000 / 2 ^ 33 := Nat.div_le_div_left (Nat.pow_le_pow_right (by omega) (by omega)) (Nat.two_pow_pos _)
    have a2 : (2 : Nat) ^ 33 = 8589934592 := by decide
    rw [a2] at a1
    omega
  clear hn
  rcases hM with ⟨h0, rfl⟩ | ⟨h0, rfl⟩
  · subst h0
    have k1 : (K : Int) + 1 ≤ 1074 := by omega
    have k2 : 1074 ≤ (K : Int) + 1 := by omega
    clear hK
    go_enter Tryz.func22, Tryz.ntmps22
    go_wp2_with (first
      | (go_at_call 40; refine (rClass_at b c hb hc _).mono ?_; rintro e w' ⟨rfl, dr, rfl⟩)
      | (go_at_call 41; refine (rBits_at b hb h1 _).mono ?_; rintro e w' ⟨rfl, rfl⟩))
    go_loop [8, 9, 10, 46] (fun p o s i => ∃ k x : Nat, k ≤ K + 1 ∧ Hid ((M * 1000) / 2 ^ k = x) ∧ x < 18446744073709551616 ∧ i = .int .i64 k ∧ p = .int .u64 (x : Int) ∧ ∃ u v : Bool, Hid (oddF (M * 1000) k = u ∧ restF (M * 1000) k = v) ∧ o = .bool u ∧ s = .bool v) (fun _ _ _ i => K + 1 - (intOf i).toNat)
    case atStart => exact ⟨0, _, by omega, Lib.hid rfl, by simp; omega, rfl, by simp, false, false, Lib.hid ⟨rfl, rfl⟩, rfl, rfl⟩
    case round =>
      obtain ⟨k, x, hk, HX, hx, rfl, rfl, u, v, HU, rfl, rfl⟩ := hrel
      by_cases hlt : k < K + 1
      · have hx2 : M * 1000 / 2 ^ (k + 1) = x / 2 := by rw [Nat.pow_succ, ← Nat.div_div_eq_div_mul, HX.out]
        have hu2 : oddF (M * 1000) (k + 1) = ((x : Int) % 2 == 1) := by rw [oddF_succ, HX.out, Bool.eq_iff_iff]; simp; omega
        have hv2 : restF (M * 1000) (k + 1) = (v || u) := by rw [restF_succ, HU.out.1, HU.out.2]
        have H2 := Lib.hid (And.intro hx2 (And.intro hu2 hv2))
        clear hx2 hu2 hv2
        cases u
        all_goals cases v
        all_goals
          go_wp2
          go_round
          case rel => exact ⟨k + 1, x / 2, by omega, Lib.hid H2.out.1, by omega, by go_num, by simp, _, _, Lib.hid ⟨H2.out.2.1, H2.out.2.2⟩, by simp, rfl⟩
          case measure => simp only [intOf]; omega
      · obtain rfl : k = K + 1 := by omega
        have hnf := near_fold (M * 1000) K
        rw [HN.out, HX.out, HU.out.1, HU.out.2] at hnf
        rw [HX.out] at hxK
        clear hx
        by_cases hp : x % 2 = 1
        · have hp' : (x : Int) % 2 = 1 := by omega
          have hpb : (x % 2 == 1) = true := by simpa using hp
          rw [hpb] at hnf
          clear hp hpb
          cases u
          all_goals cases v
          all_goals
            simp at hnf
            clear HN
            first
            | (have hx1 : (x : Int) + 1 = (n : Int) := by omega
               clear hnf
               rcases hN with ⟨n1, rfl, rfl⟩ | ⟨n1, rfl, rfl⟩
               all_goals
                 go_wp2
                 go_ret2
                 exact ret_int2' (by omega) (by omega) ⟨_, rfl⟩)
            | (subst hnf
               rcases hN with ⟨n1, rfl, rfl⟩ | ⟨n1, rfl, rfl⟩
               all_goals
                 go_wp2
                 go_ret2
                 exact ret_int2' (by omega) (by omega) ⟨_, rfl⟩)
        · have hp' : (x : Int) % 2 = 0 := by omega
          have hpb : (x % 2 == 1) = false := by simpa using hp
          rw [hpb] at hnf
          clear hp hpb
          cases u
          all_goals cases v
          all_goals
            simp at hnf
            clear HN
            first
            | (have hx1 : (x : Int) + 1 = (n : Int) := by omega
               clear hnf
               rcases hN with ⟨n1, rfl, rfl⟩ | ⟨n1, rfl, rfl⟩
               all_goals
                 go_wp2
                 go_ret2
                 exact ret_int2' (by omega) (by omega) ⟨_, rfl⟩)
            | (subst hnf
               rcases hN with ⟨n1, rfl, rfl⟩ | ⟨n1, rfl, rfl⟩
               all_goals
                 go_wp2
                 go_ret2
                 exact ret_int2' (by omega) (by omega) ⟨_, rfl⟩)
  · have k1 : (K : Int) + 1 ≤ 1075 - (e : Int) := by omega
    have k2 : 1075 - (e : Int) ≤ (K : Int) + 1 := by omega
    clear hK
    obtain ⟨M, hM2⟩ : ∃ M : Nat, f + 4503599627370496 = M := ⟨_, rfl⟩
    have hM3 : (f : Int) + 4503599627370496 = (M : Int) := by omega
    rw [hM2] at HN hMlt hxK
    clear hM2
    go_enter Tryz.func22, Tryz.ntmps22
    go_wp2_with (first
      | (go_at_call 40; refine (rClass_at b c hb hc _).mono ?_; rintro e w' ⟨rfl, dr, rfl⟩)
      | (go_at_call 41; refine (rBits_at b hb h1 _).mono ?_; rintro e w' ⟨rfl, rfl⟩))
    go_loop [8, 9, 10, 46] (fun p o s i => ∃ k x : Nat, k ≤ K + 1 ∧ Hid ((M * 1000) / 2 ^ k = x) ∧ x < 18446744073709551616 ∧ i = .int .i64 k ∧ p = .int .u64 (x : Int) ∧ ∃ u v : Bool, Hid (oddF (M * 1000) k = u ∧ restF (M * 1000) k = v) ∧ o = .bool u ∧ s = .bool v) (fun _ _ _ i => K + 1 - (intOf i).toNat)
    case atStart => exact ⟨0, _, by omega, Lib.hid rfl, by simp; omega, rfl, by simp, false, false, Lib.hid ⟨rfl, rfl⟩, rfl, rfl⟩
    case round =>
      obtain ⟨k, x, hk, HX, hx, rfl, rfl, u, v, HU, rfl, rfl⟩ := hrel
      by_cases hlt : k < K + 1
      · have hx2 : M * 1000 / 2 ^ (k + 1) = x / 2 := by rw [Nat.pow_succ, ← Nat.div_div_eq_div_mul, HX.out]
        have hu2 : oddF (M * 1000) (k + 1) = ((x : Int) % 2 == 1) := by rw [oddF_succ, HX.out, Bool.eq_iff_iff]; simp; omega
        have hv2 : restF (M * 1000) (k + 1) = (v || u) := by rw [restF_succ, HU.out.1, HU.out.2]
        have H2 := Lib.hid (And.intro hx2 (And.intro hu2 hv2))
        clear hx2 hu2 hv2
        cases u
        all_goals cases v
        all_goals
          go_wp2
          go_round
          case rel => exact ⟨k + 1, x / 2, by omega, Lib.hid H2.out.1, by omega, by go_num, by simp, _, _, Lib.hid ⟨H2.out.2.1, H2.out.2.2⟩, by simp, rfl⟩
          case measure => simp only [intOf]; omega
      · obtain rfl : k = K + 1 := by omega
        have hnf := near_fold (M * 1000) K
        rw [HN.out, HX.out, HU.out.1, HU.out.2] at hnf
        rw [HX.out] at hxK
        clear hx
        by_cases hp : x % 2 = 1
        · have hp' : (x : Int) % 2 = 1 := by omega
          have hpb : (x % 2 == 1) = true := by simpa using hp
          rw [hpb] at hnf
          clear hp hpb
          cases u
          all_goals cases v
          all_goals
            simp at hnf
            clear HN
            first
            | (have hx1 : (x : Int) + 1 = (n : Int) := by omega
               clear hnf
               rcases hN with ⟨n1, rfl, rfl⟩ | ⟨n1, rfl, rfl⟩
               all_goals
                 go_wp2
                 go_ret2
                 exact ret_int2' (by omega) (by omega) ⟨_, rfl⟩)
            | (subst hnf
               rcases hN with ⟨n1, rfl, rfl⟩ | ⟨n1, rfl, rfl⟩
               all_goals
                 go_wp2
                 go_ret2
                 exact ret_int2' (by omega) (by omega) ⟨_, rfl⟩)
        · have hp' : (x : Int) % 2 = 0 := by omega
          have hpb : (x % 2 == 1) = false := by simpa using hp
          rw [hpb] at hnf
          clear hp hpb
          cases u
          all_goals cases v
          all_goals
            simp at hnf
            clear HN
            first
            | (have hx1 : (x : Int) + 1 = (n : Int) := by omega
               clear hnf
               rcases hN with ⟨n1, rfl, rfl⟩ | ⟨n1, rfl, rfl⟩
               all_goals
                 go_wp2
                 go_ret2
                 exact ret_int2' (by omega) (by omega) ⟨_, rfl⟩)
            | (subst hnf
               rcases hN with ⟨n1, rfl, rfl⟩ | ⟨n1, rfl, rfl⟩
               all_goals
                 go_wp2
                 go_ret2
                 exact ret_int2' (by omega) (by omega) ⟨_, rfl⟩)

end Go.Proofs.YtcdkibadnelgiaaGreatDoor.Real

namespace Go.Proofs.YtcdkibadnelgiaaGreatDoor.Real
open Go.RowKit Go.Lib

theorem rMilli_class (b c : Nat) (hb : b < 18446744073709551616) (hc : Hid (cls b = c)) (h : c = 0 ∨ c = 1 ∨ c = 5) (hm : mbad b = true) (w : World) :
    Calls Tryz.prog 22 #[.float .f64 b] w fun e w' => e = .returned (.tuple #[.int .i64 (mn b : Nat), .int .i64 (me b : Nat)]) ∧ ∃ n, w' = w.drewN n := by
  rw [mn_bad hm, me_bad hm]
  clear hm
  rcases h with rfl | rfl | rfl
  all_goals
    go_enter Tryz.func22, Tryz.ntmps22
    go_wp2_with (go_at_call 40; refine (rClass_at b _ hb hc _).mono ?_; rintro e w' ⟨rfl, dr, rfl⟩)
    go_ret2
    exact ⟨rfl, _, rfl⟩

theorem rMilli_neg (b : Nat) (hb : b < 18446744073709551616) (hc : Hid (cls b = 4)) (ho : FloatKind.f64.format.order b 0 = some .lt) (hm : mbad b = true) (w : World) :
    Calls Tryz.prog 22 #[.float .f64 b] w fun e w' => e = .returned (.tuple #[.int .i64 (mn b : Nat), .int .i64 (me b : Nat)]) ∧ ∃ n, w' = w.drewN n := by
  rw [mn_bad hm, me_bad hm]
  clear hm
  go_enter Tryz.func22, Tryz.ntmps22
  go_wp2_with (go_at_call 40; refine (rClass_at b _ hb hc _).mono ?_; rintro e w' ⟨rfl, dr, rfl⟩)
  go_ret2
  exact ⟨rfl, _, rfl⟩

theorem rMilli_over (b c : Nat) (hb : b < 18446744073709551616) (hc : Hid (cls b = c)) (c1 : 2 ≤ c) (c2 : c ≤ 4) (ho' : (FloatKind.f64.format.order b 0 == some .lt) = false)
    (h6 : FloatKind.f64.format.order b 4696837146684686336 = some .gt) (hn : mn b = 0) (he : me b = 6) (w : World) :
    Calls Tryz.prog 22 #[.float .f64 b] w fun e w' => e = .returned (.tuple #[.int .i64 (mn b : Nat), .int .i64 (me b : Nat)]) ∧ ∃ n, w' = w.drewN n := by
  rw [hn, he]
  clear hn he
  have hr : ((c : Int) == 0) = false := by simp; omega
  have hr1 : ((c : Int) == 1) = false := by simp; omega
  have hr5 : ((c : Int) == 5) = false := by simp; omega
  go_enter Tryz.func22, Tryz.ntmps22
  go_wp2_with (go_at_call 40; refine (rClass_at b _ hb hc _).mono ?_; rintro e w' ⟨rfl, dr, rfl⟩)
  go_ret2
  exact ⟨rfl, _, rfl⟩

theorem rMilli_any (b : Nat) (hb : b < 18446744073709551616) (w : World) :
    Calls Tryz.prog 22 #[.float .f64 b] w fun e w' => e = .returned (.tuple #[.int .i64 (mn b : Nat), .int .i64 (me b : Nat)]) ∧ ∃ n, w' = w.drewN n := by
  cases h1 : nan b
  · by_cases h2 : rung b = inf
    · have hm : mbad b = true := by
        have : oinf b = true := by unfold oinf; rw [h2]; decide
        unfold mbad; rw [this]; simp
      refine rMilli_class b (cls b) hb (Lib.hid rfl) ?_ hm w
      unfold cls
      rw [h1]
      unfold rung inf at h2
      by_cases h3 : b = 18442240474082181120
      · right; left
        have : ninf b = true := by unfold ninf; simpa using h3
        simp [this]
      · right; right
        have e1 : ninf b = false := by unfold ninf; simpa using h3
        have e2 : pinf b = true := by unfold pinf; simp; omega
        simp [e1, e2]
    · have hoi : oinf b = false := by unfold oinf; simpa [inf] using h2
      have hlt : rung b < inf := by rw [nan_f] at h1; omega
      have e1 : ninf b = false := by unfold ninf; unfold rung inf at hlt; simp; omega
      have e2 : pinf b = false := by unfold pinf; unfold rung inf at hlt; simp; omega
      by_cases h3 : key b < 0
      · have hm : mbad b = true := by unfold mbad; rw [h1, hoi]; simpa using h3
        refine rMilli_neg b hb (Lib.hid ?_) (order0_lt b hb h1 h3) hm w
        unfold cls; rw [h1, e1, e2]
        have : ¬ rung b = 0 := by unfold key at h3; split at h3 <;> omega
        simp [this]
      · have hm : mbad b = false := by unfold mbad; rw [h1, hoi]; simpa using h3
        have hk := key_rung (b := b) (by omega)
        have ho' : (FloatKind.f64.format.order b 0 == some .lt) = false := by
          rcases Int.lt_trichotomy (key b) 0 with h | h | h
          · omega
          · rw [order0_eq b hb h1 h]; rfl
          · rw [order0_gt b hb h1 h]; rfl
        have hcc : 2 ≤ cls b ∧ cls b ≤ 4 := by unfold cls; rw [h1, e1, e2]; simp; split <;> (try split) <;> omega
        by_cases h4 : 4696837146684686336 < rung b
        · have h5 : 1000000 < mil (rung b) := by
            have := mil_mono (Nat.le_of_lt h4)
            rw [mil_million] at this; omega
          have h6 := order_gt b 4696837146684686336 hb (by omega) h1 nan_million (by rw [hk, key_million]; omega)
          exact rMilli_over b (cls b) hb (Lib.hid rfl) hcc.1 hcc.2 ho' h6 (mn_over hm h5) (me_over hm h5) w
        · have h6 : (FloatKind.f64.format.order b 4696837146684686336 == some .gt) = false := by
            rcases Int.lt_or_eq_of_le (show key b ≤ 4696837146684686336 by omega) with h | h
            · rw [order_lt b _ hb (by omega) h1 nan_million (by rw [key_million]; exact h)]; rfl
            · rw [order_eq b _ hb (by omega) h1 nan_million (by rw [key_million]; exact h)]; rfl
          have hr : rung b < 18446744073709551616 := by unfold rung; omega
          have hmil := mil_at (rung b) (by unfold lift; omega)
          have hmag : (rung b / 4503599627370496 = 0 ∧ mag (rung b) = rung b % 4503599627370496) ∨ (0 < rung b / 4503599627370496 ∧ mag (rung b) = rung b % 4503599627370496 + 4503599627370496) := by
            unfold mag lift; omega
          have hK : ((1073 - lift (rung b) : Nat) : Int) + 1 = 1075 - max ((rung b / 4503599627370496 : Nat) : Int) 1 := by unfold lift; omega
          have hK1 : 1074 - lift (rung b) = (1073 - lift (rung b)) + 1 := by unfold lift; omega
          rw [hK1] at hmil
          refine rMilli_loop b hb w h1 (rung b) (cls b) (rung b / 4503599627370496) (rung b % 4503599627370496) (mil (rung b)) (1073 - lift (rung b)) (mag (rung b)) (mn b) (me b) (Lib.hid rfl) hcc.1 hcc.2 ho' h6
            (and_r63 b hb) (and_r52 _ hr) (by omega) (by omega) (by omega) hmag hK hmil.symm ?_
          by_cases h5 : 1000000 < mil (rung b)
          · exact Or.inl ⟨h5, mn_over hm h5, me_over hm h5⟩
          · exact Or.inr ⟨by omega, mn_ok hm (by omega), me_ok hm (by omega)⟩
  · refine rMilli_class b (cls b) hb (Lib.hid rfl) ?_ (by unfold mbad; rw [h1]; rfl) w
    left; unfold cls; rw [h1]; simp

end Go.Proofs.YtcdkibadnelgiaaGreatDoor.Real

namespace Go.Proofs.YtcdkibadnelgiaaGreatDoor.Real
open Go.RowKit Go.Lib

theorem bdrew {B : Nat} {a w : World} (h : Below B a w) (n : Nat) : Below B a (w.drewN n) := ⟨h.os, h.tape, h.output, h.size, h.block⟩

theorem quo00_run (t : TypeId) (w : World) : (binOp .quo t (.float .f64 0) (.float .f64 0)).run Tryz.prog w = .ok (.float .f64 (someNan 0 w)) w.drew := by
  have hs : FloatKind.f64.format.div 0 0 = none := by decide +kernel
  simp [binOp, Op.floatArith, hs, someNan, Question.forced]
theorem quo10_run (t : TypeId) (w : World) : (binOp .quo t (.float .f64 4607182418800017408) (.float .f64 0)).run Tryz.prog w = .ok (.float .f64 9218868437227405312) w :=
  run_float_arith w .quo t .f64 4607182418800017408 0 9218868437227405312 (by decide +kernel)

theorem aw_half (w : World) : Calls Tryz.prog 30 #[.float .f64 4602678819172646912] w fun e w' => e = .returned (.tuple #[.int .i64 500, .int .i64 0]) ∧ w = w' := by
  have h := Milli_any 4602678819172646912 (by omega) w
  rw [show mn 4602678819172646912 = 500 by decide +kernel, show me 4602678819172646912 = 0 by decide +kernel] at h
  exact h
theorem aw_minus (w : World) : Calls Tryz.prog 30 #[.float .f64 9223372036854775808] w fun e w' => e = .returned (.tuple #[.int .i64 0, .int .i64 0]) ∧ w = w' := by
  have h := Milli_any 9223372036854775808 (by omega) w
  rw [show mn 9223372036854775808 = 0 by decide +kernel, show me 9223372036854775808 = 0 by decide +kernel] at h
  exact h
theorem aw_inf (w : World) : Calls Tryz.prog 30 #[.float .f64 9218868437227405312] w fun e w' => e = .returned (.tuple #[.int .i64 0, .int .i64 18]) ∧ w = w' := by
  have h := Milli_any 9218868437227405312 (by omega) w
  rw [show mn 9218868437227405312 = 0 by decide +kernel, show me 9218868437227405312 = 18 by decide +kernel] at h
  exact h
theorem aw_thou (w : World) : Calls Tryz.prog 36 #[.int .i64 1500] w fun e w' => e = .returned (.float .f64 4609434218613702656) ∧ w = w' := by
  have hq := fun t w => run_float_arith (P := Tryz.prog) w .quo t .f64 (floatOfInt .f64 1500) 4652007308841189376 4609434218613702656 (by decide +kernel)
  go_enter Tryz.func36, Tryz.ntmps36
  go_wp2
  go_ret
  exact ⟨rfl, rfl⟩

theorem lt_of_wf {b : Nat} (h : (Lit.float .f64 b).wf = true) : b < 18446744073709551616 := by
  have : b < 2 ^ 64 := by simpa [Lit.wf] using h
  simpa using this

end Go.Proofs.YtcdkibadnelgiaaGreatDoor.Real

namespace Go.Proofs.YtcdkibadnelgiaaGreatDoor.Real
open Go.RowKit Go.Lib

theorem bd {n : Int} (h : (Lit.int .i64 n).wf = true) : -9223372036854775808 ≤ n ∧ n ≤ 9223372036854775807 := bounds_i64 h

theorem Milli_at (b n e : Nat) (hb : b < 18446744073709551616) (h : Hid (mn b = n ∧ me b = e)) (w : World) :
    Calls Tryz.prog 30 #[.float .f64 b] w fun r w' => r = .returned (.tuple #[.int .i64 (n : Nat), .int .i64 (e : Nat)]) ∧ w = w' := by
  rw [← h.out.1, ← h.out.2]; exact Milli_any b hb w

end Go.Proofs.YtcdkibadnelgiaaGreatDoor.Real

namespace Go.Proofs.YtcdkibadnelgiaaGreatDoor.Real
open Go.RowKit Go.Lib

theorem Thousandth_at (n : Int) (m b : Nat) (hm : max (min n 1000000) 0 = (m : Int)) (hb : Hid (floatBits .quo .f64 (floatOfInt .f64 (m : Int)) 4652007308841189376 = some b)) (w : World) :
    Calls Tryz.prog 36 #[.int .i64 n] w fun e w' => e = .returned (.float .f64 b) ∧ w = w' := by
  have hq := fun t w => run_float_arith (P := Tryz.prog) w .quo t .f64 _ _ _ hb.out
  by_cases h2 : n ≤ 1000000
  all_goals by_cases h3 : n < 0
  all_goals try omega
  · obtain rfl : m = 0 := by omega
    rw [show ((0 : Nat) : Int) = 0 from rfl] at hq
    clear hm hb
    go_enter Tryz.func36, Tryz.ntmps36
    go_wp2
    go_ret
    exact ⟨rfl, rfl⟩
  · obtain rfl : n = (m : Int) := by omega
    clear hm hb
    go_enter Tryz.func36, Tryz.ntmps36
    go_wp2
    go_ret
    exact ⟨rfl, rfl⟩
  · obtain rfl : m = 1000000 := by omega
    rw [show ((1000000 : Nat) : Int) = 1000000 from rfl] at hq
    clear hm hb
    go_enter Tryz.func36, Tryz.ntmps36
    go_wp2
    go_ret
    exact ⟨rfl, rfl⟩

theorem milli_of (b m : Nat) (h : b < inf) (hm : mil b = m) (h1 : m ≤ 1000000) : mn b = m ∧ me b = 0 := by
  have hr : rung b = b := by unfold rung; unfold inf at h; omega
  have hb : mbad b = false := by
    unfold mbad
    have a : nan b = false := by rw [nan_f, hr]; omega
    have c : oinf b = false := by unfold oinf; rw [hr]; unfold inf at h; simp; omega
    have d : ¬ key b < 0 := by unfold key; unfold inf at h; rw [if_neg (by omega)]; omega
    rw [a, c]; simpa using d
  rw [mn_ok hb (by rw [hr]; omega), me_ok hb (by rw [hr]; omega), hr]
  exact ⟨hm, rfl⟩

theorem u64_nat {n : Int} (h : (Lit.int .u64 n).wf = true) : ∃ m : Nat, n = (m : Int) ∧ m < 18446744073709551616 := by
  simp only [Lit.wf, IntKind.min, IntKind.max, IntKind.signed, IntKind.bits, Bool.and_eq_true] at h
  exact ⟨n.toNat, by simp at h; omega, by simp at h; omega⟩
theorem u32_nat {n : Int} (h : (Lit.int .u32 n).wf = true) : ∃ m : Nat, n = (m : Int) ∧ m < 4294967296 := by
  simp only [Lit.wf, IntKind.min, IntKind.max, IntKind.signed, IntKind.bits, Bool.and_eq_true] at h
  exact ⟨n.toNat, by simp at h; omega, by simp at h; omega⟩

end Go.Proofs.YtcdkibadnelgiaaGreatDoor.Real
