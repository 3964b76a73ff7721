/- The statement OctetBack as a contract over every input. Conditions: the arguments fit their kinds. -/
import Derived.Test.YtgofeakhkpnibaaOctH
namespace Go.Proofs.Ytgofeakhkpnibaa.Oct
open Go.RowKit Go.Lib Go.Proofs.Ytgofeakhkpnibaa.Byt

theorem two_keep {W W' : World} {g : Nat} {a b : Value} (hb : Below W.heap.size W W') (hg : g < W.heap.size) (h0 : W.cell? ⟨g, 0, none⟩ = some a) (h1 : W.cell? ⟨g, 1, none⟩ = some b) :
    W'.cell? ⟨g, 0, none⟩ = some a ∧ W'.cell? ⟨g, 1, none⟩ = some b ∧ g < W'.heap.size :=
  ⟨(hb.cell (p := ⟨g, 0, none⟩) hg).trans h0, (hb.cell (p := ⟨g, 1, none⟩) hg).trans h1, by have := hb.size; omega⟩
theorem two_new (w : World) (a b : Value) (T : TypeId) : (w.alloc (.cells #[a, b] T)).cell? ⟨w.heap.size, 0, none⟩ = some a ∧ (w.alloc (.cells #[a, b] T)).cell? ⟨w.heap.size, 1, none⟩ = some b ∧ w.heap.size < (w.alloc (.cells #[a, b] T)).heap.size :=
  ⟨by rw [World.cell?_alloc_mark]; rfl, by rw [World.cell?_alloc_mark]; rfl, by simp⟩

theorem cut_mid (a t b : ByteArray) : cutB (a ++ t ++ b) a.size t.size = t := by
  apply ByteArray.ext
  apply Array.toList_inj.1
  show (List.toArray _).toList = _
  simp [ByteArray.data_append, Array.toList_append]

theorem back_walk (n : Nat) (z : Int) (a b : ByteArray) (hn : n < 18446744073709551616) (z0 : 0 ≤ z) (z1 : z < 256) (w : World) :
    Calls Try.prog 4 #[.int .u64 (n : Int), .int .u8 z, .agg #[.string a, .string b]] w fun e w' => e = .returned (.bool true) ∧ Below w.heap.size w w' := by
  by_cases ha : 200 < a.size
  · go_enter Try.func4, Try.ntmps4
    go_wp2_with fail
    refine (awake_any _).mono ?_; rintro e w1 ⟨rfl, hb1⟩
    go_wp2_with fail
    go_ret
    exact ⟨rfl, below_next ((Below.refl _ _).alloc (Nat.le_refl _) _) (by simp) hb1⟩
  by_cases hbb : 200 < b.size
  · go_enter Try.func4, Try.ntmps4
    go_wp2_with fail
    refine (awake_any _).mono ?_; rintro e w1 ⟨rfl, hb1⟩
    go_wp2_with fail
    go_ret
    exact ⟨rfl, below_next ((Below.refl _ _).alloc (Nat.le_refl _) _) (by simp) hb1⟩
  obtain ⟨k, hk⟩ : ∃ k : Nat, 1 + z % 8 = (k : Int) := ⟨(1 + z % 8).toNat, by omega⟩
  obtain ⟨t, ht⟩ : ∃ t : ByteArray, t = ⟨(putL n k).toArray⟩ := ⟨_, rfl⟩
  have hts : t.size = k := by rw [ht]; show (List.toArray _).size = _; rw [List.size_toArray, putL_length]
  have k1 : 1 ≤ k := by omega
  have k8 : k ≤ 8 := by omega
  have hX : (a ++ t ++ b).size ≤ 1000 := by simp; omega
  have hcut : cutB (a ++ t ++ b) a.size k = t := by rw [← hts]; exact cut_mid a t b
  have hin : a.size + k ≤ (a ++ t ++ b).size := by simp; omega
  have htk : takeL 0 t.data.toList = n % 256 ^ k := by rw [ht]; show takeL 0 (putL n k) = _; rw [takeL_putL]; omega
  obtain ⟨m, hm⟩ : ∃ m, m = n % 256 ^ k := ⟨_, rfl⟩
  have HP := Lib.hid (fun w => by
    have := put_any n (k : Int) k w hn (by omega)
    rwa [← ht] at this)
  have HT := Lib.hid (fun w => by
    have := take_yes (a ++ t ++ b) a.size k w hin (by omega) k1 k8
    rwa [hcut, htk, ← hm] at this)
  have HC := Lib.hid (fun w => by
    have := cut_yes (a ++ t ++ b) a.size k w hin (by omega)
    rwa [hcut] at this)
  have HM := Lib.hid hm
  clear hcut htk hm ht hX hin
  obtain ⟨c0, d0, g0⟩ := two_new w (.string a) (.string b) 33
  by_cases hk8 : k < 8
  · obtain ⟨q, hq⟩ : ∃ q, q = 256 ^ k := ⟨_, rfl⟩
    have hw : IntKind.u64.wrap (2 ^ (8 * k)) = (q : Int) := by
      have e : (2 : Int) ^ (8 * k) = ((256 ^ k : Nat) : Int) := by rw [Int.pow_mul, Int.natCast_pow]; rfl
      have h3 : 256 ^ k ≤ 256 ^ 7 := Nat.pow_le_pow_right (by decide) (by omega)
      rw [e, ← hq, IntKind.wrap_u64]
      omega
    have hq0 : 0 < (q : Int) := by have : 0 < 256 ^ k := Nat.pow_pos (by decide); omega
    have hmq : (n : Int) % (q : Int) = (m : Int) := by rw [HM.out, ← hq]; omega
    clear hq
    go_enter Try.func4, Try.ntmps4
    go_wp2_with fail
    refine (HP.out _).mono ?_; rintro e w1 ⟨rfl, hb1⟩
    obtain ⟨c1, d1, g1⟩ := two_keep hb1 g0 c0 d0
    go_wp2_with fail
    refine (HT.out _).mono ?_; rintro e w2 ⟨rfl, hb2⟩
    obtain ⟨c2, d2, g2⟩ := two_keep hb2 g1 c1 d1
    go_wp2_with fail
    refine (HC.out _).mono ?_; rintro e w3 ⟨rfl, hb3⟩
    go_wp2_with fail
    refine (awake_any _).mono ?_; rintro e w4 ⟨rfl, hb4⟩
    go_wp2_with fail
    go_ret
    have h1 := below_next ((Below.refl _ _).alloc (Nat.le_refl _) _) (by simp) hb1
    have h2 := below_next h1 h1.size hb2
    have h3 := below_next h2 h2.size hb3
    exact ⟨rfl, below_next h3 h3.size hb4⟩
  · obtain rfl : k = 8 := by omega
    have hmn : (m : Int) = (n : Int) := by have := HM.out; omega
    clear HM
    go_enter Try.func4, Try.ntmps4
    go_wp2_with fail
    refine (HP.out _).mono ?_; rintro e w1 ⟨rfl, hb1⟩
    obtain ⟨c1, d1, g1⟩ := two_keep hb1 g0 c0 d0
    go_wp2_with fail
    refine (HT.out _).mono ?_; rintro e w2 ⟨rfl, hb2⟩
    obtain ⟨c2, d2, g2⟩ := two_keep hb2 g1 c1 d1
    go_wp2_with fail
    refine (HC.out _).mono ?_; rintro e w3 ⟨rfl, hb3⟩
    go_wp2_with fail
    refine (awake_any _).mono ?_; rintro e w4 ⟨rfl, hb4⟩
    go_wp2_with fail
    go_ret
    have h1 := below_next ((Below.refl _ _).alloc (Nat.le_refl _) _) (by simp) hb1
    have h2 := below_next h1 h1.size hb2
    have h3 := below_next h2 h2.size hb3
    exact ⟨rfl, below_next h3 h3.size hb4⟩
end Go.Proofs.Ytgofeakhkpnibaa.Oct
