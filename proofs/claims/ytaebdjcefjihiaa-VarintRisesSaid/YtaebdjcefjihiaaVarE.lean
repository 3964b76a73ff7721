/- The statements VarintRises and VarintZigs as contracts over every input. Conditions: the arguments fit their kinds. -/
import Derived.Test.YtaebdjcefjihiaaVarD
namespace Go.Proofs.Ytaebdjcefjihiaa.Var
open Go.RowKit Go.Lib Go.Proofs.Ytaebdjcefjihiaa.Byt

/-- The string that Put gives. -/
def putS (n : Nat) : ByteArray := ⟨(putV n).toArray⟩
theorem putS_size (n : Nat) : (putS n).size = (putV n).length := by
  show (List.toArray _).size = _; simp
theorem putS_list (n : Nat) : (putS n).toList = putV n := ByteArray.toList_mk _
theorem putS_ne {a b : Nat} (h : a ≠ b) : ((putS a).toList == (putS b).toList) = false := by
  rw [putS_list, putS_list, beq_eq_false_iff_ne]; exact fun h2 => h (putV_inj h2)
theorem puts_any (n : Nat) (w : World) (hn : n < 18446744073709551616) :
    Calls Try.prog 12 #[.int .u64 (n : Int)] w fun e w' => e = .returned (.string (putS n)) ∧ Below w.heap.size w w' := put_any n w hn

theorem rises_walk (a b : Nat) (ha : a < 18446744073709551616) (hb : b < 18446744073709551616) (w : World) :
    Calls Try.prog 6 #[.int .u64 (a : Int), .int .u64 (b : Int)] w fun e w' => e = .returned (.bool true) ∧ Below w.heap.size w w' := by
  have HA := Lib.hid (fun w => puts_any a w ha)
  have HB := Lib.hid (fun w => puts_any b w hb)
  have hsz : ∀ x y, x ≤ y → (putS x).size ≤ (putS y).size := fun x y h => by rw [putS_size, putS_size]; exact putV_mono y x h
  rcases Nat.lt_trichotomy a b with h | h | h
  · have hs := hsz a b (by omega)
    have hab : ((a : Int) == (b : Int)) = false := by rw [beq_eq_false_iff_ne]; omega
    have hne : ((putS a).toList == (putS b).toList) = false := putS_ne (by omega)
    clear hsz
    generalize putS a = u at *
    generalize putS b = v at *
    go_enter Try.func6, Try.ntmps6
    go_wp2_with fail
    refine (HA.out _).mono ?_; rintro e w1 ⟨rfl, hb1⟩
    go_wp2_with fail
    refine (HB.out _).mono ?_; rintro e w2 ⟨rfl, hb2⟩
    go_wp2_with fail
    refine (awake_any _).mono ?_; rintro e w3 ⟨rfl, hb3⟩
    go_wp2_with fail
    go_ret
    have h2 := below_next hb1 hb1.size hb2
    exact ⟨rfl, below_next h2 h2.size hb3⟩
  · subst h
    clear hsz HB
    generalize putS a = u at *
    go_enter Try.func6, Try.ntmps6
    go_wp2_with fail
    refine (HA.out _).mono ?_; rintro e w1 ⟨rfl, hb1⟩
    go_wp2_with fail
    refine (HA.out _).mono ?_; rintro e w2 ⟨rfl, hb2⟩
    go_wp2_with fail
    refine (awake_any _).mono ?_; rintro e w3 ⟨rfl, hb3⟩
    go_wp2_with fail
    go_ret
    have h2 := below_next hb1 hb1.size hb2
    exact ⟨rfl, below_next h2 h2.size hb3⟩
  · have hs := hsz b a (by omega)
    have hab : ((a : Int) == (b : Int)) = false := by rw [beq_eq_false_iff_ne]; omega
    have hne : ((putS b).toList == (putS a).toList) = false := putS_ne (by omega)
    clear hsz
    generalize putS a = u at *
    generalize putS b = v at *
    go_enter Try.func6, Try.ntmps6
    go_wp2_with fail
    refine (HB.out _).mono ?_; rintro e w1 ⟨rfl, hb1⟩
    go_wp2_with fail
    refine (HA.out _).mono ?_; rintro e w2 ⟨rfl, hb2⟩
    go_wp2_with fail
    refine (awake_any _).mono ?_; rintro e w3 ⟨rfl, hb3⟩
    go_wp2_with fail
    go_ret
    have h2 := below_next hb1 hb1.size hb2
    exact ⟨rfl, below_next h2 h2.size hb3⟩

theorem zigs_walk (n : Int) (u : Nat) (h : -9223372036854775808 ≤ n) (h' : n ≤ 9223372036854775807) (hu : u < 18446744073709551616) (w : World) :
    Calls Try.prog 5 #[.int .i64 n, .int .u64 (u : Int)] w fun e w' => e = .returned (.bool true) ∧ Below w.heap.size w w' := by
  have hzl := zg_lt n h h'
  have hx := za_bd u hu
  have H1 := Lib.hid (fun w => zig_any n w h h')
  have H2 := Lib.hid (fun w => by have := zag_any (zg n) w hzl; rwa [za_zg] at this)
  have H3 := Lib.hid (fun w => zag_any u w hu)
  have H4 := Lib.hid (fun w => by have := zig_any (za u) w hx.1 hx.2; rwa [zg_za] at this)
  have H5 := Lib.hid (fun w => puts_any (zg n) w hzl)
  have hp : (putS (zg n)).size ≤ 10 := by rw [putS_size]; exact putV_len10 _ hzl
  have hc : (n < 0 ∧ ((zg n : Int) % 2 == 1) = true) ∨ (0 ≤ n ∧ 2305843009213693952 < n ∧ ((zg n : Int) % 2 == 1) = false) ∨ (0 ≤ n ∧ n ≤ 2305843009213693952 ∧ ((zg n : Int) % 2 == 1) = false ∧ ((zg n : Int) == n * 2) = true) := by
    have h1 := zg_odd n
    by_cases h2 : n < 0
    · exact .inl ⟨h2, by rw [beq_iff_eq]; have := h1.2 h2; omega⟩
    · have h3 : ((zg n : Int) % 2 == 1) = false := by rw [beq_eq_false_iff_ne]; intro h4; exact h2 (h1.1 (by omega))
      by_cases h4 : n ≤ 2305843009213693952
      · exact .inr (.inr ⟨by omega, h4, h3, by rw [beq_iff_eq]; have := zg_pos n (by omega); omega⟩)
      · exact .inr (.inl ⟨by omega, by omega, h3⟩)
  generalize putS (zg n) = p at *
  generalize zg n = z at *
  generalize za u = x at *
  clear hzl
  rcases hc with ⟨c1, c2⟩ | ⟨c1, c2, c3⟩ | ⟨c1, c2, c3, c4⟩
  all_goals
    go_enter Try.func5, Try.ntmps5
    go_wp2_with fail
    refine (H1.out _).mono ?_; rintro e w1 ⟨rfl, rfl⟩
    go_wp2_with fail
    refine (H2.out _).mono ?_; rintro e w1 ⟨rfl, rfl⟩
    go_wp2_with fail
    refine (H3.out _).mono ?_; rintro e w1 ⟨rfl, rfl⟩
    go_wp2_with fail
    refine (H4.out _).mono ?_; rintro e w1 ⟨rfl, rfl⟩
    go_wp2_with fail
    refine (H5.out _).mono ?_; rintro e w1 ⟨rfl, hb1⟩
    go_wp2_with fail
    refine (awake_any _).mono ?_; rintro e w3 ⟨rfl, hb3⟩
    go_wp2_with fail
    go_ret
    exact ⟨rfl, below_next hb1 hb1.size hb3⟩
end Go.Proofs.Ytaebdjcefjihiaa.Var
