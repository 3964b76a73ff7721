/- The statement CrcLinear as a contract over every input. Conditions: the table of effects reads as the program lays it. -/
import Derived.Test.YtcibpeomclllbaaDoorCrcD
import Derived.Laws.Cover1
namespace Go.Proofs.YtcibpeomclllbaaDoor.Crc
open Go.RowKit Go.Lib Go.Proofs.YtcibpeomclllbaaDoor.Byt

theorem min3 (a b c k : Nat) (h : k = min (min a b) c) :
    (if (c : Int) < if (b : Int) < (a : Int) then (b : Int) else (a : Int) then (c : Int) else if (b : Int) < (a : Int) then (b : Int) else (a : Int)) = (k : Int) := by
  split <;> split <;> omega

theorem min_run (a b c k : Nat) (h : k = min (min a b) c) (w : World) :
    (Builtin.min_ #[3, 3, 3] 3 #[.int .i64 (a : Int), .int .i64 (b : Int), .int .i64 (c : Int)]).run Tryd.prog w = .ok (.int .i64 (k : Int)) w := by
  rw [run_min_int3, min3 a b c k h]

theorem quiet {f : FuncId} {args : Array Value} {w : World} {n : Nat} {v : Value} (h : Calls Tryd.prog f args (w.drewN n) fun e w' => e = .returned v ∧ w.drewN n = w') :
    Calls Tryd.prog f args (w.drewN n) fun e w'' => e = .returned v ∧ ∃ m, w'' = w.drewN m := h.mono fun _ _ ⟨a, b⟩ => ⟨a, n, b.symm⟩
/-- The sum of s, wherever only draws lie between. -/
theorem sum_quiet (s : ByteArray) (r : Nat) (hr : mr 0 s.data.toList = r) (hs : s.size ≤ 140737488355328) (W : World) (hT : Tab W) (n : Nat) :
    Calls Tryd.prog 7 #[.string s] (W.drewN n) fun e w'' => e = .returned (.int .u32 (r : Int)) ∧ ∃ m, w'' = W.drewN m := by
  subst hr
  exact quiet (sum_any s _ hs (tab_drewN hT n))
theorem more_quiet (c : Nat) (s : ByteArray) (r : Nat) (hr : mr c s.data.toList = r) (hc : c < 4294967296) (hs : s.size ≤ 140737488355328) (W : World) (hT : Tab W) (n : Nat) :
    Calls Tryd.prog 9 #[.int .u32 (c : Int), .string s] (W.drewN n) fun e w'' => e = .returned (.int .u32 (r : Int)) ∧ ∃ m, w'' = W.drewN m := by
  subst hr
  exact quiet (more_any c s _ hc hs (tab_drewN hT n))
theorem awake_quiet (W : World) (hT : Tab W) (n : Nat) :
    Calls Tryd.prog 6 #[] (W.drewN n) fun e w'' => e = .returned (.bool true) ∧ ∃ m, w'' = W.drewN m := quiet (awake_any _ (tab_drewN hT n))

set_option maxHeartbeats 2000000 in
set_option maxRecDepth 100000 in
theorem linear_walk (s t u : ByteArray) (w : World) (hT : Tab w) :
    Calls Tryd.prog 5 #[.string s, .string t, .string u] w fun e w' => e = .returned (.bool true) ∧ Below w.heap.size w w' := by
  obtain ⟨k, hk⟩ : ∃ k : Nat, k = min (min s.size t.size) u.size := ⟨_, rfl⟩
  have hks : k ≤ s.size := by omega
  have hkt : k ≤ t.size := by omega
  have hku : k ≤ u.size := by omega
  have hm := fun w => min_run _ _ _ _ hk w
  clear hk
  by_cases hbig : 3000 < k
  · have HA := Lib.hid (awake_any w hT)
    go_enter Tryd.func5, Tryd.ntmps5
    go_wp2_with (go_at_call 6; refine HA.out.mono ?_; rintro e w1 ⟨rfl, rfl⟩)
    go_ret
    exact ⟨rfl, Below.refl _ _⟩
  have hk3 : k ≤ 3000 := by omega
  clear hbig
  have HM := Lib.hid (three_mr s t u k hks hkt hku)
  have HG := Lib.hid (fun m hm => three_get s t u k m hm (by omega) (by omega) (by omega))
  have hl := three_len s t u k hks hkt hku
  generalize three s t u k = L at *
  have hz0 := fill_zero L
  rw [hl] at hz0
  go_enter Tryd.func5, Tryd.ntmps5
  go_wp2_with (with_reducible refine wpList_made _ rfl _ _ rfl w.heap.size w (Below.refl _ _) (Nat.le_refl _) _ _ k rfl rfl rfl rfl (by omega) ?_; intro w1 hown1 hb1)
  rw [← hz0] at hown1
  go_loopw [23, 9] (fun i j wr => ∃ m : Nat, m ≤ k ∧ i = .int .i64 m ∧ Own wr w.heap.size (.slice (some ⟨w.heap.size, 0, none⟩) k k) (fill L m) ∧ Below w.heap.size w wr)
    (fun i _ _ => k - (RowKit.intOf i).toNat)
  case atStart => exact ⟨0, Nat.zero_le _, rfl, hown1, hb1⟩
  case round =>
    obtain ⟨m, hm, rfl, hown, hb⟩ := hrel
    by_cases hlt : m < k
    · have hown := hown.drew
      have hb := hb.drew
      have hf := hown.free m
      have hms : m < s.size := by omega
      have hmt : m < t.size := by omega
      have hmu : m < u.size := by omega
      have hx := byte_xor3 s[m] t[m] u[m]
      have hcl := hown.set_ m (s[m] ^^^ t[m] ^^^ u[m]) _ hx
      rw [fill_step L m _ (HG.out m hlt)] at hcl
      have hbl := below_set hb (Nat.le_refl _) m (.int .u8 (bits .xor .u8 (bits .xor .u8 (s[m].toNat : Int) (t[m].toNat : Int)) (u[m].toNat : Int)))
      have hc := hown.cell m hlt
      have HC := Lib.hid hcl
      have HB := Lib.hid hbl
      clear hx hcl hbl
      go_wp2_with fail
      go_still_tail 14, (by kernel_rfl)
      change wpList _ _ _ _ _ wr.drew
      generalize wr.drew = w2 at *
      go_wp2_with fail
      go_roundw
      case rel => exact ⟨m + 1, by omega, by go_num, HC.out, HB.out⟩
      case measure => simp [RowKit.intOf]; omega
    · obtain rfl : m = k := by omega
      rw [← hl, fill_all, hl] at hown
      have hmr := HM.out
      have T := tab_below hT hb
      have hz1 := cutB_size s 0 m (by omega)
      have hz2 := cutB_size t 0 m (by omega)
      have hz3 := cutB_size u 0 m (by omega)
      have hs1 := fun w => slice_to s m hks w
      have hs2 := fun w => slice_to t m hkt w
      have hs3 := fun w => slice_to u m hku w
      generalize cutB s 0 m = s1 at *
      generalize cutB t 0 m = t1 at *
      generalize cutB u 0 m = u1 at *
      have hstr := fun n => run_string (wr.drewN n) _ _ _ (hown.drewN n)
      have l1 := mr_lt 0 s1.data.toList
      have l2 := mr_lt 0 t1.data.toList
      have l3 := mr_lt 0 u1.data.toList
      have happ : mr (mr 0 s1.data.toList) t1.data.toList = mr 0 (s1 ++ t1).data.toList := by
        rw [ByteArray.data_append, Array.toList_append, mr_append]
      have hz4 : (s1 ++ t1).size ≤ 6000 := by simp; omega
      have x1 := u32_xor_nat _ _ l1 l2
      have x2 := u32_xor_nat _ _ (xor32 l1 l2) l3
      rw [← hmr] at x2
      obtain ⟨q, hq⟩ : ∃ q, mr 0 (s1 ++ t1).data.toList = q := ⟨_, rfl⟩
      obtain ⟨r0, hr0⟩ : ∃ r, mr 0 L = r := ⟨_, rfl⟩
      obtain ⟨r1, hr1⟩ : ∃ r, mr 0 s1.data.toList = r := ⟨_, rfl⟩
      obtain ⟨r2, hr2⟩ : ∃ r, mr 0 t1.data.toList = r := ⟨_, rfl⟩
      obtain ⟨r3, hr3⟩ : ∃ r, mr 0 u1.data.toList = r := ⟨_, rfl⟩
      have hLz : (ByteArray.mk L.toArray).size ≤ 3000 := by show L.toArray.size ≤ 3000; rw [List.size_toArray]; omega
      have H0 := Lib.hid (sum_quiet ⟨L.toArray⟩ r0 hr0 (by omega))
      have H1 := Lib.hid (sum_quiet s1 r1 hr1 (by omega))
      have H2 := Lib.hid (sum_quiet t1 r2 hr2 (by omega))
      have H3 := Lib.hid (sum_quiet u1 r3 hr3 (by omega))
      have H4 := Lib.hid (sum_quiet (s1 ++ t1) q hq (by omega))
      have H5 := Lib.hid (more_quiet r1 t1 q (by rw [← hq, ← happ, hr1]) (by rw [← hr1]; exact l1) (by omega))
      have H6 := Lib.hid awake_quiet
      rw [hr1, hr2] at x1
      rw [hr1, hr2, hr3, hr0] at x2
      generalize r1 ^^^ r2 = r12 at *
      clear happ hq hr0 hr1 hr2 hr3 hmr HM HG l1 l2 l3 hz0 hl hLz hown1 hb1 hlt
      have e1 : decide ((s.size : Int) < (m : Int)) = false := decide_eq_false (by omega)
      have e2 : decide ((t.size : Int) < (m : Int)) = false := decide_eq_false (by omega)
      have e3 : decide ((u.size : Int) < (m : Int)) = false := decide_eq_false (by omega)
      go_wp2_with fail
      go_quiet (first
        | (go_at_call 7; first | (with_reducible exact H0.out _ T _) | (with_reducible exact H1.out _ T _) | (with_reducible exact H2.out _ T _) | (with_reducible exact H3.out _ T _)))
      go_wp2_with fail
      have TQ := tab_drewN T nq
      have hbq := below_drewN (n := nq) hb
      generalize wr.drewN nq = wq at *
      go_quiet (first
        | (go_at_call 7; first | (with_reducible exact H1.out _ TQ _) | (with_reducible exact H4.out _ TQ _))
        | (go_at_call 9; with_reducible exact H5.out _ TQ _)
        | (go_at_call 6; exact H6.out _ TQ _))
      go_wp2_with fail
      go_ret
      exact ⟨rfl, below_drewN hbq⟩
end Go.Proofs.YtcibpeomclllbaaDoor.Crc
