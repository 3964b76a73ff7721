/- Plain facts of many brackets: where the fault stands; levels of a value without overflow. Conditions: as each theorem states. · The laws of many brackets and of what is right. Conditions: the two tables of unicode/utf8 are as its text lays them, the two sentinels of strconv hold errors; as each theorem states. · The law of what is right. Conditions: the two tables of unicode/utf8 are as its text lays them, the two sentinels of strconv hold errors; as each theorem states. -/
import Derived.Test.YteinaclkpickaaaDoorParG1
import Derived.Test.YteinaclkpickaaaDoorTreG1
import Derived.Test.YteinaclkpickaaaDoorParG3
import Derived.Test.YteinaclkpickaaaDoorTreG3
import Derived.Test.YteinaclkpickaaaDoorTreG2
namespace Go.Proofs.YteinaclkpickaaaDoor.Par
open Go.Lib Go.Proofs.YteinaclkpickaaaDoor.Utf Go.Proofs.YteinaclkpickaaaDoor.Quo Go.Proofs.YteinaclkpickaaaDoor.Lx
open Go.Proofs.YteinaclkpickaaaDoor.Tre (Vt V0 dep depL dpw dpwL vt_ind)

theorem depL_mem {x : Vt} : ∀ {l : List Vt}, x ∈ l → dep x ≤ depL l
  | [], h => by cases h
  | y :: l, h => by
    rw [depL]
    rcases List.mem_cons.1 h with rfl | h
    · omega
    · have := depL_mem h; omega
theorem dpwL_dep : ∀ (l : List Vt), (∀ x ∈ l, dpw x = (dep x : Int)) → dpwL l = (depL l : Int)
  | [], _ => by rw [dpwL, depL]; rfl
  | x :: l, h => by
    rw [dpwL, depL, h x List.mem_cons_self, dpwL_dep l fun y hy => h y (List.mem_cons_of_mem _ hy)]
    omega
theorem dpw_dep (v : Vt) : dep v ≤ 1000000 → dpw v = (dep v : Int) := by
  refine vt_ind (p := fun v => dep v ≤ 1000000 → dpw v = (dep v : Int)) ?_ v
  intro v ih hd
  cases v with
  | mk k n s l ns =>
    rw [dpw]
    rw [dep] at hd ⊢
    by_cases hk : k = 4 ∨ k = 5
    · rw [if_pos hk] at hd ⊢
      rw [if_pos hk, dpwL_dep l fun x hx => ih x hx (by have := depL_mem hx; omega), IntKind.wrap_i64]
      omega
    · rw [if_neg hk, if_neg hk]; rfl

/-! ### many brackets -/
/-- So many openings, and a nought. -/
def dp (U : List UInt8) : Nat → List UInt8
  | 0 => [48]
  | k + 1 => U ++ dp U k
theorem dp_len (U : List UInt8) : ∀ k, (dp U k).length = k * U.length + 1
  | 0 => by simp [dp]
  | k + 1 => by rw [dp, List.length_append, dp_len U k, Nat.succ_mul]; omega
theorem dp_drop (U : List UInt8) : ∀ (j k : Nat), j ≤ k → (dp U k).drop (j * U.length) = dp U (k - j)
  | 0, k, _ => by simp
  | j + 1, 0, h => by omega
  | j + 1, k + 1, h => by
    rw [dp, show (j + 1) * U.length = U.length + j * U.length by rw [Nat.succ_mul]; omega, ← List.drop_drop, List.drop_left' rfl, dp_drop U j k (by omega), show k + 1 - (j + 1) = k - j by omega]
theorem nt_at {l m : List UInt8} {p k z : Nat} {v : List UInt8} {n : Int} (hd : l.drop p = m) (h : nx m = (0, ⟨k, 0, z, v, n⟩)) : nt l p = .ok ⟨k, p, z, v, n⟩ (p + z) := by
  unfold nt
  rw [hd, h, if_pos rfl]
  rfl
theorem nx_of {m : List UInt8} {k z : Nat} {v : List UInt8} {n : Int} (hb : bl (hd m) = false) (h : tok m = (0, ⟨k, 0, z, v, n⟩)) : nx m = (0, ⟨k, 0, z, v, n⟩) := by
  unfold nx
  rw [skp_none hb, List.drop_zero, h]
  show (0, Tk.sh 0 _) = _
  unfold Tk.sh
  simp
theorem nx_sg {c : UInt8} (m : List UInt8) (h : sg c.toNat ≠ 0) (hb : bl c.toNat = false) : nx (c :: m) = (0, ⟨sg c.toNat, 0, 1, [], 0⟩) := by
  refine nx_of hb ?_
  unfold tok
  rw [if_neg (by simp), if_pos (show sg (hd (c :: m)) ≠ 0 from h)]
  rfl
theorem nx_a (m : List UInt8) : nx (34 :: 97 :: 34 :: m) = (0, ⟨7, 0, 3, [97], 0⟩) := by
  refine nx_of rfl ?_
  have e0 : tkQ ([97, 34] ++ []) = (0, 2, [97]) := by decide +kernel
  have e : tkQ (97 :: 34 :: m) = (0, 2, [97]) := by
    have := tkQ_keep [97, 34] [] m (by rw [e0]) (by rw [e0]; simp)
    rw [e0] at this
    exact this
  unfold tok
  rw [if_neg (by simp), if_neg (show ¬ sg (hd (34 :: 97 :: 34 :: m)) ≠ 0 from (by decide : ¬ sg 34 ≠ 0)), if_pos (show hd (34 :: 97 :: 34 :: m) = 34 from rfl)]
  unfold txt
  rw [show List.drop 1 (34 :: 97 :: 34 :: m) = 97 :: 34 :: m from rfl, e, if_pos rfl]
theorem nx_0 : nx [48] = (0, ⟨8, 0, 1, [], 0⟩) := by kernel_rfl
theorem nx_e : nx [] = (0, ⟨0, 0, 0, [], 0⟩) := by kernel_rfl
/-- Where the fault of so many brackets stands, and which. -/
def dR {α : Type} (u k : Nat) : Rs α := if 64 < k then .no (64 * u) 10 else .no (k * u + 1) 3
theorem dR_bnd {α β : Type} (u k : Nat) (f : α → Nat → Rs β) : bnd (dR u k) f = dR u k := by
  unfold dR; split <;> rfl
theorem bnd_ok {α β : Type} (x : α) (p : Nat) (f : α → Nat → Rs β) : bnd (.ok x p) f = f x p := rfl
theorem deep_list (k : Nat) : ∀ (f lv : Nat), lv < k → lv ≤ 64 → k + 2 ≤ f + lv → val (nt (dp [91] k)) f ⟨3, lv, 1, [], 0⟩ lv (lv + 1) = dR 1 k
  | 0, lv, h, _, hf => by omega
  | f + 1, lv, h, hlv, hf => by
    rw [val]
    rw [if_neg (show ¬ (3 : Nat) = 11 by omega), if_neg (show ¬ (3 : Nat) = 10 by omega), if_neg (show ¬ (3 : Nat) = 9 by omega), if_neg (show ¬ (3 : Nat) = 8 by omega), if_neg (show ¬ (3 : Nat) = 7 by omega), if_pos (show (3 : Nat) = 3 from rfl)]
    by_cases h64 : lv = 64
    · rw [if_pos h64]
      unfold dR
      rw [if_pos (show 64 < k by omega), h64]
    · rw [if_neg h64, lst0]
      have hdr := dp_drop [91] (lv + 1) k (by omega)
      simp only [List.length_cons, List.length_nil, Nat.zero_add, Nat.mul_one] at hdr
      obtain ⟨g, rfl⟩ : ∃ g, f = g + 1 := ⟨f - 1, by omega⟩
      by_cases hk : lv + 1 = k
      · have e1 : k - (lv + 1) = 0 := by omega
        rw [e1] at hdr
        rw [nt_at hdr nx_0]
        show bnd (bnd (val (nt (dp [91] k)) (g + 1) ⟨8, lv + 1, 1, [], 0⟩ (lv + 1) (lv + 1 + 1)) _) _ = _
        rw [show val (nt (dp [91] k)) (g + 1) ⟨8, lv + 1, 1, [], 0⟩ (lv + 1) (lv + 1 + 1) = .ok (.mk 2 0 ⟨#[]⟩ [] []) (lv + 1 + 1) by rw [val]; rfl]
        have hd2 : (dp [91] k).drop (lv + 1 + 1) = [] := List.drop_of_length_le (by rw [dp_len]; simp; omega)
        show bnd (bnd (nt _ _) _) _ = _
        rw [nt_at hd2 nx_e]
        unfold dR
        rw [if_neg (show ¬ 64 < k by omega)]
        show Rs.no _ _ = Rs.no _ _
        congr 1
        show lv + 1 + 1 = _
        omega
      · obtain ⟨m, hm⟩ : ∃ m, k - (lv + 1) = m + 1 := ⟨k - (lv + 1) - 1, by omega⟩
        rw [hm] at hdr
        have hnx : nx (dp [91] (m + 1)) = (0, ⟨3, 0, 1, [], 0⟩) := nx_sg (c := 91) (dp [91] m) (by decide) (by decide)
        rw [nt_at hdr hnx]
        show bnd (bnd (val (nt (dp [91] k)) (g + 1) ⟨3, lv + 1, 1, [], 0⟩ (lv + 1) (lv + 1 + 1)) _) _ = _
        rw [deep_list k (g + 1) (lv + 1) (by omega) (by omega) (by omega), dR_bnd, dR_bnd]
theorem deep_obj (k : Nat) : ∀ (f lv : Nat), lv < k → lv ≤ 64 → k + 2 ≤ f + lv → val (nt (dp [123, 34, 97, 34, 58] k)) f ⟨1, lv * 5, 1, [], 0⟩ lv (lv * 5 + 1) = dR 5 k
  | 0, lv, h, _, hf => by omega
  | f + 1, lv, h, hlv, hf => by
    rw [val]
    rw [if_neg (show ¬ (1 : Nat) = 11 by omega), if_neg (show ¬ (1 : Nat) = 10 by omega), if_neg (show ¬ (1 : Nat) = 9 by omega), if_neg (show ¬ (1 : Nat) = 8 by omega), if_neg (show ¬ (1 : Nat) = 7 by omega), if_neg (show ¬ (1 : Nat) = 3 by omega), if_pos (show (1 : Nat) = 1 from rfl)]
    by_cases h64 : lv = 64
    · rw [if_pos h64]
      unfold dR
      rw [if_pos (show 64 < k by omega), h64]
    · rw [if_neg h64, obj0]
      obtain ⟨m, hm⟩ : ∃ m, k - lv = m + 1 := ⟨k - lv - 1, by omega⟩
      have hdr0 := dp_drop [123, 34, 97, 34, 58] lv k (by omega)
      rw [hm] at hdr0
      simp only [List.length_cons, List.length_nil, Nat.zero_add, Nat.reduceAdd] at hdr0
      have hdr : (dp [123, 34, 97, 34, 58] k).drop (lv * 5 + 1) = 34 :: 97 :: 34 :: (58 :: dp [123, 34, 97, 34, 58] m) := by rw [← List.drop_drop, hdr0]; rfl
      have hdr2 : (dp [123, 34, 97, 34, 58] k).drop (lv * 5 + 1 + 3) = 58 :: dp [123, 34, 97, 34, 58] m := by rw [← List.drop_drop, hdr]; rfl
      have hdr3 : (dp [123, 34, 97, 34, 58] k).drop (lv * 5 + 1 + 3 + 1) = dp [123, 34, 97, 34, 58] m := by rw [← List.drop_drop, hdr2]; rfl
      obtain ⟨g, rfl⟩ : ∃ g, f = g + 1 := ⟨f - 1, by omega⟩
      rw [nt_at hdr (nx_a _)]
      show bnd (bnd (nt _ (lv * 5 + 1 + 3)) _) _ = _
      rw [nt_at hdr2 (nx_sg (c := 58) _ (by decide) (by decide))]
      show bnd (bnd (nt _ (lv * 5 + 1 + 3 + 1)) _) _ = _
      by_cases hk : m = 0
      · subst hk
        rw [nt_at hdr3 nx_0, bnd_ok]
        show bnd (bnd (val (nt (dp [123, 34, 97, 34, 58] k)) (g + 1) ⟨8, lv * 5 + 1 + 3 + 1, 1, [], 0⟩ (lv + 1) (lv * 5 + 1 + 3 + 1 + 1)) _) _ = _
        rw [show val (nt (dp [123, 34, 97, 34, 58] k)) (g + 1) ⟨8, lv * 5 + 1 + 3 + 1, 1, [], 0⟩ (lv + 1) (lv * 5 + 1 + 3 + 1 + 1) = .ok (.mk 2 0 ⟨#[]⟩ [] []) (lv * 5 + 1 + 3 + 1 + 1) by rw [val]; rfl]
        have hd2 : (dp [123, 34, 97, 34, 58] k).drop (lv * 5 + 1 + 3 + 1 + 1) = [] := List.drop_of_length_le (by rw [dp_len]; simp; omega)
        show bnd (bnd (nt _ _) _) _ = _
        rw [nt_at hd2 nx_e]
        unfold dR
        rw [if_neg (show ¬ 64 < k by omega)]
        show Rs.no _ _ = Rs.no _ _
        congr 1
        show lv * 5 + 1 + 3 + 1 + 1 = _
        omega
      · obtain ⟨m2, rfl⟩ : ∃ m2, m = m2 + 1 := ⟨m - 1, by omega⟩
        have hnx : nx (dp [123, 34, 97, 34, 58] (m2 + 1)) = (0, ⟨1, 0, 1, [], 0⟩) := nx_sg (c := 123) _ (by decide) (by decide)
        rw [nt_at hdr3 hnx, bnd_ok]
        show bnd (bnd (val (nt (dp [123, 34, 97, 34, 58] k)) (g + 1) ⟨1, lv * 5 + 1 + 3 + 1, 1, [], 0⟩ (lv + 1) (lv * 5 + 1 + 3 + 1 + 1)) _) _ = _
        have hih := deep_obj k (g + 1) (lv + 1) (by omega) (by omega) (by omega)
        rw [show (lv + 1) * 5 = lv * 5 + 1 + 3 + 1 by omega] at hih
        rw [hih, dR_bnd, dR_bnd]
theorem prs_list (F k : Nat) (hk : 0 < k) (hF : k + 2 ≤ F) : prs F (dp [91] k) = dR 1 k := by
  unfold prs
  obtain ⟨m, rfl⟩ : ∃ m, k = m + 1 := ⟨k - 1, by omega⟩
  have hnx : nx (dp [91] (m + 1)) = (0, ⟨3, 0, 1, [], 0⟩) := nx_sg (c := 91) (dp [91] m) (by decide) (by decide)
  rw [nt_at (p := 0) List.drop_zero hnx]
  show bnd (val _ F ⟨3, 0, 1, [], 0⟩ 0 (0 + 1)) _ = _
  rw [deep_list (m + 1) F 0 (by omega) (by omega) (by omega), dR_bnd]
theorem prs_obj (F k : Nat) (hk : 0 < k) (hF : k + 2 ≤ F) : prs F (dp [123, 34, 97, 34, 58] k) = dR 5 k := by
  unfold prs
  obtain ⟨m, rfl⟩ : ∃ m, k = m + 1 := ⟨k - 1, by omega⟩
  have hnx : nx (dp [123, 34, 97, 34, 58] (m + 1)) = (0, ⟨1, 0, 1, [], 0⟩) := nx_sg (c := 123) _ (by decide) (by decide)
  rw [nt_at (p := 0) List.drop_zero hnx]
  have := deep_obj (m + 1) F 0 (by omega) (by omega) (by omega)
  rw [Nat.zero_mul] at this
  show bnd (val _ F ⟨1, 0, 1, [], 0⟩ 0 (0 + 1)) _ = _
  rw [this, dR_bnd]
end Go.Proofs.YteinaclkpickaaaDoor.Par

namespace Go.Proofs.YteinaclkpickaaaDoor.Par
open Go.RowKit Go.Lib Go.Proofs.YteinaclkpickaaaDoor.Byt Go.Proofs.YteinaclkpickaaaDoor.Lx
open Go.Proofs.YteinaclkpickaaaDoor.Tre (Vt V0 OkT wi smB InS InV InS_upd InS_iff InV_iff)

theorem app_list (a b : ByteArray) : (a ++ b).data.toList = a.data.toList ++ b.data.toList := by
  rw [ByteArray.data_append, Array.toList_append]
/-- So many copies. -/
def rp (U : ByteArray) : Nat → ByteArray
  | 0 => ⟨#[]⟩
  | i + 1 => rp U i ++ U
theorem rp_size (U : ByteArray) : ∀ i, (rp U i).size = i * U.size
  | 0 => by rw [Nat.zero_mul]; rfl
  | i + 1 => by rw [rp, ByteArray.size_append, rp_size U i, Nat.succ_mul]
theorem rp_comm (U : ByteArray) : ∀ i, U.data.toList ++ (rp U i).data.toList = (rp U i).data.toList ++ U.data.toList
  | 0 => by show _ ++ [] = [] ++ _; simp
  | i + 1 => by rw [rp, app_list, ← List.append_assoc, rp_comm U i]
theorem rp_dp (U : ByteArray) : ∀ k, (rp U k ++ ⟨#[48]⟩).data.toList = dp U.data.toList k
  | 0 => rfl
  | k + 1 => by
    have ih := rp_dp U k
    rw [app_list] at ih ⊢
    rw [dp, ← ih, rp, app_list, ← List.append_assoc, rp_comm U k]
theorem prS_list (k : Nat) (hk : 0 < k) (h3 : k < 300) : prS (rp ⟨#[91]⟩ k ++ ⟨#[48]⟩) = dR 1 k := by
  unfold prS
  rw [rp_dp]
  exact prs_list _ k hk (by omega)
theorem prS_obj (k : Nat) (hk : 0 < k) (h3 : k < 300) : prS (rp ⟨#[123, 34, 97, 34, 58]⟩ k ++ ⟨#[48]⟩) = dR 5 k := by
  unfold prS
  rw [rp_dp]
  exact prs_obj _ k hk (by omega)
theorem prS_0 (U : ByteArray) : prS (rp U 0 ++ ⟨#[48]⟩) = .ok (.mk 2 0 ⟨#[]⟩ [] []) 1 := by
  unfold prS
  rw [show (rp U 0 ++ (⟨#[48]⟩ : ByteArray)).data.toList = [48] from rfl]
  kernel_rfl
/-- The five cells of a value, each of its shape. -/
theorem open5 {w : World} {v : Vt} {cs : List Value} (h : InV w v cs) : ∃ a cap c d, cs = [.int .i64 v.k, .int .i64 v.n, .string v.s, .slice a v.l.length cap, .slice c v.ns.length d] := by
  obtain ⟨a, cap, c4, rfl, _, hr⟩ := (InV_iff w v cs).1 h
  obtain ⟨c, d, rfl, _⟩ := hr.open_
  exact ⟨a, cap, c, d, rfl⟩

attribute [local irreducible] prS
set_option maxRecDepth 100000 in
set_option maxHeartbeats 1000000 in
theorem deep_l (a : Int) (w : World) (hE : Env w) (h0 : 0 ≤ a) (h1 : a < 65536) :
    Calls Tryd.prog 4 #[.int .u16 a, .bool false] w fun e w' => e = .returned (.bool true) ∧ Below w.heap.size w w' := by
  have hin : Io w w := ⟨hE, Below.refl _ _⟩
  have HA := Lib.hid (awake_in w)
  obtain ⟨k, hk⟩ : ∃ k : Nat, a % 300 = (k : Int) := ⟨(a % 300).toNat, by omega⟩
  have hk3 : k < 300 := by omega
  have hwk : IntKind.i64.wrap (k : Int) = (k : Int) := by rw [IntKind.wrap_i64]; omega
  have HZ := Lib.hid (fun i => rp_size ⟨#[91]⟩ i)
  have yU : (⟨#[91]⟩ : ByteArray).size = 1 := rfl
  have y0 : (⟨#[48]⟩ : ByteArray).size = 1 := rfl
  have hsz : (rp ⟨#[91]⟩ k ++ (⟨#[48]⟩ : ByteArray)).size ≤ 1000000 := by rw [ByteArray.size_append, rp_size, yU, y0]; omega
  by_cases hk0 : k = 0
  · subst hk0
    have H1 := Lib.hid (fun W h => pok (prS_0 ⟨#[91]⟩) hsz w W h)
    clear hE hsz yU y0
    go_enter Tryd.func4, Tryd.ntmps4
    go_wp2_with fail
    go_loop [6, 16] (fun t x => ∃ i : Nat, x = .int .i64 (i : Int) ∧ t = .string (rp ⟨#[91]⟩ i) ∧ i ≤ 0) (fun _ x => 0 - (RowKit.intOf x).toNat)
    case atStart => exact ⟨0, rfl, rfl, Nat.le_refl _⟩
    case round =>
      obtain ⟨i, rfl, rfl, hi⟩ := hrel
      obtain rfl : i = 0 := by omega
      have hz := HZ.out 0
      go_wp2_with fail
      refine (H1.out _ hin).mono ?_
      rintro e w1 ⟨cs, rfl, hI, hb1⟩
      obtain ⟨c1, c2, c3, c4, rfl⟩ := open5 (Tre.InS_in _ _ hI)
      have i1 : ∀ o, Io w (w1.alloc o) := fun o => (hin.next hb1).alloc o
      clear hI
      simp only [Vt.k, Vt.n, Vt.s, Vt.l, Vt.ns, List.length_nil]
      go_wp2_with (go_at_call 5; (with_reducible refine (HA.out _ (i1 _)).mono ?_); rintro e wx ⟨rfl, hx⟩)
      go_ret
      exact ⟨rfl, hx.bel⟩
  · have hd := prS_list k (by omega) hk3
    by_cases h64 : 64 < k
    · have hd2 : prS (rp ⟨#[91]⟩ k ++ (⟨#[48]⟩ : ByteArray)) = .no (64 * 1) 10 := by rw [hd]; exact if_pos h64
      have H1 := Lib.hid (fun W h => pno hd2 hsz w W h)
      have hg : decide ((64 : Int) < (k : Int)) = true := decide_eq_true (by omega)
      have hne : ((k : Int) == 0) = false := by rw [beq_eq_false_iff_ne]; omega
      clear hE hsz y0 hd hd2 hk0 h64
      go_enter Tryd.func4, Tryd.ntmps4
      go_wp2_with fail
      go_loop [6, 16] (fun t x => ∃ i : Nat, x = .int .i64 (i : Int) ∧ t = .string (rp ⟨#[91]⟩ i) ∧ i ≤ k) (fun _ x => k - (RowKit.intOf x).toNat)
      case atStart => exact ⟨0, rfl, rfl, Nat.zero_le _⟩
      case round =>
        obtain ⟨i, rfl, rfl, hi⟩ := hrel
        have hz := HZ.out i
        by_cases hik : i < k
        · go_wp2_with fail
          go_round
          case rel => exact ⟨i + 1, by go_num, rfl, by omega⟩
          case measure => simp [RowKit.intOf]; omega
        · obtain rfl : i = k := by omega
          go_wp2_with fail
          refine (H1.out _ hin).mono ?_
          rintro e w1 ⟨rfl, hb1⟩
          have i1 : ∀ o, Io w (w1.alloc o) := fun o => (hin.next hb1).alloc o
          go_wp2_with (go_at_call 5; (with_reducible refine (HA.out _ (i1 _)).mono ?_); rintro e wx ⟨rfl, hx⟩)
          go_ret
          exact ⟨rfl, hx.bel⟩
    · have hd2 : prS (rp ⟨#[91]⟩ k ++ (⟨#[48]⟩ : ByteArray)) = .no (k * 1 + 1) 3 := by rw [hd]; exact if_neg h64
      have hzb : (rp ⟨#[91]⟩ k).size ≤ 100000 := by rw [rp_size, yU]; omega
      have hwr : IntKind.i64.wrap (((rp ⟨#[91]⟩ k).size : Int) + 1) = ((k * 1 + 1 : Nat) : Int) := by rw [rp_size, yU, IntKind.wrap_i64]; omega
      generalize k * 1 + 1 = X at *
      have H1 := Lib.hid (fun W h => pno hd2 hsz w W h)
      have hg : decide ((64 : Int) < (k : Int)) = false := decide_eq_false (by omega)
      have hne : ((k : Int) == 0) = false := by rw [beq_eq_false_iff_ne]; omega
      clear hE hsz y0 hd hd2 hk0 h64
      go_enter Tryd.func4, Tryd.ntmps4
      go_wp2_with fail
      go_loop [6, 16] (fun t x => ∃ i : Nat, x = .int .i64 (i : Int) ∧ t = .string (rp ⟨#[91]⟩ i) ∧ i ≤ k) (fun _ x => k - (RowKit.intOf x).toNat)
      case atStart => exact ⟨0, rfl, rfl, Nat.zero_le _⟩
      case round =>
        obtain ⟨i, rfl, rfl, hi⟩ := hrel
        by_cases hik : i < k
        · have hz := HZ.out i
          go_wp2_with fail
          go_round
          case rel => exact ⟨i + 1, by go_num, rfl, by omega⟩
          case measure => simp [RowKit.intOf]; omega
        · obtain rfl : i = k := by omega
          go_wp2_with fail
          refine (H1.out _ hin).mono ?_
          rintro e w1 ⟨rfl, hb1⟩
          have i1 : ∀ o, Io w (w1.alloc o) := fun o => (hin.next hb1).alloc o
          go_wp2_with (go_at_call 5; (with_reducible refine (HA.out _ (i1 _)).mono ?_); rintro e wx ⟨rfl, hx⟩)
          go_ret
          exact ⟨rfl, hx.bel⟩
set_option maxRecDepth 100000 in
set_option maxHeartbeats 1000000 in
theorem deep_o (a : Int) (w : World) (hE : Env w) (h0 : 0 ≤ a) (h1 : a < 65536) :
    Calls Tryd.prog 4 #[.int .u16 a, .bool true] w fun e w' => e = .returned (.bool true) ∧ Below w.heap.size w w' := by
  have hin : Io w w := ⟨hE, Below.refl _ _⟩
  have HA := Lib.hid (awake_in w)
  obtain ⟨k, hk⟩ : ∃ k : Nat, a % 300 = (k : Int) := ⟨(a % 300).toNat, by omega⟩
  have hk3 : k < 300 := by omega
  have hwk : IntKind.i64.wrap (k : Int) = (k : Int) := by rw [IntKind.wrap_i64]; omega
  have HZ := Lib.hid (fun i => rp_size ⟨#[123, 34, 97, 34, 58]⟩ i)
  have yU : (⟨#[123, 34, 97, 34, 58]⟩ : ByteArray).size = 5 := rfl
  have y0 : (⟨#[48]⟩ : ByteArray).size = 1 := rfl
  have hsz : (rp ⟨#[123, 34, 97, 34, 58]⟩ k ++ (⟨#[48]⟩ : ByteArray)).size ≤ 1000000 := by rw [ByteArray.size_append, rp_size, yU, y0]; omega
  by_cases hk0 : k = 0
  · subst hk0
    have H1 := Lib.hid (fun W h => pok (prS_0 ⟨#[123, 34, 97, 34, 58]⟩) hsz w W h)
    clear hE hsz yU y0
    go_enter Tryd.func4, Tryd.ntmps4
    go_wp2_with fail
    go_loop [6, 16] (fun t x => ∃ i : Nat, x = .int .i64 (i : Int) ∧ t = .string (rp ⟨#[123, 34, 97, 34, 58]⟩ i) ∧ i ≤ 0) (fun _ x => 0 - (RowKit.intOf x).toNat)
    case atStart => exact ⟨0, rfl, rfl, Nat.le_refl _⟩
    case round =>
      obtain ⟨i, rfl, rfl, hi⟩ := hrel
      obtain rfl : i = 0 := by omega
      have hz := HZ.out 0
      go_wp2_with fail
      refine (H1.out _ hin).mono ?_
      rintro e w1 ⟨cs, rfl, hI, hb1⟩
      obtain ⟨c1, c2, c3, c4, rfl⟩ := open5 (Tre.InS_in _ _ hI)
      have i1 : ∀ o, Io w (w1.alloc o) := fun o => (hin.next hb1).alloc o
      clear hI
      simp only [Vt.k, Vt.n, Vt.s, Vt.l, Vt.ns, List.length_nil]
      go_wp2_with (go_at_call 5; (with_reducible refine (HA.out _ (i1 _)).mono ?_); rintro e wx ⟨rfl, hx⟩)
      go_ret
      exact ⟨rfl, hx.bel⟩
  · have hd := prS_obj k (by omega) hk3
    by_cases h64 : 64 < k
    · have hd2 : prS (rp ⟨#[123, 34, 97, 34, 58]⟩ k ++ (⟨#[48]⟩ : ByteArray)) = .no (64 * 5) 10 := by rw [hd]; exact if_pos h64
      have H1 := Lib.hid (fun W h => pno hd2 hsz w W h)
      have hg : decide ((64 : Int) < (k : Int)) = true := decide_eq_true (by omega)
      have hne : ((k : Int) == 0) = false := by rw [beq_eq_false_iff_ne]; omega
      clear hE hsz y0 hd hd2 hk0 h64
      go_enter Tryd.func4, Tryd.ntmps4
      go_wp2_with fail
      go_loop [6, 16] (fun t x => ∃ i : Nat, x = .int .i64 (i : Int) ∧ t = .string (rp ⟨#[123, 34, 97, 34, 58]⟩ i) ∧ i ≤ k) (fun _ x => k - (RowKit.intOf x).toNat)
      case atStart => exact ⟨0, rfl, rfl, Nat.zero_le _⟩
      case round =>
        obtain ⟨i, rfl, rfl, hi⟩ := hrel
        have hz := HZ.out i
        by_cases hik : i < k
        · go_wp2_with fail
          go_round
          case rel => exact ⟨i + 1, by go_num, rfl, by omega⟩
          case measure => simp [RowKit.intOf]; omega
        · obtain rfl : i = k := by omega
          go_wp2_with fail
          refine (H1.out _ hin).mono ?_
          rintro e w1 ⟨rfl, hb1⟩
          have i1 : ∀ o, Io w (w1.alloc o) := fun o => (hin.next hb1).alloc o
          go_wp2_with (go_at_call 5; (with_reducible refine (HA.out _ (i1 _)).mono ?_); rintro e wx ⟨rfl, hx⟩)
          go_ret
          exact ⟨rfl, hx.bel⟩
    · have hd2 : prS (rp ⟨#[123, 34, 97, 34, 58]⟩ k ++ (⟨#[48]⟩ : ByteArray)) = .no (k * 5 + 1) 3 := by rw [hd]; exact if_neg h64
      have hzb : (rp ⟨#[123, 34, 97, 34, 58]⟩ k).size ≤ 100000 := by rw [rp_size, yU]; omega
      have hwr : IntKind.i64.wrap (((rp ⟨#[123, 34, 97, 34, 58]⟩ k).size : Int) + 1) = ((k * 5 + 1 : Nat) : Int) := by rw [rp_size, yU, IntKind.wrap_i64]; omega
      generalize k * 5 + 1 = X at *
      have H1 := Lib.hid (fun W h => pno hd2 hsz w W h)
      have hg : decide ((64 : Int) < (k : Int)) = false := decide_eq_false (by omega)
      have hne : ((k : Int) == 0) = false := by rw [beq_eq_false_iff_ne]; omega
      clear hE hsz y0 hd hd2 hk0 h64
      go_enter Tryd.func4, Tryd.ntmps4
      go_wp2_with fail
      go_loop [6, 16] (fun t x => ∃ i : Nat, x = .int .i64 (i : Int) ∧ t = .string (rp ⟨#[123, 34, 97, 34, 58]⟩ i) ∧ i ≤ k) (fun _ x => k - (RowKit.intOf x).toNat)
      case atStart => exact ⟨0, rfl, rfl, Nat.zero_le _⟩
      case round =>
        obtain ⟨i, rfl, rfl, hi⟩ := hrel
        by_cases hik : i < k
        · have hz := HZ.out i
          go_wp2_with fail
          go_round
          case rel => exact ⟨i + 1, by go_num, rfl, by omega⟩
          case measure => simp [RowKit.intOf]; omega
        · obtain rfl : i = k := by omega
          go_wp2_with fail
          refine (H1.out _ hin).mono ?_
          rintro e w1 ⟨rfl, hb1⟩
          have i1 : ∀ o, Io w (w1.alloc o) := fun o => (hin.next hb1).alloc o
          go_wp2_with (go_at_call 5; (with_reducible refine (HA.out _ (i1 _)).mono ?_); rintro e wx ⟨rfl, hx⟩)
          go_ret
          exact ⟨rfl, hx.bel⟩
theorem deep_walk (a : Int) (ob : Bool) (w : World) (hE : Env w) (h0 : 0 ≤ a) (h1 : a < 65536) :
    Calls Tryd.prog 4 #[.int .u16 a, .bool ob] w fun e w' => e = .returned (.bool true) ∧ Below w.heap.size w w' := by
  cases ob with
  | false => exact deep_l a w hE h0 h1
  | true => exact deep_o a w hE h0 h1
end Go.Proofs.YteinaclkpickaaaDoor.Par

namespace Go.Proofs.YteinaclkpickaaaDoor.Par
open Go.RowKit Go.Lib Go.Proofs.YteinaclkpickaaaDoor.Byt Go.Proofs.YteinaclkpickaaaDoor.Lx
open Go.Proofs.YteinaclkpickaaaDoor.Tre (Vt V0 OkT wi smB sm_self InS InV InV_next InS_upd InS_iff InV_iff)

theorem bl_seven (m : Nat) : ∀ c ∈ (cutB ⟨#[32, 10, 9, 13, 32, 32]⟩ 0 m).data.toList, bl c.toNat = true := by
  intro c hc
  have h1 : c ∈ [32, 10, 9, 13, 32, 32].take m := hc
  have h2 := List.mem_of_mem_take h1
  simp only [List.mem_cons, List.not_mem_nil, or_false] at h2
  rcases h2 with rfl | rfl | rfl | rfl | rfl | rfl <;> rfl
theorem prS_pre {B : ByteArray} (h : ∀ c ∈ B.data.toList, bl c.toNat = true) (s : ByteArray) : prS (B ++ s) = shR id B.size (prS s) := by
  unfold prS
  rw [app_list, prs_pre _ h]
  rfl
theorem prS_good (s : ByteArray) (hs : s.size ≤ 1000000) : Gd s.size (fun v _ => OkT v ∧ wi v 64 = true) 0 (prS s) := by
  have hl : s.data.toList.length = s.size := by simp
  have := prs_good (l := s.data.toList) 1000002 (by omega) (by omega)
  rw [hl] at this
  exact this
theorem ok_zero : OkT V0 := .mk _ (okV_of (k := 0) (n := 0) (s := ⟨#[]⟩) (l := []) (ns := []) (by decide) (by decide) (by decide) (by decide) (by decide) (by intro m hm; cases hm)) (by intro x hx; cases hx)
theorem in_zero (W : World) : InV W V0 [.int .i64 0, .int .i64 0, .string ⟨#[]⟩, .slice none 0 0, .slice none 0 0] := Tre.InS_in _ _ (scal_in (fun _ => True) W 0 0 ⟨#[]⟩)
attribute [local irreducible] prS

theorem right_in (v : Vt) (hv : OkT v) (cs : List Value) (w W : World) (hw : Io w W) (h : InV W v cs) :
    Calls Tryd.prog 7 #[.agg cs.toArray] W fun e w' => e = .returned (.bool (wi v 64)) ∧ Below W.heap.size W w' :=
  (Tre.pright v hv cs W h hw.env.tabs).mono fun _ _ k => k
theorem same_in (v u : Vt) (hv : OkT v) (hu : OkT u) (cs ds : List Value) (W : World) (h : InV W v cs) (k : InV W u ds) :
    Calls Tryd.prog 8 #[.agg cs.toArray, .agg ds.toArray] W fun e w' => e = .returned (.bool (smB v u)) ∧ Below W.heap.size W w' :=
  (Tre.psame v hv u hu cs ds W h k).mono fun _ _ k => k
set_option maxRecDepth 100000 in
set_option maxHeartbeats 1000000 in
theorem right_walk (s : ByteArray) (a : Int) (w : World) (hE : Env w) (h0 : 0 ≤ a) (h1 : a < 256) :
    Calls Tryd.prog 3 #[.string s, .int .u8 a] w fun e w' => e = .returned (.bool true) ∧ Below w.heap.size w w' := by
  have hin : Io w w := ⟨hE, Below.refl _ _⟩
  have HA := Lib.hid (awake_in w)
  clear hE
  by_cases hg : 500 < s.size
  · have hg1 : decide ((500 : Int) < (s.size : Int)) = true := decide_eq_true (by omega)
    go_enter Tryd.func3, Tryd.ntmps3
    go_wp2_with (go_at_call 5; (with_reducible refine (HA.out _ (by assumption)).mono ?_); rintro e wx ⟨rfl, hx⟩)
    go_ret
    exact ⟨rfl, hx.bel⟩
  · have hs : s.size ≤ 500 := by omega
    have hg1 : decide ((500 : Int) < (s.size : Int)) = false := decide_eq_false (by omega)
    have hbl := bl_seven (a % 7).toNat
    have hsz : (cutB ⟨#[32, 10, 9, 13, 32, 32]⟩ 0 (a % 7).toNat).size ≤ 6 := by
      show (List.toArray _).size ≤ 6
      simp
      omega
    have hsl : ∀ w, (Instr.slice 9 (.string ⟨#[32, 10, 9, 13, 32, 32]⟩) none (some (.int .u8 (a % 7))) none).run Tryd.prog w = .ok (.string (cutB ⟨#[32, 10, 9, 13, 32, 32]⟩ 0 (a % 7).toNat)) w := fun w => by
      have e : (⟨#[32, 10, 9, 13, 32, 32]⟩ : ByteArray).size = 6 := rfl
      rw [run_slice_string_to_if w 9 _ .u8 (a % 7) Tryd.underlying9, if_pos (by rw [e]; omega)]
      have := extract_cut ⟨#[32, 10, 9, 13, 32, 32]⟩ 0 (a % 7).toNat
      rw [Nat.zero_add] at this
      rw [← this]
    generalize cutB ⟨#[32, 10, 9, 13, 32, 32]⟩ 0 (a % 7).toNat = B at *
    have hpp := prS_pre hbl s
    have hgd := prS_good s (by omega)
    have hz2 : (B ++ s).size ≤ 1000000 := by rw [ByteArray.size_append]; omega
    cases hR : prS s with
    | no o er =>
      rw [hR] at hgd hpp
      have H1 := Lib.hid (fun W h => pno hR (by omega) w W h)
      have H2 := Lib.hid (fun W h => pno (show prS (B ++ s) = .no (B.size + o) er from hpp) hz2 w W h)
      have hwr : IntKind.i64.wrap ((o : Int) + (B.size : Int)) = ((B.size + o : Nat) : Int) := by have := hgd.1; rw [IntKind.wrap_i64]; omega
      have ho : o ≤ s.size := hgd.1
      have ho0 : decide ((0 : Int) ≤ (o : Int)) = true := decide_eq_true (by omega)
      have her : ((er : Int) == 0) = false := by rw [beq_eq_false_iff_ne]; have := hgd.2; omega
      have H3 := fun W => same_in V0 V0 ok_zero ok_zero _ _ W (in_zero W) (in_zero W)
      rw [sm_self] at H3
      have HS := Lib.hid H3
      clear H3
      generalize B.size + o = X at *
      clear hgd hpp hR hbl
      go_enter Tryd.func3, Tryd.ntmps3
      go_wp2_with fail
      refine (H1.out _ hin).mono ?_
      rintro e w1 ⟨rfl, hb1⟩
      have i1 := (hin.next hb1).alloc (.cells #[.int .i64 0, .int .i64 0, .string ⟨#[]⟩, .slice none 0 0, .slice none 0 0] 26)
      have hx1 : Tre.Box (w1.alloc (.cells #[.int .i64 0, .int .i64 0, .string ⟨#[]⟩, .slice none 0 0, .slice none 0 0] 26)) w1.heap.size _ := Tre.box_new _ _
      go_wp2_with fail
      refine (H2.out _ i1).mono ?_
      rintro e w2 ⟨rfl, hb2⟩
      have hl1 : w1.heap.size < (w1.alloc (.cells #[.int .i64 0, .int .i64 0, .string ⟨#[]⟩, .slice none 0 0, .slice none 0 0] 26)).heap.size := by simp
      have i2 := (i1.next hb2).alloc (.cells #[.int .i64 0, .int .i64 0, .string ⟨#[]⟩, .slice none 0 0, .slice none 0 0] 26)
      have hx2 := (hx1.next hb2 hl1).next ((Below.refl w2.heap.size w2).alloc (Nat.le_refl _) (.cells #[.int .i64 0, .int .i64 0, .string ⟨#[]⟩, .slice none 0 0, .slice none 0 0] 26)) (hx1.next hb2 hl1).lt
      generalize hG : w1.heap.size = G at *
      have c0 : (w2.alloc (.cells #[.int .i64 0, .int .i64 0, .string ⟨#[]⟩, .slice none 0 0, .slice none 0 0] 26)).cell? ⟨G, 0, none⟩ = some (.int .i64 0) := hx2.cell 0
      have c1 : (w2.alloc (.cells #[.int .i64 0, .int .i64 0, .string ⟨#[]⟩, .slice none 0 0, .slice none 0 0] 26)).cell? ⟨G, 1, none⟩ = some (.int .i64 0) := hx2.cell 1
      have c2 : (w2.alloc (.cells #[.int .i64 0, .int .i64 0, .string ⟨#[]⟩, .slice none 0 0, .slice none 0 0] 26)).cell? ⟨G, 2, none⟩ = some (.string ⟨#[]⟩) := hx2.cell 2
      have c3 : (w2.alloc (.cells #[.int .i64 0, .int .i64 0, .string ⟨#[]⟩, .slice none 0 0, .slice none 0 0] 26)).cell? ⟨G, 3, none⟩ = some (.slice none 0 0) := hx2.cell 3
      have c4 : (w2.alloc (.cells #[.int .i64 0, .int .i64 0, .string ⟨#[]⟩, .slice none 0 0, .slice none 0 0] 26)).cell? ⟨G, 4, none⟩ = some (.slice none 0 0) := hx2.cell 4
      clear hx1 hx2 hb1 hb2 hl1 i1 hG
      go_wp2_with fail
      refine (HS.out _).mono ?_
      rintro e w3 ⟨rfl, hb3⟩
      have i3 := i2.next hb3
      clear hb3
      go_wp2_with fail
      refine (HA.out _ i3).mono ?_
      rintro e wx ⟨rfl, hx⟩
      go_wp2_with fail
      go_ret
      exact ⟨rfl, hx.bel⟩
    | ok v p =>
      rw [hR] at hgd hpp
      obtain ⟨_, _, hOk, hwi⟩ := hgd
      have H1 := Lib.hid (fun W h => pok hR (by omega) w W h)
      have H2 := Lib.hid (fun W h => pok (show prS (B ++ s) = .ok v (B.size + p) from hpp) hz2 w W h)
      have HRt := Lib.hid (fun cs W h k => hwi ▸ right_in v hOk cs w W h k)
      have HSm := Lib.hid (fun cs ds W h k => (sm_self v) ▸ same_in v v hOk hOk cs ds W h k)
      clear hpp hR hbl hOk hwi
      go_enter Tryd.func3, Tryd.ntmps3
      go_wp2_with fail
      refine (H1.out _ hin).mono ?_
      rintro e w1 ⟨cs, rfl, hI, hb1⟩
      obtain ⟨q1, q2, q3, q4, rfl⟩ := open5 (Tre.InS_in _ _ hI)
      have i1 := (hin.next hb1).alloc (.cells #[.int .i64 v.k, .int .i64 v.n, .string v.s, .slice q1 v.l.length q2, .slice q3 v.ns.length q4] 26)
      have hx1 : Tre.Box (w1.alloc (.cells #[.int .i64 v.k, .int .i64 v.n, .string v.s, .slice q1 v.l.length q2, .slice q3 v.ns.length q4] 26)) w1.heap.size _ := Tre.box_new _ _
      have hl1 : w1.heap.size < (w1.alloc (.cells #[.int .i64 v.k, .int .i64 v.n, .string v.s, .slice q1 v.l.length q2, .slice q3 v.ns.length q4] 26)).heap.size := by simp
      have v1 := InV_next ((Below.refl w1.heap.size w1).alloc (Nat.le_refl _) (.cells #[.int .i64 v.k, .int .i64 v.n, .string v.s, .slice q1 v.l.length q2, .slice q3 v.ns.length q4] 26)) v _ (Tre.InS_in _ _ hI)
      clear hI hb1
      go_wp2_with fail
      generalize w1.alloc (.cells #[.int .i64 v.k, .int .i64 v.n, .string v.s, .slice q1 v.l.length q2, .slice q3 v.ns.length q4] 26) = W1 at *
      generalize w1.heap.size = G at *
      refine (H2.out _ i1).mono ?_
      rintro e w2 ⟨ds, rfl, hI, hb2⟩
      obtain ⟨p1, p2, p3, p4, rfl⟩ := open5 (Tre.InS_in _ _ hI)
      have hbn : Below w2.heap.size w2 (w2.alloc (.cells #[.int .i64 v.k, .int .i64 v.n, .string v.s, .slice p1 v.l.length p2, .slice p3 v.ns.length p4] 26)) := (Below.refl _ _).alloc (Nat.le_refl _) _
      have i2 := (i1.next hb2).next hbn
      have hx2 := (hx1.next hb2 hl1).next hbn (hx1.next hb2 hl1).lt
      have hy2 : Tre.Box (w2.alloc (.cells #[.int .i64 v.k, .int .i64 v.n, .string v.s, .slice p1 v.l.length p2, .slice p3 v.ns.length p4] 26)) w2.heap.size _ := Tre.box_new _ _
      have v2 := InV_next hbn v _ (InV_next hb2 v _ v1)
      have u2 := InV_next hbn v _ (Tre.InS_in _ _ hI)
      have hl2 := hy2.lt
      have hne : ¬ G = w2.heap.size := by have := (hx1.next hb2 hl1).lt; omega
      clear hI hb2 hbn v1 i1 hx1 hl1
      have c0 : (w2.alloc (.cells #[.int .i64 v.k, .int .i64 v.n, .string v.s, .slice p1 v.l.length p2, .slice p3 v.ns.length p4] 26)).cell? ⟨G, 0, none⟩ = some (.int .i64 v.k) := hx2.cell 0
      have c1 : (w2.alloc (.cells #[.int .i64 v.k, .int .i64 v.n, .string v.s, .slice p1 v.l.length p2, .slice p3 v.ns.length p4] 26)).cell? ⟨G, 1, none⟩ = some (.int .i64 v.n) := hx2.cell 1
      have c2 : (w2.alloc (.cells #[.int .i64 v.k, .int .i64 v.n, .string v.s, .slice p1 v.l.length p2, .slice p3 v.ns.length p4] 26)).cell? ⟨G, 2, none⟩ = some (.string v.s) := hx2.cell 2
      have c3 : (w2.alloc (.cells #[.int .i64 v.k, .int .i64 v.n, .string v.s, .slice p1 v.l.length p2, .slice p3 v.ns.length p4] 26)).cell? ⟨G, 3, none⟩ = some (.slice q1 v.l.length q2) := hx2.cell 3
      have c4 : (w2.alloc (.cells #[.int .i64 v.k, .int .i64 v.n, .string v.s, .slice p1 v.l.length p2, .slice p3 v.ns.length p4] 26)).cell? ⟨G, 4, none⟩ = some (.slice q3 v.ns.length q4) := hx2.cell 4
      go_wp2_with fail
      generalize w2.alloc (.cells #[.int .i64 v.k, .int .i64 v.n, .string v.s, .slice p1 v.l.length p2, .slice p3 v.ns.length p4] 26) = W2 at *
      generalize w2.heap.size = G2 at *
      refine (HRt.out _ _ i2 v2).mono ?_
      rintro e w3 ⟨rfl, hb3⟩
      have i3 := i2.next hb3
      have hx3 := hx2.next hb3 hx2.lt
      have hy3 := hy2.next hb3 hl2
      have v3 := InV_next hb3 v _ v2
      have u3 := InV_next hb3 v _ u2
      clear c0 c1 c2 c3 c4 hb3 i2 hx2 hy2 v2 u2
      have c0 : w3.cell? ⟨G, 0, none⟩ = some (.int .i64 v.k) := hx3.cell 0
      have c1 : w3.cell? ⟨G, 1, none⟩ = some (.int .i64 v.n) := hx3.cell 1
      have c2 : w3.cell? ⟨G, 2, none⟩ = some (.string v.s) := hx3.cell 2
      have c3 : w3.cell? ⟨G, 3, none⟩ = some (.slice q1 v.l.length q2) := hx3.cell 3
      have c4 : w3.cell? ⟨G, 4, none⟩ = some (.slice q3 v.ns.length q4) := hx3.cell 4
      have d0 : w3.cell? ⟨G2, 0, none⟩ = some (.int .i64 v.k) := hy3.cell 0
      have d1 : w3.cell? ⟨G2, 1, none⟩ = some (.int .i64 v.n) := hy3.cell 1
      have d2 : w3.cell? ⟨G2, 2, none⟩ = some (.string v.s) := hy3.cell 2
      have d3 : w3.cell? ⟨G2, 3, none⟩ = some (.slice p1 v.l.length p2) := hy3.cell 3
      have d4 : w3.cell? ⟨G2, 4, none⟩ = some (.slice p3 v.ns.length p4) := hy3.cell 4
      go_wp2_with fail
      refine (HSm.out _ _ _ v3 u3).mono ?_
      rintro e w4 ⟨rfl, hb4⟩
      have i4 := i3.next hb4
      clear hb4
      go_wp2_with fail
      refine (HA.out _ i4).mono ?_
      rintro e wx ⟨rfl, hx⟩
      go_wp2_with fail
      go_ret
      exact ⟨rfl, hx.bel⟩
end Go.Proofs.YteinaclkpickaaaDoor.Par
