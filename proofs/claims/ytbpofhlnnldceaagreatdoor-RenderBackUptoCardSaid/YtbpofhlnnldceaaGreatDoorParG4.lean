/- Plain facts of many brackets: where the fault stands; levels of a value without overflow. Conditions: as each theorem states. · The laws of many brackets and of what is right. Conditions: the two tables of unicode/utf8 are as its text lays them, the two sentinels of strconv hold errors; as each theorem states. · The law of what is right. Conditions: the two tables of unicode/utf8 are as its text lays them, the two sentinels of strconv hold errors; as each theorem states. -/
import Derived.Test.YtbpofhlnnldceaaGreatDoorParG1
import Derived.Test.YtbpofhlnnldceaaGreatDoorTreG1
import Derived.Test.YtbpofhlnnldceaaGreatDoorParG3
import Derived.Test.YtbpofhlnnldceaaGreatDoorTreG3
import Derived.Test.YtbpofhlnnldceaaGreatDoorTreG2
namespace Go.Proofs.YtbpofhlnnldceaaGreatDoor.Par
open Go.Lib Go.Proofs.YtbpofhlnnldceaaGreatDoor.Utf Go.Proofs.YtbpofhlnnldceaaGreatDoor.Quo Go.Proofs.YtbpofhlnnldceaaGreatDoor.Lx
open Go.Proofs.YtbpofhlnnldceaaGreatDoor.Tre (Vt V0 dep depL dpw dpwL vt_ind)

theorem depL_mem {x : Vt} : ∀ {l : List Vt}, x ∈ l → dep x ≤ depL l
  | [], h => by cases h
  | y :: l, h => by
    rw [depL]
    rcases List.mem_cons.1 h with rfl | h
    · omega
    · have := depL_mem h; omega
theorem dpwL_dep : ∀ (l : List Vt), (∀ x ∈ l, dpw x = (dep x : Int)) → dpwL l = (depL l : Int)
  | [], _ => by rw [dpwL, depL]; rfl
  | x :: l, h => by
    rw [dpwL, depL, h x List.mem_cons_self, dpwL_dep l fun y hy => h y (List.mem_cons_of_mem _ hy)]
    omega
theorem dpw_dep (v : Vt) : dep v ≤ 8000000 → dpw v = (dep v : Int) := by
  refine vt_ind (p := fun v => dep v ≤ 8000000 → dpw v = (dep v : Int)) ?_ v
  intro v ih hd
  cases v with
  | mk k n s l ns =>
    rw [dpw]
    rw [dep] at hd ⊢
    by_cases hk : k = 4 ∨ k = 5
    · rw [if_pos hk] at hd ⊢
      rw [if_pos hk, dpwL_dep l fun x hx => ih x hx (by have := depL_mem hx; omega), IntKind.wrap_i64]
      omega
    · rw [if_neg hk, if_neg hk]; rfl

/-! ### many brackets -/
/-- So many openings, and a nought. -/
def dp (U : List UInt8) : Nat → List UInt8
  | 0 => [48]
  | k + 1 => U ++ dp U k
theorem dp_len (U : List UInt8) : ∀ k, (dp U k).length = k * U.length + 1
  | 0 => by simp [dp]
  | k + 1 => by rw [dp, List.length_append, dp_len U k, Nat.succ_mul]; omega
theorem dp_drop (U : List UInt8) : ∀ (j k : Nat), j ≤ k → (dp U k).drop (j * U.length) = dp U (k - j)
  | 0, k, _ => by simp
  | j + 1, 0, h => by omega
  | j + 1, k + 1, h => by
    rw [dp, show (j + 1) * U.length = U.length + j * U.length by rw [Nat.succ_mul]; omega, ← List.drop_drop, List.drop_left' rfl, dp_drop U j k (by omega), show k + 1 - (j + 1) = k - j by omega]
theorem nt_at {l m : List UInt8} {p k z : Nat} {v : List UInt8} {n : Int} (hd : l.drop p = m) (h : nx m = (0, ⟨k, 0, z, v, n⟩)) : nt l p = .ok ⟨k, p, z, v, n⟩ (p + z) := by
  unfold nt
  rw [hd, h, if_pos rfl]
  rfl
theorem nx_of {m : List UInt8} {k z : Nat} {v : List UInt8} {n : Int} (hb : bl (hd m) = false) (h : tok m = (0, ⟨k, 0, z, v, n⟩)) : nx m = (0, ⟨k, 0, z, v, n⟩) := by
  unfold nx
  rw [skp_none hb, List.drop_zero, h]
  show (0, Tk.sh 0 _) = _
  unfold Tk.sh
  simp
theorem nx_sg {c : UInt8} (m : List UInt8) (h : sg c.toNat ≠ 0) (hb : bl c.toNat = false) : nx (c :: m) = (0, ⟨sg c.toNat, 0, 1, [], 0⟩) := by
  refine nx_of hb ?_
  unfold tok
  rw [if_neg (by simp), if_pos (show sg (hd (c :: m)) ≠ 0 from h)]
  rfl
theorem nx_a (m : List UInt8) : nx (34 :: 97 :: 34 :: m) = (0, ⟨7, 0, 3, [97], 0⟩) := by
  refine nx_of rfl ?_
  have e0 : tkQ ([97, 34] ++ []) = (0, 2, [97]) := by decide +kernel
  have e : tkQ (97 :: 34 :: m) = (0, 2, [97]) := by
    have := tkQ_keep [97, 34] [] m (by rw [e0]) (by rw [e0]; simp)
    rw [e0] at this
    exact this
  unfold tok
  rw [if_neg (by simp), if_neg (show ¬ sg (hd (34 :: 97 :: 34 :: m)) ≠ 0 from (by decide : ¬ sg 34 ≠ 0)), if_pos (show hd (34 :: 97 :: 34 :: m) = 34 from rfl)]
  unfold txt
  rw [show List.drop 1 (34 :: 97 :: 34 :: m) = 97 :: 34 :: m from rfl, e, if_pos rfl]
theorem nx_0 : nx [48] = (0, ⟨8, 0, 1, [], 0⟩) := by kernel_rfl
theorem nx_e : nx [] = (0, ⟨0, 0, 0, [], 0⟩) := by kernel_rfl
/-- Where the fault of so many brackets stands, and which. -/
def dR {α : Type} (u k : Nat) : Rs α := if 64 < k then .no (64 * u) 10 else .no (k * u + 1) 3
theorem dR_bnd {α β : Type} (u k : Nat) (f : α → Nat → Rs β) : bnd (dR u k) f = dR u k := by
  unfold dR; split <;> rfl
theorem bnd_ok {α β : Type} (x : α) (p : Nat) (f : α → Nat → Rs β) : bnd (.ok x p) f = f x p := rfl
theorem deep_list (k : Nat) : ∀ (f lv : Nat), lv < k → lv ≤ 64 → k + 2 ≤ f + lv → val (nt (dp [91] k)) f ⟨3, lv, 1, [], 0⟩ lv (lv + 1) = dR 1 k
  | 0, lv, h, _, hf => by omega
  | f + 1, lv, h, hlv, hf => by
    rw [val]
    rw [if_neg (show ¬ (3 : Nat) = 11 by omega), if_neg (show ¬ (3 : Nat) = 10 by omega), if_neg (show ¬ (3 : Nat) = 9 by omega), if_neg (show ¬ (3 : Nat) = 8 by omega), if_neg (show ¬ (3 : Nat) = 7 by omega), if_pos (show (3 : Nat) = 3 from rfl)]
    by_cases h64 : lv = 64
    · rw [if_pos h64]
      unfold dR
      rw [if_pos (show 64 < k by omega), h64]
    · rw [if_neg h64, lst0]
      have hdr := dp_drop [91] (lv + 1) k (by omega)
      simp only [List.length_cons, List.length_nil, Nat.zero_add, Nat.mul_one] at hdr
      obtain ⟨g, rfl⟩ : ∃ g, f = g + 1 := ⟨f - 1, by omega⟩
      by_cases hk : lv + 1 = k
      · have e1 : k - (lv + 1) = 0 := by omega
        rw [e1] at hdr
        rw [nt_at hdr nx_0]
        show bnd (bnd (val (nt (dp [91] k)) (g + 1) ⟨8, lv + 1, 1, [], 0⟩ (lv + 1) (lv + 1 + 1)) _) _ = _
        rw [show val (nt (dp [91] k)) (g + 1) ⟨8, lv + 1, 1, [], 0⟩ (lv + 1) (lv + 1 + 1) = .ok (.mk 2 0 ⟨#[]⟩ [] []) (lv + 1 + 1) by rw [val]; rfl]
        have hd2 : (dp [91] k).drop (lv + 1 + 1) = [] := List.drop_of_length_le (by rw [dp_len]; simp; omega)
        show bnd (bnd (nt _ _) _) _ = _
        rw [nt_at hd2 nx_e]
        unfold dR
        rw [if_neg (show ¬ 64 < k by omega)]
        show Rs.no _ _ = Rs.no _ _
        congr 1
        show lv + 1 + 1 = _
        omega
      · obtain ⟨m, hm⟩ : ∃ m, k - (lv + 1) = m + 1 := ⟨k - (lv + 1) - 1, by omega⟩
        rw [hm] at hdr
        have hnx : nx (dp [91] (m + 1)) = (0, ⟨3, 0, 1, [], 0⟩) := nx_sg (c := 91) (dp [91] m) (by decide) (by decide)
        rw [nt_at hdr hnx]
        show bnd (bnd (val (nt (dp [91] k)) (g + 1) ⟨3, lv + 1, 1, [], 0⟩ (lv + 1) (lv + 1 + 1)) _) _ = _
        rw [deep_list k (g + 1) (lv + 1) (by omega) (by omega) (by omega), dR_bnd, dR_bnd]
theorem deep_obj (k : Nat) : ∀ (f lv : Nat), lv < k → lv ≤ 64 → k + 2 ≤ f + lv → val (nt (dp [123, 34, 97, 34, 58] k)) f ⟨1, lv * 5, 1, [], 0⟩ lv (lv * 5 + 1) = dR 5 k
  | 0, lv, h, _, hf => by omega
  | f + 1, lv, h, hlv, hf => by
    rw [val]
    rw [if_neg (show ¬ (1 : Nat) = 11 by omega), if_neg (show ¬ (1 : Nat) = 10 by omega), if_neg (show ¬ (1 : Nat) = 9 by omega), if_neg (show ¬ (1 : Nat) = 8 by omega), if_neg (show ¬ (1 : Nat) = 7 by omega), if_neg (show ¬ (1 : Nat) = 3 by omega), if_pos (show (1 : Nat) = 1 from rfl)]
    by_cases h64 : lv = 64
    · rw [if_pos h64]
      unfold dR
      rw [if_pos (show 64 < k by omega), h64]
    · rw [if_neg h64, obj0]
      obtain ⟨m, hm⟩ : ∃ m, k - lv = m + 1 := ⟨k - lv - 1, by omega⟩
      have hdr0 := dp_drop [123, 34, 97, 34, 58] lv k (by omega)
      rw [hm] at hdr0
      simp only [List.length_cons, List.length_nil, Nat.zero_add, Nat.reduceAdd] at hdr0
      have hdr : (dp [123, 34, 97, 34, 58] k).drop (lv * 5 + 1) = 34 :: 97 :: 34 :: (58 :: dp [123, 34, 97, 34, 58] m) := by rw [← List.drop_drop, hdr0]; rfl
      have hdr2 : (dp [123, 34, 97, 34, 58] k).drop (lv * 5 + 1 + 3) = 58 :: dp [123, 34, 97, 34, 58] m := by rw [← List.drop_drop, hdr]; rfl
      have hdr3 : (dp [123, 34, 97, 34, 58] k).drop (lv * 5 + 1 + 3 + 1) = dp [123, 34, 97, 34, 58] m := by rw [← List.drop_drop, hdr2]; rfl
      obtain ⟨g, rfl⟩ : ∃ g, f = g + 1 := ⟨f - 1, by omega⟩
      rw [nt_at hdr (nx_a _)]
      show bnd (bnd (nt _ (lv * 5 + 1 + 3)) _) _ = _
      rw [nt_at hdr2 (nx_sg (c := 58) _ (by decide) (by decide))]
      show bnd (bnd (nt _ (lv * 5 + 1 + 3 + 1)) _) _ = _
      by_cases hk : m = 0
      · subst hk
        rw [nt_at hdr3 nx_0, bnd_ok]
        show bnd (bnd (val (nt (dp [123, 34, 97, 34, 58] k)) (g + 1) ⟨8, lv * 5 + 1 + 3 + 1, 1, [], 0⟩ (lv + 1) (lv * 5 + 1 + 3 + 1 + 1)) _) _ = _
        rw [show val (nt (dp [123, 34, 97, 34, 58] k)) (g + 1) ⟨8, lv * 5 + 1 + 3 + 1, 1, [], 0⟩ (lv + 1) (lv * 5 + 1 + 3 + 1 + 1) = .ok (.mk 2 0 ⟨#[]⟩ [] []) (lv * 5 + 1 + 3 + 1 + 1) by rw [val]; rfl]
        have hd2 : (dp [123, 34, 97, 34, 58] k).drop (lv * 5 + 1 + 3 + 1 + 1) = [] := List.drop_of_length_le (by rw [dp_len]; simp; omega)
        show bnd (bnd (nt _ _) _) _ = _
        rw [nt_at hd2 nx_e]
        unfold dR
        rw [if_neg (show ¬ 64 < k by omega)]
        show Rs.no _ _ = Rs.no _ _
        congr 1
        show lv * 5 + 1 + 3 + 1 + 1 = _
        omega
      · obtain ⟨m2, rfl⟩ : ∃ m2, m = m2 + 1 := ⟨m - 1, by omega⟩
        have hnx : nx (dp [123, 34, 97, 34, 58] (m2 + 1)) = (0, ⟨1, 0, 1, [], 0⟩) := nx_sg (c := 123) _ (by decide) (by decide)
        rw [nt_at hdr3 hnx, bnd_ok]
        show bnd (bnd (val (nt (dp [123, 34, 97, 34, 58] k)) (g + 1) ⟨1, lv * 5 + 1 + 3 + 1, 1, [], 0⟩ (lv + 1) (lv * 5 + 1 + 3 + 1 + 1)) _) _ = _
        have hih := deep_obj k (g + 1) (lv + 1) (by omega) (by omega) (by omega)
        rw [show (lv + 1) * 5 = lv * 5 + 1 + 3 + 1 by omega] at hih
        rw [hih, dR_bnd, dR_bnd]
theorem prs_list (F k : Nat) (hk : 0 < k) (hF : k + 2 ≤ F) : prs F (dp [91] k) = dR 1 k := by
  unfold prs
  obtain ⟨m, rfl⟩ : ∃ m, k = m + 1 := ⟨k - 1, by omega⟩
  have hnx : nx (dp [91] (m + 1)) = (0, ⟨3, 0, 1, [], 0⟩) := nx_sg (c := 91) (dp [91] m) (by decide) (by decide)
  rw [nt_at (p := 0) List.drop_zero hnx]
  show bnd (val _ F ⟨3, 0, 1, [], 0⟩ 0 (0 + 1)) _ = _
  rw [deep_list (m + 1) F 0 (by omega) (by omega) (by omega), dR_bnd]
theorem prs_obj (F k : Nat) (hk : 0 < k) (hF : k + 2 ≤ F) : prs F (dp [123, 34, 97, 34, 58] k) = dR 5 k := by
  unfold prs
  obtain ⟨m, rfl⟩ : ∃ m, k = m + 1 := ⟨k - 1, by omega⟩
  have hnx : nx (dp [123, 34, 97, 34, 58] (m + 1)) = (0, ⟨1, 0, 1, [], 0⟩) := nx_sg (c := 123) _ (by decide) (by decide)
  rw [nt_at (p := 0) List.drop_zero hnx]
  have := deep_obj (m + 1) F 0 (by omega) (by omega) (by omega)
  rw [Nat.zero_mul] at this
  show bnd (val _ F ⟨1, 0, 1, [], 0⟩ 0 (0 + 1)) _ = _
  rw [this, dR_bnd]
end Go.Proofs.YtbpofhlnnldceaaGreatDoor.Par

namespace Go.Proofs.YtbpofhlnnldceaaGreatDoor.Par
open Go.RowKit Go.Lib Go.Proofs.YtbpofhlnnldceaaGreatDoor.Byt Go.Proofs.YtbpofhlnnldceaaGreatDoor.Lx
open Go.Proofs.YtbpofhlnnldceaaGreatDoor.Tre (Vt V0 OkT wi smB InS InV InS_upd InS_iff InV_iff)

theorem app_list (a b : ByteArray) : (a ++ b).data.toList = a.data.toList ++ b.data.toList := by
  rw [ByteArray.data_append, Array.toList_append]
/-- So many copies. -/
def rp (U : ByteArray) : Nat → ByteArray
  | 0 => ⟨#[]⟩
  | i + 1 => rp U i ++ U
theorem rp_size (U : ByteArray) : ∀ i, (rp U i).size = i * U.size
  | 0 => by rw [Nat.zero_mul]; rfl
  | i + 1 => by rw [rp, ByteArray.size_append, rp_size U i, Nat.succ_mul]
theorem rp_comm (U : ByteArray) : ∀ i, U.data.toList ++ (rp U i).data.toList = (rp U i).data.toList ++ U.data.toList
  | 0 => by show _ ++ [] = [] ++ _; simp
  | i + 1 => by rw [rp, app_list, ← List.append_assoc, rp_comm U i]
theorem rp_dp (U : ByteArray) : ∀ k, (rp U k ++ ⟨#[48]⟩).data.toList = dp U.data.toList k
  | 0 => rfl
  | k + 1 => by
    have ih := rp_dp U k
    rw [app_list] at ih ⊢
    rw [dp, ← ih, rp, app_list, ← List.append_assoc, rp_comm U k]
theorem prS_list (k : Nat) (hk : 0 < k) (h3 : k < 300) : prS (rp ⟨#[91]⟩ k ++ ⟨#[48]⟩) = dR 1 k := by
  unfold prS
  rw [rp_dp]
  exact prs_list _ k hk (by omega)
theorem prS_obj (k : Nat) (hk : 0 < k) (h3 : k < 300) : prS (rp ⟨#[123, 34, 97, 34, 58]⟩ k ++ ⟨#[48]⟩) = dR 5 k := by
  unfold prS
  rw [rp_dp]
  exact prs_obj _ k hk (by omega)
theorem prS_0 (U : ByteArray) : prS (rp U 0 ++ ⟨#[48]⟩) = .ok (.mk 2 0 ⟨#[]⟩ [] []) 1 := by
  unfold prS
  rw [show (rp U 0 ++ (⟨#[48]⟩ : ByteArray)).data.toList = [48] from rfl]
  kernel_rfl
/-- The five cells of a value, each of its shape. -/
theorem open5 {w : World} {v : Vt} {cs : List Value} (h : InV w v cs) : ∃ a cap c d, cs = [.int .i64 v.k, .int .i64 v.n, .string v.s, .slice a v.l.length cap, .slice c v.ns.length d] := by
  obtain ⟨a, cap, c4, rfl, _, hr⟩ := (InV_iff w v cs).1 h
  obtain ⟨c, d, rfl, _⟩ := hr.open_
  exact ⟨a, cap, c, d, rfl⟩

attribute [local irreducible] prS
end Go.Proofs.YtbpofhlnnldceaaGreatDoor.Par

namespace Go.Proofs.YtbpofhlnnldceaaGreatDoor.Par
open Go.RowKit Go.Lib Go.Proofs.YtbpofhlnnldceaaGreatDoor.Byt Go.Proofs.YtbpofhlnnldceaaGreatDoor.Lx
open Go.Proofs.YtbpofhlnnldceaaGreatDoor.Tre (Vt V0 OkT wi smB sm_self InS InV InV_next InS_upd InS_iff InV_iff)

theorem bl_seven (m : Nat) : ∀ c ∈ (cutB ⟨#[32, 10, 9, 13, 32, 32]⟩ 0 m).data.toList, bl c.toNat = true := by
  intro c hc
  have h1 : c ∈ [32, 10, 9, 13, 32, 32].take m := hc
  have h2 := List.mem_of_mem_take h1
  simp only [List.mem_cons, List.not_mem_nil, or_false] at h2
  rcases h2 with rfl | rfl | rfl | rfl | rfl | rfl <;> rfl
theorem prS_pre {B : ByteArray} (h : ∀ c ∈ B.data.toList, bl c.toNat = true) (s : ByteArray) : prS (B ++ s) = shR id B.size (prS s) := by
  unfold prS
  rw [app_list, prs_pre _ h]
  rfl
theorem prS_good (s : ByteArray) (hs : s.size ≤ 8000000) : Gd s.size (fun v _ => OkT v ∧ wi v 64 = true) 0 (prS s) := by
  have hl : s.data.toList.length = s.size := by simp
  have := prs_good (l := s.data.toList) 8000002 (by omega) (by omega)
  rw [hl] at this
  exact this
theorem ok_zero : OkT V0 := .mk _ (okV_of (k := 0) (n := 0) (s := ⟨#[]⟩) (l := []) (ns := []) (by decide) (by decide) (by decide) (by decide) (by decide) (by intro m hm; cases hm)) (by intro x hx; cases hx)
theorem in_zero (W : World) : InV W V0 [.int .i64 0, .int .i64 0, .string ⟨#[]⟩, .slice none 0 0, .slice none 0 0] := Tre.InS_in _ _ (scal_in (fun _ => True) W 0 0 ⟨#[]⟩)
attribute [local irreducible] prS

theorem right_in (v : Vt) (hv : OkT v) (cs : List Value) (w W : World) (hw : Io w W) (h : InV W v cs) :
    Calls Tryz.prog 25 #[.agg cs.toArray] W fun e w' => e = .returned (.bool (wi v 64)) ∧ Below W.heap.size W w' :=
  (Tre.pright v hv cs W h hw.env.tabs).mono fun _ _ k => k
theorem same_in (v u : Vt) (hv : OkT v) (hu : OkT u) (cs ds : List Value) (W : World) (h : InV W v cs) (k : InV W u ds) :
    Calls Tryz.prog 13 #[.agg cs.toArray, .agg ds.toArray] W fun e w' => e = .returned (.bool (smB v u)) ∧ Below W.heap.size W w' :=
  (Tre.psame v hv u hu cs ds W h k).mono fun _ _ k => k
end Go.Proofs.YtbpofhlnnldceaaGreatDoor.Par
