/- Contract of the document's Check of sets of rules. Conditions: the rules can be read, their texts have at most 2^47 bytes; the table of powers reads as the library lays it. · Contracts of the document's Canon and Is of sets of rules. Conditions: the rules can be read, their texts have at most 2^47 bytes; the table of powers reads as the library lays it. -/
import Derived.Test.YtoodiledcphclaaDoorThrP1
import Derived.Test.YtoodiledcphclaaDoorRulP3
import Derived.Test.YtoodiledcphclaaDoorRenN
import Derived.Lib.ItoaLen
namespace Go.Proofs.YtoodiledcphclaaDoor.Thr
open Go.RowKit Go.Lib
open Go.Proofs.YtoodiledcphclaaDoor.Rul (Ru zero Row Own ruC ruL rga chk)
open Go.Proofs.YtoodiledcphclaaDoor.Ren (Pw)

theorem itoa_at (n : Int) (h1 : -9223372036854775808 ≤ n) (h2 : n ≤ 9223372036854775807) (W : World) (hP : Pw W) :
    Calls Tryd.prog 29 #[.int .i64 n] W fun e w' => e = .returned (.string ⟨(Lib.itoa n).toArray⟩) ∧ Below W.heap.size W w' := by
  refine (Tryd.strconv_Itoa n h1 h2 W hP).mono ?_
  rintro e w' ⟨rfl, k, os, rfl⟩
  exact ⟨rfl, Lib.below_grow _ W (Nat.le_refl _) k os⟩
theorem fst_size (n : Nat) : ∀ l : List (ByteArray × Int), (∀ x ∈ l, x.1.size ≤ n) → (Rul.fst l).1.size ≤ n
  | [], _ => Nat.zero_le _
  | (p, e) :: l, h => by
    by_cases he : e = 0
    · rw [Rul.fst_no l he]; exact fst_size n l fun x hx => h x (List.mem_cons_of_mem _ hx)
    · rw [Rul.fst_yes l he]; exact h _ List.mem_cons_self
theorem path_size : ∀ p ∈ [Rul.p1, Rul.p2, Rul.p3, Rul.p4, Rul.p5, Rul.f1, Rul.f2, Rul.f3, Rul.f4, Rul.f5, Rul.f6, Rul.f7, Rul.f8], p.size ≤ 9 := by decide
theorem chk_size (r : Ru) : (chk r).1.size ≤ 9 := by
  refine fst_size 9 _ fun x hx => ?_
  unfold Rul.errs Rul.nums at hx
  simp only [List.mem_cons, List.not_mem_nil, or_false] at hx
  rcases hx with rfl | rfl | rfl | rfl | rfl | rfl | rfl | rfl | rfl | rfl | rfl | rfl | rfl <;> exact path_size _ (by simp only [List.mem_cons, true_or, or_true])
/-- A rule's place, as a path. -/
def at_ (i : Nat) : ByteArray := ⟨#[47]⟩ ++ ⟨(Lib.itoa (i : Int)).toArray⟩
theorem pre_at (i : Nat) (p : ByteArray) : pre i p = at_ i ++ p := rfl
theorem itoa_size (i : Nat) (h : i ≤ 5000) : (⟨(Lib.itoa (i : Int)).toArray⟩ : ByteArray).size ≤ 21 := by
  have := Lib.itoa_length_le (i : Int) (by omega) (by omega)
  show (Lib.itoa (i : Int)).toArray.size ≤ 21
  rwa [List.size_toArray]
/-- What the loop over the rules has told so far. -/
theorem step_at {L : List Ru} {i : Nat} (hi : i < L.length) (hf : Rul.fst (nxs L) = Rul.fst ((nxs L).drop i)) :
    ((nx L i).2 = 0 → Rul.fst (nxs L) = Rul.fst ((nxs L).drop (i + 1))) ∧ ((nx L i).2 ≠ 0 → Rul.fst (nxs L) = nx L i) := by
  rw [nxs_drop L hi] at hf
  rcases hx : nx L i with ⟨p, e⟩
  rw [hx] at hf
  exact ⟨fun h => by rw [hf, Rul.fst_no _ h], fun h => by rw [hf, Rul.fst_yes _ h]⟩
/-- The three ends of a round. -/
theorem round_bad {L : List Ru} {i : Nat} (hi : i < L.length) (hf : Rul.fst (nxs L) = Rul.fst ((nxs L).drop i)) (h : (chk (ga L i)).2 ≠ 0) : Rul.fst (nxs L) = (at_ i ++ (chk (ga L i)).1, (chk (ga L i)).2) := by
  have e := nx_bad h
  have := (step_at hi hf).2 (by rw [e]; exact h)
  rw [this, e, pre_at]
theorem round_twice {L : List Ru} {i k : Nat} (hi : i < L.length) (hf : Rul.fst (nxs L) = Rul.fst ((nxs L).drop i)) (h : (chk (ga L i)).2 = 0) (hk : k < i) (he : (ga L k).id = (ga L i).id) : Rul.fst (nxs L) = (at_ i ++ ⟨#[47, 105, 100]⟩, 11) := by
  have e := nx_twice h (tw_yes hi hk he)
  have := (step_at hi hf).2 (by rw [e]; exact (by decide : (11 : Int) ≠ 0))
  rw [this, e]; rfl
theorem round_ok {L : List Ru} {i : Nat} (hi : i < L.length) (hf : Rul.fst (nxs L) = Rul.fst ((nxs L).drop i)) (h : (chk (ga L i)).2 = 0) (hn : ∀ k, k < i → (ga L k).id ≠ (ga L i).id) : Rul.fst (nxs L) = Rul.fst ((nxs L).drop (i + 1)) := by
  have e := nx_ok h ((tw_iff hi).2 hn)
  exact (step_at hi hf).1 (by rw [e])
theorem sck_many {L : List Ru} (h : 4096 < L.length) : sck L = (⟨#[]⟩, 12) := by unfold sck; rw [if_pos h]
theorem sck_few {L : List Ru} (h : ¬ 4096 < L.length) : sck L = Rul.fst (nxs L) := by unfold sck; rw [if_neg h]

end Go.Proofs.YtoodiledcphclaaDoor.Thr

namespace Go.Proofs.YtoodiledcphclaaDoor.Thr
open Go.RowKit Go.Lib
open Go.Proofs.YtoodiledcphclaaDoor.Rul (Ru zero Row Own ruC ruL rga chk can cn)
open Go.Proofs.YtoodiledcphclaaDoor.Ren (Pw)

/-- The first m of them, in their canonical form, by rising ids. -/
def fm (L : List Ru) (m : Nat) : List Ru := ((L.take m).map can).foldl (fun l r => ins r l) []
theorem fm_zero (L : List Ru) : fm L 0 = [] := rfl
theorem fm_next {L : List Ru} {m : Nat} (h : m < L.length) : fm L (m + 1) = ins (can (ga L m)) (fm L m) := by
  unfold fm
  rw [List.take_add_one, List.getElem?_eq_getElem h, Option.toList_some, List.map_append, List.foldl_append, ga_at h]
  rfl
theorem fm_all (L : List Ru) : fm L L.length = srt (L.map can) := by unfold fm srt; rw [List.take_length]
theorem fm_len (L : List Ru) {m : Nat} (h : m ≤ L.length) : (fm L m).length = m := by
  have := (fold_perm ((L.take m).map can) []).length_eq
  unfold fm
  rw [this, List.append_nil, List.length_map, List.length_take]
  omega
/-- Texts of at most 2^47 bytes. -/
def Mod (L : List Ru) : Prop := ∀ r ∈ L, r.id.size ≤ 140737488355328 ∧ r.no.size ≤ 140737488355328 ∧ r.ro.size ≤ 140737488355328

end Go.Proofs.YtoodiledcphclaaDoor.Thr
