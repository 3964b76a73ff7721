/- Contracts of the document's Canon and Is of sets of rules of version 1. Conditions: the rules can be read, Mod; the table of powers reads as the library lays it. · Contract of the document's Is of sets of rules of version 1; what the code's calls answer, as premises; SetoneSays out of them. Conditions: as each theorem states. -/
import Derived.Test.YtcdkibadnelgiaaDoorOneB
import Derived.Test.YtcdkibadnelgiaaDoorOneP2
namespace Go.Proofs.YtcdkibadnelgiaaDoor.One
open Go.RowKit Go.Lib
open Go.Proofs.YtcdkibadnelgiaaDoor.Ren (Pw)
open Go.Proofs.YtcdkibadnelgiaaDoor.Ide (lt)

/-- The first m of them, in their canonical form, by rising names. -/
def fm (L : List Ro) (m : Nat) : List Ro := ((L.take m).map can).foldl (fun l r => ins r l) []
theorem fm_zero (L : List Ro) : fm L 0 = [] := rfl
theorem fm_next {L : List Ro} {m : Nat} (h : m < L.length) : fm L (m + 1) = ins (can (ga L m)) (fm L m) := by
  unfold fm
  rw [List.take_add_one, List.getElem?_eq_getElem h, Option.toList_some, List.map_append, List.foldl_append, ga_at h]
  rfl
theorem fm_all (L : List Ro) : fm L L.length = srt (L.map can) := by unfold fm srt; rw [List.take_length]
theorem fm_len (L : List Ro) {m : Nat} (h : m ≤ L.length) : (fm L m).length = m := by
  have := (fold_perm ((L.take m).map can) []).length_eq
  unfold fm
  rw [this, List.append_nil, List.length_map, List.length_take]
  omega
theorem nil_row (w : World) (a : Option Addr) (cap : Nat) : Row w (.slice a 0 cap) [] := .inl ⟨rfl, _, _, rfl⟩
theorem nil_drop (w : World) (a : Option Addr) (c : Nat) (L : List Ro) (k : Nat) (h : L.length ≤ k) : Row w (.slice a 0 c) (L.drop k) := .inl ⟨List.drop_of_length_le h, a, c, rfl⟩
theorem grown_bx {w w' : World} {g : Nat} {cs : Array Value} (h : Bx w g cs) (hg : w.grownBy w' (Value.slice none 0 0).ownBlock) : Bx w' g cs :=
  (hg.block g h.lt (by intro e; cases e)).trans h
theorem store_f {w : World} {g j : Nat} {u : Value} (b : Nat) (hc : w.cell? ⟨g, j, none⟩ = some u) (hf : w.frozen? ⟨g, j, none⟩ = false) :
    Sem.run Tryd.prog (store ⟨g, j, none⟩ (.float .f64 b)) w = .ok () (w.setCell ⟨g, j, none⟩ (.float .f64 b)) := by
  rw [run_store Tryd.prog w _ _ _ rfl]
  simp [hc, hf]
end Go.Proofs.YtcdkibadnelgiaaDoor.One

namespace Go.Proofs.YtcdkibadnelgiaaDoor.One
open Go.RowKit Go.Lib
open Go.Proofs.YtcdkibadnelgiaaDoor.Ren (Pw)

theorem scn_ps (L : List Ro) : ∀ r ∈ scn L, r.ps < 18446744073709551616 := by
  intro r hr
  by_cases hz : (sck L).2 = 0
  · have hrs := (sck_zero L).1 hz
    obtain ⟨q, _, rfl⟩ := List.mem_map.1 ((scn_perm hrs).mem_iff.1 hr)
    have := (th_is (mn_le q.ps)).2.1
    unfold Real.inf at this
    show thB (Real.mn q.ps) < _
    omega
  · rw [scn_no hz] at hr
    cases hr
theorem scn_size {L : List Ro} (h : L.length ≤ 5000) : (scn L).length ≤ 5000 := by
  by_cases hz : (sck L).2 = 0
  · rw [scn_len ((sck_zero L).1 hz)]; exact h
  · rw [scn_no hz]; exact Nat.zero_le _

/-! ### the laws' premises -/
def CkP : Prop := ∀ (L : List Ro) (v : Value) (W : World), Row W v L → L.length ≤ 5000 → Mod L → Pw W →
  Calls Tryd.prog 13 #[v] W fun e w' => e = .returned (.tuple #[.string (sck L).1, .int .i64 (sck L).2]) ∧ Below W.heap.size W w'
def CnP : Prop := ∀ (L : List Ro) (v : Value) (W : World), Row W v L → L.length ≤ 5000 → Mod L → Pw W →
  Calls Tryd.prog 7 #[v] W fun e w' => ∃ v', e = .returned (.tuple #[v', .string (sck L).1, .int .i64 (sck L).2]) ∧ Row w' v' (scn L) ∧ Below W.heap.size W w'
def IsP : Prop := ∀ (L : List Ro) (v : Value) (W : World), Row W v L → L.length ≤ 5000 → Mod L → Pw W →
  Calls Tryd.prog 8 #[v] W fun e w' => e = .returned (.bool (isC L)) ∧ Below W.heap.size W w'
def SmP : Prop := ∀ (L M : List Ro) (v u : Value) (W : World), Row W v L → Row W u M → L.length ≤ 9223372036854775807 → M.length ≤ 9223372036854775807 → (∀ r ∈ L, r.ps < 18446744073709551616) → (∀ r ∈ M, r.ps < 18446744073709551616) →
  Calls Tryd.prog 9 #[v, u] W fun e w' => e = .returned (.bool (sm L M)) ∧ Below W.heap.size W w'
def AwP : Prop := ∀ (W : World), Pw W → Calls Tryd.prog 6 #[] W fun e w' => e = .returned (.bool true) ∧ Below W.heap.size W w'
theorem mod_of {L : List Ro} (hf : Fit L) (h : lgS L = true) : Mod L := fun r hr => by
  have := (lgS_iff h).2.2 r hr
  exact ⟨(hf r hr).2.2, by omega, by omega⟩

end Go.Proofs.YtcdkibadnelgiaaDoor.One
