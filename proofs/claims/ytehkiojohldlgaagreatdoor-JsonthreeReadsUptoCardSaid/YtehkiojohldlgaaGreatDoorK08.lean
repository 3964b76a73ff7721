/- Texts of my own, packed: JsnMath, OpenStrs, PtrB, QuoG1, RouG2, PtrG, JsnList, LexG1, ParG1. Conditions: as each theorem states. -/
import Derived.ProofKit
import Derived.OpenShut
import Derived.WideShapes
import Derived.ChangeSlices
import Derived.SliceStrings
import Derived.Lib.ConvBytes
import Derived.Lib.AtoiAllMem
import Derived.Lib.AtoiErrMem
import Derived.Laws.Strings3
import Derived.Laws.Closers25
import Derived.Laws.Closers25b
import Derived.Lib.IfaceEq
import Derived.BigCall
import Derived.BigGuard
import Derived.Deep.QuietTactic
import Derived.BigQuiet
import Derived.Laws.Runes
import Derived.WalkMore
import Derived.Lib.Join
import Derived.Handy
import Derived.Deep.MidRow
import Derived.Laws.CopyOwn
import Derived.Shelf.Strconv.ParseIntPublic10
import Derived.WalkSmall
import Derived.Deep.RegionHeld3
import Derived.Deep.Draws
import Derived.Test.YtehkiojohldlgaaGreatDoorK01
import Derived.Test.YtehkiojohldlgaaGreatDoorK02
import Derived.Test.YtehkiojohldlgaaGreatDoorK03
import Derived.Test.YtehkiojohldlgaaGreatDoorK05
import Derived.Test.YtehkiojohldlgaaGreatDoorK06
import Derived.Test.YtehkiojohldlgaaGreatDoorK07
namespace Go.Proofs.YtehkiojohldlgaaGreatDoor.Jsn
open Go.Proofs.YtehkiojohldlgaaGreatDoor.Tre (Vt V0 find fnd)
open Go.Proofs.YtehkiojohldlgaaGreatDoor.Rul (Ru zero fst fst_yes fst_no fst_zero fst_ok kB kO Rt)

/-! ### names -/
/-- The members' names, in their order. -/
def all : List ByteArray := [⟨#[105, 100]⟩, ⟨#[110, 111, 116, 101]⟩, ⟨#[114, 111, 117, 116, 101]⟩, ⟨#[112, 114, 105, 111, 114, 105, 116, 121]⟩, ⟨#[107, 105, 110, 100]⟩, ⟨#[114, 97, 116, 101]⟩, ⟨#[112, 101, 114]⟩, ⟨#[98, 117, 114, 115, 116]⟩, ⟨#[99, 111, 115, 116]⟩, ⟨#[109, 97, 120]⟩, ⟨#[102, 97, 105, 108, 115]⟩, ⟨#[119, 97, 105, 116]⟩, ⟨#[112, 114, 111, 98, 101, 115]⟩]
def nm (i : Nat) : ByteArray := all.getD i ⟨#[]⟩
theorem nm_inj : ∀ i, i < 13 → ∀ j, j < 13 → nm i = nm j → i = j := by decide
theorem nm_eq (i j : Nat) (hi : i < 13) (hj : j < 13) : (nm i = nm j) ↔ (i = j) := ⟨nm_inj i hi j hj, fun h => by rw [h]⟩
def isin (names : List ByteArray) (s : ByteArray) : Bool := names.any fun n => decide (n = s)
theorem nm_in : ∀ i, i < 13 → isin all (nm i) = true := by decide

/-! ### a member -/
def tx (v : Vt) (s : ByteArray) : ByteArray × Int := match find v s with
  | none => (⟨#[]⟩, 16)
  | some x => if x.k = 3 then (x.s, 0) else (⟨#[]⟩, 15)
def nu (v : Vt) (s : ByteArray) : Int × Int := match find v s with
  | none => (0, 16)
  | some x => if x.k = 2 then (x.n, 0) else (0, 15)
/-- The first name that is none of them. -/
def unk (ns : List ByteArray) (names : List ByteArray) : Option ByteArray := ns.find? fun s => !isin names s

/-! ### a rule's object -/
def T (s : ByteArray) : Vt := .mk 3 0 s [] []
def N (n : Int) : Vt := .mk 2 n ⟨#[]⟩ [] []
def nums (r : Ru) : List (ByteArray × Vt) :=
  if r.ki = 1 then [(nm 5, N r.ra), (nm 6, N r.pe), (nm 7, N r.bu), (nm 8, N r.co)]
  else if r.ki = 2 then [(nm 9, N r.mx)] else [(nm 10, N r.fa), (nm 11, N r.wa), (nm 12, N r.pb)]
def note (r : Ru) : List (ByteArray × Vt) := if r.no = ⟨#[]⟩ then [] else [(nm 1, T r.no)]
def mem (r : Ru) : List (ByteArray × Vt) := (nm 0, T r.id) :: (note r ++ ((nm 2, T r.ro) :: (nm 3, N r.pr) :: (nm 4, T (kB r.ki)) :: nums r))
def obj (m : List (ByteArray × Vt)) : Vt := .mk 5 0 ⟨#[]⟩ (m.map Prod.snd) (m.map Prod.fst)
def one (r : Ru) : Vt := obj (mem r)
def look : List (ByteArray × Vt) → ByteArray → Option Vt
  | [], _ => none
  | (n, x) :: m, s => if n = s then some x else look m s
theorem fnd_look : ∀ (m : List (ByteArray × Vt)) (s : ByteArray), fnd (m.map Prod.fst) (m.map Prod.snd) s = look m s
  | [], _ => rfl
  | (n, x) :: m, s => by
    show (if n = s then some x else fnd (m.map Prod.fst) (m.map Prod.snd) s) = _
    rw [fnd_look m s]; rfl
theorem find_obj (m : List (ByteArray × Vt)) (s : ByteArray) : find (obj m) s = look m s := (if_pos rfl).trans (fnd_look m s)

/-! ### what is read of an object -/
def only (e : Int) : Int := if e = 15 then 15 else 0
def wr (e : Int) (m : Bool) : Int := if e = 15 ∨ (e = 16 ∧ m = true) then e else 0
/-- May a member of a kind of rules not be missing? -/
def wan (k : Int) (i : Nat) : Bool := decide (k = 1 ∧ (i = 5 ∨ i = 6 ∨ i = 7)) || (decide (k = 2 ∧ i = 9) || decide (k = 3 ∧ (i = 10 ∨ i = 11)))
def rdL (v : Vt) : List (ByteArray × Int) :=
  (nm 0, (tx v (nm 0)).2) :: (nm 1, only (tx v (nm 1)).2) :: (nm 2, (tx v (nm 2)).2) :: (nm 3, only (nu v (nm 3)).2) :: (nm 4, (tx v (nm 4)).2)
    :: [5, 6, 7, 8, 9, 10, 11, 12].map fun i => (nm i, wr (nu v (nm i)).2 (wan (kO (tx v (nm 4)).1) i))
def rdE (v : Vt) : ByteArray × Int := match unk v.ns all with
  | some s => (s, 17)
  | none => fst (rdL v)
def rdR (v : Vt) : Ru := ⟨(tx v (nm 0)).1, (tx v (nm 1)).1, (tx v (nm 2)).1, (nu v (nm 3)).1, kO (tx v (nm 4)).1, (nu v (nm 5)).1, (nu v (nm 6)).1, (nu v (nm 7)).1, (nu v (nm 8)).1, (nu v (nm 9)).1, (nu v (nm 10)).1, (nu v (nm 11)).1, (nu v (nm 12)).1⟩
theorem tx_look (m : List (ByteArray × Vt)) (s : ByteArray) : tx (obj m) s = match look m s with
  | none => (⟨#[]⟩, 16)
  | some x => if x.k = 3 then (x.s, 0) else (⟨#[]⟩, 15) := by unfold tx; rw [find_obj]
theorem nu_look (m : List (ByteArray × Vt)) (s : ByteArray) : nu (obj m) s = match look m s with
  | none => (0, 16)
  | some x => if x.k = 2 then (x.n, 0) else (0, 15) := by unfold nu; rw [find_obj]
theorem kO_kB {k : Int} (h : k = 1 ∨ k = 2 ∨ k = 3) : kO (kB k) = k := by
  rcases h with rfl | rfl | rfl <;> decide
theorem look_note (r : Ru) (m : List (ByteArray × Vt)) (i : Nat) (hi : i < 13) (h : i ≠ 1) : look (note r ++ m) (nm i) = look m (nm i) := by
  unfold note
  split
  · rfl
  · show (if nm 1 = nm i then _ else _) = _
    rw [if_neg (by rw [nm_eq 1 i (by decide) hi]; omega)]; rfl
theorem look_ne {n : ByteArray} {x : Vt} {m : List (ByteArray × Vt)} {s : ByteArray} (h : n ≠ s) : look ((n, x) :: m) s = look m s := if_neg h
theorem look_eq {n : ByteArray} {x : Vt} {m : List (ByteArray × Vt)} : look ((n, x) :: m) n = some x := if_pos rfl
theorem nm_ne {i j : Nat} (h : i ≠ j) (hi : i < 13) (hj : j < 13) : nm i ≠ nm j := fun e => h (nm_inj i hi j hj e)
theorem lk0 (r : Ru) : look (mem r) (nm 0) = some (T r.id) := look_eq
theorem lk1 (r : Ru) : look (mem r) (nm 1) = if r.no = ⟨#[]⟩ then none else some (T r.no) := by
  unfold mem
  rw [look_ne (nm_ne (by decide) (by decide) (by decide))]
  unfold note
  split
  · show look ((nm 2, T r.ro) :: (nm 3, N r.pr) :: (nm 4, T (kB r.ki)) :: nums r) (nm 1) = none
    rw [look_ne (nm_ne (by decide) (by decide) (by decide)), look_ne (nm_ne (by decide) (by decide) (by decide)), look_ne (nm_ne (by decide) (by decide) (by decide))]
    unfold nums
    split
    · rw [look_ne (nm_ne (by decide) (by decide) (by decide)), look_ne (nm_ne (by decide) (by decide) (by decide)), look_ne (nm_ne (by decide) (by decide) (by decide)), look_ne (nm_ne (by decide) (by decide) (by decide))]; rfl
    · split
      · rw [look_ne (nm_ne (by decide) (by decide) (by decide))]; rfl
      · rw [look_ne (nm_ne (by decide) (by decide) (by decide)), look_ne (nm_ne (by decide) (by decide) (by decide)), look_ne (nm_ne (by decide) (by decide) (by decide))]; rfl
  · exact look_eq
theorem lk2 (r : Ru) : look (mem r) (nm 2) = some (T r.ro) := by
  unfold mem
  rw [look_ne (nm_ne (by decide) (by decide) (by decide)), look_note r _ 2 (by decide) (by decide), look_eq]
theorem lk3 (r : Ru) : look (mem r) (nm 3) = some (N r.pr) := by
  unfold mem
  rw [look_ne (nm_ne (by decide) (by decide) (by decide)), look_note r _ 3 (by decide) (by decide), look_ne (nm_ne (by decide) (by decide) (by decide)), look_eq]
theorem lk4 (r : Ru) : look (mem r) (nm 4) = some (T (kB r.ki)) := by
  unfold mem
  rw [look_ne (nm_ne (by decide) (by decide) (by decide)), look_note r _ 4 (by decide) (by decide), look_ne (nm_ne (by decide) (by decide) (by decide)), look_ne (nm_ne (by decide) (by decide) (by decide)), look_eq]
theorem lkn (r : Ru) {i : Nat} (h : 5 ≤ i) (hi : i < 13) : look (mem r) (nm i) = look (nums r) (nm i) := by
  unfold mem
  rw [look_ne (nm_ne (by omega) (by decide) hi), look_note r _ i hi (by omega), look_ne (nm_ne (by omega) (by decide) hi), look_ne (nm_ne (by omega) (by decide) hi), look_ne (nm_ne (by omega) (by decide) hi)]
/-- The number that a right rule has under a name. -/
def num (r : Ru) (i : Nat) : Int := if i = 5 then r.ra else if i = 6 then r.pe else if i = 7 then r.bu else if i = 8 then r.co else if i = 9 then r.mx else if i = 10 then r.fa else if i = 11 then r.wa else r.pb
/-- Has a kind that number? -/
def has (k : Int) (i : Nat) : Bool := decide (k = 1 ∧ 5 ≤ i ∧ i ≤ 8) || (decide (k = 2 ∧ i = 9) || decide (k = 3 ∧ 10 ≤ i ∧ i ≤ 12))
theorem lkn_is {r : Ru} (hk : r.ki = 1 ∨ r.ki = 2 ∨ r.ki = 3) {i : Nat} (h : 5 ≤ i) (hi : i < 13) : look (mem r) (nm i) = if has r.ki i = true then some (N (num r i)) else none := by
  rw [lkn r h hi]
  unfold nums
  rcases (show i = 5 ∨ i = 6 ∨ i = 7 ∨ i = 8 ∨ i = 9 ∨ i = 10 ∨ i = 11 ∨ i = 12 by omega) with rfl | rfl | rfl | rfl | rfl | rfl | rfl | rfl
  all_goals
    rcases hk with hk | hk | hk
    all_goals
      rw [hk]
      simp [look, nm_eq, has, num]
theorem in_mem (r : Ru) : unk ((mem r).map Prod.fst) all = none := by
  unfold unk
  rw [List.find?_eq_none]
  intro s hs
  have key : ∃ i, i < 13 ∧ s = nm i := by
    unfold mem note nums at hs
    simp only [List.map_cons, List.map_append, List.mem_cons, List.mem_append] at hs
    rcases hs with rfl | hs | rfl | rfl | rfl | hs
    · exact ⟨0, by decide, rfl⟩
    · split at hs
      · cases hs
      · simp at hs; exact ⟨1, by decide, hs⟩
    · exact ⟨2, by decide, rfl⟩
    · exact ⟨3, by decide, rfl⟩
    · exact ⟨4, by decide, rfl⟩
    · split at hs
      · simp at hs
        rcases hs with rfl | rfl | rfl | rfl
        · exact ⟨5, by decide, rfl⟩
        · exact ⟨6, by decide, rfl⟩
        · exact ⟨7, by decide, rfl⟩
        · exact ⟨8, by decide, rfl⟩
      · split at hs
        · simp at hs; exact ⟨9, by decide, hs⟩
        · simp at hs
          rcases hs with rfl | rfl | rfl
          · exact ⟨10, by decide, rfl⟩
          · exact ⟨11, by decide, rfl⟩
          · exact ⟨12, by decide, rfl⟩
  obtain ⟨i, hi, rfl⟩ := key
  rw [nm_in i hi]; decide
theorem tx_T {m : List (ByteArray × Vt)} {s x : ByteArray} (h : look m s = some (T x)) : tx (obj m) s = (x, 0) := by rw [tx_look, h]; rfl
theorem nu_N {m : List (ByteArray × Vt)} {s : ByteArray} {n : Int} (h : look m s = some (N n)) : nu (obj m) s = (n, 0) := by rw [nu_look, h]; rfl
theorem tx_none {m : List (ByteArray × Vt)} {s : ByteArray} (h : look m s = none) : tx (obj m) s = (⟨#[]⟩, 16) := by rw [tx_look, h]
theorem nu_none {m : List (ByteArray × Vt)} {s : ByteArray} (h : look m s = none) : nu (obj m) s = (0, 16) := by rw [nu_look, h]
theorem nu_num {r : Ru} (hk : r.ki = 1 ∨ r.ki = 2 ∨ r.ki = 3) {i : Nat} (h : 5 ≤ i) (hi : i < 13) : nu (one r) (nm i) = if has r.ki i = true then (num r i, 0) else (0, 16) := by
  have := lkn_is hk h hi
  split at this
  · rw [if_pos (by assumption)]; exact nu_N this
  · rw [if_neg (by assumption)]; exact nu_none this
theorem has_wan {k : Int} {i : Nat} (h : wan k i = true) : has k i = true := by
  unfold wan at h
  unfold has
  simp only [Bool.or_eq_true, decide_eq_true_eq] at h ⊢
  omega
theorem rd_one {r : Ru} (h : Rt r) : rdE (one r) = (⟨#[]⟩, 0) ∧ rdR (one r) = r := by
  have hk : r.ki = 1 ∨ r.ki = 2 ∨ r.ki = 3 := by rcases h.ki with ⟨k, _⟩ | ⟨k, _⟩ | ⟨k, _⟩ <;> omega
  have hkb := kO_kB hk
  have x0 : tx (one r) (nm 0) = (r.id, 0) := tx_T (lk0 r)
  have x1 : (tx (one r) (nm 1)).1 = r.no ∧ only (tx (one r) (nm 1)).2 = 0 := by
    have := lk1 r
    split at this
    · rw [show tx (one r) (nm 1) = _ from tx_none this]
      exact ⟨by rename_i hn; exact hn.symm, rfl⟩
    · rw [show tx (one r) (nm 1) = _ from tx_T this]
      exact ⟨rfl, rfl⟩
  have x2 : tx (one r) (nm 2) = (r.ro, 0) := tx_T (lk2 r)
  have x3 : nu (one r) (nm 3) = (r.pr, 0) := nu_N (lk3 r)
  have x4 : tx (one r) (nm 4) = (kB r.ki, 0) := tx_T (lk4 r)
  have xn := fun i h hi => @nu_num r hk i h hi
  constructor
  · unfold rdE
    rw [show unk (one r).ns all = none from in_mem r]
    refine fst_ok _ ((fst_zero _).2 ?_)
    intro x hx
    unfold rdL at hx
    simp only [List.mem_cons, List.mem_map, List.not_mem_nil, or_false] at hx
    rw [x0, x2, x3, x4] at hx
    rcases hx with rfl | rfl | rfl | rfl | rfl | ⟨i, hi, rfl⟩
    · rfl
    · exact x1.2
    · rfl
    · rfl
    · rfl
    · have h5 : 5 ≤ i ∧ i < 13 := by omega
      show wr (nu (one r) (nm i)).2 (wan (kO (kB r.ki)) i) = 0
      rw [hkb, xn i h5.1 h5.2]
      cases hh : has r.ki i with
      | true => rfl
      | false =>
        cases hw : wan r.ki i with
        | true => rw [has_wan hw] at hh; cases hh
        | false => rfl
  · have hki := h.ki
    have e : ∀ i, 5 ≤ i → i < 13 → (nu (one r) (nm i)).1 = num r i := by
      intro i h5 hi
      rw [xn i h5 hi]
      cases hh : has r.ki i with
      | true => rfl
      | false =>
        show (0 : Int) = num r i
        unfold has at hh
        simp only [Bool.or_eq_false_iff, decide_eq_false_iff_not] at hh
        unfold num
        rcases (show i = 5 ∨ i = 6 ∨ i = 7 ∨ i = 8 ∨ i = 9 ∨ i = 10 ∨ i = 11 ∨ i = 12 by omega) with rfl | rfl | rfl | rfl | rfl | rfl | rfl | rfl <;> simp <;> omega
    unfold rdR
    rw [x0, x1.1, x2, x3, x4, hkb, e 5 (by decide) (by decide), e 6 (by decide) (by decide), e 7 (by decide) (by decide), e 8 (by decide) (by decide), e 9 (by decide) (by decide), e 10 (by decide) (by decide), e 11 (by decide) (by decide), e 12 (by decide) (by decide)]
    rfl
end Go.Proofs.YtehkiojohldlgaaGreatDoor.Jsn

namespace Go.Proofs.YtehkiojohldlgaaGreatDoor.Strs
open Go.ChangeShapes Go.WideShapes Go.ChangeAt Go.RowKit Go.Lib

set_option maxRecDepth 100000 in
theorem open_strs {H : Type} {enc : TypeId × Value → H} {W : World} {base : Nat} {b0 : Nat} {held : Bool} {v : Value} {d : DataW H} {ps : List MemPlace} {r : Reach}
    (hval : Value.okWide Tryz.prog W r b0 24 v) (hd : DataW.Trod enc Tryz.prog W base (fun _ => true) held 24 v d ps) :
    ∃ xs : List ByteArray, Row W v xs ∧ xs.length ≤ 9223372036854775807 ∧ ∀ n ∈ xs, n.size ≤ maxLen := by
  obtain ⟨a0, len, cap, rfl⟩ := okWide_slice Tryz.underlying24 hval
  obtain ⟨fuel, hf⟩ := hd
  rcases open_strings Tryz.underlying24 Tryz.underlying9 (by kernel_rfl) hf with ⟨hcs, _⟩ | ⟨a, len', cap', zs, hcs, _, hl, hm, hz, _, hcell, hwz⟩
  · simp [Value.cells] at hcs
    obtain ⟨rfl, rfl, rfl⟩ := hcs
    exact ⟨[], .inl ⟨rfl, _, _, rfl⟩, by simp, fun n hn => by cases hn⟩
  · simp [Value.cells] at hcs
    obtain ⟨rfl, rfl, rfl⟩ := hcs
    simp only [if_true] at hz
    have hlen : (zs.take len).length = len := by rw [List.length_take]; omega
    refine ⟨zs.take len, ?_, by rw [hlen]; unfold maxLen at hm; omega, fun n hn => hwz n (List.mem_of_mem_take hn)⟩
    by_cases h0 : len = 0
    · subst h0
      exact .inl ⟨List.take_zero, _, _, rfl⟩
    · obtain ⟨b, off, spot⟩ := a
      have hspot : spot = none := by simpa [Addr.add] using World.cell?_spot (hcell 0 (by omega))
      subst hspot
      refine .inr ⟨b, off, cap, by rw [hlen], fun j hj => ?_⟩
      have hc := hcell j (by omega)
      have e : ((⟨b, off, none⟩ : Addr).add j) = ⟨b, off + j, none⟩ := by
        rcases j with _ | j <;> simp [Addr.add]
      rw [e] at hc
      rw [hc]
      have e2 : (zs.take len).getD j ⟨#[]⟩ = zs.getD j ByteArray.empty := by
        rw [List.getD, List.getD, List.getElem?_take_of_lt (by omega)]
        rfl
      rw [e2]
end Go.Proofs.YtehkiojohldlgaaGreatDoor.Strs

namespace Go.Proofs.YtehkiojohldlgaaGreatDoor.Ptr
open Go.RowKit Go.Lib Go.Proofs.YtehkiojohldlgaaGreatDoor.Byt

/-- The parts whose text is s, if there are some. -/
def tkA (s : ByteArray) : Option (List ByteArray) := (tkP s.data.toList).map fun ps => ps.map fun l => ⟨l.toArray⟩
/-! ### a row of strings that the call changes in its place -/
/-- Block g holds the strings l. -/
def Sb (w : World) (g : Nat) (l : List ByteArray) : Prop := w.heap[g]? = some (.cells (l.map Value.string).toArray 9 (0, 0))
section
variable {w w' : World} {g : Nat} {l : List ByteArray}
theorem Sb.lt (h : Sb w g l) : g < w.heap.size := by
  rcases Nat.lt_or_ge g w.heap.size with h' | h'
  · exact h'
  · unfold Sb at h; simp [Array.getElem?_eq_none h'] at h
theorem Sb.next (h : Sb w g l) (hb : Below w.heap.size w w') : Sb w' g l := (hb.block g h.lt).trans h
theorem Sb.cell (h : Sb w g l) {j : Nat} (hj : j < l.length) : w.cell? ⟨g, j, none⟩ = some (.string (l.getD j ⟨#[]⟩)) := by
  rw [Lib.cell_of_heap h]
  simp [hj]
theorem Sb.free (h : Sb w g l) (j : Nat) : w.frozen? ⟨g, j, none⟩ = false := Lib.frozen_of_heap h j
theorem Sb.set (h : Sb w g l) (j : Nat) (x : ByteArray) : Sb (w.setCell ⟨g, j, none⟩ (.string x)) g (l.set j x) := by
  have := heap_setCell_same w g j _ _ (.string x) h
  unfold Sb
  rw [this, List.setIfInBounds_toArray, List.map_set]
theorem Sb.row (h : Sb w g l) (cap : Nat) : Strs.Row w (.slice (some ⟨g, 0, none⟩) l.length cap) l := .inr ⟨g, 0, cap, rfl, fun j hj => by rw [Nat.zero_add]; exact h.cell hj⟩
end
theorem clone_str (s : ByteArray) (w : World) (hs : s.size ≤ 281474976710656) :
    Calls Tryz.prog 39 #[.string s] w fun e w' => e = .returned (.string s) ∧ Below w.heap.size w w' := by
  go_enter Tryz.func39, Tryz.ntmps39
  go_wp2_with (go_at_call 78; refine (Tryz.stringslite_Clone _ _ hs).mono ?_; rintro e w' ⟨rfl, hb⟩)
  go_ret
  exact ⟨rfl, hb⟩
end Go.Proofs.YtehkiojohldlgaaGreatDoor.Ptr

namespace Go.Proofs.YtehkiojohldlgaaGreatDoor.Quo
open Go.RowKit Go.Lib Go.Proofs.YtehkiojohldlgaaGreatDoor.Byt Go.Proofs.YtehkiojohldlgaaGreatDoor.Oct

/-- 'a letter, made small': as the program spells it. -/
def low (c : Nat) : Int := bits .or .u8 (c : Int) 32
/-! ### Hexes -/
def hO (s : ByteArray) (a : Int) : Option Nat := if 0 ≤ a then h4 (s.data.toList.drop a.toNat) else none
def hN (s : ByteArray) (a : Int) : Nat := (hO s a).getD 0
def hB (s : ByteArray) (a : Int) : Bool := (hO s a).isSome
end Go.Proofs.YtehkiojohldlgaaGreatDoor.Quo

namespace Go.Proofs.YtehkiojohldlgaaGreatDoor.Quo
open Go.RowKit Go.Lib Go.Proofs.YtehkiojohldlgaaGreatDoor.Byt Go.Proofs.YtehkiojohldlgaaGreatDoor.Oct Go.Proofs.YtehkiojohldlgaaGreatDoor.Utf

/-! ### a number -/
/-! ### a letter -/
/-! ### a pair -/
/-! ### an escape -/
theorem row_one (w : World) (n : Int) (T : TypeId) : Num.Row (w.alloc (.cells #[.int .i64 n] T)) (.slice (some ⟨w.heap.size, 0, none⟩) 1 1) [n] := by
  refine .inr ⟨w.heap.size, 0, 1, rfl, fun j hj => ?_⟩
  obtain rfl : j = 0 := by simp at hj; omega
  rw [World.cell?_alloc_mark]; rfl
/-! ### a piece -/
end Go.Proofs.YtehkiojohldlgaaGreatDoor.Quo

namespace Go.Proofs.YtehkiojohldlgaaGreatDoor.Quo
open Go.RowKit Go.Lib Go.Proofs.YtehkiojohldlgaaGreatDoor.Byt Go.Proofs.YtehkiojohldlgaaGreatDoor.Oct Go.Proofs.YtehkiojohldlgaaGreatDoor.Utf Go.Proofs.YtehkiojohldlgaaGreatDoor.Bld

/-! ### what is written for a number -/
end Go.Proofs.YtehkiojohldlgaaGreatDoor.Quo

namespace Go.Proofs.YtehkiojohldlgaaGreatDoor.Quo
open Go.RowKit Go.Lib Go.Proofs.YtehkiojohldlgaaGreatDoor.Byt Go.Proofs.YtehkiojohldlgaaGreatDoor.Oct Go.Proofs.YtehkiojohldlgaaGreatDoor.Utf Go.Proofs.YtehkiojohldlgaaGreatDoor.Bld

/-! ### Take -/
/-- A value so far, the place, and what the rest says: the whole's answer. -/
def fin (acc : List UInt8) (i : Nat) (r : Nat × Nat × List UInt8) : Nat × Nat × List UInt8 := (r.1, i + r.2.1, if r.1 = 0 then acc ++ r.2.2 else [])
end Go.Proofs.YtehkiojohldlgaaGreatDoor.Quo

namespace Go.Proofs.YtehkiojohldlgaaGreatDoor.Rou
open Go.RowKit Go.Lib Go.Proofs.YtehkiojohldlgaaGreatDoor.Byt Go.Proofs.YtehkiojohldlgaaGreatDoor.Bld

section
variable (l : List ByteArray) (a : Option Addr) (c : Nat) (w : World)
end
end Go.Proofs.YtehkiojohldlgaaGreatDoor.Rou

namespace Go.Proofs.YtehkiojohldlgaaGreatDoor.Rou
open Go.RowKit Go.Lib Go.Proofs.YtehkiojohldlgaaGreatDoor.Byt

theorem app_data (a b : ByteArray) : (a ++ b).data.toList = a.data.toList ++ b.data.toList := by simp
theorem ext_data {a b : ByteArray} (h : a.data.toList = b.data.toList) : a = b := ByteArray.ext (Array.toList_inj.1 h)
theorem add_run (a b c : ByteArray) (h : a ++ b = c) (hs : c.size ≤ 8388608) : ∀ W, (Op.stringOp .add a b).run Tryz.prog W = .ok (.string c) W := by
  intro W
  subst h
  rw [ByteArray.size_append] at hs
  exact run_string_add W a b (by omega) (by omega)
/-! ### the document's -/
end Go.Proofs.YtehkiojohldlgaaGreatDoor.Rou

namespace Go.Proofs.YtehkiojohldlgaaGreatDoor.Ptr
open Go.RowKit Go.Lib Go.Proofs.YtehkiojohldlgaaGreatDoor.Byt

/-- The first k bytes, escaped. -/
def xB (s : ByteArray) (k : Nat) : ByteArray := ⟨(eL (s.data.toList.take k)).toArray⟩
theorem xB_zero (s : ByteArray) : xB s 0 = ⟨#[]⟩ := rfl
theorem xB_all (s : ByteArray) : xB s s.size = ⟨(eL s.data.toList).toArray⟩ := by
  unfold xB
  rw [List.take_of_length_le (by simp)]
theorem app_mk (a b : List UInt8) : (⟨a.toArray⟩ : ByteArray) ++ ⟨b.toArray⟩ = ⟨(a ++ b).toArray⟩ := by
  apply ByteArray.ext
  rw [ByteArray.data_append]
  simp
theorem xB_step (s : ByteArray) (k : Nat) (h : k < s.size) : xB s (k + 1) = xB s k ++ ⟨(eB (s.data.toList.getD k 0)).toArray⟩ := by
  have h2 : k < s.data.toList.length := by simpa using h
  unfold xB
  rw [app_mk, ← eL_snoc, List.take_add_one, List.getElem?_eq_getElem h2, List.getD_eq_getElem?_getD, List.getElem?_eq_getElem h2]
  rfl
theorem xB_size (s : ByteArray) (k : Nat) : (xB s k).size ≤ 2 * s.size := by
  unfold xB
  rw [sz_mk]
  have h1 := eL_len (s.data.toList.take k)
  have h2 : (s.data.toList.take k).length ≤ s.size := by rw [List.length_take]; simp; omega
  omega
theorem cut_one (s : ByteArray) (k : Nat) (h : k < s.size) : cutB s k 1 = ⟨#[s.data.toList.getD k 0]⟩ := by
  have h2 : k < s.data.toList.length := by simpa using h
  unfold cutB
  rw [List.drop_eq_getElem_cons h2, List.getD_eq_getElem?_getD, List.getElem?_eq_getElem h2]
  rfl
theorem jB_is (s x : ByteArray) : jB s x = s ++ ⟨#[47]⟩ ++ ⟨(eL x.data.toList).toArray⟩ := by
  unfold jB
  have e : pB [x] = 47 :: (eL x.data.toList ++ []) := by rw [pB_cons]; rfl
  have e2 : (⟨#[47]⟩ : ByteArray) = ⟨[47].toArray⟩ := rfl
  rw [e, List.append_nil, ByteArray.append_assoc, e2, app_mk]
  rfl
end Go.Proofs.YtehkiojohldlgaaGreatDoor.Ptr

namespace Go.Proofs.YtehkiojohldlgaaGreatDoor.Jsn
open Go.Proofs.YtehkiojohldlgaaGreatDoor.Tre (Vt V0 find fnd ins isort mkO srt srtL srtL_map wi wiL wiL_all hdB nmB textB noneB scal ltB)
open Go.Proofs.YtehkiojohldlgaaGreatDoor.Rul (Ru zero fst fst_yes fst_no fst_zero fst_ok kB kO Rt)
open Go.Proofs.YtehkiojohldlgaaGreatDoor.Thr (Rs sck scn sck_ok sck_zero scn_ok scn_no scn_right scn_scn ga)

/-! ### a set's list -/
def putV (L : List Ru) : Vt := .mk 4 0 ⟨#[]⟩ (L.map one) []
/-- An item's place, and a name behind it. -/
def atP (i : Nat) : ByteArray := ⟨#[47]⟩ ++ ⟨(Lib.itoa (i : Int)).toArray⟩
def jn (s x : ByteArray) : ByteArray := s ++ ⟨(Ptr.putP [x.data.toList]).toArray⟩
def bad (i : Nat) (x : Vt) : ByteArray × Int := if x.k = 5 then (if (rdE x).2 = 0 then (⟨#[]⟩, 0) else (jn (atP i) (rdE x).1, (rdE x).2)) else (atP i, 15)
def gv (l : List Vt) (i : Nat) : Vt := l.getD i V0
theorem gv_at {l : List Vt} {i : Nat} (h : i < l.length) : gv l i = l[i] := by
  unfold gv
  rw [List.getD_eq_getElem?_getD, List.getElem?_eq_getElem h]; rfl
def bads (l : List Vt) : List (ByteArray × Int) := (List.range l.length).map fun i => bad i (gv l i)
theorem bads_len (l : List Vt) : (bads l).length = l.length := by unfold bads; rw [List.length_map, List.length_range]
theorem bads_drop (l : List Vt) {i : Nat} (h : i < l.length) : (bads l).drop i = bad i (gv l i) :: (bads l).drop (i + 1) := by
  rw [List.drop_eq_getElem_cons (by rw [bads_len]; exact h)]
  congr 1
  unfold bads
  rw [List.getElem_map, List.getElem_range]
/-- What is wrong with a value, and the set that it describes. -/
def ofE (v : Vt) : ByteArray × Int :=
  if v.k = 4 then (if 4096 < v.l.length then (⟨#[]⟩, 12) else if (fst (bads v.l)).2 = 0 then sck (v.l.map rdR) else fst (bads v.l)) else (⟨#[]⟩, 15)
def ofR (v : Vt) : List Ru := if (ofE v).2 = 0 then scn (v.l.map rdR) else []
theorem bad_one {x : Vt} (i : Nat) (h5 : x.k = 5) (h : (rdE x).2 = 0) : bad i x = (⟨#[]⟩, 0) := by unfold bad; rw [if_pos h5, if_pos h]
/-- What is put, and anything whose items are read alike, is read as the canonical form. -/
theorem of_like {v : Vt} {L : List Ru} (hk : v.k = 4) (hl : v.l.length = L.length) (hs : Rs L) (hx : ∀ i, i < L.length → (gv v.l i).k = 5 ∧ rdE (gv v.l i) = (⟨#[]⟩, 0) ∧ rdR (gv v.l i) = ga L i) :
    ofE v = (⟨#[]⟩, 0) ∧ ofR v = scn L := by
  have hm : v.l.map rdR = L := by
    refine List.ext_getElem (by rw [List.length_map, hl]) fun i h1 h2 => ?_
    have hi : i < v.l.length := by rw [hl]; exact h2
    rw [List.getElem_map, ← gv_at hi, (hx i h2).2.2, Thr.ga_at h2]
  have hb : (fst (bads v.l)).2 = 0 := by
    refine (fst_zero _).2 fun x hx' => ?_
    unfold bads at hx'
    rw [List.mem_map] at hx'
    obtain ⟨i, hi, rfl⟩ := hx'
    rw [List.mem_range, hl] at hi
    rw [bad_one i (hx i hi).1 (by rw [(hx i hi).2.1])]
  have he : ofE v = (⟨#[]⟩, 0) := by
    unfold ofE
    rw [if_pos hk, if_neg (by rw [hl]; have := hs.len; omega), if_pos hb, hm]
    exact sck_ok hs
  refine ⟨he, ?_⟩
  unfold ofR
  rw [if_pos (by rw [he]), hm]
theorem gv_put {L : List Ru} {i : Nat} (h : i < L.length) : gv (putV L).l i = one (ga L i) := by
  have hi : i < (L.map one).length := by rw [List.length_map]; exact h
  show gv (L.map one) i = _
  rw [gv_at hi, List.getElem_map, Thr.ga_at h]
theorem of_put {L : List Ru} (hs : Rs L) : ofE (putV L) = (⟨#[]⟩, 0) ∧ ofR (putV L) = scn L := by
  refine of_like rfl (List.length_map _) hs fun i hi => ?_
  rw [gv_put hi]
  have := rd_one (hs.rt _ (Thr.ga_mem hi))
  exact ⟨rfl, this.1, this.2⟩

/-! ### sorted -/
theorem look_ins (p : ByteArray × Vt) : ∀ (m : List (ByteArray × Vt)) (s : ByteArray), look (ins p m) s = look (p :: m) s
  | [], _ => rfl
  | q :: m, s => by
    unfold ins
    split
    · rename_i h
      have hne : q.1 ≠ p.1 := by
        intro e
        unfold ltB at h
        rw [e] at h
        exact absurd (of_decide_eq_true h) (List.lt_irrefl _)
      show (if q.1 = s then some q.2 else look (ins p m) s) = _
      rw [look_ins p m s]
      show (if q.1 = s then some q.2 else if p.1 = s then some p.2 else look m s) = (if p.1 = s then some p.2 else if q.1 = s then some q.2 else look m s)
      by_cases h1 : q.1 = s
      · rw [if_pos h1, if_pos h1, if_neg (by rw [← h1]; exact fun e => hne e.symm)]
      · rw [if_neg h1, if_neg h1]
    · rfl
theorem look_sort : ∀ (m : List (ByteArray × Vt)) (s : ByteArray), look (isort m) s = look m s
  | [], _ => rfl
  | p :: m, s => by
    show look (ins p (isort m)) s = _
    rw [look_ins]
    show (if p.1 = s then some p.2 else look (isort m) s) = _
    rw [look_sort m s]; rfl
theorem ins_perm (p : ByteArray × Vt) : ∀ m : List (ByteArray × Vt), (ins p m).Perm (p :: m)
  | [] => .refl _
  | q :: m => by
    unfold ins
    split
    · exact ((ins_perm p m).cons q).trans (.swap p q m)
    · exact .refl _
theorem isort_perm : ∀ m : List (ByteArray × Vt), (isort m).Perm m
  | [] => .refl _
  | p :: m => (ins_perm p (isort m)).trans ((isort_perm m).cons p)
theorem zip_self : ∀ m : List (ByteArray × Vt), (m.map Prod.fst).zip (m.map Prod.snd) = m
  | [] => rfl
  | (a, b) :: m => by
    show (a, b) :: (m.map Prod.fst).zip (m.map Prod.snd) = _
    rw [zip_self m]
/-- Is an item a text or a number alone? -/
def leaf (x : Vt) : Prop := (∃ s, x = T s) ∨ ∃ n, x = N n
theorem srt_leaf {x : Vt} (h : leaf x) : srt x = x := by
  rcases h with ⟨s, rfl⟩ | ⟨n, rfl⟩ <;> rfl
theorem mem_leaf (r : Ru) : ∀ p ∈ mem r, leaf p.2 := by
  intro p hp
  unfold mem note nums at hp
  simp only [List.mem_cons, List.mem_append] at hp
  rcases hp with rfl | hp | rfl | rfl | rfl | hp
  · exact .inl ⟨_, rfl⟩
  · split at hp
    · cases hp
    · rw [List.mem_singleton] at hp; rw [hp]; exact .inl ⟨_, rfl⟩
  · exact .inl ⟨_, rfl⟩
  · exact .inr ⟨_, rfl⟩
  · exact .inl ⟨_, rfl⟩
  · split at hp
    · simp only [List.mem_cons, List.not_mem_nil, or_false] at hp
      rcases hp with rfl | rfl | rfl | rfl <;> exact .inr ⟨_, rfl⟩
    · split at hp
      · rw [List.mem_singleton] at hp; rw [hp]; exact .inr ⟨_, rfl⟩
      · simp only [List.mem_cons, List.not_mem_nil, or_false] at hp
        rcases hp with rfl | rfl | rfl <;> exact .inr ⟨_, rfl⟩
theorem srt_obj {m : List (ByteArray × Vt)} (h : ∀ p ∈ m, leaf p.2) : srt (obj m) = obj (isort m) := by
  have e : srtL (m.map Prod.snd) = m.map Prod.snd := by
    rw [srtL_map, List.map_map]
    exact List.map_congr_left fun p hp => srt_leaf (h p hp)
  show mkO 5 0 ⟨#[]⟩ (srtL (m.map Prod.snd)) (m.map Prod.fst) = _
  rw [e]
  unfold mkO
  rw [if_pos ⟨rfl, by rw [List.length_map, List.length_map]⟩, zip_self]
  rfl
theorem rd_like {m k : List (ByteArray × Vt)} (h : ∀ s, look m s = look k s) (hu : unk (m.map Prod.fst) all = none) (hv : unk (k.map Prod.fst) all = none) : rdE (obj m) = rdE (obj k) ∧ rdR (obj m) = rdR (obj k) := by
  have ht : ∀ s, tx (obj m) s = tx (obj k) s := fun s => by rw [tx_look, tx_look, h]
  have hn : ∀ s, nu (obj m) s = nu (obj k) s := fun s => by rw [nu_look, nu_look, h]
  constructor
  · unfold rdE
    rw [show unk (obj m).ns all = none from hu, show unk (obj k).ns all = none from hv]
    show fst (rdL (obj m)) = fst (rdL (obj k))
    unfold rdL
    simp only [ht, hn]
  · unfold rdR
    simp only [ht, hn]
theorem unk_perm {a b : List ByteArray} (h : a.Perm b) (hu : unk b all = none) : unk a all = none := by
  unfold unk at hu ⊢
  rw [List.find?_eq_none] at hu ⊢
  exact fun x hx => hu x (h.mem_iff.1 hx)
theorem rd_sorted {r : Ru} (h : Rt r) : rdE (srt (one r)) = (⟨#[]⟩, 0) ∧ rdR (srt (one r)) = r := by
  have e : srt (one r) = obj (isort (mem r)) := srt_obj (mem_leaf r)
  rw [e]
  have := rd_like (m := isort (mem r)) (k := mem r) (look_sort _) (unk_perm ((isort_perm (mem r)).map Prod.fst) (in_mem r)) (in_mem r)
  rw [this.1, this.2]
  exact rd_one h
theorem of_sorted {L : List Ru} (hs : Rs L) : ofE (srt (putV L)) = (⟨#[]⟩, 0) ∧ ofR (srt (putV L)) = scn L := by
  have e : srt (putV L) = .mk 4 0 ⟨#[]⟩ ((L.map one).map srt) [] := by
    show mkO 4 0 ⟨#[]⟩ (srtL (L.map one)) [] = _
    unfold mkO
    rw [if_neg (fun h => absurd h.1 (by decide)), srtL_map]
  rw [e]
  refine of_like rfl (by show ((L.map one).map srt).length = _; rw [List.length_map, List.length_map]) hs fun i hi => ?_
  have hi2 : i < ((L.map one).map srt).length := by rw [List.length_map, List.length_map]; exact hi
  have eg : gv ((L.map one).map srt) i = srt (one (ga L i)) := by
    rw [gv_at hi2, List.getElem_map, List.getElem_map, Thr.ga_at hi]
  show (gv ((L.map one).map srt) i).k = 5 ∧ rdE (gv ((L.map one).map srt) i) = _ ∧ rdR (gv ((L.map one).map srt) i) = _
  rw [eg]
  have hr := hs.rt _ (Thr.ga_mem hi)
  have := rd_sorted hr
  refine ⟨?_, this.1, this.2⟩
  rw [show srt (one (ga L i)) = obj (isort (mem (ga L i))) from srt_obj (mem_leaf _)]
  rfl

/-! ### what is read, put and read again -/
theorem of_zero {v : Vt} (h : (ofE v).2 = 0) : ofE v = (⟨#[]⟩, 0) ∧ Rs (v.l.map rdR) ∧ ofR v = scn (v.l.map rdR) := by
  have hR : ofR v = scn (v.l.map rdR) := by unfold ofR; rw [if_pos h]
  unfold ofE at h ⊢
  by_cases hk : v.k = 4
  · rw [if_pos hk] at h ⊢
    by_cases hl : 4096 < v.l.length
    · rw [if_pos hl] at h
      exact absurd h (by decide)
    · rw [if_neg hl] at h ⊢
      by_cases hb : (fst (bads v.l)).2 = 0
      · rw [if_pos hb] at h ⊢
        have hs := (sck_zero _).1 h
        exact ⟨sck_ok hs, hs, hR⟩
      · rw [if_neg hb] at h
        exact absurd h hb
  · rw [if_neg hk] at h
    exact absurd h (by decide)
theorem of_bad {v : Vt} (h : (ofE v).2 ≠ 0) : ofR v = [] := by unfold ofR; rw [if_neg h]
/-- What was read is a set in its canonical form, and is read again as it was. -/
theorem of_again {v : Vt} (h : (ofE v).2 = 0) : Rs (ofR v) ∧ scn (ofR v) = ofR v ∧ ofE (putV (ofR v)) = (⟨#[]⟩, 0) ∧ ofR (putV (ofR v)) = ofR v := by
  obtain ⟨-, hs, hr⟩ := of_zero h
  have hc := scn_right hs
  have hcc := scn_scn hs
  rw [hr]
  have := of_put hc
  rw [hcc] at this
  exact ⟨hc, hcc, this⟩

/-! ### right values -/
theorem low_text : ∀ l : List UInt8, (∀ c ∈ l, c.toNat < 128) → Utf.badL l = none
  | [], _ => rfl
  | c :: l, h => by
    have hw := Quo.wL_low c l (h c List.mem_cons_self)
    rw [Utf.badL_step (by rw [hw]; decide), hw]
    show (Utf.badL l).map _ = none
    rw [low_text l fun d hd => h d (List.mem_cons_of_mem _ hd)]; rfl
theorem fo_low {n : Nat} (h : Ide.fo n = true) : n < 128 := by
  unfold Ide.fo Ide.sm at h
  simp only [Bool.or_eq_true, Bool.and_eq_true, decide_eq_true_eq] at h
  omega
theorem id_text {s : ByteArray} (h : Rul.isId s = true) : textB s = true := by
  unfold Rul.isId at h
  obtain ⟨h1, -, h3, h4⟩ := (Ide.idL_iff _).1 h
  refine decide_eq_true (low_text _ fun c hc => ?_)
  obtain ⟨j, hj, rfl⟩ := List.getElem_of_mem hc
  by_cases h0 : j = 0
  · subst h0
    have := fo_low (Ide.sm_fo h3)
    rwa [List.getD_eq_getElem?_getD, List.getElem?_eq_getElem hj] at this
  · have := fo_low (h4 j (by omega) hj)
    rwa [List.getD_eq_getElem?_getD, List.getElem?_eq_getElem hj] at this
theorem mem_ps {c : UInt8} (hc : c ≠ 47) : ∀ l : List UInt8, c ∈ l → ∃ p ∈ Rou.ps l, c ∈ p
  | [], h => absurd h List.not_mem_nil
  | d :: l, h => by
    by_cases hd : d = 47
    · subst hd
      rw [Rou.ps_slash]
      rcases List.mem_cons.1 h with rfl | h
      · exact absurd rfl hc
      · obtain ⟨p, hp, hcp⟩ := mem_ps hc l h
        exact ⟨p, List.mem_cons_of_mem _ hp, hcp⟩
    · rw [Rou.ps_plain l hd]
      obtain ⟨x, y, e⟩ := Rou.ps_some l
      have ih := mem_ps hc l
      rw [e] at ih ⊢
      show ∃ p ∈ (d :: x) :: y, c ∈ p
      rcases List.mem_cons.1 h with rfl | h
      · exact ⟨c :: x, List.mem_cons_self, List.mem_cons_self⟩
      · obtain ⟨p, hp, hcp⟩ := ih h
        rcases List.mem_cons.1 hp with rfl | hp
        · exact ⟨d :: p, List.mem_cons_self, List.mem_cons_of_mem _ hcp⟩
        · exact ⟨p, List.mem_cons_of_mem _ hp, hcp⟩
theorem inW_low {n : Nat} (h : Rou.inW n = true) : n < 128 := by
  unfold Rou.inW at h
  simp only [Bool.or_eq_true, Bool.and_eq_true, decide_eq_true_eq] at h
  omega
theorem sg_low {p : List UInt8} (h : Rou.sg p = true) : ∀ c ∈ p, c.toNat < 128 := by
  intro c hc
  unfold Rou.sg Rou.wd at h
  rw [Bool.or_eq_true, decide_eq_true_eq, Bool.and_eq_true, List.all_eq_true] at h
  rcases h with rfl | h
  · rw [List.mem_singleton.1 hc]; decide
  · exact inW_low (h.2 c hc)
theorem mem_inn {l : List (List UInt8)} {p : List UInt8} (h : p ∈ l) : p ∈ Rou.inn l ∨ p = [42, 42] := by
  unfold Rou.inn
  split
  · rename_i hl
    obtain ⟨ne, hg⟩ : ∃ ne : l ≠ [], l.getLast ne = [42, 42] := by
      have hne : l ≠ [] := fun e => by rw [e] at h; cases h
      refine ⟨hne, ?_⟩
      rw [List.getLast?_eq_some_getLast hne] at hl
      exact Option.some.inj hl
    have := List.dropLast_concat_getLast ne
    rw [← this, List.mem_append, List.mem_singleton, hg] at h
    exact h
  · exact .inl h
theorem pa_text {s : ByteArray} (h : Rul.isPa s = true) : textB s = true := by
  unfold Rul.isPa Rou.patR at h
  rw [Bool.and_eq_true, List.all_eq_true] at h
  obtain ⟨h1, h2⟩ := h
  obtain ⟨l, hl, -, -⟩ := Rou.row_iff.1 h1
  refine decide_eq_true (low_text _ fun c hc => ?_)
  rw [hl] at hc h2
  rcases List.mem_cons.1 hc with rfl | hc
  · decide
  · by_cases h47 : c = 47
    · subst h47; decide
    · have hne : l ≠ [] := fun e => by rw [e] at hc; cases hc
      rw [Rou.prt_cons _ hne] at h2
      obtain ⟨p, hp, hcp⟩ := mem_ps h47 l hc
      rcases mem_inn hp with hi | rfl
      · exact sg_low (h2 p hi) c hcp
      · simp at hcp; rw [hcp]; decide
theorem kB_text (k : Int) : textB (kB k) = true := by
  unfold kB
  split
  · decide +kernel
  · split
    · decide +kernel
    · split
      · decide +kernel
      · decide +kernel
theorem wi_T {s : ByteArray} (h : textB s = true) (m : Int) : wi (T s) m = true := by
  unfold T wi hdB scal wiL
  simp [h]
theorem wi_N (n m : Int) : wi (N n) m = true := by
  unfold N wi hdB scal noneB wiL
  simp
theorem mem_nodup (r : Ru) : ((mem r).map Prod.fst).Nodup := by
  have key : ∃ is : List Nat, (mem r).map Prod.fst = is.map nm ∧ is.Nodup ∧ ∀ i ∈ is, i < 13 := by
    unfold mem note nums
    split
    all_goals
      split
      · first
          | exact ⟨[0, 2, 3, 4, 5, 6, 7, 8], rfl, by decide, by decide⟩
          | exact ⟨[0, 1, 2, 3, 4, 5, 6, 7, 8], rfl, by decide, by decide⟩
      · split
        · first
            | exact ⟨[0, 2, 3, 4, 9], rfl, by decide, by decide⟩
            | exact ⟨[0, 1, 2, 3, 4, 9], rfl, by decide, by decide⟩
        · first
            | exact ⟨[0, 2, 3, 4, 10, 11, 12], rfl, by decide, by decide⟩
            | exact ⟨[0, 1, 2, 3, 4, 10, 11, 12], rfl, by decide, by decide⟩
  obtain ⟨is, e, hn, hb⟩ := key
  rw [e]
  unfold List.Nodup at hn ⊢
  rw [List.pairwise_map]
  exact hn.imp_of_mem fun ha hb' hne he => hne (nm_inj _ (hb _ ha) _ (hb _ hb') he)
theorem mem_names {r : Ru} : ∀ s ∈ (mem r).map Prod.fst, textB s = true := by
  intro s hs
  have hu := in_mem r
  unfold unk at hu
  rw [List.find?_eq_none] at hu
  have := hu s hs
  simp only [Bool.not_eq_true', Bool.not_eq_false] at this
  unfold isin at this
  rw [List.any_eq_true] at this
  obtain ⟨n, hn, he⟩ := this
  rw [← of_decide_eq_true he]
  have key : ∀ n ∈ all, textB n = true := by decide +kernel
  exact key n hn
theorem mem_right {r : Ru} (h : Rt r) (m : Int) : ∀ p ∈ mem r, wi p.2 m = true := by
  intro p hp
  unfold mem note nums at hp
  simp only [List.mem_cons, List.mem_append] at hp
  rcases hp with rfl | hp | rfl | rfl | rfl | hp
  · exact wi_T (id_text h.id) m
  · split at hp
    · cases hp
    · rw [List.mem_singleton] at hp; rw [hp]; exact wi_T (decide_eq_true (of_decide_eq_true h.tx)) m
  · exact wi_T (pa_text h.ro) m
  · exact wi_N _ m
  · exact wi_T (kB_text _) m
  · split at hp
    · simp only [List.mem_cons, List.not_mem_nil, or_false] at hp
      rcases hp with rfl | rfl | rfl | rfl <;> exact wi_N _ m
    · split at hp
      · rw [List.mem_singleton] at hp; rw [hp]; exact wi_N _ m
      · simp only [List.mem_cons, List.not_mem_nil, or_false] at hp
        rcases hp with rfl | rfl | rfl <;> exact wi_N _ m
theorem wi_one {r : Ru} (h : Rt r) : wi (one r) 63 = true := by
  show (hdB 5 0 ⟨#[]⟩ ((mem r).map Prod.snd) ((mem r).map Prod.fst) 63 && wiL ((mem r).map Prod.snd) 62) = true
  rw [Bool.and_eq_true]
  constructor
  · have hn : nmB ((mem r).map Prod.fst) = true := by
      unfold nmB
      rw [Bool.and_eq_true, List.all_eq_true, decide_eq_true_eq]
      exact ⟨mem_names, mem_nodup r⟩
    unfold hdB noneB
    simp [hn]
  · rw [wiL_all, List.all_eq_true]
    intro x hx
    rw [List.mem_map] at hx
    obtain ⟨p, hp, rfl⟩ := hx
    exact mem_right h 62 p hp
theorem wi_put {L : List Ru} (hs : Rs L) : wi (putV L) 64 = true := by
  show (hdB 4 0 ⟨#[]⟩ (L.map one) [] 64 && wiL (L.map one) 63) = true
  rw [Bool.and_eq_true]
  constructor
  · unfold hdB noneB
    simp
  · rw [wiL_all, List.all_eq_true]
    intro x hx
    rw [List.mem_map] at hx
    obtain ⟨r, hr, rfl⟩ := hx
    exact wi_one (hs.rt r hr)
end Go.Proofs.YtehkiojohldlgaaGreatDoor.Jsn

namespace Go.Proofs.YtehkiojohldlgaaGreatDoor.Lx
open Go.RowKit Go.Lib Go.Proofs.YtehkiojohldlgaaGreatDoor.Byt

/-- The byte at m; 0 behind the end. -/
def by8 (s : ByteArray) (m : Nat) : Nat := (s.data.toList.getD m 0).toNat
theorem index_of (s : ByteArray) (m : Nat) (x : Int) (hx : x = (m : Int)) (h : m < s.size) (w : World) :
    (Instr.index 9 (.string s) (.int .i64 x)).run Tryz.prog w = .ok (.int .u8 (by8 s m : Int)) w := by
  subst hx
  have h2 : m < s.data.toList.length := by simpa using h
  have e : s[m].toNat = by8 s m := by
    have : s.data.toList.getD m 0 = s[m] := by rw [List.getD, List.getElem?_eq_getElem h2]; rfl
    unfold by8; rw [this]
  rw [run_index_string w 9 _ .i64 (m : Int) Tryz.underlying9, dif_pos ⟨by omega, by omega⟩, ← e]
  rfl
/-! ### isDigit -/
/-! ### skipDigits -/
/-! ### skipBlanks -/
/-! ### takeWord -/
/-- A token as a value; what Next hands back. -/
def tkV (t : Tk) : Value := .agg #[.int .i64 (t.k : Int), .int .i64 (t.o : Int), .int .i64 (t.z : Int), .string ⟨t.v.toArray⟩, .int .i64 t.n]
end Go.Proofs.YtehkiojohldlgaaGreatDoor.Lx

namespace Go.Proofs.YtehkiojohldlgaaGreatDoor.Lx
open Go.RowKit Go.Lib Go.Proofs.YtehkiojohldlgaaGreatDoor.Byt

/-- A token's cells. -/
def tkC (t : Tk) : List Value := [.int .i64 (t.k : Int), .int .i64 (t.o : Int), .int .i64 (t.z : Int), .string ⟨t.v.toArray⟩, .int .i64 t.n]
def T0 : Tk := ⟨0, 0, 0, [], 0⟩
section
variable {ops : Array Oper} {rest : List Oper} {o : Oper} {a : Act} {Q : Exit → Act → World → Prop}
end

/-! ### rows of tokens -/
def rowC (L : List Tk) : List Value := L.flatMap tkC
theorem rowC_len (L : List Tk) : (rowC L).length = L.length * 5 := by
  induction L with
  | nil => rfl
  | cons t L ih => unfold rowC at ih ⊢; rw [List.flatMap_cons, List.length_append, ih, List.length_cons]; show 5 + _ = _; omega
theorem rowC_app (x y : List Tk) : rowC (x ++ y) = rowC x ++ rowC y := by unfold rowC; simp
theorem rowC_one (t : Tk) : rowC [t] = tkC t := by unfold rowC; simp
theorem rowC_at (L : List Tk) : ∀ (j f : Nat), j < L.length → f < 5 → (rowC L)[j * 5 + f]? = (tkC (L.getD j T0))[f]? := by
  induction L with
  | nil => intro j f h; simp at h
  | cons t L ih =>
    intro j f hj hf
    have e : rowC (t :: L) = tkC t ++ rowC L := by unfold rowC; simp
    have hl : (tkC t).length = 5 := rfl
    rw [e]
    cases j with
    | zero => rw [List.getElem?_append_left (by omega)]; simp
    | succ j =>
      rw [List.getElem?_append_right (by omega), hl, show (j + 1) * 5 + f - 5 = j * 5 + f by omega, ih j f (by simp at hj; omega) hf]
      rfl
/-- v can be read as the tokens L. -/
def Row (w : World) (v : Value) (L : List Tk) : Prop :=
  (L = [] ∧ ∃ a cap, v = .slice a 0 cap) ∨ ∃ b cap, v = .slice (some ⟨b, 0, none⟩) L.length cap ∧ ∀ j, j < L.length → w.rangeAt b (j * 5) (tkC (L.getD j T0))
theorem rangeAt_next {w w' : World} {b o : Nat} {cs : List Value} (h : w.rangeAt b o cs) (hb : Below w.heap.size w w') : w'.rangeAt b o cs := by
  intro j v hj
  exact (hb.cell (Lib.lt_of_cell (h j v hj))).trans (h j v hj)
theorem Row.next {w w' : World} {v : Value} {L : List Tk} (h : Row w v L) (hb : Below w.heap.size w w') : Row w' v L := by
  rcases h with h | ⟨b, cap, h1, h2⟩
  · exact .inl h
  · exact .inr ⟨b, cap, h1, fun j hj => rangeAt_next (h2 j hj) hb⟩
theorem Row.nil (w : World) : Row w (.slice none 0 0) [] := .inl ⟨rfl, _, _, rfl⟩
/-- A row at any length: its cells are asked where there are some. -/
theorem Row.open_ {w : World} {v : Value} {L : List Tk} (h : Row w v L) : ∃ a cap, v = .slice a L.length cap ∧ ∀ j, j < L.length → ∃ b, a = some ⟨b, 0, none⟩ ∧ w.rangeAt b (j * 5) (tkC (L.getD j T0)) := by
  rcases h with ⟨rfl, a, cap, rfl⟩ | ⟨b, cap, rfl, hc⟩
  · exact ⟨a, cap, rfl, fun j hj => by cases hj⟩
  · exact ⟨_, cap, rfl, fun j hj => ⟨b, rfl, hc j hj⟩⟩
section
variable {w w' : World} {B : Nat} {v : Value} {L : List Tk}
end
section
variable {ops : Array Oper} {rest : List Oper} {o : Oper} {a : Act} {Q : Exit → Act → World → Prop}
end
end Go.Proofs.YtehkiojohldlgaaGreatDoor.Lx

namespace Go.Proofs.YtehkiojohldlgaaGreatDoor.Lx
open Go.RowKit Go.Lib Go.Proofs.YtehkiojohldlgaaGreatDoor.Byt

/-! ### the number's bytes -/
/-! ### takeNumber -/
end Go.Proofs.YtehkiojohldlgaaGreatDoor.Lx

namespace Go.Proofs.YtehkiojohldlgaaGreatDoor.Lx
open Go.RowKit Go.Lib Go.Proofs.YtehkiojohldlgaaGreatDoor.Byt Go.Proofs.YtehkiojohldlgaaGreatDoor.Quo

/-! ### Next -/
/-- The place where Next begins to look. -/
def cl (s : ByteArray) (a : Int) : Nat := (max (min a (s.size : Int)) 0).toNat
end Go.Proofs.YtehkiojohldlgaaGreatDoor.Lx

namespace Go.Proofs.YtehkiojohldlgaaGreatDoor.Par
open Go.Lib Go.Proofs.YtehkiojohldlgaaGreatDoor.Utf Go.Proofs.YtehkiojohldlgaaGreatDoor.Quo Go.Proofs.YtehkiojohldlgaaGreatDoor.Lx
open Go.Proofs.YtehkiojohldlgaaGreatDoor.Tre (Vt V0 wi wiL wiL_all hdB textB nmB noneB scal OkT okV)

/-- What was read, and the place behind it; or where the fault stands, and which. -/
inductive Rs (α : Type) where
  | ok (x : α) (p : Nat)
  | no (o e : Nat)
def bnd {α β : Type} (r : Rs α) (f : α → Nat → Rs β) : Rs β := match r with | .ok x p => f x p | .no o e => .no o e
/-- A token that may not stand there. -/
def refu {α : Type} (t : Tk) : Rs α := .no t.o (if t.k = 0 then 3 else 4)
def tx (t : Tk) : ByteArray := ⟨t.v.toArray⟩
def isin (L : List ByteArray) (s : ByteArray) : Bool := L.any fun x => decide (x = s)
/-- The token at a place. -/
def nt (l : List UInt8) (p : Nat) : Rs Tk :=
  if (nx (l.drop p)).1 = 0 then .ok ((nx (l.drop p)).2.sh p) (p + (nx (l.drop p)).2.o + (nx (l.drop p)).2.z) else .no (p + (nx (l.drop p)).2.o) (nx (l.drop p)).1
section
variable (T : Nat → Rs Tk)
def lst (vf : Tk → Nat → Rs Vt) : Nat → List Vt → Tk → Nat → Rs (List Vt)
  | 0, _, _, p => .no p 99
  | g + 1, acc, t, p => bnd (vf t p) fun v p1 => bnd (T p1) fun t2 p2 => if t2.k = 4 then .ok (acc ++ [v]) p2 else if t2.k = 6 then bnd (T p2) fun t3 p3 => lst vf g (acc ++ [v]) t3 p3 else refu t2
def lst0 (vf : Tk → Nat → Rs Vt) (f p : Nat) : Rs Vt :=
  bnd (T p) fun t1 p1 => if t1.k = 4 then .ok (.mk 4 0 ⟨#[]⟩ [] []) p1 else bnd (lst T vf f [] t1 p1) fun l q => .ok (.mk 4 0 ⟨#[]⟩ l []) q
def obj (vf : Tk → Nat → Rs Vt) : Nat → List ByteArray → List Vt → Tk → Nat → Rs (List ByteArray × List Vt)
  | 0, _, _, _, p => .no p 99
  | g + 1, ns, l, t, p => if t.k = 7 then (if isin ns (tx t) = true then .no t.o 11 else bnd (T p) fun t2 p2 => if t2.k = 5 then bnd (T p2) fun t3 p3 => bnd (vf t3 p3) fun v p4 => bnd (T p4) fun t5 p5 =>
      if t5.k = 2 then .ok (ns ++ [tx t], l ++ [v]) p5 else if t5.k = 6 then bnd (T p5) fun t6 p6 => obj vf g (ns ++ [tx t]) (l ++ [v]) t6 p6 else refu t5 else refu t2) else refu t
def obj0 (vf : Tk → Nat → Rs Vt) (f p : Nat) : Rs Vt :=
  bnd (T p) fun t1 p1 => if t1.k = 2 then .ok (.mk 5 0 ⟨#[]⟩ [] []) p1 else bnd (obj T vf f [] [] t1 p1) fun x q => .ok (.mk 5 0 ⟨#[]⟩ x.2 x.1) q
/-- The value that token t begins, behind lv brackets; p is the place behind t. -/
def val : Nat → Tk → Nat → Nat → Rs Vt
  | 0, _, _, p => .no p 99
  | f + 1, t, lv, p =>
    if t.k = 11 then .ok V0 p else if t.k = 10 then .ok (.mk 1 0 ⟨#[]⟩ [] []) p else if t.k = 9 then .ok (.mk 1 1 ⟨#[]⟩ [] []) p else if t.k = 8 then .ok (.mk 2 t.n ⟨#[]⟩ [] []) p else if t.k = 7 then .ok (.mk 3 0 (tx t) [] []) p
    else if t.k = 3 then (if lv = 64 then .no t.o 10 else lst0 T (fun t p => val f t (lv + 1) p) f p) else if t.k = 1 then (if lv = 64 then .no t.o 10 else obj0 T (fun t p => val f t (lv + 1) p) f p) else refu t
end
/-! ### what is read is right -/
def Gd {α : Type} (L : Nat) (P : α → Nat → Prop) (p : Nat) : Rs α → Prop
  | .ok x q => p ≤ q ∧ q ≤ L ∧ P x q
  | .no o e => o ≤ L ∧ e ≠ 0
theorem Gd.bnd {α β : Type} {L p : Nat} {P : α → Nat → Prop} {Q : β → Nat → Prop} {r : Rs α} {f : α → Nat → Rs β} (h : Gd L P p r) (k : ∀ x q, p ≤ q → q ≤ L → P x q → Gd L Q q (f x q)) : Gd L Q p (bnd r f) := by
  cases r with
  | ok x q =>
    have := k x q h.1 h.2.1 h.2.2
    show Gd L Q p (f x q)
    cases hf : f x q with
    | ok y q' => rw [hf] at this; exact ⟨Nat.le_trans h.1 this.1, this.2⟩
    | no o e => rw [hf] at this; exact this
  | no o e => exact h
theorem Gd.low {α : Type} {L p p' : Nat} {P : α → Nat → Prop} {r : Rs α} (h : Gd L P p r) (hp : p' ≤ p) : Gd L P p' r := by
  cases r with
  | ok x q => exact ⟨Nat.le_trans hp h.1, h.2⟩
  | no o e => exact h
section
variable {l : List UInt8}
end

/-! ### blanks ahead -/
def shR {α : Type} (φ : α → α) (d : Nat) : Rs α → Rs α
  | .ok x p => .ok (φ x) (d + p)
  | .no o e => .no (d + o) e
section
variable {T T' : Nat → Rs Tk} {d : Nat} (hT : ∀ p, T' (d + p) = shR (fun t => t.sh d) d (T p))
include hT
end
end Go.Proofs.YtehkiojohldlgaaGreatDoor.Par

namespace Go.Proofs.YtehkiojohldlgaaGreatDoor.Par
open Go.RowKit Go.Lib Go.Proofs.YtehkiojohldlgaaGreatDoor.Byt Go.Proofs.YtehkiojohldlgaaGreatDoor.Lx

/-- Of what was there only block b may have changed. -/
def Only (b : Nat) (W W' : World) : Prop := W.grownBy W' (some b)
section
variable {b : Nat} {w0 W W' W2 : World}
theorem Only.refl (b : Nat) (W : World) : Only b W W := ⟨rfl, rfl, rfl, Nat.le_refl _, fun _ _ _ => rfl⟩
theorem Only.at_ (h : Only b W W') {k : Nat} (hk : k < W.heap.size) (hne : k ≠ b) : W'.heap[k]? = W.heap[k]? := h.block k hk (by simpa using hne)
theorem Only.trans (h : Only b W W') (k : Only b W' W2) : Only b W W2 :=
  ⟨k.os.trans h.os, k.tape.trans h.tape, k.output.trans h.output, Nat.le_trans h.size k.size, fun j hj hne => (k.block j (Nat.lt_of_lt_of_le hj h.size) hne).trans (h.block j hj hne)⟩
theorem Only.of (h : Below W.heap.size W W') : Only b W W' := ⟨h.os, h.tape, h.output, h.size, fun k hk _ => h.block k hk⟩
theorem Only.next (h : Only b W W') (k : Below W'.heap.size W' W2) : Only b W W2 := h.trans (.of k)
theorem Only.put (h : Only b W W') (j : Nat) (u : Value) : Only b W (W'.setCell ⟨b, j, none⟩ u) :=
  h.trans ⟨rfl, rfl, rfl, by simp [World.setCell], fun k _ hne => Below.heap_setCell _ _ _ _ (by simpa using hne)⟩
theorem Only.low (h : Only b W W') {B : Nat} (hb : Below B w0 W) (hB : B ≤ b) (hs : B ≤ w0.heap.size) : Below B w0 W' :=
  hb.trans ⟨h.os, h.tape, h.output, h.size, fun k hk => h.at_ (by have := hb.size; omega) (by omega)⟩
end

section
variable {w0 W W' : World} {b p : Nat} {s : ByteArray}
end

section
variable {w0 W1 W' W2 : World} {b p : Nat} {s : ByteArray}
end
end Go.Proofs.YtehkiojohldlgaaGreatDoor.Par

namespace Go.Proofs.YtehkiojohldlgaaGreatDoor.Par
open Go.RowKit Go.Lib Go.Proofs.YtehkiojohldlgaaGreatDoor.Byt Go.Proofs.YtehkiojohldlgaaGreatDoor.Lx

/-! ### first -/
def fst (T : Nat → Rs Tk) (en p : Nat) : Rs (Tk × Bool) := bnd (T p) fun t q => .ok (t, decide (t.k ≠ en)) q
def tb (x : Tk × Bool) : Value := .tuple #[tkV x.1, .bool x.2]
end Go.Proofs.YtehkiojohldlgaaGreatDoor.Par

namespace Go.Proofs.YtehkiojohldlgaaGreatDoor.Par
open Go.RowKit Go.Lib Go.Proofs.YtehkiojohldlgaaGreatDoor.Byt Go.Proofs.YtehkiojohldlgaaGreatDoor.Lx

/-! ### following -/
end Go.Proofs.YtehkiojohldlgaaGreatDoor.Par
