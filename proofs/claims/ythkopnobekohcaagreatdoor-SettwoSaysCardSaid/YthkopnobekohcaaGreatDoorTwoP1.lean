/- Plain facts of sets of rules of version 2: which rule is wrong first, the canonical form; no program. Conditions: as each theorem states. · Rules of another version in memory: one, rows of them, read, made, filled place by place. Conditions: as each theorem states. · How a rule, and a slice of rules, that came in is opened. Conditions: as each theorem states. -/
import Derived.Test.YthkopnobekohcaaGreatDoorPlainB
import Derived.Test.YthkopnobekohcaaGreatDoorUniMath
import Derived.Lib.ItoaNum
import Derived.Test.YthkopnobekohcaaGreatDoorRowsA
import Derived.Deep.MidRow
import Derived.Laws.CopyOwn
import Derived.Laws.CopyRow
import Derived.Laws.MakeOwn
import Derived.Laws.OwnMore
import Derived.Lib.Builder
import Derived.Great.BuildSlice
import Derived.Handy
import Derived.OneCell
import Derived.ProofKit
import Derived.OpenShut
import Derived.WideShapes
import Derived.ChangeSlices
namespace Go.Proofs.YthkopnobekohcaaGreatDoor.Two
open Go.Proofs.YthkopnobekohcaaGreatDoor.Rul (fst fst_yes fst_no fst_zero fst_ok isId isTx isPa)
open Go.Proofs.YthkopnobekohcaaGreatDoor.Ide (lt lt_irrefl lt_trans lt_asymm lt_total)
open Go.Proofs.YthkopnobekohcaaGreatDoor.Uni (sz okT okT_iff tV tE nN nU n_ok n_back n_span tV_range tE_ok cl cl_own)

/-! ### one rule -/
structure Rw where
  id : ByteArray
  no : ByteArray
  ma : ByteArray
  rk : Int
  ki : Int
  li : Int
  wi : Int
  un : Int
  bu : Int
def zero : Rw := ⟨⟨#[]⟩, ⟨#[]⟩, ⟨#[]⟩, 0, 0, 0, 0, 0, 0⟩
def f1 : ByteArray := ⟨#[47, 105, 100]⟩
def f2 : ByteArray := ⟨#[47, 110, 111, 116, 101]⟩
def f3 : ByteArray := ⟨#[47, 109, 97, 116, 99, 104]⟩
def f4 : ByteArray := ⟨#[47, 114, 97, 110, 107]⟩
def f5 : ByteArray := ⟨#[47, 107, 105, 110, 100]⟩
def q1 : ByteArray := ⟨#[47, 108, 105, 109, 105, 116]⟩
def q2 : ByteArray := ⟨#[47, 117, 110, 105, 116]⟩
def q3 : ByteArray := ⟨#[47, 119, 105, 110, 100, 111, 119]⟩
def q4 : ByteArray := ⟨#[47, 98, 117, 114, 115, 116]⟩
def e1 (r : Rw) : Int := if isId r.id = true then 0 else 13
def e2 (r : Rw) : Int := if 255 < r.no.size then 5 else if isTx r.no = true then 0 else 8
def e3 (r : Rw) : Int := if isPa r.ma = true then 0 else 14
def e4 (r : Rw) : Int := if r.rk < 0 ∨ 1000 < r.rk then 2 else 0
def e5 (r : Rw) : Int := if r.ki = 1 ∨ r.ki = 2 then 0 else 15
def eR (n lo hi : Int) : Int := if n < lo ∨ hi < n then 2 else 0
def eZ (n : Int) : Int := if n = 0 then 0 else 17
def eU (u : Int) : Int := if sz u = 0 then 15 else 0
theorem e1_zero (r : Rw) : e1 r = 0 ↔ isId r.id = true := by unfold e1; split <;> simp [*]
theorem e2_zero (r : Rw) : e2 r = 0 ↔ r.no.size ≤ 255 ∧ isTx r.no = true := by
  unfold e2
  split
  · exact ⟨fun h => absurd h (by decide), fun h => by omega⟩
  · split
    · exact ⟨fun _ => ⟨by omega, by assumption⟩, fun _ => rfl⟩
    · exact ⟨fun h => absurd h (by decide), fun h => absurd h.2 (by assumption)⟩
theorem e3_zero (r : Rw) : e3 r = 0 ↔ isPa r.ma = true := by unfold e3; split <;> simp [*]
theorem e4_zero (r : Rw) : e4 r = 0 ↔ 0 ≤ r.rk ∧ r.rk ≤ 1000 := by
  unfold e4
  split
  · exact ⟨fun h => absurd h (by decide), fun h => by omega⟩
  · exact ⟨fun _ => by omega, fun _ => rfl⟩
theorem e5_zero (r : Rw) : e5 r = 0 ↔ r.ki = 1 ∨ r.ki = 2 := by unfold e5; split <;> simp [*]
theorem eR_zero (n lo hi : Int) : eR n lo hi = 0 ↔ lo ≤ n ∧ n ≤ hi := by
  unfold eR
  split
  · exact ⟨fun h => absurd h (by decide), fun h => by omega⟩
  · exact ⟨fun _ => by omega, fun _ => rfl⟩
theorem eZ_zero (n : Int) : eZ n = 0 ↔ n = 0 := by unfold eZ; split <;> simp [*]
theorem eU_zero (u : Int) : eU u = 0 ↔ sz u ≠ 0 := by unfold eU; split <;> simp [*]
theorem eT_zero (n u : Int) : tE n u 15 2 = 0 ↔ okT n u = true := by
  cases h : okT n u with
  | true => exact ⟨fun _ => rfl, fun _ => tE_ok h⟩
  | false => exact ⟨fun k => absurd k (Uni.tE_no h (by decide) (by decide)), fun k => by cases k⟩
theorem sz_ok {n u : Int} (h : okT n u = true) : sz u ≠ 0 := by
  unfold okT at h
  rw [Bool.and_eq_true] at h
  exact of_decide_eq_true h.1
/-- The numbers of a rate, those of a cap, and their faults. -/
def nums (r : Rw) : List (ByteArray × Int) :=
  if r.ki = 1 then [(q1, eR r.li 0 1000000), (q2, eU r.un), (q3, tE r.wi r.un 15 2), (q4, eR r.bu 0 1000000)]
  else [(q1, eR r.li 1 1000000), (q2, eZ r.un), (q3, eZ r.wi), (q4, eZ r.bu)]
def errs (r : Rw) : List (ByteArray × Int) := (f1, e1 r) :: (f2, e2 r) :: (f3, e3 r) :: (f4, e4 r) :: (f5, e5 r) :: nums r
def chk (r : Rw) : ByteArray × Int := fst (errs r)
/-- A right rule. -/
structure Rt (r : Rw) : Prop where
  id : isId r.id = true
  no : r.no.size ≤ 255
  tx : isTx r.no = true
  ma : isPa r.ma = true
  rk : 0 ≤ r.rk ∧ r.rk ≤ 1000
  ki : (r.ki = 1 ∧ (0 ≤ r.li ∧ r.li ≤ 1000000) ∧ okT r.wi r.un = true ∧ (0 ≤ r.bu ∧ r.bu ≤ 1000000)) ∨ (r.ki = 2 ∧ (1 ≤ r.li ∧ r.li ≤ 1000000) ∧ r.un = 0 ∧ r.wi = 0 ∧ r.bu = 0)
theorem chk_zero (r : Rw) : (chk r).2 = 0 ↔ Rt r := by
  unfold chk errs nums
  rw [fst_zero]
  by_cases h : r.ki = 1
  · rw [if_pos h]
    simp only [List.mem_cons, List.not_mem_nil, or_false, forall_eq_or_imp, forall_eq, e1_zero, e2_zero, e3_zero, e4_zero, e5_zero, eR_zero, eU_zero, eT_zero]
    constructor
    · rintro ⟨h1, ⟨h2, h2'⟩, h3, h4, _, a1, _, a3, a4⟩
      exact ⟨h1, h2, h2', h3, h4, .inl ⟨h, a1, a3, a4⟩⟩
    · rintro ⟨h1, h2, h2', h3, h4, h5⟩
      rcases h5 with ⟨_, a1, a3, a4⟩ | ⟨k, _⟩
      · exact ⟨h1, ⟨h2, h2'⟩, h3, h4, .inl h, a1, sz_ok a3, a3, a4⟩
      · omega
  · rw [if_neg h]
    simp only [List.mem_cons, List.not_mem_nil, or_false, forall_eq_or_imp, forall_eq, e1_zero, e2_zero, e3_zero, e4_zero, e5_zero, eR_zero, eZ_zero]
    constructor
    · rintro ⟨h1, ⟨h2, h2'⟩, h3, h4, h5, a1, a2, a3, a4⟩
      exact ⟨h1, h2, h2', h3, h4, .inr ⟨h5.resolve_left h, a1, a2, a3, a4⟩⟩
    · rintro ⟨h1, h2, h2', h3, h4, h5⟩
      rcases h5 with ⟨k, _⟩ | ⟨k, a1, a2, a3, a4⟩
      · exact absurd k h
      · exact ⟨h1, ⟨h2, h2'⟩, h3, h4, .inr k, a1, a2, a3, a4⟩
theorem chk_ok {r : Rw} (h : Rt r) : chk r = (⟨#[]⟩, 0) := fst_ok _ ((chk_zero r).2 h)
/-- The rule in its canonical form. -/
def can (r : Rw) : Rw := if r.ki = 1 then ⟨r.id, r.no, r.ma, r.rk, r.ki, r.li, nN (tV r.wi r.un), nU (tV r.wi r.un), if r.bu = 0 then max r.li 1 else r.bu⟩ else r
theorem can_one {r : Rw} (h : r.ki = 1) : can r = ⟨r.id, r.no, r.ma, r.rk, r.ki, r.li, nN (tV r.wi r.un), nU (tV r.wi r.un), if r.bu = 0 then max r.li 1 else r.bu⟩ := if_pos h
theorem can_two {r : Rw} (h : r.ki ≠ 1) : can r = r := if_neg h
theorem can_keeps {r : Rw} (_ : Rt r) : (can r).id = r.id ∧ (can r).no = r.no ∧ (can r).ma = r.ma ∧ (can r).li = r.li ∧ (can r).ki = r.ki := by
  unfold can
  split <;> exact ⟨rfl, rfl, rfl, rfl, rfl⟩
theorem tV_back {n u : Int} (h : okT n u = true) : tV (nN (tV n u)) (nU (tV n u)) = tV n u := by
  rw [n_back, cl_own (tV_range h).1 (tV_range h).2]
theorem can_right {r : Rw} (h : Rt r) : Rt (can r) := by
  rcases h.ki with ⟨k, a1, a3, a4⟩ | ⟨k, _⟩
  · rw [can_one k]
    refine ⟨h.id, h.no, h.tx, h.ma, h.rk, .inl ⟨k, a1, n_ok _, ?_⟩⟩
    dsimp only
    split <;> omega
  · rw [can_two (by omega)]; exact h
theorem can_can {r : Rw} (h : Rt r) : can (can r) = can r := by
  rcases h.ki with ⟨k, a1, a3, a4⟩ | ⟨k, _⟩
  · have hb : (if (if r.bu = 0 then max r.li 1 else r.bu) = 0 then max r.li 1 else (if r.bu = 0 then max r.li 1 else r.bu)) = if r.bu = 0 then max r.li 1 else r.bu := by
      by_cases q : r.bu = 0
      · rw [if_pos q]; split <;> rfl
      · rw [if_neg q, if_neg q]
    rw [can_one k]
    refine (can_one (r := ⟨r.id, r.no, r.ma, r.rk, r.ki, r.li, nN (tV r.wi r.un), nU (tV r.wi r.un), if r.bu = 0 then max r.li 1 else r.bu⟩) k).trans ?_
    dsimp only
    rw [tV_back a3, hb]
  · rw [can_two (show r.ki ≠ 1 by omega), can_two (show r.ki ≠ 1 by omega)]

/-! ### two rules, two sets -/
def rE (a b : Rw) : Bool :=
  decide (a.id = b.id) && (decide (a.no = b.no) && (decide (a.ma = b.ma) && (decide (a.rk = b.rk) && (decide (a.ki = b.ki) && (decide (a.li = b.li) && (decide (a.wi = b.wi) && (decide (a.un = b.un) && (decide (a.bu = b.bu)))))))))
theorem rE_iff (a b : Rw) : rE a b = true ↔ a = b := by
  unfold rE
  simp only [Bool.and_eq_true, decide_eq_true_eq]
  obtain ⟨a0, a1, a2, a3, a4, a5, a6, a7, a8⟩ := a
  obtain ⟨b0, b1, b2, b3, b4, b5, b6, b7, b8⟩ := b
  dsimp only
  constructor
  · rintro ⟨rfl, rfl, rfl, rfl, rfl, rfl, rfl, rfl, rfl⟩; rfl
  · intro h
    cases h
    exact ⟨rfl, rfl, rfl, rfl, rfl, rfl, rfl, rfl, rfl⟩
theorem rE_self (a : Rw) : rE a a = true := (rE_iff a a).2 rfl
theorem rE_no {a b : Rw} (h : a ≠ b) : rE a b = false := by
  cases hr : rE a b with
  | false => rfl
  | true => exact absurd ((rE_iff a b).1 hr) h
def ga (L : List Rw) (i : Nat) : Rw := L.getD i zero
theorem ga_at {L : List Rw} {i : Nat} (h : i < L.length) : ga L i = L[i] := by
  unfold ga
  rw [List.getD_eq_getElem?_getD, List.getElem?_eq_getElem h]; rfl
theorem ga_mem {L : List Rw} {i : Nat} (h : i < L.length) : ga L i ∈ L := by rw [ga_at h]; exact List.getElem_mem _
theorem mem_ga {L : List Rw} {r : Rw} (h : r ∈ L) : ∃ i, i < L.length ∧ ga L i = r := by
  obtain ⟨i, hi, e⟩ := List.getElem_of_mem h
  exact ⟨i, hi, by rw [ga_at hi, e]⟩
/-- Are both the same rules in the same order? -/
def sm : List Rw → List Rw → Bool
  | [], [] => true
  | a :: l, b :: m => rE a b && sm l m
  | _, _ => false
theorem sm_iff : ∀ l m : List Rw, sm l m = true ↔ l = m
  | [], [] => ⟨fun _ => rfl, fun _ => rfl⟩
  | [], _ :: _ => ⟨fun h => (by cases h), fun h => (by cases h)⟩
  | _ :: _, [] => ⟨fun h => (by cases h), fun h => (by cases h)⟩
  | a :: l, b :: m => by
    unfold sm
    rw [Bool.and_eq_true, rE_iff, sm_iff l m]
    constructor
    · rintro ⟨rfl, rfl⟩; rfl
    · intro h; cases h; exact ⟨rfl, rfl⟩
theorem sm_self (l : List Rw) : sm l l = true := (sm_iff l l).2 rfl
theorem ext_ga {l m : List Rw} (hl : l.length = m.length) (h : ∀ i, i < l.length → ga l i = ga m i) : l = m := by
  refine List.ext_getElem hl fun i h1 h2 => ?_
  have := h i h1
  rwa [ga_at h1, ga_at h2] at this
theorem sm_no_len {l m : List Rw} (h : l.length ≠ m.length) : sm l m = false := by
  cases hs : sm l m with
  | false => rfl
  | true => exact absurd (by rw [(sm_iff l m).1 hs]) h
theorem sm_no_at {l m : List Rw} (i : Nat) (h : ga l i ≠ ga m i) : sm l m = false := by
  cases hs : sm l m with
  | false => rfl
  | true => exact absurd (by rw [(sm_iff l m).1 hs]) h
theorem sm_yes {l m : List Rw} (hl : l.length = m.length) (h : ∀ i, i < l.length → ga l i = ga m i) : sm l m = true := (sm_iff l m).2 (ext_ga hl h)

/-! ### what is wrong -/
/-- A path behind a rule's place. -/
def pre (i : Nat) (p : ByteArray) : ByteArray := ⟨#[47]⟩ ++ ⟨(Lib.itoa (i : Int)).toArray⟩ ++ p
/-- Has an earlier rule the id of rule i? -/
def tw (L : List Rw) (i : Nat) : Bool := (L.take i).any fun x => decide (x.id = (ga L i).id)
def nx (L : List Rw) (i : Nat) : ByteArray × Int :=
  if (chk (ga L i)).2 = 0 then (if tw L i = true then (pre i f1, 11) else (⟨#[]⟩, 0)) else (pre i (chk (ga L i)).1, (chk (ga L i)).2)
def nxs (L : List Rw) : List (ByteArray × Int) := (List.range L.length).map (nx L)
def sck (L : List Rw) : ByteArray × Int := if 4096 < L.length then (⟨#[]⟩, 12) else fst (nxs L)
theorem nxs_len (L : List Rw) : (nxs L).length = L.length := by unfold nxs; rw [List.length_map, List.length_range]
theorem nxs_drop (L : List Rw) {i : Nat} (h : i < L.length) : (nxs L).drop i = nx L i :: (nxs L).drop (i + 1) := by
  rw [List.drop_eq_getElem_cons (by rw [nxs_len]; exact h)]
  congr 1
  unfold nxs
  rw [List.getElem_map, List.getElem_range]
theorem nx_bad {L : List Rw} {i : Nat} (h : (chk (ga L i)).2 ≠ 0) : nx L i = (pre i (chk (ga L i)).1, (chk (ga L i)).2) := by unfold nx; rw [if_neg h]
theorem nx_twice {L : List Rw} {i : Nat} (h : (chk (ga L i)).2 = 0) (k : tw L i = true) : nx L i = (pre i f1, 11) := by unfold nx; rw [if_pos h, if_pos k]
theorem nx_ok {L : List Rw} {i : Nat} (h : (chk (ga L i)).2 = 0) (k : tw L i = false) : nx L i = (⟨#[]⟩, 0) := by unfold nx; rw [if_pos h, if_neg (by rw [k]; decide)]
theorem tw_yes {L : List Rw} {i k : Nat} (hi : i < L.length) (hk : k < i) (h : (ga L k).id = (ga L i).id) : tw L i = true := by
  unfold tw
  rw [List.any_eq_true]
  refine ⟨ga L k, ?_, decide_eq_true h⟩
  rw [List.mem_take_iff_getElem]
  exact ⟨k, by omega, (ga_at (by omega)).symm⟩
theorem tw_no {L : List Rw} {i : Nat} (h : ∀ k, k < i → k < L.length → (ga L k).id ≠ (ga L i).id) : tw L i = false := by
  unfold tw
  rw [List.any_eq_false]
  intro x hx hd
  rw [List.mem_take_iff_getElem] at hx
  obtain ⟨k, hk, rfl⟩ := hx
  have h2 : k < i ∧ k < L.length := by omega
  exact h k h2.1 h2.2 (by rw [ga_at h2.2]; exact of_decide_eq_true hd)
theorem tw_iff {L : List Rw} {i : Nat} (hi : i < L.length) : tw L i = false ↔ ∀ k, k < i → (ga L k).id ≠ (ga L i).id :=
  ⟨fun h k hk e => absurd (tw_yes hi hk e) (by rw [h]; decide), fun h => tw_no fun k hk _ => h k hk⟩
theorem nx_zero {L : List Rw} {i : Nat} (hi : i < L.length) : (nx L i).2 = 0 ↔ Rt (ga L i) ∧ ∀ k, k < i → (ga L k).id ≠ (ga L i).id := by
  rw [← chk_zero, ← tw_iff hi]
  unfold nx
  by_cases h : (chk (ga L i)).2 = 0
  · rw [if_pos h]
    cases tw L i with
    | false => exact ⟨fun _ => ⟨h, rfl⟩, fun _ => rfl⟩
    | true => exact ⟨fun q => absurd q (by simp), fun q => by cases q.2⟩
  · rw [if_neg h]
    exact ⟨fun q => absurd q h, fun q => absurd q.1 h⟩
/-- A right set. -/
structure Rs (L : List Rw) : Prop where
  len : L.length ≤ 4096
  rt : ∀ r ∈ L, Rt r
  nd : (L.map (·.id)).Nodup
theorem nodup_ga (L : List Rw) : (L.map (·.id)).Nodup ↔ ∀ i, i < L.length → ∀ k, k < i → (ga L k).id ≠ (ga L i).id := by
  unfold List.Nodup
  rw [List.pairwise_map, List.pairwise_iff_getElem]
  constructor
  · intro h i hi k hk
    rw [ga_at hi, ga_at (by omega)]
    exact h k i (by omega) hi hk
  · intro h i j hi hj hij
    have := h j hj i hij
    rwa [ga_at hi, ga_at hj] at this
theorem sck_zero (L : List Rw) : (sck L).2 = 0 ↔ Rs L := by
  unfold sck
  by_cases h : 4096 < L.length
  · rw [if_pos h]
    exact ⟨fun q => absurd q (by decide), fun q => absurd q.len (by omega)⟩
  · rw [if_neg h, fst_zero]
    have key : (∀ x ∈ nxs L, x.2 = 0) ↔ ∀ i, i < L.length → (nx L i).2 = 0 := by
      unfold nxs
      constructor
      · intro q i hi
        exact q _ (List.mem_map.2 ⟨i, List.mem_range.2 hi, rfl⟩)
      · intro q x hx
        obtain ⟨i, hi, rfl⟩ := List.mem_map.1 hx
        exact q i (List.mem_range.1 hi)
    rw [key]
    constructor
    · intro q
      refine ⟨by omega, fun r hr => ?_, (nodup_ga L).2 fun i hi => ((nx_zero hi).1 (q i hi)).2⟩
      obtain ⟨i, hi, rfl⟩ := mem_ga hr
      exact ((nx_zero hi).1 (q i hi)).1
    · intro q i hi
      exact (nx_zero hi).2 ⟨q.rt _ (ga_mem hi), (nodup_ga L).1 q.nd i hi⟩
theorem sck_ok {L : List Rw} (h : Rs L) : sck L = (⟨#[]⟩, 0) := by
  have hz := (sck_zero L).2 h
  unfold sck at hz ⊢
  rw [if_neg (by have := h.len; omega)] at hz ⊢
  exact fst_ok _ hz

/-! ### rising ids -/
def ls (a b : Rw) : Prop := lt a.id b.id = true
def ins (r : Rw) : List Rw → List Rw
  | [] => [r]
  | x :: l => if lt x.id r.id = true then x :: ins r l else r :: x :: l
theorem ins_perm (r : Rw) : ∀ l, (ins r l).Perm (r :: l)
  | [] => List.Perm.refl _
  | x :: l => by
    unfold ins
    split
    · exact ((ins_perm r l).cons x).trans (List.Perm.swap r x l)
    · exact List.Perm.refl _
theorem ins_rises {r : Rw} : ∀ {l : List Rw}, (∀ x ∈ l, x.id ≠ r.id) → l.Pairwise ls → (ins r l).Pairwise ls
  | [], _, _ => List.pairwise_singleton _ _
  | x :: l, hn, hp => by
    rw [List.pairwise_cons] at hp
    unfold ins
    by_cases hx : lt x.id r.id = true
    · rw [if_pos hx, List.pairwise_cons]
      refine ⟨fun y hy => ?_, ins_rises (fun y hy => hn y (List.mem_cons_of_mem _ hy)) hp.2⟩
      rcases List.mem_cons.1 ((ins_perm r l).mem_iff.1 hy) with rfl | hy
      · exact hx
      · exact hp.1 y hy
    · rw [if_neg hx, List.pairwise_cons]
      have hrx : lt r.id x.id = true := by
        cases hq : lt r.id x.id with
        | true => rfl
        | false => exact absurd (lt_total (by simpa using hx) hq) (hn x List.mem_cons_self)
      refine ⟨fun y hy => ?_, List.pairwise_cons.2 hp⟩
      rcases List.mem_cons.1 hy with rfl | hy
      · exact hrx
      · exact lt_trans hrx (hp.1 y hy)
/-- Where a rule is put among others. -/
def pl (L : List Rw) (s : ByteArray) : Nat := Ide.fn (L.map (·.id)) s
theorem ids_ga {L : List Rw} {j : Nat} (h : j < L.length) : Ide.ga (L.map (·.id)) j = (ga L j).id := by
  unfold Ide.ga
  rw [List.getD_eq_getElem?_getD, List.getElem?_map, List.getElem?_eq_getElem h, ga_at h]; rfl
theorem pl_le (L : List Rw) (s : ByteArray) : pl L s ≤ L.length := by
  have := Ide.fn_le (L.map (·.id)) s
  rwa [List.length_map] at this
theorem pl_is {L : List Rw} {s : ByteArray} {k : Nat} (hk : k ≤ L.length) (h1 : ∀ j, j < k → lt (ga L j).id s = true) (h2 : k < L.length → lt (ga L k).id s = false) : pl L s = k :=
  Ide.fn_is (by rw [List.length_map]; exact hk) (fun j hj => by rw [ids_ga (by omega)]; exact h1 j hj) (fun h => by rw [List.length_map] at h; rw [ids_ga h]; exact h2 h)
theorem ins_split (r : Rw) : ∀ L : List Rw, ins r L = L.take (pl L r.id) ++ r :: L.drop (pl L r.id)
  | [] => rfl
  | x :: L => by
    have e : pl (x :: L) r.id = if lt x.id r.id = true then pl L r.id + 1 else 0 := by
      unfold pl Ide.fn
      rw [List.map_cons, List.takeWhile_cons]
      split <;> rfl
    unfold ins
    rw [e]
    split
    · rw [ins_split r L, List.take_succ_cons, List.drop_succ_cons, List.cons_append]
    · rfl
/-- The rules by rising ids. -/
def srt (L : List Rw) : List Rw := L.foldl (fun l r => ins r l) []
theorem fold_perm : ∀ (L l : List Rw), (L.foldl (fun l r => ins r l) l).Perm (L ++ l)
  | [], l => List.Perm.refl _
  | r :: L, l => by
    rw [List.foldl_cons]
    refine (fold_perm L (ins r l)).trans ?_
    refine (List.Perm.append_left L (ins_perm r l)).trans ?_
    exact List.perm_middle
theorem srt_perm (L : List Rw) : (srt L).Perm L := by
  have := fold_perm L []
  rwa [List.append_nil] at this
theorem fold_rises : ∀ (L l : List Rw), l.Pairwise ls → ((L ++ l).map (·.id)).Nodup → (L.foldl (fun l r => ins r l) l).Pairwise ls
  | [], l, h, _ => h
  | r :: L, l, h, hn => by
    rw [List.foldl_cons]
    have hp : ((r :: L) ++ l).Perm (L ++ ins r l) := (List.perm_middle (a := r) (l₁ := L) (l₂ := l)).symm.trans (List.Perm.append_left L (ins_perm r l).symm)
    refine fold_rises L (ins r l) (ins_rises (fun x hx e => ?_) h) ((hp.map _).nodup_iff.1 hn)
    rw [List.cons_append, List.map_cons, List.nodup_cons] at hn
    exact hn.1 (List.mem_map.2 ⟨x, List.mem_append_right _ hx, e⟩)
theorem srt_rises {L : List Rw} (h : (L.map (·.id)).Nodup) : (srt L).Pairwise ls := fold_rises L [] List.Pairwise.nil (by rwa [List.append_nil])
theorem rises_one : ∀ (l m : List Rw), l.Pairwise ls → m.Pairwise ls → l.Perm m → l = m
  | [], m, _, _, h => (List.Perm.nil_eq h)
  | a :: l, [], _, _, h => absurd h.length_eq (by simp)
  | a :: l, b :: m, hl, hm, h => by
    rw [List.pairwise_cons] at hl hm
    have hab : a = b := by
      have h1 : a ∈ b :: m := h.mem_iff.1 List.mem_cons_self
      have h2 : b ∈ a :: l := h.mem_iff.2 List.mem_cons_self
      rcases List.mem_cons.1 h1 with e | h1
      · exact e
      rcases List.mem_cons.1 h2 with e | h2
      · exact e.symm
      have k1 := hm.1 a h1
      have k2 := hl.1 b h2
      unfold ls at k1 k2
      rw [lt_asymm k1] at k2
      cases k2
    subst hab
    rw [rises_one l m hl.2 hm.2 (h.cons_inv)]
theorem srt_self {L : List Rw} (h : L.Pairwise ls) (hn : (L.map (·.id)).Nodup) : srt L = L := rises_one _ _ (srt_rises hn) h (srt_perm L)

/-! ### the canonical form -/
def scn (L : List Rw) : List Rw := if (sck L).2 = 0 then srt (L.map can) else []
theorem scn_ok {L : List Rw} (h : Rs L) : scn L = srt (L.map can) := by unfold scn; rw [if_pos ((sck_zero L).2 h)]
theorem scn_no {L : List Rw} (h : (sck L).2 ≠ 0) : scn L = [] := by unfold scn; rw [if_neg h]
theorem can_id {r : Rw} (h : Rt r) : (can r).id = r.id := (can_keeps h).1
theorem can_ids {L : List Rw} (h : ∀ r ∈ L, Rt r) : (L.map can).map (·.id) = L.map (·.id) := by
  rw [List.map_map]
  exact List.map_congr_left fun r hr => can_id (h r hr)
theorem cans_right {L : List Rw} (h : Rs L) : Rs (L.map can) :=
  ⟨by rw [List.length_map]; exact h.len, fun r hr => by obtain ⟨q, hq, rfl⟩ := List.mem_map.1 hr; exact can_right (h.rt q hq), by rw [can_ids h.rt]; exact h.nd⟩
theorem right_perm {L M : List Rw} (hp : L.Perm M) (h : Rs L) : Rs M :=
  ⟨by rw [← hp.length_eq]; exact h.len, fun r hr => h.rt r (hp.mem_iff.2 hr), (hp.map _).nodup_iff.1 h.nd⟩
theorem scn_perm {L : List Rw} (h : Rs L) : (scn L).Perm (L.map can) := by rw [scn_ok h]; exact srt_perm _
theorem scn_right {L : List Rw} (h : Rs L) : Rs (scn L) := right_perm (scn_perm h).symm (cans_right h)
theorem scn_rises {L : List Rw} (h : Rs L) : (scn L).Pairwise ls := by rw [scn_ok h]; exact srt_rises (cans_right h).nd
theorem scn_len {L : List Rw} (h : Rs L) : (scn L).length = L.length := by rw [(scn_perm h).length_eq, List.length_map]
/-- The canonical form's own is itself. -/
theorem scn_scn {L : List Rw} (h : Rs L) : scn (scn L) = scn L := by
  rw [scn_ok (scn_right h)]
  have e : (scn L).map can = scn L := by
    have : ∀ r ∈ scn L, can r = r := fun r hr => by
      obtain ⟨q, hq, rfl⟩ := List.mem_map.1 ((scn_perm h).mem_iff.1 hr)
      exact can_can (h.rt q hq)
    rw [List.map_congr_left this, List.map_id']
  rw [e]
  exact srt_self (scn_rises h) (scn_right h).nd
/-- It hangs on no order. -/
theorem scn_turn {L M : List Rw} (hp : L.Perm M) (h : Rs L) : scn M = scn L := by
  have hm := right_perm hp h
  exact rises_one _ _ (scn_rises hm) (scn_rises h) ((scn_perm hm).trans ((hp.symm.map _).trans (scn_perm h).symm))
/-- Is it in its canonical form? -/
def isC (L : List Rw) : Bool := decide ((sck L).2 = 0) && sm (scn L) L
theorem isC_no {L : List Rw} (h : (sck L).2 ≠ 0) : isC L = false := by unfold isC; rw [decide_eq_false h]; rfl
theorem isC_ok {L : List Rw} (h : Rs L) : isC L = sm (scn L) L := by unfold isC; rw [decide_eq_true ((sck_zero L).2 h)]; rfl
theorem isC_scn {L : List Rw} (h : Rs L) : isC (scn L) = true := by rw [isC_ok (scn_right h), scn_scn h]; exact sm_self _
theorem rises_at {L : List Rw} (h : L.Pairwise ls) {i : Nat} (h0 : 0 < i) (hi : i < L.length) : lt (ga L (i - 1)).id (ga L i).id = true := by
  rw [List.pairwise_iff_getElem] at h
  rw [ga_at hi, ga_at (by omega)]
  exact h (i - 1) i (by omega) hi (by omega)

end Go.Proofs.YthkopnobekohcaaGreatDoor.Two

namespace Go.Proofs.YthkopnobekohcaaGreatDoor.Two
open Go.RowKit Go.Lib Go.Proofs.YthkopnobekohcaaGreatDoor.Byt

/-! ### a rule in memory -/
theorem info13 : (Tryz.prog.info? 35).map (·.size) = some 9 := by kernel_rfl
/-- A rule's cells. -/
def ruC (r : Rw) : Array Value := #[.string r.id, .string r.no, .string r.ma, .int .i64 r.rk, .int .i64 r.ki, .int .i64 r.li, .int .i64 r.wi, .int .i64 r.un, .int .i64 r.bu]
/-- Block g holds those cells. -/
def Bx (w : World) (g : Nat) (cs : Array Value) : Prop := w.heap[g]? = some (.cells cs 35 (0, 0))
theorem Bx.next {w w' : World} {B g : Nat} {cs : Array Value} (h : Bx w g cs) (hb : Below B w w') (hg : g < B) : Bx w' g cs := (hb.block g hg).trans h
theorem Bx.lt {w : World} {g : Nat} {cs : Array Value} (h : Bx w g cs) : g < w.heap.size := by
  rcases Nat.lt_or_ge g w.heap.size with h' | h'
  · exact h'
  · unfold Bx at h; simp [Array.getElem?_eq_none h'] at h
theorem Bx.cell {w : World} {g : Nat} {cs : Array Value} (h : Bx w g cs) (j : Nat) : w.cell? ⟨g, j, none⟩ = cs[j]? := by
  unfold Bx at h
  simp [World.cell?, h]
theorem Bx.free {w : World} {g : Nat} {cs : Array Value} (h : Bx w g cs) (j : Nat) : w.frozen? ⟨g, j, none⟩ = false := Lib.frozen_of_heap h j
theorem bx_new (w : World) (cs : Array Value) : Bx (w.alloc (.cells cs 35)) w.heap.size cs := Go.heap_alloc_new _ _
theorem bx_old {w : World} {g : Nat} {cs : Array Value} (h : Bx w g cs) (o : Obj) : Bx (w.alloc o) g cs := by
  have hl := h.lt
  unfold Bx at h ⊢
  rw [← h]
  exact ((Below.refl w.heap.size w).alloc (Nat.le_refl _) o).block g hl
theorem setRow_self {w : World} {g : Nat} {cs : Array Value} (h : Bx w g cs) : w.setRow g cs = w := by
  have hlt := h.lt
  have hv : w.heap[g]'hlt = .cells cs 35 (0, 0) := by
    unfold Bx at h
    rw [Array.getElem?_eq_getElem hlt] at h
    exact Option.some.inj h
  have e : (w.setRow g cs).heap = w.heap := by
    unfold World.setRow
    apply Array.ext
    · simp
    · intro i h1 h2
      simp only [Array.getElem_modify]
      split
      · rename_i hk; subst hk; rw [hv]
      · rfl
  exact (show w.setRow g cs = { w with heap := (w.setRow g cs).heap } from rfl).trans (by rw [e])
/-- What is stored is what stood there. -/
theorem setCell_self {w : World} {g : Nat} {cs : Array Value} (h : Bx w g cs) {j : Nat} {v : Value} (hv : cs[j]? = some v) : w.setCell ⟨g, j, none⟩ v = w := by
  rw [setCell_eq_setRow w g j cs _ _ v h]
  have e : cs.setIfInBounds j v = cs := by
    apply Array.ext
    · simp
    · intro i h1 h2
      rw [Array.getElem_setIfInBounds]
      split
      · rename_i hk
        subst hk
        rw [Array.getElem?_eq_getElem h2] at hv
        exact (Option.some.inj hv).symm
      · rfl
  rw [e]
  exact setRow_self h
theorem Bx.set {w : World} {g : Nat} {cs : Array Value} (h : Bx w g cs) (j : Nat) (v : Value) : Bx (w.setCell ⟨g, j, none⟩ v) g (cs.setIfInBounds j v) := by
  rw [setCell_eq_setRow w g j cs _ _ v h]
  exact setRow_heap w g cs _ _ _ h

section
variable {ops : Array Oper} {rest : List Oper} {o : Oper} {a : Act} {Q : Exit → Act → World → Prop}
/-- 'x := *p' of a rule's variable. -/
theorem wpList_fetch (W : World) (hgd : o.guard = none) (x : Operand) (ho : o.op = .load 35 x) (g : Nat) (cs : Array Value)
    (hx : a.eval x = .pointer (some ⟨g, 0, none⟩)) (hk : Bx W g cs) (h13 : cs.size = 9)
    (h : wpList Tryz.prog ops Q rest (a.put o.dst (.agg cs)) W) : wpList Tryz.prog ops Q (o :: rest) a W :=
  wpList_load_row hgd _ x ho g hx _ cs _ _ hk Tryz.underlying35 rfl (by rw [info13, h13]) h
/-- '*p = r' of a rule's variable. -/
theorem wpList_keep (W : World) (hgd : o.guard = none) (x y : Operand) (ho : o.op = .store 35 x y) (B : Nat) (w0 : World) (hb : Below B w0 W) (g : Nat) (hB : B ≤ g) (r : Rw) (old : Array Value)
    (hx : a.eval x = .pointer (some ⟨g, 0, none⟩)) (hy : a.eval y = .agg (ruC r)) (hk : Bx W g old) (ho13 : old.size = 9)
    (h : ∀ w', Bx w' g (ruC r) → Below B w0 w' → (∀ k, k ≠ g → w'.heap[k]? = W.heap[k]?) → wpList Tryz.prog ops Q rest (a.put o.dst undef) w') : wpList Tryz.prog ops Q (o :: rest) a W := by
  refine wpList_store_row hgd _ x y ho g _ hx hy _ old hk (by rw [info13]; rfl) (by rw [ho13]; rfl) (by simp [ruC, Value.oneCell']) ?_
  exact h _ (setRow_heap W g old _ _ _ hk) (below_setRow hb hB _) (fun k hk => setRow_other W g k _ hk)
end
/-- What a function hands back whose one result is a rule in memory. -/
theorem results_one {fn : Func} {q : Tmp} (h : fn.results = #[.cell q 35]) (tmps : Array Value) (w : World) (g : Nat) (cs : Array Value)
    (hp : tmps.getD q undef = .pointer (some ⟨g, 0, none⟩)) (hk : Bx w g cs) (h13 : cs.size = 9) : (results fn tmps).run Tryz.prog w = .ok (.agg cs) w :=
  results_cell_row h tmps w g _ cs _ _ hp hk Tryz.underlying35 rfl (by rw [info13, h13])
/-- Whose first result is a rule in memory, two more behind it. -/
theorem results_three {fn : Func} {p t u : Tmp} (h : fn.results = #[.cell p 35, .tmp t, .tmp u]) (tmps : Array Value) (w : World) (g : Nat) (cs : Array Value)
    (hp : tmps.getD p undef = .pointer (some ⟨g, 0, none⟩)) (hk : Bx w g cs) (h13 : cs.size = 9) : (results fn tmps).run Tryz.prog w = .ok (.tuple #[.agg cs, tmps.getD t undef, tmps.getD u undef]) w := by
  have hl := run_loadVar_row (P := Tryz.prog) w g _ 35 cs _ _ hk Tryz.underlying35 rfl (by rw [info13, h13])
  have hp' : tmps[p]?.getD undef = .pointer (some ⟨g, 0, none⟩) := by simpa using hp
  simp [results, h, hp', asAddr, hl]
theorem info128 : (Tryz.prog.info? 35).map (fun i => (i.zero, i.size, i.bytes)) = some (some (.agg (ruC zero)), 9, 96) := by kernel_rfl
def ruL (r : Rw) : List Value := (ruC r).toList
def rga (L : List Rw) (i : Nat) : Rw := L.getD i zero
def rowC (L : List Rw) : List Value := L.flatMap ruL
theorem rowC_len (L : List Rw) : (rowC L).length = L.length * 9 := by
  induction L with
  | nil => rfl
  | cons t L ih => unfold rowC at ih ⊢; rw [List.flatMap_cons, List.length_append, ih, List.length_cons]; show 9 + _ = _; omega
theorem rowC_app (x y : List Rw) : rowC (x ++ y) = rowC x ++ rowC y := by unfold rowC; simp
theorem ruL_one (r : Rw) : ∀ u ∈ ruL r, u.oneCell' = true := by
  intro u hu
  unfold ruL ruC at hu
  simp only [List.mem_cons, List.not_mem_nil, or_false] at hu
  rcases hu with rfl | rfl | rfl | rfl | rfl | rfl | rfl | rfl | rfl <;> rfl
theorem rowC_one (L : List Rw) : ∀ u ∈ rowC L, u.oneCell' = true := by
  intro u hu
  obtain ⟨r, _, hr⟩ := List.mem_flatMap.1 hu
  exact ruL_one r u hr
theorem rowC_at (L : List Rw) : ∀ (j f : Nat), j < L.length → f < 9 → (rowC L)[j * 9 + f]? = (ruL (rga L j))[f]? := by
  induction L with
  | nil => intro j f h; simp at h
  | cons t L ih =>
    intro j f hj hf
    have e : rowC (t :: L) = ruL t ++ rowC L := by unfold rowC; simp
    have hl : (ruL t).length = 9 := rfl
    rw [e]
    cases j with
    | zero => rw [List.getElem?_append_left (by omega), Nat.zero_mul, Nat.zero_add]; rfl
    | succ j =>
      rw [List.getElem?_append_right (by omega), hl, show (j + 1) * 9 + f - 9 = j * 9 + f by omega, ih j f (by simp at hj; omega) hf]
      rfl
theorem lt_of_cell {w : World} {a : Addr} {v : Value} (hc : w.cell? a = some v) : a.block < w.heap.size := by
  rcases Nat.lt_or_ge a.block w.heap.size with h' | h'
  · exact h'
  · simp [World.cell?, Array.getElem?_eq_none h'] at hc
theorem rangeAt_next {w w' : World} {b o : Nat} {cs : List Value} (h : w.rangeAt b o cs) (hb : Below w.heap.size w w') : w'.rangeAt b o cs := by
  intro j v hj
  exact (hb.cell (lt_of_cell (h j v hj))).trans (h j v hj)

/-- v can be read as the rules L. -/
def Row (w : World) (v : Value) (L : List Rw) : Prop :=
  (L = [] ∧ ∃ a cap, v = .slice a 0 cap) ∨ ∃ b off cap, v = .slice (some ⟨b, off, none⟩) L.length cap ∧ L.length ≤ cap ∧ ∀ j, j < L.length → w.rangeAt b (off + j * 9) (ruL (rga L j))
theorem Row.next {w w' : World} {v : Value} {L : List Rw} (h : Row w v L) (hb : Below w.heap.size w w') : Row w' v L := by
  rcases h with h | ⟨b, off, cap, h1, h2, h3⟩
  · exact .inl h
  · exact .inr ⟨b, off, cap, h1, h2, fun j hj => rangeAt_next (h3 j hj) hb⟩
theorem Row.nil (w : World) : Row w (.slice none 0 0) [] := .inl ⟨rfl, _, _, rfl⟩
/-- A row at any length: its cells are asked where there are some. -/
theorem Row.open_ {w : World} {v : Value} {L : List Rw} (h : Row w v L) : ∃ a cap, v = .slice a L.length cap ∧ L.length ≤ cap ∧ ∀ j, j < L.length → ∃ b off, a = some ⟨b, off, none⟩ ∧ w.rangeAt b (off + j * 9) (ruL (rga L j)) := by
  rcases h with ⟨rfl, a, cap, rfl⟩ | ⟨b, off, cap, rfl, hl, hc⟩
  · exact ⟨a, cap, rfl, Nat.zero_le _, fun j hj => by cases hj⟩
  · exact ⟨_, cap, rfl, hl, fun j hj => ⟨b, off, rfl, hc j hj⟩⟩
/-- A rule's cells, one by one. -/
theorem range_cells {w : World} {b o : Nat} {r : Rw} (h : w.rangeAt b o (ruL r)) : w.cell? ⟨b, o, none⟩ = some (.string r.id) ∧ w.cell? ⟨b, o + 1, none⟩ = some (.string r.no) ∧ w.cell? ⟨b, o + 2, none⟩ = some (.string r.ma) ∧ w.cell? ⟨b, o + 3, none⟩ = some (.int .i64 r.rk) ∧ w.cell? ⟨b, o + 4, none⟩ = some (.int .i64 r.ki) ∧ w.cell? ⟨b, o + 5, none⟩ = some (.int .i64 r.li) ∧ w.cell? ⟨b, o + 6, none⟩ = some (.int .i64 r.wi) ∧ w.cell? ⟨b, o + 7, none⟩ = some (.int .i64 r.un) ∧ w.cell? ⟨b, o + 8, none⟩ = some (.int .i64 r.bu) :=
  ⟨h 0 _ rfl, h 1 _ rfl, h 2 _ rfl, h 3 _ rfl, h 4 _ rfl, h 5 _ rfl, h 6 _ rfl, h 7 _ rfl, h 8 _ rfl⟩
/-- The first k, and what stands behind them. -/
theorem Row.take {w : World} {a : Option Addr} {n cap : Nat} {L : List Rw} (h : Row w (.slice a n cap) L) (k : Nat) (hk : k ≤ n) : Row w (.slice a k cap) (L.take k) := by
  rcases h with ⟨rfl, a', cap', e⟩ | ⟨b, off, cap', e, hl, hc⟩
  · injection e with e1 e2 e3
    subst e1 e2 e3
    obtain rfl : k = 0 := by omega
    exact .inl ⟨List.take_nil, _, _, rfl⟩
  · injection e with e1 e2 e3
    subst e1 e2 e3
    have hlen : (L.take k).length = k := by rw [List.length_take]; omega
    refine .inr ⟨b, off, cap, by rw [hlen], by omega, fun j hj => ?_⟩
    rw [hlen] at hj
    have e2 : rga (L.take k) j = rga L j := by
      unfold rga
      rw [List.getD_eq_getElem?_getD, List.getD_eq_getElem?_getD, List.getElem?_take_of_lt hj]
    rw [e2]
    exact hc j (by omega)
theorem Row.len {w : World} {a : Option Addr} {n cap : Nat} {L : List Rw} (h : Row w (.slice a n cap) L) : L.length = n := by
  rcases h with ⟨rfl, a', cap', e⟩ | ⟨b, off, cap', e, hl, hc⟩
  · injection e with e1 e2 e3
    subst e2; rfl
  · injection e with e1 e2 e3
    exact e2.symm
theorem Row.drop {w : World} {b off n cap : Nat} {L : List Rw} (h : Row w (.slice (some ⟨b, off, none⟩) n cap) L) (k : Nat) (hk : k ≤ n) : Row w (.slice (some ⟨b, off + k * 9, none⟩) (n - k) (cap - k)) (L.drop k) := by
  rcases h with ⟨rfl, a', cap', e⟩ | ⟨b', off', cap', e, hl, hc⟩
  · injection e with e1 e2 e3
    subst e2 e3
    obtain rfl : k = 0 := by omega
    exact .inl ⟨List.drop_nil, _, _, rfl⟩
  · injection e with e1 e2 e3
    injection e1 with e1
    injection e1 with e4 e5
    subst e2 e3 e4 e5
    have hlen : (L.drop k).length = L.length - k := List.length_drop
    refine .inr ⟨b, off + k * 9, cap - k, by rw [hlen], by omega, fun j hj => ?_⟩
    rw [hlen] at hj
    have e2 : rga (L.drop k) j = rga L (k + j) := by
      unfold rga
      rw [List.getD_eq_getElem?_getD, List.getD_eq_getElem?_getD, List.getElem?_drop]
    rw [e2]
    have := hc (k + j) (by omega)
    rwa [show off + (k + j) * 9 = off + k * 9 + j * 9 by omega] at this

/-- v is the call's own (from block B on) and holds the rules L. -/
def Own (w : World) (B : Nat) (v : Value) (L : List Rw) : Prop := w.ownsRow B 35 9 v L.length (rowC L)
section
variable {w w' : World} {B : Nat} {v : Value} {L : List Rw}
theorem Own.nil (w : World) (B : Nat) : Own w B (.slice none 0 0) [] := World.ownsRow_nil _ _ _ _
theorem Own.alloc (h : Own w B v L) (o : Obj) : Own (w.alloc o) B v L := World.ownsRow.alloc h o
theorem Own.drewN (h : Own w B v L) (n : Nat) : Own (w.drewN n) B v L := h
theorem Own.next (h : Own w B v L) (hb : Below w.heap.size w w') : Own w' B v L := by
  refine ⟨h.1, ?_⟩
  rcases h.2 with hn | ⟨g, cap, cur, hv, hbg, hg, rest⟩
  · exact .inl hn
  · have hg2 : g < w.heap.size := by
      rcases Nat.lt_or_ge g w.heap.size with h' | h'
      · exact h'
      · simp [Array.getElem?_eq_none h'] at hg
    exact .inr ⟨g, cap, cur, hv, hbg, (hb.block g hg2).trans hg, rest⟩
theorem Own.beside (h : Own w B v L) (hb : ∀ k, v.ownBlock = some k → w'.heap[k]? = w.heap[k]?) : Own w' B v L := by
  refine ⟨h.1, ?_⟩
  rcases h.2 with hn | ⟨g, cap, cur, hv, hbg, hg, rest⟩
  · exact .inl hn
  · exact .inr ⟨g, cap, cur, hv, hbg, (hb g (by rw [hv]; rfl)).trans hg, rest⟩
theorem Own.cap (h : Own w B v L) : v = .slice none 0 0 ∧ L = [] ∨ ∃ g cap, v = .slice (some ⟨g, 0, none⟩) L.length cap ∧ L.length ≤ cap ∧ B ≤ g := by
  rcases h.2 with ⟨hv, hx⟩ | ⟨g, cap, cur, hv, hB, _, hl, _⟩
  · exact .inl ⟨hv, List.eq_nil_of_length_eq_zero hx⟩
  · exact .inr ⟨g, cap, hv, hl, hB⟩
theorem Own.row (h : Own w B v L) : Row w v L := by
  rcases h.cap with ⟨hv, hx⟩ | ⟨g, cap, hv, hl, _⟩
  · subst hv; subst hx
    exact Row.nil w
  · subst hv
    refine .inr ⟨g, 0, cap, rfl, hl, fun j hj f u hf => ?_⟩
    have hf13 : f < 9 := by
      have : f < (ruL (rga L j)).length := (List.getElem?_eq_some_iff.1 hf).1
      exact this
    rw [Nat.zero_add, World.ownsRow.cellAt h (j * 9 + f) (by omega), rowC_at L j f hj hf13, hf]
end
section
variable {ops : Array Oper} {rest : List Oper} {o : Oper} {a : Act} {Q : Exit → Act → World → Prop}
theorem run_pushRow (W : World) (ty : TypeId) (B : Nat) (w0 : World) (v : Value) (L : List Rw) (hown : Own W B v L) (hb : Below B w0 W) (hB : B ≤ w0.heap.size) (x : Value) (M : List Rw) (hr : Row W x M) (hlim : L.length + M.length ≤ 1000000000) :
    ∃ v' w', (Builtin.append_ #[22, 22] ty #[v, x]).run Tryz.prog W = .ok v' w' ∧ Own w' B v' (L ++ M) ∧ Below B w0 w' ∧ W.grownBy w' v.ownBlock := by
  obtain ⟨i0, hi, hz0, hz1, hz2⟩ := info_parts info128
  have hsz := hb.size
  have key : ∀ (ad : Addr) (c : Nat), x = .slice (some ad) M.length c → (∀ j u, (rowC M)[j]? = some u → W.cell? (ad.add j) = some u) →
      ∃ v' w', (Builtin.append_ #[22, 22] ty #[v, x]).run Tryz.prog W = .ok v' w' ∧ Own w' B v' (L ++ M) ∧ Below B w0 w' ∧ W.grownBy w' v.ownBlock := by
    rintro ad c rfl hn
    obtain ⟨v', w', hr', h2, h3, _⟩ := run_append_own (P := Tryz.prog) W B 22 ty 35 i0 (.agg (ruC zero)) 9 96 Tryz.underlying22 hi hz0 hz1 hz2 rfl (by omega) v L.length (rowC L) hown
      ad M.length c (rowC M) (rowC_len M) hn (rowC_one M) (by unfold maxLen; omega) (by omega) (by omega)
    refine ⟨v', w', hr', ?_, hb.grown h3 (by omega) (fun k hk => (World.ownsRow.lt hown k hk).1), h3⟩
    unfold Own
    rw [List.length_append, rowC_app]
    exact h2
  rcases hr with ⟨rfl, a, cap, rfl⟩ | ⟨b, off, cap, rfl, _, hc⟩
  · cases a with
    | some ad => exact key ad cap rfl fun j u hj => by simp [rowC] at hj
    | none =>
      refine ⟨v, W, ?_, by rw [List.append_nil]; exact hown, hb, ⟨rfl, rfl, rfl, Nat.le_refl _, fun _ _ _ => rfl⟩⟩
      rcases hown.2 with ⟨rfl, hn⟩ | ⟨g, cap', cur, rfl, _, _, hnc, _⟩
      · simp [Builtin.append_, run_underlying Tryz.underlying22, sizeOf, typeInfo, hi, Builtin.lenOf, Builtin.firstCells]
      · simp [Builtin.append_, run_underlying Tryz.underlying22, sizeOf, typeInfo, hi, Builtin.lenOf, Builtin.firstCells, hnc, storeCells]
  · refine key ⟨b, off, none⟩ cap rfl fun j u hj => ?_
    have hlt : j < M.length * 9 := by
      have := (List.getElem?_eq_some_iff.1 hj).1
      rwa [rowC_len] at this
    have e : ((⟨b, off, none⟩ : Addr).add j) = ⟨b, off + j, none⟩ := by rcases j with _ | j <;> simp [Addr.add]
    have hj2 : j / 9 < M.length := by omega
    have hd := rowC_at M (j / 9) (j % 9) hj2 (by omega)
    rw [show j / 9 * 9 + j % 9 = j by omega] at hd
    rw [e, show off + j = off + j / 9 * 9 + j % 9 by omega]
    exact hc (j / 9) hj2 (j % 9) u (by rw [← hd]; exact hj)
theorem wpList_pushRow (W : World) (hw : Region.wanted o (yielded ops a.tmps) = true) (s x : Operand) (ho : o.op = .call { callee := .builtin .append, args := #[s, x], argTypes := #[22, 22] })
    (B : Nat) (w0 : World) (v y : Value) (L M : List Rw) (hs : a.eval s = v) (hx : a.eval x = y) (hown : Own W B v L) (hb : Below B w0 W) (hB : B ≤ w0.heap.size) (hr : Row W y M) (hlim : L.length + M.length ≤ 1000000000)
    (h : ∀ v' w', Own w' B v' (L ++ M) → Below B w0 w' → W.grownBy w' v.ownBlock → wpList Tryz.prog ops Q rest (a.put o.dst v') w') : wpList Tryz.prog ops Q (o :: rest) a W := by
  obtain ⟨v', w', hr', h2, h3, h4⟩ := run_pushRow W o.type B w0 v L hown hb hB y M hr hlim
  refine wpList_step fun _ hK => ?_
  rw [if_pos hw]
  unfold Oper.wp execOp
  simp only [ho, resolve, invoke, builtin, Sem.run_bind, Sem.run_pure, Result.andThen_ok, List.map_toArray, List.map_cons, List.map_nil, hs, hx, hr']
  exact hK _ _ (h v' w' h2 h3 h4)
theorem wpList_push0 (W : World) (hg : o.guard = none) (s x : Operand) (ho : o.op = .call { callee := .builtin .append, args := #[s, x], argTypes := #[22, 22] })
    (B : Nat) (w0 : World) (v y : Value) (L M : List Rw) (hs : a.eval s = v) (hx : a.eval x = y) (hown : Own W B v L) (hb : Below B w0 W) (hB : B ≤ w0.heap.size) (hr : Row W y M) (hlim : L.length + M.length ≤ 1000000000)
    (h : ∀ v' w', Own w' B v' (L ++ M) → Below B w0 w' → W.grownBy w' v.ownBlock → wpList Tryz.prog ops Q rest (a.put o.dst v') w') : wpList Tryz.prog ops Q (o :: rest) a W :=
  wpList_pushRow W (by simp [Region.wanted, hg]) s x ho B w0 v y L M hs hx hown hb hB hr hlim h
/-- A rule read from a row. -/
theorem wpList_take (W : World) (hgd : o.guard = none) (x : Operand) (ho : o.op = .load 35 x) (b f : Nat) (r : Rw)
    (hx : a.eval x = .pointer (some ⟨b, f, none⟩)) (hc : W.rangeAt b f (ruL r))
    (h : wpList Tryz.prog ops Q rest (a.put o.dst (.agg (ruC r))) W) : wpList Tryz.prog ops Q (o :: rest) a W :=
  wpList_load_mid hgd _ x ho b f hx (ruL r) _ hc Tryz.underlying35 rfl info13 h
variable {K : Act → World → Prop} {E : Prop}
/-- One step of a region that draws. -/
theorem step_pushRow (W : World) (hg : o.guard = none) (s x : Operand) (ho : o.op = .call { callee := .builtin .append, args := #[s, x], argTypes := #[22, 22] })
    (B : Nat) (w0 : World) (v y : Value) (L M : List Rw) (hs : a.eval s = v) (hx : a.eval x = y) (hown : Own W B v L) (hb : Below B w0 W) (hB : B ≤ w0.heap.size) (hr : Row W y M) (hlim : L.length + M.length ≤ 1000000000)
    (h : ∀ v' w', Own w' B v' (L ++ M) → Below B w0 w' → W.grownBy w' v.ownBlock → K (a.put o.dst v') w') : if Region.wanted o (yielded ops a.tmps) = true then Oper.wp Tryz.prog o a W K Q else E := by
  obtain ⟨v', w', hr', h2, h3, h4⟩ := run_pushRow W o.type B w0 v L hown hb hB y M hr hlim
  have hw : Region.wanted o (yielded ops a.tmps) = true := by simp [Region.wanted, hg]
  rw [if_pos hw]
  unfold Oper.wp execOp
  simp only [ho, resolve, invoke, builtin, Sem.run_bind, Sem.run_pure, Result.andThen_ok, List.map_toArray, List.map_cons, List.map_nil, hs, hx, hr']
  exact h v' w' h2 h3 h4
end
/-- Rules written out, in a block just made. -/
theorem own_lit (w : World) (B : Nat) (hB : B ≤ w.heap.size) (L : List Rw) (hL : L.length ≤ 1000000) : Own (w.alloc (.cells (rowC L).toArray 35)) B (.slice (some ⟨w.heap.size, 0, none⟩) L.length L.length) L := by
  have := World.ownsRow_lit (base := B) (e := 35) (size := 9) w (rowC L).toArray L.length hB (by unfold maxLen; omega) (by rw [List.size_toArray, rowC_len])
  simpa [Own] using this
theorem own_one (w : World) (B : Nat) (hB : B ≤ w.heap.size) (r : Rw) : Own (w.alloc (.cells (ruC r) 35)) B (.slice (some ⟨w.heap.size, 0, none⟩) 1 1) [r] := own_lit w B hB [r] (by show 1 ≤ 1000000; decide)
theorem row_one (w : World) (r : Rw) : Row (w.alloc (.cells (ruC r) 35)) (.slice (some ⟨w.heap.size, 0, none⟩) 1 1) [r] := (own_one w 0 (Nat.zero_le _) r).row
theorem rowC_set : ∀ (L : List Rw) (j : Nat) (r : Rw), j < L.length → rowC (L.set j r) = (rowC L).take (j * 9) ++ (ruL r ++ (rowC L).drop (j * 9 + 9))
  | [], _, _, h => absurd h (Nat.not_lt_zero _)
  | t :: L, 0, r, _ => by
    unfold rowC
    rw [List.set_cons_zero, List.flatMap_cons, List.flatMap_cons, Nat.zero_mul, List.take_zero, List.nil_append, Nat.zero_add, List.drop_left' (show (ruL t).length = 9 from rfl)]
  | t :: L, j + 1, r, h => by
    have ih := rowC_set L j r (by simpa using h)
    unfold rowC at ih ⊢
    rw [List.set_cons_succ, List.flatMap_cons, List.flatMap_cons, ih, show (j + 1) * 9 = (ruL t).length + j * 9 by show _ = 9 + _; omega, List.take_length_add_append,
      show (ruL t).length + j * 9 + 9 = (ruL t).length + (j * 9 + 9) by omega, List.drop_length_add_append, List.append_assoc]
theorem take_mid (cur xs v : List Value) (o n : Nat) (h1 : cur.take n = xs) (ho : o + v.length ≤ n) (hn : n ≤ cur.length) : (cur.take o ++ v ++ cur.drop (o + v.length)).take n = xs.take o ++ (v ++ xs.drop (o + v.length)) := by
  subst h1
  rw [List.take_take, Nat.min_eq_left (by omega), List.drop_take, List.append_assoc, List.take_append, List.take_append]
  have l1 : (cur.take o).length = o := by rw [List.length_take]; omega
  rw [l1, List.take_of_length_le (by rw [l1]; omega), List.take_of_length_le (l := v) (by omega)]
  rw [show n - o - v.length = n - (o + v.length) by omega]
/-- A rule put at place j. -/
theorem own_put {W : World} {B g cap : Nat} {L : List Rw} (h : Own W B (.slice (some ⟨g, 0, none⟩) L.length cap) L) (j : Nat) (hj : j < L.length) (r : Rw) :
    ∃ w', (Instr.storeAt 35 (.pointer (some ⟨g, j * 9, none⟩)) (.agg (ruC r))).run Tryz.prog W = .ok () w' ∧ Own w' B (.slice (some ⟨g, 0, none⟩) L.length cap) (L.set j r) ∧ W.grownBy w' (some g) := by
  obtain ⟨i0, hi, _, hz1, _⟩ := info_parts info128
  rcases h.2 with ⟨e0, _⟩ | ⟨g', cap', cur, e0, hb, hg, hn, hm, hs, ht⟩
  · cases e0
  · injection e0 with e1 _ e3
    injection e1 with e1
    injection e1 with e1
    subst e1 e3
    have hlen : (rowC L).length = L.length * 9 := rowC_len L
    have hmul : L.length * 9 ≤ cur.size := by rw [hs]; exact Nat.mul_le_mul_right _ hn
    have hst := run_storeCells_at (P := Tryz.prog) g (j * 9) _ (ruL r) 0 cur W hg (by show j * 9 + 0 + 9 ≤ _; omega) (ruL_one r)
    refine ⟨W.setRow g (cur.toList.take (j * 9 + 0) ++ ruL r ++ cur.toList.drop (j * 9 + 0 + (ruL r).length)).toArray, ?_, ?_, ?_⟩
    · have hst2 : (storeCells ⟨g, j * 9, none⟩ (ruC r).toList 0).run Tryz.prog W = .ok () _ := hst
      have hq2 : (ruC r).size = i0.size := by rw [hz1]; rfl
      clear hst
      generalize ruC r = cs at *
      simp only [Instr.storeAt, Instr.sureAddr, Sem.run_bind, Sem.run_pure, Result.andThen_ok]
      simp [storeVar, sizeOf, typeInfo, hi, Value.cells, hq2, hst2]
    · unfold Own
      rw [List.length_set]
      refine ⟨?_, .inr ⟨g, cap, _, rfl, hb, setRow_heap W g cur _ _ _ hg, hn, hm, ?_, ?_⟩⟩
      · rw [rowC_len, List.length_set]
      · have h13 : (ruL r).length = 9 := rfl
        simp only [List.size_toArray, List.length_append, List.length_take, List.length_drop, Array.length_toList, h13]
        omega
      · rw [rowC_set L j r hj]
        have := take_mid cur.toList (rowC L) (ruL r) (j * 9) (L.length * 9) ht (by show j * 9 + 9 ≤ _; omega) (by rw [Array.length_toList]; exact hmul)
        rw [List.toList_toArray, Nat.add_zero]
        exact this
    · exact ⟨rfl, rfl, rfl, by simp [World.setRow], fun k _ hk => setRow_other W g k _ (fun e => hk (by rw [e]))⟩
/-- The same, cell by cell. -/
theorem own_putCells {W : World} {B g cap : Nat} {L : List Rw} (h : Own W B (.slice (some ⟨g, 0, none⟩) L.length cap) L) (j : Nat) (hj : j < L.length) (r : Rw) :
    W.there g (j * 9) 9 ∧ Own (W.setCells g (j * 9) (ruL r)) B (.slice (some ⟨g, 0, none⟩) L.length cap) (L.set j r) ∧ W.grownBy (W.setCells g (j * 9) (ruL r)) (some g) := by
  have ht : W.there g (j * 9) 9 := by
    rcases h.2 with ⟨e0, _⟩ | ⟨g', cap', cur, e0, hb, hg, hn, hm, hs, ht⟩
    · cases e0
    · injection e0 with e1 _ e3
      injection e1 with e1
      injection e1 with e1
      subst e1 e3
      intro i hi
      refine ⟨?_, by simp [World.frozen?, hg]⟩
      rw [World.ownsRow.cellAt h (j * 9 + i) (by omega), rowC_at L j i hj hi, List.getElem?_eq_getElem (show i < (ruL (rga L j)).length from hi)]
      rfl
  obtain ⟨w', hrun, h1, h2⟩ := own_put h j hj r
  have h3 := run_storeAt_mid (P := Tryz.prog) W g (j * 9) 35 (ruC r) ht info13 (by simp [ruC, Value.oneCell'])
  rw [hrun] at h3
  injection h3 with _ h3
  subst h3
  exact ⟨ht, h1, h2⟩
section
variable {ops : Array Oper} {rest : List Oper} {o : Oper} {a : Act} {Q : Exit → Act → World → Prop}
/-- 'l[j] = r' of a row that is the call's own. -/
theorem wpList_keepAt (W : World) (hgd : o.guard = none) (x y : Operand) (ho : o.op = .store 35 x y) (B : Nat) (w0 : World) (hb : Below B w0 W) (hB : B ≤ W.heap.size) (g cap : Nat) (L : List Rw) (j q : Nat) (hj : j < L.length) (r : Rw)
    (hx : a.eval x = .pointer (some ⟨g, q, none⟩)) (hq : q = j * 9) (hy : a.eval y = .agg (ruC r)) (hO : Own W B (.slice (some ⟨g, 0, none⟩) L.length cap) L)
    (h : ∀ w', Own w' B (.slice (some ⟨g, 0, none⟩) L.length cap) (L.set j r) → Below B w0 w' → wpList Tryz.prog ops Q rest (a.put o.dst undef) w') : wpList Tryz.prog ops Q (o :: rest) a W := by
  subst hq
  obtain ⟨w', hrun, h1, h2⟩ := own_put hO j hj r
  refine wpList_plain hgd fun _ hK => ?_
  unfold Oper.wp execOp
  simp only [ho, hx, hy, Sem.run_bind, Sem.run_pure, Result.andThen_ok, hrun]
  refine hK _ _ (h w' h1 (hb.grown h2 hB fun k hk => ?_))
  obtain rfl : g = k := Option.some.inj hk
  rcases hO.cap with ⟨e, _⟩ | ⟨g', cap', e, _, hBg⟩
  · cases e
  · injection e with e1
    injection e1 with e1
    injection e1 with e1
    rw [e1]; exact hBg
/-- 'make([]api.Rule, n)'. -/
theorem zerosR (n : Nat) : (madeCells (Value.agg (ruC zero)).cells (n * 9)).toList = rowC (List.replicate n zero) := by
  have hz : (Value.agg (ruC zero)).cells = ruC zero := rfl
  have hs : (ruC zero).size = 9 := rfl
  rw [hz]
  apply List.ext_getElem?
  intro t
  by_cases ht : t < n * 9
  · have h13 : t % 9 < 9 := Nat.mod_lt _ (by omega)
    have h2 := rowC_at (List.replicate n zero) (t / 9) (t % 9) (by rw [List.length_replicate]; omega) h13
    rw [show t / 9 * 9 + t % 9 = t by omega] at h2
    rw [h2]
    have h3 : rga (List.replicate n zero) (t / 9) = zero := by
      unfold rga
      rw [List.getD_eq_getElem?_getD, List.getElem?_replicate, if_pos (by omega)]; rfl
    rw [h3]
    obtain ⟨u, hu⟩ : ∃ u, (ruC zero)[t % 9]? = some u := ⟨_, Array.getElem?_eq_getElem (show t % 9 < (ruC zero).size from h13)⟩
    have hu2 : (ruC zero)[t % 9]! = u := by
      rw [getElem!_pos (ruC zero) (t % 9) h13]
      exact Option.some.inj ((Array.getElem?_eq_getElem _).symm.trans hu)
    simp [madeCells, ht, hs, ruL, hu, hu2]
  · have hm : (madeCells (ruC zero) (n * 9)).toList.length = n * 9 := by simp [madeCells]
    rw [List.getElem?_eq_none (by omega), List.getElem?_eq_none (by rw [rowC_len, List.length_replicate]; omega)]
theorem wpList_makeR (W : World) (hg : o.guard = none) (x y : Operand) (ho : o.op = .makeSlice 22 x y) (B : Nat) (w0 : World) (hb : Below B w0 W) (hB : B ≤ W.heap.size) (n : Nat) (hx : a.eval x = .int .i64 (n : Int)) (hy : a.eval y = .int .i64 (n : Int)) (hlim : n ≤ 100000000)
    (h : ∀ w' G, W.heap.size ≤ G → Own w' B (.slice (some ⟨G, 0, none⟩) n n) (List.replicate n zero) → Below B w0 w' → wpList Tryz.prog ops Q rest (a.put o.dst (.slice (some ⟨G, 0, none⟩) n n)) w') : wpList Tryz.prog ops Q (o :: rest) a W := by
  obtain ⟨i0, hi, hz0, hz1, hz2⟩ := info_parts info128
  refine wpList_make_full W hg x y _ ho B _ i0 _ 9 Tryz.underlying22 hi hz0 hz1 .i64 .i64 _ _ n hx hy rfl rfl (by rw [hz2]; omega) (by unfold maxLen; omega) hB ?_
  intro w' h1 h2
  refine h w' _ (Nat.le_refl _) ?_ (hb.grown h2 hB (fun k hk => by cases hk))
  rw [zerosR] at h1
  unfold Own
  rw [List.length_replicate]
  exact h1
end
end Go.Proofs.YthkopnobekohcaaGreatDoor.Two

namespace Go.Proofs.YthkopnobekohcaaGreatDoor.Two
open Go.ChangeShapes Go.WideShapes Go.ChangeAt Go.RowKit Go.Lib

/-- The texts of a rule that came in are strings. -/
structure Fits (x : Rw) : Prop where
  id : x.id.size ≤ 9223372036854775807
  no : x.no.size ≤ 9223372036854775807
  ma : x.ma.size ≤ 9223372036854775807
  wi : (Lit.int .i64 x.wi).wf = true
section
variable {H : Type} {enc : TypeId × Value → H} {W : World} {base : Nat} {held : Bool}
set_option maxRecDepth 100000 in
theorem trod_rule {n : Nat} {l : List Value} {y : DataW H × List MemPlace} (hf : DataW.trod enc Tryz.prog W base (fun _ => true) held n 35 l = some y) : ∃ x : Rw, l = ruL x ∧ Fits x := by
  have hc13 : Tryz.prog.cellsOf 35 = 9 := by kernel_rfl
  have i_int : Tryz.prog.cellsOf 3 = 1 := by kernel_rfl
  have i_string : Tryz.prog.cellsOf 9 = 1 := by kernel_rfl
  obtain ⟨xs, n, _, _, hz, hxl, hall⟩ := DataW.trod_struct Tryz.underlying35 hf
  rw [hc13] at hz
  match l, hz with
  | [c0, c1, c2, c3, c4, c5, c6, c7, c8], _ =>
    match xs, hxl with
    | [y0, y1, y2, y3, y4, y5, y6, y7, y8], _ =>
      have h0 : DataW.trod enc Tryz.prog W base (fun _ => true) held n 9 [c0] = some y0 := by
        have e : DataW.trod enc Tryz.prog W base (fun _ => true) held n 9 (List.take (Tryz.prog.cellsOf 9) (List.drop 0 [c0, c1, c2, c3, c4, c5, c6, c7, c8])) = some y0 := hall 0 _ rfl
        rw [i_string] at e
        exact e
      have h1 : DataW.trod enc Tryz.prog W base (fun _ => true) held n 9 [c1] = some y1 := by
        have e : DataW.trod enc Tryz.prog W base (fun _ => true) held n 9 (List.take (Tryz.prog.cellsOf 9) (List.drop 1 [c0, c1, c2, c3, c4, c5, c6, c7, c8])) = some y1 := hall 1 _ rfl
        rw [i_string] at e
        exact e
      have h2 : DataW.trod enc Tryz.prog W base (fun _ => true) held n 9 [c2] = some y2 := by
        have e : DataW.trod enc Tryz.prog W base (fun _ => true) held n 9 (List.take (Tryz.prog.cellsOf 9) (List.drop 2 [c0, c1, c2, c3, c4, c5, c6, c7, c8])) = some y2 := hall 2 _ rfl
        rw [i_string] at e
        exact e
      have h3 : DataW.trod enc Tryz.prog W base (fun _ => true) held n 3 [c3] = some y3 := by
        have e : DataW.trod enc Tryz.prog W base (fun _ => true) held n 3 (List.take (Tryz.prog.cellsOf 3) (List.drop 3 [c0, c1, c2, c3, c4, c5, c6, c7, c8])) = some y3 := hall 3 _ rfl
        rw [i_int] at e
        exact e
      have h4 : DataW.trod enc Tryz.prog W base (fun _ => true) held n 3 [c4] = some y4 := by
        have e : DataW.trod enc Tryz.prog W base (fun _ => true) held n 3 (List.take (Tryz.prog.cellsOf 3) (List.drop 4 [c0, c1, c2, c3, c4, c5, c6, c7, c8])) = some y4 := hall 4 _ rfl
        rw [i_int] at e
        exact e
      have h5 : DataW.trod enc Tryz.prog W base (fun _ => true) held n 3 [c5] = some y5 := by
        have e : DataW.trod enc Tryz.prog W base (fun _ => true) held n 3 (List.take (Tryz.prog.cellsOf 3) (List.drop 5 [c0, c1, c2, c3, c4, c5, c6, c7, c8])) = some y5 := hall 5 _ rfl
        rw [i_int] at e
        exact e
      have h6 : DataW.trod enc Tryz.prog W base (fun _ => true) held n 3 [c6] = some y6 := by
        have e : DataW.trod enc Tryz.prog W base (fun _ => true) held n 3 (List.take (Tryz.prog.cellsOf 3) (List.drop 6 [c0, c1, c2, c3, c4, c5, c6, c7, c8])) = some y6 := hall 6 _ rfl
        rw [i_int] at e
        exact e
      have h7 : DataW.trod enc Tryz.prog W base (fun _ => true) held n 3 [c7] = some y7 := by
        have e : DataW.trod enc Tryz.prog W base (fun _ => true) held n 3 (List.take (Tryz.prog.cellsOf 3) (List.drop 7 [c0, c1, c2, c3, c4, c5, c6, c7, c8])) = some y7 := hall 7 _ rfl
        rw [i_int] at e
        exact e
      have h8 : DataW.trod enc Tryz.prog W base (fun _ => true) held n 3 [c8] = some y8 := by
        have e : DataW.trod enc Tryz.prog W base (fun _ => true) held n 3 (List.take (Tryz.prog.cellsOf 3) (List.drop 8 [c0, c1, c2, c3, c4, c5, c6, c7, c8])) = some y8 := hall 8 _ rfl
        rw [i_int] at e
        exact e
      obtain ⟨a0, e0, _, w0⟩ := DataW.trod_string Tryz.underlying9 h0
      obtain ⟨a1, e1, _, w1⟩ := DataW.trod_string Tryz.underlying9 h1
      obtain ⟨a2, e2, _, w2⟩ := DataW.trod_string Tryz.underlying9 h2
      obtain ⟨a3, e3, _, w3⟩ := DataW.trod_int Tryz.underlying3 h3
      obtain ⟨a4, e4, _, w4⟩ := DataW.trod_int Tryz.underlying3 h4
      obtain ⟨a5, e5, _, w5⟩ := DataW.trod_int Tryz.underlying3 h5
      obtain ⟨a6, e6, _, w6⟩ := DataW.trod_int Tryz.underlying3 h6
      obtain ⟨a7, e7, _, w7⟩ := DataW.trod_int Tryz.underlying3 h7
      obtain ⟨a8, e8, _, w8⟩ := DataW.trod_int Tryz.underlying3 h8
      simp only [List.cons.injEq, and_true] at e0 e1 e2 e3 e4 e5 e6 e7 e8
      subst e0 e1 e2 e3 e4 e5 e6 e7 e8
      exact ⟨⟨a0, a1, a2, a3, a4, a5, a6, a7, a8⟩, rfl, w0, w1, w2, w6⟩

set_option maxRecDepth 100000 in
/-- A rule that came in. -/
theorem open_rule {b0 : Nat} {v : Value} {d : DataW H} {ps : List MemPlace} {r : Reach}
    (hval : Value.okWide Tryz.prog W r b0 35 v) (hd : DataW.Trod enc Tryz.prog W base (fun _ => true) held 35 v d ps) : ∃ x : Rw, v = .agg (ruC x) ∧ Fits x := by
  obtain ⟨cs, rfl, hz⟩ := okWide_struct Tryz.underlying35 hval
  obtain ⟨fuel, hf⟩ := hd
  obtain ⟨x, hx, hs⟩ := trod_rule hf
  refine ⟨x, ?_, hs⟩
  have : cs.toList = (ruC x).toList := hx
  rw [Array.toList_inj.1 this]

theorem add_mul (b off j : Nat) : (⟨b, off, none⟩ : Addr).add (j * 9) = ⟨b, off + j * 9, none⟩ := Addr.add_mid b off (j * 9)
theorem list_of {α : Type} (P : Nat → α → Prop) : ∀ n, (∀ j, j < n → ∃ x, P j x) → ∃ L : List α, L.length = n ∧ ∀ j (h : j < L.length), P j L[j]
  | 0, _ => ⟨[], rfl, fun j h => absurd h (Nat.not_lt_zero j)⟩
  | n + 1, h => by
    obtain ⟨L, hl, hp⟩ := list_of P n fun j hj => h j (by omega)
    obtain ⟨x, hx⟩ := h n (by omega)
    refine ⟨L ++ [x], by rw [List.length_append, hl]; rfl, fun j hj => ?_⟩
    by_cases hq : j < L.length
    · rw [List.getElem_append_left hq]; exact hp j hq
    · rw [List.length_append] at hj
      obtain rfl : j = n := by simp at hj; omega
      rw [List.getElem_append_right (by omega)]
      simpa using hx
set_option maxRecDepth 100000 in
/-- A slice of rules that came in. -/
theorem open_rules {b0 : Nat} {v : Value} {d : DataW H} {ps : List MemPlace} {r : Reach}
    (hval : Value.okWide Tryz.prog W r b0 22 v) (hd : DataW.Trod enc Tryz.prog W base (fun _ => true) held 22 v d ps) :
    ∃ L : List Rw, Row W v L ∧ L.length ≤ 9223372036854775807 ∧ ∀ x ∈ L, Fits x := by
  obtain ⟨a0, len, cap, rfl⟩ := okWide_slice Tryz.underlying22 hval
  obtain ⟨fuel, hf⟩ := hd
  have hc13 : Tryz.prog.cellsOf 35 = 9 := by kernel_rfl
  rcases DataW.trod_slice Tryz.underlying22 hf with ⟨hcs, _⟩ | ⟨a, len', cap', elems, rest, n', rfl, hcs, d3, _, hl, hm, hel, hall, _⟩
  · simp [Value.cells] at hcs
    obtain ⟨rfl, rfl, rfl⟩ := hcs
    exact ⟨[], .inl ⟨rfl, _, _, rfl⟩, by simp, fun n hn => by cases hn⟩
  · simp [Value.cells] at hcs
    obtain ⟨rfl, rfl, rfl⟩ := hcs
    rw [hc13] at hall
    have key : ∀ j, j < len → ∃ x : Rw, (∃ b off, a = (⟨b, off, none⟩ : Addr) ∧ W.rangeAt b (off + j * 9) (ruL x)) ∧ Fits x := by
      intro j hj
      have hj2 := hall j hj
      rw [List.getElem?_eq_getElem (by omega)] at hj2
      obtain ⟨ds, hds, ht⟩ := Option.bind_eq_some_iff.1 hj2
      obtain ⟨x, hx, hfx⟩ := trod_rule ht
      obtain ⟨_, hdl, hdc⟩ := World.cells?_some hds
      obtain ⟨b, off, spot⟩ := a
      have hspot : spot = none := by
        have hz := hall 0 (by omega)
        rw [List.getElem?_eq_getElem (by omega)] at hz
        obtain ⟨ds0, hds0, _⟩ := Option.bind_eq_some_iff.1 hz
        obtain ⟨_, hdl0, hdc0⟩ := World.cells?_some hds0
        have h1 := hdc0 0 (by omega)
        rw [List.getElem?_eq_getElem (by omega)] at h1
        exact World.cell?_spot h1
      subst hspot
      refine ⟨x, ⟨b, off, rfl, fun i u hu => ?_⟩, hfx⟩
      have hi13 : i < 9 := by rw [← hdl, hx]; exact (List.getElem?_eq_some_iff.1 hu).1
      have := hdc i hi13
      rw [add_mul, hx, Addr.add_mid] at this
      rw [this, hu]
    obtain ⟨L, hll, hlp⟩ := list_of _ len key
    subst hll
    refine ⟨L, ?_, by unfold maxLen at hm; omega, fun x hx => ?_⟩
    · by_cases h0 : L.length = 0
      · obtain rfl := List.eq_nil_of_length_eq_zero h0
        exact .inl ⟨rfl, _, _, rfl⟩
      · obtain ⟨⟨b, off, hab, _⟩, _⟩ := hlp 0 (by omega)
        subst hab
        refine .inr ⟨b, off, cap, rfl, hl, fun j hj => ?_⟩
        obtain ⟨⟨b', off', hab, hr⟩, _⟩ := hlp j hj
        injection hab with e1 e2
        subst e1 e2
        have e : rga L j = L[j] := by unfold rga; rw [List.getD_eq_getElem?_getD, List.getElem?_eq_getElem hj]; rfl
        rw [e]
        exact hr
    · obtain ⟨j, hj, rfl⟩ := List.getElem_of_mem hx
      exact (hlp j hj).2
end
end Go.Proofs.YthkopnobekohcaaGreatDoor.Two
