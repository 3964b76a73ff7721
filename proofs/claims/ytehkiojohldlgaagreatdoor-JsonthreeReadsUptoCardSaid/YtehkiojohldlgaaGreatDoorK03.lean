/- Texts of my own, packed: Law, SatMath, SatA, OctG1, PtrStr, LawS, PlainB, PtrA. Conditions: as each theorem states. -/
import Derived.Test.YtehkiojohldlgaaGreatDoorRows
import Derived.ProofKit
import Derived.Below
import Derived.ReadAgain
import Derived.OpenShut
import Derived.WalkKit
import Derived.Laws.Bits64b
import Derived.Lib.Mul64
import Derived.Lib.Hide
import Derived.BigQuiet
import Derived.Deep.QuietTactic
import Derived.Laws.BitsAllLaws
import Derived.Lib.ReplaceLaws
import Derived.Handed
import Derived.SizedLaws
import Derived.Lib.Strings
import Derived.Lib.Bytealg
import Derived.Lib.ItoaNum
import Derived.Lib.AtoiErrMem
import Derived.Test.YtehkiojohldlgaaGreatDoorK01
import Derived.Test.YtehkiojohldlgaaGreatDoorK02
namespace Go.Proofs.YtehkiojohldlgaaGreatDoor.Law
open Go.ChangeShapes Go.WideShapes Go.ChangeAt Go.RowKit

theorem kids : Kids Tryz.prog (· < Tryz.prog.types.size) := kids_rows (by kernel_rfl) (by kernel_rfl)
theorem full : ∀ t e, t < Tryz.prog.types.size → Tryz.prog.underlying t = some (.slice e) → 0 < Tryz.prog.cellsOf e := slices_full_of _ (by kernel_rfl)
theorem own : ownKnob Tryz.prog.godebug = none := by kernel_rfl

section
variable {H : Type} {enc : TypeId × Value → H}

theorem again {W W' : World} {ts : List TypeId} {vs : List Value} {ds : List (DataW H)} {ps : List MemPlace} {spare : Nat → Bool}
    (h : DataW.TrodAll enc Tryz.prog W 0 (fun _ => true) true ts vs ds ps) (hb : Below W.heap.size W W') (hlt : ∀ p ∈ ps, p.block < W.heap.size)
    (hts : ∀ t ∈ ts, t < Tryz.prog.types.size) (hs : ∀ p ∈ ps, spare p.block = true) : DataW.TrodAll enc Tryz.prog W' 0 spare true ts vs ds ps := by
  have h1 := DataW.TrodAll.respare (spare' := spare) kids full hts h hs
  clear h hs hts
  induction ts generalizing vs ds ps with
  | nil =>
    obtain ⟨rfl, rfl, rfl⟩ := trodAll_nil h1
    exact trodAll_mk0
  | cons t ts ih =>
    obtain ⟨v, vs1, d, ds1, a, b, rfl, rfl, rfl, h2, h3⟩ := trodAll_cons h1
    refine ⟨a, b, ?_, ih (fun p hp => hlt p (List.mem_append_right _ hp)) h3, rfl⟩
    obtain ⟨n, hn⟩ := h2
    exact ⟨n, DataW.trod_carry n t _ _ hn fun p hp => hb.same (hlt p (List.mem_append_left _ hp))⟩

set_option maxRecDepth 100000 in
theorem post {f : Func} {s : ChangeSpec} {apart fresh handsOn agn : Bool} {W W' : World} {args : Array Value} {ds gs : List (DataW H)} {before : List MemPlace} {tb : TypeId}
    (hW : DataW.Whole enc Tryz.prog f.params.toList s.vars apart W args.toList ds gs before) (hv : s.vars = [])
    (hts : ∀ t ∈ f.params.toList, t < Tryz.prog.types.size) (hr : f.resultTypes = #[tb]) (hub : Tryz.prog.underlying tb = some .bool)
    (hfn : s.fn H (ds ++ gs) = { results := [.lit (.bool true)], args := ds }) (hb : Below W.heap.size W W') :
    s.post enc Tryz.prog f apart fresh handsOn agn W args (.bool true) W' := by
  have hlt := hW.lt
  have hW0 := hW
  obtain ⟨p, q, hA, hV, rfl, hfz, hnd⟩ := hW
  rw [hv] at hV
  obtain ⟨rfl, rfl⟩ := trodVars_none hV
  have hlt' : ∀ x ∈ p, x.block < W.heap.size := fun x hx => hlt x (by simpa using hx)
  have hres : ∀ (b : Nat) (sp : Nat → Bool) (hd : Bool), DataW.TrodAll enc Tryz.prog W' b sp hd f.resultTypes.toList ((Value.bool true).resultList f.resultTypes.size) (s.fn H (ds ++ [])).results [] := by
    intro b sp hd
    rw [hr, hfn]
    exact trodAll_cons_mk (shut_bool hub _) trodAll_mk0
  have hargs : ∀ sp : Nat → Bool, (∀ x ∈ p ++ [], sp x.block = true) → DataW.TrodAll enc Tryz.prog W' 0 sp true f.params.toList args.toList (s.fn H (ds ++ [])).args p := by
    intro sp hsp
    rw [hfn]
    exact again hA hb hlt' hts (fun x hx => hsp x (by simpa using hx))
  have hvars : ∀ sp : Nat → Bool, (∀ x ∈ p ++ [], sp x.block = true) → DataW.TrodVars enc Tryz.prog W' sp s.vars (s.fn H (ds ++ [])).vars [] := by
    intro sp _
    rw [hv, hfn]
    rfl
  have hold : ∀ x ∈ p ++ [], (fun b => decide (b < W.heap.size)) x.block = true := fun x hx => by simpa using hlt x hx
  refine ⟨ds, [], p ++ [], [], p, [], hW0, hres _ _ _, hargs _ hold, hvars _ hold, hb.frame _, fun _ => ?_⟩
  refine ⟨ok_one hr rfl (okWide_bool_mk hub _), _, _, ([] ++ p) ++ [], ⟨[] ++ p, [], trodAll_append (hargs _ (fun _ _ => rfl)) (hres _ _ _), hvars _ (fun _ _ => rfl), rfl, ?_, ?_⟩, ?_⟩
  · intro b off hp
    have hx : MemPlace.cell b off ∈ p := by simpa using hp
    rw [hb.frozen (p := ⟨b, off, none⟩) (hlt' _ hx)]
    exact hfz b off (by simpa using hx)
  · intro ha
    simpa using hnd ha
  · intro x hx _
    simpa using hx
end
end Go.Proofs.YtehkiojohldlgaaGreatDoor.Law

namespace Go.Proofs.YtehkiojohldlgaaGreatDoor.Sat
open Go.RowKit

/-- A number held at the limits of int. -/
def hold (n : Int) : Int := if 9223372036854775807 < n then 9223372036854775807 else if n < -9223372036854775808 then -9223372036854775808 else n

/-- The greatest common divisor, negatives as 0. -/
def gd (a b : Int) : Int := (Nat.gcd a.toNat b.toNat : Nat)

end Go.Proofs.YtehkiojohldlgaaGreatDoor.Sat

namespace Go.Proofs.YtehkiojohldlgaaGreatDoor.Sat
open Go.RowKit Go.Lib

theorem ret_int {k : IntKind} {a b : Int} (h : a = b) : Ending.returned (.int k a) = .returned (.int k b) := by rw [h]
end Go.Proofs.YtehkiojohldlgaaGreatDoor.Sat

namespace Go.Proofs.YtehkiojohldlgaaGreatDoor.Oct
open Go.RowKit Go.Lib Go.Proofs.YtehkiojohldlgaaGreatDoor.Byt

/-- Are there n bytes from at on? -/
def has (s : ByteArray) (at_ n : Int) : Bool := decide (0 ≤ at_ ∧ 0 ≤ n ∧ n ≤ (s.size : Int) - at_)

end Go.Proofs.YtehkiojohldlgaaGreatDoor.Oct

namespace Go.Proofs.YtehkiojohldlgaaGreatDoor.Oct
open Go.RowKit Go.Lib Go.Proofs.YtehkiojohldlgaaGreatDoor.Byt

end Go.Proofs.YtehkiojohldlgaaGreatDoor.Oct

namespace Go.Proofs.YtehkiojohldlgaaGreatDoor.Oct
open Go.RowKit Go.Lib Go.Proofs.YtehkiojohldlgaaGreatDoor.Byt

end Go.Proofs.YtehkiojohldlgaaGreatDoor.Oct

namespace Go.Proofs.YtehkiojohldlgaaGreatDoor.Oct
open Go.RowKit Go.Lib Go.Proofs.YtehkiojohldlgaaGreatDoor.Byt

end Go.Proofs.YtehkiojohldlgaaGreatDoor.Oct

namespace Go.Proofs.YtehkiojohldlgaaGreatDoor.Oct
open Go.RowKit Go.Lib Go.Proofs.YtehkiojohldlgaaGreatDoor.Byt

end Go.Proofs.YtehkiojohldlgaaGreatDoor.Oct

namespace Go.Proofs.YtehkiojohldlgaaGreatDoor.Oct
open Go.RowKit Go.Lib Go.Proofs.YtehkiojohldlgaaGreatDoor.Byt

theorem index_dig : ∀ n : Fin 256, Lib.indexByte [48, 49, 50, 51, 52, 53, 54, 55, 56, 57, 97, 98, 99, 100, 101, 102] (UInt8.ofNat n.val) = if dig (UInt8.ofNat n.val) < 16 then (dig (UInt8.ofNat n.val) : Int) else -1 := by decide +kernel
theorem index_at (c : UInt8) : Lib.indexByte [48, 49, 50, 51, 52, 53, 54, 55, 56, 57, 97, 98, 99, 100, 101, 102] ((c.toNat : Int).toNat.toUInt8) = if dig c < 16 then (dig c : Int) else -1 := by
  have h := index_dig ⟨c.toNat, c.toNat_lt⟩
  simp only [UInt8.ofNat_toNat] at h
  rw [Int.toNat_natCast, ← h]
  congr 1
  exact UInt8.ofNat_toNat
end Go.Proofs.YtehkiojohldlgaaGreatDoor.Oct

namespace Go.Proofs.YtehkiojohldlgaaGreatDoor.Oct
open Go.RowKit Go.Lib Go.Proofs.YtehkiojohldlgaaGreatDoor.Byt

end Go.Proofs.YtehkiojohldlgaaGreatDoor.Oct

namespace Go.Proofs.YtehkiojohldlgaaGreatDoor.Ptr
open Go.Lib (index count countB replaceK replaceAll replaceNum splitK splitB)

/-! ### one step of each -/
theorem idx_hit {s old : List UInt8} (hs : s ≠ []) (h : old.isPrefixOf s = true) : index s old = 0 := by
  cases s with
  | nil => exact absurd rfl hs
  | cons x l => rw [index, if_pos h]
theorem idx_skip (x : UInt8) (l old : List UInt8) (h : old.isPrefixOf (x :: l) = false) : index (x :: l) old = if index l old = -1 then -1 else index l old + 1 := by
  rw [index, h, if_neg (by decide)]
  by_cases e : index l old = -1
  · rw [if_pos (beq_iff_eq.2 e), if_pos e]
  · rw [if_neg (fun q => e (beq_iff_eq.1 q)), if_neg e]
theorem cnt_hit {s old : List UInt8} (hs : s ≠ []) (ho : old ≠ []) (h : old.isPrefixOf s = true) : count s old = 1 + count (s.drop old.length) old := by
  have := Lib.count_hit (i := 0) ho (idx_hit hs h)
  rwa [Nat.zero_add] at this
theorem cnt_skip (x : UInt8) (l old : List UInt8) (ho : old ≠ []) (h : old.isPrefixOf (x :: l) = false) : count (x :: l) old = count l old := by
  have hi := idx_skip x l old h
  by_cases e : index l old = -1
  · rw [if_pos e] at hi
    rw [Lib.count_miss hi, Lib.count_miss e]
  · rw [if_neg e] at hi
    have hge := Lib.index_ge l old
    obtain ⟨i, hi2⟩ : ∃ i : Nat, index l old = (i : Int) := ⟨(index l old).toNat, by omega⟩
    have h3 : index (x :: l) old = ((i + 1 : Nat) : Int) := by rw [hi, hi2]; rfl
    rw [Lib.count_hit ho h3, Lib.count_hit ho hi2, show i + 1 + old.length = (i + old.length) + 1 by omega, List.drop_succ_cons]
theorem rep_hit {s old : List UInt8} (new : List UInt8) (k : Nat) (hs : s ≠ []) (h : old.isPrefixOf s = true) : replaceK old new (k + 1) s = new ++ replaceK old new k (s.drop old.length) := by
  rw [Lib.replaceK_hit old new k s 0 (idx_hit hs h), List.take_zero, List.nil_append, Nat.zero_add]
theorem rep_skip (x : UInt8) (l old new : List UInt8) (k : Nat) (h : old.isPrefixOf (x :: l) = false) : replaceK old new k (x :: l) = x :: replaceK old new k l := by
  cases k with
  | zero => rfl
  | succ k =>
    have hi := idx_skip x l old h
    by_cases e : index l old = -1
    · rw [if_pos e] at hi
      rw [replaceK, replaceK, if_pos (beq_iff_eq.2 hi), if_pos (beq_iff_eq.2 e)]
    · rw [if_neg e] at hi
      have hge := Lib.index_ge l old
      obtain ⟨i, hi2⟩ : ∃ i : Nat, index l old = (i : Int) := ⟨(index l old).toNat, by omega⟩
      have h3 : index (x :: l) old = ((i + 1 : Nat) : Int) := by rw [hi, hi2]; rfl
      rw [Lib.replaceK_hit old new k _ _ h3, Lib.replaceK_hit old new k _ _ hi2, show i + 1 + old.length = (i + old.length) + 1 by omega, List.drop_succ_cons, List.take_succ_cons]
      rfl
/-- A byte more ahead of the first piece. -/
def ahead (p : List UInt8) : List (List UInt8) → List (List UInt8)
  | [] => [p]
  | h :: t => (p ++ h) :: t
/-! ### all instances -/
/-- Each instance of old in s replaced by new. -/
def ra (old new s : List UInt8) : List UInt8 := replaceK old new (count s old) s
/-- s cut at each sep. -/
def sp (sep s : List UInt8) : List (List UInt8) := splitK sep 0 (count s sep) s
theorem ra_is {old new : List UInt8} (s : List UInt8) (h : old ≠ new) : replaceAll s old new = ra old new s := by
  unfold replaceAll Lib.replace ra
  have hb : (old == new) = false := by rw [beq_eq_false_iff_ne]; exact h
  rw [hb, if_neg (by decide)]
  unfold replaceNum
  rw [if_pos (Or.inl (by decide))]
theorem pre_cons (a x : UInt8) (o l : List UInt8) : (a :: o).isPrefixOf (x :: l) = (a == x && o.isPrefixOf l) := rfl
theorem pre_nil (l : List UInt8) : ([] : List UInt8).isPrefixOf l = true := by cases l <;> rfl
theorem ra_nil {old : List UInt8} (new : List UInt8) (ho : old ≠ []) : ra old new [] = [] := by
  have : count [] old = 0 := by
    refine Lib.count_miss ?_
    cases old with
    | nil => exact absurd rfl ho
    | cons a o => rfl
  unfold ra; rw [this]; rfl
theorem ra_hit {s old : List UInt8} (new : List UInt8) (hs : s ≠ []) (ho : old ≠ []) (h : old.isPrefixOf s = true) : ra old new s = new ++ ra old new (s.drop old.length) := by
  unfold ra
  rw [cnt_hit hs ho h, Nat.add_comm, rep_hit new _ hs h]
theorem ra_skip {x : UInt8} {l old : List UInt8} (new : List UInt8) (ho : old ≠ []) (h : old.isPrefixOf (x :: l) = false) : ra old new (x :: l) = x :: ra old new l := by
  unfold ra
  rw [cnt_skip x l old ho h, rep_skip x l old new _ h]
/-! ### a part -/
theorem one_yes (a : UInt8) (l : List UInt8) : [a].isPrefixOf (a :: l) = true := by rw [pre_cons, pre_nil]; simp
theorem one_no {a x : UInt8} (l : List UInt8) (h : x ≠ a) : [a].isPrefixOf (x :: l) = false := by rw [pre_cons, beq_eq_false_iff_ne.2 (Ne.symm h)]; rfl
/-- A part, escaped. -/
theorem esc_is (s : List UInt8) : replaceAll (replaceAll s [126] [126, 48]) [47] [126, 49] = eL s := by
  rw [ra_is s (by decide), ra_is _ (by decide)]
  induction s with
  | nil => rw [ra_nil _ (by decide), ra_nil _ (by decide)]; rfl
  | cons c l ih =>
    rw [eL_cons, ← ih]
    unfold eB
    by_cases h1 : c = 126
    · subst h1
      rw [if_pos rfl, ra_hit _ (by simp) (by decide) (one_yes _ _)]
      show ra [47] [126, 49] (126 :: 48 :: ra [126] [126, 48] l) = _
      rw [ra_skip _ (by decide) (one_no _ (by decide)), ra_skip _ (by decide) (one_no _ (by decide))]
      rfl
    · rw [if_neg h1, ra_skip _ (by decide) (one_no _ h1)]
      by_cases h2 : c = 47
      · subst h2
        rw [if_pos rfl, ra_hit _ (by simp) (by decide) (one_yes _ _)]
        rfl
      · rw [if_neg h2, ra_skip _ (by decide) (one_no _ h2)]
        rfl
/-! ### right signs -/
/-! ### the parts -/
end Go.Proofs.YtehkiojohldlgaaGreatDoor.Ptr

namespace Go.Proofs.YtehkiojohldlgaaGreatDoor.Law
variable {H : Type} {enc : TypeId × Value → H}

theorem wrap {a : Assume} {C : Checked} {os : Os} {f : FuncId} {fn : Func} {s : ChangeSpec} {conds : List PathCond} {apart fresh handsOn agn : Bool} {X : World → Array Value → Prop}
    (hX : ∀ (w w' : World) (args : Array Value), w.heap = w'.heap → X w args → X w' args)
    (own : ownKnob C.prog.godebug = none) (started : os.Started) (noInit : C.prog.inits.idxOf? f = none) (hfn : C.prog.funcs[f]? = some fn)
    (wit : ∃ (w : World) (tape : Tape) (i : Input), w.os = os ∧ (w.forCall tape i).Shaped C.prog ∧ i.vars = [] ∧ Input.okWide C.prog (w.forCall tape i) .any w.heap.size f i ∧
      ((s.pre enc C.prog fn conds apart (w.forCall tape i).memory i.args ∧ X (w.forCall tape i).memory i.args) ∧ sizedMet enc C.prog fn (OpenSpec.ofChange s) apart (w.forCall tape i).memory i.args) ∧ a.holds C.prog (lone (Frame.enter C.prog f i.args .normal) [] (w.forCall tape i)))
    (walk : ∀ (W : World) (base : Nat) (args : Array Value) (ds gs : List (DataW H)) (before : List MemPlace),
      (∀ (j : Nat) t v, fn.params[j]? = some t → args[j]? = some v → Value.okWide C.prog W .any base t v) →
      DataW.Whole enc C.prog fn.params.toList s.vars apart W args.toList ds gs before →
      (DataW.weightsEach C.prog (fn.params.toList ++ s.plain.varTypes C.prog) (ds ++ gs)).all (· ≤ reachBytes) = true → X W args → W.ShapedOpen C.prog →
      Calls C.prog f args W fun e W' => ∃ v, e = .returned v ∧ s.post enc C.prog fn apart fresh handsOn agn W args v W') :
    ReturnsInHanded a C os f .any (fun w args => (s.pre enc C.prog fn conds apart w args ∧ X w args) ∧ sizedMet enc C.prog fn (OpenSpec.ofChange s) apart w args) (s.post enc C.prog fn apart fresh handsOn agn) := by
  refine returnsInHanded_of_calls own started noInit wit fun w tape i _ hsh _ hok hpre _ => ?_
  obtain ⟨_, _, _, fn2, hfn2, _, _, _, _, hval⟩ := hok
  obtain rfl : fn2 = fn := Option.some.inj (hfn2.symm.trans hfn)
  obtain ⟨⟨⟨ds, gs, before, hw, _⟩, hx⟩, hz⟩ := hpre
  refine (walk (w.forCall tape i) w.heap.size i.args ds gs before hval (DataW.Whole.of_heap (w' := w.forCall tape i) (by rfl) hw) (hz.weights hw) (hX _ _ _ (by rfl) hx) hsh).mono ?_
  rintro e W' ⟨v, rfl, hp⟩
  exact ChangeSpec.post_blind hp
end Go.Proofs.YtehkiojohldlgaaGreatDoor.Law

namespace Go.Proofs.YtehkiojohldlgaaGreatDoor.Ide

/-! ### ids -/
/-- A small letter. -/
def sm (n : Nat) : Bool := decide (97 ≤ n) && decide (n ≤ 122)
/-- What may stand behind the first byte. -/
def fo (n : Nat) : Bool := sm n || (decide (48 ≤ n) && decide (n ≤ 57)) || decide (n = 45) || decide (n = 95) || decide (n = 46)
def idL : List UInt8 → Bool
  | [] => false
  | c :: r => decide (r.length ≤ 63) && sm c.toNat && r.all fun d => fo d.toNat
theorem sm_fo {n : Nat} (h : sm n = true) : fo n = true := by unfold fo; rw [h]; rfl
theorem idL_iff (l : List UInt8) : idL l = true ↔ 1 ≤ l.length ∧ l.length ≤ 64 ∧ sm (l.getD 0 0).toNat = true ∧ ∀ j, 1 ≤ j → j < l.length → fo (l.getD j 0).toNat = true := by
  cases l with
  | nil => simp [idL]
  | cons c r =>
    unfold idL
    rw [Bool.and_eq_true, Bool.and_eq_true, decide_eq_true_eq, List.all_eq_true]
    simp only [List.length_cons, List.getD_cons_zero]
    constructor
    · rintro ⟨⟨h1, h2⟩, h3⟩
      refine ⟨by omega, by omega, h2, fun j hj hl => ?_⟩
      obtain ⟨k, rfl⟩ : ∃ k, j = k + 1 := ⟨j - 1, by omega⟩
      rw [List.getD_cons_succ, List.getD_eq_getElem?_getD, List.getElem?_eq_getElem (by omega)]
      exact h3 _ (List.getElem_mem _)
    · rintro ⟨_, h1, h2, h3⟩
      refine ⟨⟨by omega, h2⟩, fun d hd => ?_⟩
      obtain ⟨k, hk, rfl⟩ := List.getElem_of_mem hd
      have := h3 (k + 1) (by omega) (by omega)
      rwa [List.getD_cons_succ, List.getD_eq_getElem?_getD, List.getElem?_eq_getElem hk] at this
/-! ### the first place at which something holds -/
def fst (p : Nat → Bool) (n : Nat) : Int := ((List.range n).find? p).elim (-1) fun i => (i : Int)
theorem fst_at {p : Nat → Bool} {n k : Nat} (hk : k < n) (h : p k = true) (hb : ∀ j, j < k → p j = false) : fst p n = k := by
  unfold fst
  have : (List.range n).find? p = some k := List.find?_range_eq_some.2 ⟨h, List.mem_range.2 hk, fun j hj => by rw [hb j hj]; rfl⟩
  rw [this]
  rfl
/-! ### the order of texts -/
def lt (a b : ByteArray) : Bool := Op.bytesLess a.toList b.toList
theorem less_eq : ∀ x y : List UInt8, Op.bytesLess x y = decide (x < y)
  | [], [] => by simp [Op.bytesLess]
  | _ :: _, [] => by simp [Op.bytesLess]
  | [], _ :: _ => by simp [Op.bytesLess]
  | a :: x, b :: y => by
    rw [Op.bytesLess, less_eq x y]
    simp only [List.cons_lt_cons_iff]
    by_cases h1 : a < b <;> by_cases h2 : a = b <;> by_cases h3 : x < y <;> simp [h1, h2, h3]
theorem lt_is (a b : ByteArray) : lt a b = decide (a.data.toList < b.data.toList) := by
  unfold lt
  rw [less_eq, Lib.toList_data, Lib.toList_data]
theorem lt_irrefl (a : ByteArray) : lt a a = false := by
  rw [lt_is]
  exact decide_eq_false (List.lt_irrefl _)
theorem lt_trans {a b c : ByteArray} (h : lt a b = true) (k : lt b c = true) : lt a c = true := by
  rw [lt_is, decide_eq_true_eq] at *
  exact List.lt_trans h k
theorem lt_asymm {a b : ByteArray} (h : lt a b = true) : lt b a = false := by
  cases k : lt b a with
  | false => rfl
  | true => have := lt_trans h k; rw [lt_irrefl] at this; cases this
theorem lt_total {a b : ByteArray} (h : lt a b = false) (k : lt b a = false) : a = b := by
  rw [lt_is, decide_eq_false_iff_not] at *
  exact ByteArray.ext (Array.toList_inj.1 (List.le_antisymm (List.not_lt.1 k) (List.not_lt.1 h)))
/-- A text with a zero byte behind it. -/
def z0 (a : ByteArray) : ByteArray := ⟨(a.data.toList ++ [0]).toArray⟩
/-! ### rows -/
def ga (l : List ByteArray) (i : Nat) : ByteArray := l.getD i ⟨#[]⟩
/-- Does what stands at i stand ahead of it too? -/
def twAt (l : List ByteArray) (i : Nat) : Bool := (l.take i).any fun x => decide (x = ga l i)
def rsAt (l : List ByteArray) (i : Nat) : Bool := decide (1 ≤ i) && !lt (ga l (i - 1)) (ga l i)
def tw (l : List ByteArray) : Int := fst (twAt l) l.length
def rs (l : List ByteArray) : Int := fst (rsAt l) l.length
/-- How many stand at the row's beginning that are less than s. -/
def fn (l : List ByteArray) (s : ByteArray) : Nat := (l.takeWhile fun x => lt x s).length
theorem fn_le (l : List ByteArray) (s : ByteArray) : fn l s ≤ l.length := (List.takeWhile_prefix _).length_le
theorem ga_mem {l : List ByteArray} {i : Nat} (h : i < l.length) : ga l i ∈ l := by
  unfold ga
  rw [List.getD_eq_getElem?_getD, List.getElem?_eq_getElem h]
  exact List.getElem_mem h
theorem fn_below {s : ByteArray} : ∀ {l : List ByteArray} {j : Nat}, j < fn l s → lt (ga l j) s = true
  | [], j, h => by simp [fn] at h
  | a :: l, j, h => by
    unfold fn at h
    rw [List.takeWhile_cons] at h
    cases ha : lt a s with
    | false => rw [ha] at h; simp at h
    | true =>
      cases j with
      | zero => exact ha
      | succ j =>
        rw [ha] at h
        simp only [if_true, List.length_cons] at h
        exact fn_below (l := l) (j := j) (by unfold fn; omega)
theorem fn_at {s : ByteArray} : ∀ {l : List ByteArray}, fn l s < l.length → lt (ga l (fn l s)) s = false
  | [], h => by simp at h
  | a :: l, h => by
    cases ha : lt a s with
    | false =>
      have : fn (a :: l) s = 0 := by unfold fn; rw [List.takeWhile_cons, ha]; rfl
      rw [this]
      exact ha
    | true =>
      have : fn (a :: l) s = fn l s + 1 := by unfold fn; rw [List.takeWhile_cons, ha]; rfl
      rw [this] at h ⊢
      exact fn_at (l := l) (by simpa using h)
theorem fn_is {l : List ByteArray} {s : ByteArray} {k : Nat} (hk : k ≤ l.length) (h1 : ∀ j, j < k → lt (ga l j) s = true) (h2 : k < l.length → lt (ga l k) s = false) : fn l s = k := by
  have h3 := fn_le l s
  rcases Nat.lt_trichotomy (fn l s) k with h | h | h
  · have := fn_at (l := l) (s := s) (by omega)
    rw [h1 _ h] at this
    cases this
  · exact h
  · have := fn_below h
    rw [h2 (by omega)] at this
    cases this
end Go.Proofs.YtehkiojohldlgaaGreatDoor.Ide

namespace Go.Proofs.YtehkiojohldlgaaGreatDoor.Rou

/-! ### parts -/
/-- A byte more at the first part's head. -/
def hd (c : UInt8) : List (List UInt8) → List (List UInt8)
  | [] => [[c]]
  | h :: t => (c :: h) :: t
/-- The parts of what stands behind a row's first byte. -/
def ps : List UInt8 → List (List UInt8)
  | [] => [[]]
  | c :: l => if c = 47 then [] :: ps l else hd c (ps l)
theorem ps_nil : ps [] = [[]] := rfl
theorem ps_slash (l : List UInt8) : ps (47 :: l) = [] :: ps l := by rw [ps, if_pos rfl]
theorem ps_plain {c : UInt8} (l : List UInt8) (h : c ≠ 47) : ps (c :: l) = hd c (ps l) := by rw [ps, if_neg h]
theorem ps_some (l : List UInt8) : ∃ h t, ps l = h :: t := by
  cases l with
  | nil => exact ⟨_, _, rfl⟩
  | cons c l =>
    by_cases h : c = 47
    · subst h; exact ⟨_, _, ps_slash l⟩
    · rw [ps_plain l h]
      cases ps l with
      | nil => exact ⟨_, _, rfl⟩
      | cons a b => exact ⟨_, _, rfl⟩
theorem ps_len (l : List UInt8) : (ps l).length = l.count 47 + 1 := by
  induction l with
  | nil => rfl
  | cons c l ih =>
    by_cases h : c = 47
    · subst h; rw [ps_slash, List.length_cons, ih, List.count_cons_self]
    · rw [ps_plain l h, List.count_cons_of_ne (by simpa using h), ← ih]
      obtain ⟨a, b, e⟩ := ps_some l
      rw [e]; rfl
/-- A text without a slash. -/
theorem ps_one : ∀ (l : List UInt8), (47 : UInt8) ∉ l → ps l = [l]
  | [], _ => rfl
  | c :: l, h => by
    rw [ps_plain l (fun e => h (by rw [e]; exact List.mem_cons_self)), ps_one l (fun e => h (List.mem_cons_of_mem _ e))]
    rfl
/-- A part, and what stands behind it. -/
theorem ps_cut : ∀ (a b : List UInt8), (47 : UInt8) ∉ a → ps (a ++ 47 :: b) = a :: ps b
  | [], b, _ => ps_slash b
  | c :: a, b, h => by
    rw [List.cons_append, ps_plain _ (fun e => h (by rw [e]; exact List.mem_cons_self)), ps_cut a b (fun e => h (List.mem_cons_of_mem _ e))]
    rfl
/-- A row behind a row. -/
theorem ps_app (a b : List UInt8) : ps (a ++ 47 :: b) = ps a ++ ps b := by
  induction a with
  | nil => exact ps_slash b
  | cons c a ih =>
    rw [List.cons_append]
    by_cases h : c = 47
    · subst h; rw [ps_slash, ps_slash, ih, List.cons_append]
    · rw [ps_plain _ h, ps_plain _ h, ih]
      obtain ⟨x, y, e⟩ := ps_some a
      rw [e]; rfl
/-- The last part with a byte more. -/
def tl1 (c : UInt8) (l : List (List UInt8)) : List (List UInt8) := l.dropLast ++ [(l.getLast?.getD []) ++ [c]]
theorem ps_snoc_slash (l : List UInt8) : ps (l ++ [47]) = ps l ++ [[]] := by
  have := ps_app l []
  rwa [ps_nil] at this
theorem ps_snoc {c : UInt8} (l : List UInt8) (h : c ≠ 47) : ps (l ++ [c]) = tl1 c (ps l) := by
  induction l with
  | nil => rw [List.nil_append, ps_plain [] h]; rfl
  | cons d l ih =>
    rw [List.cons_append]
    obtain ⟨x, y, e⟩ := ps_some l
    by_cases hd0 : d = 47
    · subst hd0
      rw [ps_slash, ps_slash, ih, e]
      rfl
    · rw [ps_plain _ hd0, ps_plain _ hd0, ih, e]
      cases y with
      | nil => rfl
      | cons u v => rfl
/-- Each part stands in the text. -/
theorem ps_size : ∀ (l : List UInt8), ∀ p ∈ ps l, p.length ≤ l.length
  | [], p, h => by rw [ps_nil, List.mem_singleton] at h; rw [h]; exact Nat.le_refl _
  | c :: l, p, h => by
    have ih := ps_size l
    by_cases hc : c = 47
    · subst hc
      rw [ps_slash] at h
      rcases List.mem_cons.1 h with rfl | h
      · exact Nat.zero_le _
      · have := ih p h; rw [List.length_cons]; omega
    · rw [ps_plain l hc] at h
      obtain ⟨x, y, e⟩ := ps_some l
      rw [e] at h ih
      rcases List.mem_cons.1 h with rfl | h
      · have := ih x List.mem_cons_self; rw [List.length_cons, List.length_cons]; omega
      · have := ih p (List.mem_cons_of_mem _ h); rw [List.length_cons]; omega

/-! ### joined -/
/-- Each part behind a slash. -/
def jn (l : List (List UInt8)) : List UInt8 := l.flatMap fun p => 47 :: p
/-- The parts l with a slash between two. -/
def sj : List (List UInt8) → List UInt8
  | [] => []
  | [p] => p
  | p :: q :: l => p ++ 47 :: sj (q :: l)
/-! ### rows -/
/-- The parts of a row. -/
def prt : List UInt8 → List (List UInt8)
  | [] => []
  | _ :: l => if l = [] then [] else ps l
def row : List UInt8 → Bool
  | [] => false
  | c :: l => decide (c = 47) && decide (l.length ≤ 254) && decide (l.count 47 ≤ 31)
theorem row_iff {s : List UInt8} : row s = true ↔ ∃ l, s = 47 :: l ∧ l.length ≤ 254 ∧ l.count 47 ≤ 31 := by
  cases s with
  | nil => simp [row]
  | cons c l =>
    simp only [row, Bool.and_eq_true, decide_eq_true_eq, List.cons.injEq]
    constructor
    · rintro ⟨⟨h1, h2⟩, h3⟩; exact ⟨l, ⟨h1, rfl⟩, h2, h3⟩
    · rintro ⟨m, ⟨h1, rfl⟩, h2, h3⟩; exact ⟨⟨h1, h2⟩, h3⟩
theorem prt_cons (c : UInt8) {l : List UInt8} (h : l ≠ []) : prt (c :: l) = ps l := by
  show (if l = [] then [] else ps l) = _
  rw [if_neg h]
theorem prt_len {s : List UInt8} (h : row s = true) : (prt s).length ≤ 32 := by
  obtain ⟨l, rfl, _, h3⟩ := row_iff.1 h
  by_cases hl : l = []
  · subst hl; exact Nat.zero_le _
  · rw [prt_cons _ hl, ps_len]; omega
/-! ### words -/
def inW (n : Nat) : Bool := decide (n = 45) || decide (n = 95) || decide (n = 46) || decide (n = 126) || decide (n = 37) || (decide (97 ≤ n) && decide (n ≤ 122)) || (decide (65 ≤ n) && decide (n ≤ 90)) || (decide (48 ≤ n) && decide (n ≤ 57))
def wd (p : List UInt8) : Bool := decide (p ≠ []) && p.all fun c => inW c.toNat
/-- A word or a star. -/
def sg (p : List UInt8) : Bool := decide (p = [42]) || wd p
/-- All parts but two stars at the end. -/
def inn (l : List (List UInt8)) : List (List UInt8) := if l.getLast? = some [42, 42] then l.dropLast else l
def isR (s : List UInt8) : Bool := row s && (prt s).all wd
def patR (s : List UInt8) : Bool := row s && (inn (prt s)).all sg
def preR (p s : List UInt8) : Bool := row p && row s && (prt p).isPrefixOf (prt s)
/-! ### a route with a word behind it -/
theorem grow {l m : List UInt8} (hl : l ≠ []) (hm : m ≠ []) (h1 : isR (47 :: l) = true) (h2 : isR (47 :: m) = true) :
    isR (47 :: l ++ 47 :: m) = decide ((47 :: l ++ 47 :: m).length ≤ 255 ∧ (prt (47 :: l)).length + (prt (47 :: m)).length ≤ 32) ∧
    preR (47 :: l) (47 :: l ++ 47 :: m) = decide ((47 :: l ++ 47 :: m).length ≤ 255 ∧ (prt (47 :: l)).length + (prt (47 :: m)).length ≤ 32) ∧
    preR (47 :: l ++ 47 :: m) (47 :: l) = false := by
  have e1 : prt (47 :: l) = ps l := prt_cons _ hl
  have e2 : prt (47 :: m) = ps m := prt_cons _ hm
  have e3 : prt (47 :: l ++ 47 :: m) = ps l ++ ps m := by
    show prt (47 :: (l ++ 47 :: m)) = _
    rw [prt_cons _ (by simp), ps_app]
  have hr : row (47 :: l ++ 47 :: m) = decide ((47 :: l ++ 47 :: m).length ≤ 255 ∧ (ps l).length + (ps m).length ≤ 32) := by
    show row (47 :: (l ++ 47 :: m)) = _
    rw [Bool.eq_iff_iff]
    simp only [row, Bool.and_eq_true, decide_eq_true_eq, List.length_append, List.length_cons, List.count_append, List.count_cons_self, ps_len, List.cons_append]
    rw [true_and]
    omega
  unfold isR at h1 h2
  rw [Bool.and_eq_true, e1] at h1
  rw [Bool.and_eq_true, e2] at h2
  rw [e1, e2]
  refine ⟨?_, ?_, ?_⟩
  · unfold isR
    rw [e3, List.all_append, h1.2, h2.2, hr]; simp
  · unfold preR
    rw [e3, e1, h1.1, List.isPrefixOf_iff_prefix.2 (List.prefix_append _ _), hr]; simp
  · unfold preR
    rw [e3, e1]
    have hn : (ps l ++ ps m).isPrefixOf (ps l) = false := by
      rw [Bool.eq_false_iff]
      intro h
      have := (List.isPrefixOf_iff_prefix.1 h).length_le
      obtain ⟨x, y, e⟩ := ps_some m
      rw [List.length_append, e, List.length_cons] at this
      omega
    rw [hn, Bool.and_false]

/-! ### the library's IndexByte -/
theorem ix_some : ∀ (a b : List UInt8), (47 : UInt8) ∉ a → Go.Lib.indexByte (a ++ 47 :: b) 47 = (a.length : Int)
  | [], b, _ => rfl
  | c :: a, b, h => by
    have hc : (c == 47) = false := beq_eq_false_iff_ne.2 fun e => h (by rw [e]; exact List.mem_cons_self)
    have ih := ix_some a b fun e => h (List.mem_cons_of_mem _ e)
    show (if c == 47 then 0 else if Go.Lib.indexByte (a ++ 47 :: b) 47 == -1 then -1 else Go.Lib.indexByte (a ++ 47 :: b) 47 + 1) = _
    rw [hc, if_neg (by decide), ih, if_neg (by rw [beq_iff_eq]; omega)]
    rfl
theorem ix_none : ∀ (l : List UInt8), (47 : UInt8) ∉ l → Go.Lib.indexByte l 47 = -1
  | [], _ => rfl
  | c :: l, h => by
    have hc : (c == 47) = false := beq_eq_false_iff_ne.2 fun e => h (by rw [e]; exact List.mem_cons_self)
    have ih := ix_none l fun e => h (List.mem_cons_of_mem _ e)
    show (if c == 47 then 0 else if Go.Lib.indexByte l 47 == -1 then -1 else Go.Lib.indexByte l 47 + 1) = _
    rw [hc, if_neg (by decide), ih]
    rfl
theorem parted (l : List UInt8) (h : (47 : UInt8) ∈ l) : ∃ a b, l = a ++ 47 :: b ∧ (47 : UInt8) ∉ a := by
  induction l with
  | nil => cases h
  | cons c l ih =>
    by_cases hc : c = 47
    · subst hc
      exact ⟨[], l, rfl, by simp⟩
    · obtain ⟨a, b, rfl, h2⟩ := ih (by rcases List.mem_cons.1 h with e | e; exact absurd e.symm hc; exact e)
      refine ⟨c :: a, b, rfl, ?_⟩
      rw [List.mem_cons]; rintro (e | e)
      · exact hc e.symm
      · exact h2 e
end Go.Proofs.YtehkiojohldlgaaGreatDoor.Rou

namespace Go.Proofs.YtehkiojohldlgaaGreatDoor.Rul

/-- A rule. -/
structure Ru where
  id : ByteArray
  no : ByteArray
  ro : ByteArray
  pr : Int
  ki : Int
  ra : Int
  pe : Int
  bu : Int
  co : Int
  mx : Int
  fa : Int
  wa : Int
  pb : Int
def zero : Ru := ⟨⟨#[]⟩, ⟨#[]⟩, ⟨#[]⟩, 0, 0, 0, 0, 0, 0, 0, 0, 0, 0⟩

/-! ### the first fault of a row of them -/
def fst : List (ByteArray × Int) → ByteArray × Int
  | [] => (⟨#[]⟩, 0)
  | (p, e) :: l => if e = 0 then fst l else (p, e)
theorem fst_yes {p : ByteArray} {e : Int} (l : List (ByteArray × Int)) (h : e ≠ 0) : fst ((p, e) :: l) = (p, e) := by rw [fst, if_neg h]
theorem fst_no {p : ByteArray} {e : Int} (l : List (ByteArray × Int)) (h : e = 0) : fst ((p, e) :: l) = fst l := by rw [fst, if_pos h]
theorem fst_zero : ∀ l : List (ByteArray × Int), (fst l).2 = 0 ↔ ∀ x ∈ l, x.2 = 0
  | [] => ⟨fun _ x h => absurd h List.not_mem_nil, fun _ => rfl⟩
  | (p, e) :: l => by
    by_cases h : e = 0
    · rw [fst_no l h, fst_zero l]
      refine ⟨fun a x hx => ?_, fun a x hx => a x (List.mem_cons_of_mem _ hx)⟩
      rcases List.mem_cons.1 hx with rfl | hx
      · exact h
      · exact a x hx
    · rw [fst_yes l h]
      exact ⟨fun a => absurd a h, fun a => absurd (a _ List.mem_cons_self) h⟩
theorem fst_ok : ∀ l : List (ByteArray × Int), (fst l).2 = 0 → fst l = (⟨#[]⟩, 0)
  | [], _ => rfl
  | (p, e) :: l, h => by
    by_cases he : e = 0
    · rw [fst_no l he] at h ⊢
      exact fst_ok l h
    · rw [fst_yes l he] at h
      exact absurd h he
/-! ### the fields -/
/-- A number's fault: k is the kind that it is of. -/
def fd (k ki n lo hi : Int) : Int := if k ≠ ki ∧ n ≠ 0 then 17 else if k = ki ∧ (n < lo ∨ hi < n) then 2 else 0
theorem fd_zero (k ki n lo hi : Int) : fd k ki n lo hi = 0 ↔ (k ≠ ki → n = 0) ∧ (k = ki → lo ≤ n ∧ n ≤ hi) := by
  unfold fd
  split
  · exact ⟨fun h => absurd h (by decide), fun h => by omega⟩
  · split
    · exact ⟨fun h => absurd h (by decide), fun h => by omega⟩
    · exact ⟨fun _ => by omega, fun _ => rfl⟩
def isId (s : ByteArray) : Bool := Ide.idL s.data.toList
def isTx (s : ByteArray) : Bool := decide (Utf.badL s.data.toList = none)
def isPa (s : ByteArray) : Bool := Rou.patR s.data.toList
def e1 (r : Ru) : Int := if isId r.id = true then 0 else 13
def e2 (r : Ru) : Int := if 255 < r.no.size then 5 else if isTx r.no = true then 0 else 8
def e3 (r : Ru) : Int := if isPa r.ro = true then 0 else 14
def e4 (r : Ru) : Int := if r.pr < 0 ∨ 1000 < r.pr then 2 else 0
def e5 (r : Ru) : Int := if r.ki = 1 ∨ r.ki = 2 ∨ r.ki = 3 then 0 else 15
def p1 : ByteArray := ⟨#[47, 105, 100]⟩
def p2 : ByteArray := ⟨#[47, 110, 111, 116, 101]⟩
def p3 : ByteArray := ⟨#[47, 114, 111, 117, 116, 101]⟩
def p4 : ByteArray := ⟨#[47, 112, 114, 105, 111, 114, 105, 116, 121]⟩
def p5 : ByteArray := ⟨#[47, 107, 105, 110, 100]⟩
def f1 : ByteArray := ⟨#[47, 114, 97, 116, 101]⟩
def f2 : ByteArray := ⟨#[47, 112, 101, 114]⟩
def f3 : ByteArray := ⟨#[47, 98, 117, 114, 115, 116]⟩
def f4 : ByteArray := ⟨#[47, 99, 111, 115, 116]⟩
def f5 : ByteArray := ⟨#[47, 109, 97, 120]⟩
def f6 : ByteArray := ⟨#[47, 102, 97, 105, 108, 115]⟩
def f7 : ByteArray := ⟨#[47, 119, 97, 105, 116]⟩
def f8 : ByteArray := ⟨#[47, 112, 114, 111, 98, 101, 115]⟩
/-- The numbers that hang on the kind, and their faults. -/
def nums (r : Ru) : List (ByteArray × Int) :=
  [(f1, fd 1 r.ki r.ra 0 1000000), (f2, fd 1 r.ki r.pe 1 86400000), (f3, fd 1 r.ki r.bu 1 1000000), (f4, fd 1 r.ki r.co 0 1000),
   (f5, fd 2 r.ki r.mx 1 1000000), (f6, fd 3 r.ki r.fa 1 1000), (f7, fd 3 r.ki r.wa 1 86400000), (f8, fd 3 r.ki r.pb 0 100)]
/-- All that may be wrong, in its order. -/
def errs (r : Ru) : List (ByteArray × Int) := (p1, e1 r) :: (p2, e2 r) :: (p3, e3 r) :: (p4, e4 r) :: (p5, e5 r) :: nums r
def chk (r : Ru) : ByteArray × Int := fst (errs r)
/-- The same of texts, priority and kind alone. -/
def txs (r : Ru) : ByteArray × Int := fst [(p1, e1 r), (p2, e2 r), (p3, e3 r), (p4, e4 r), (p5, e5 r)]
theorem fst_app : ∀ l m : List (ByteArray × Int), fst (l ++ m) = if (fst l).2 = 0 then fst m else fst l
  | [], _ => rfl
  | (p, e) :: l, m => by
    by_cases h : e = 0
    · rw [List.cons_append, fst_no _ h, fst_no _ h, fst_app l m]
    · rw [List.cons_append, fst_yes _ h, fst_yes _ h, if_neg h]
theorem chk_two (r : Ru) : chk r = if (txs r).2 = 0 then fst (nums r) else txs r := fst_app [(p1, e1 r), (p2, e2 r), (p3, e3 r), (p4, e4 r), (p5, e5 r)] (nums r)

/-- A right rule. -/
structure Rt (r : Ru) : Prop where
  id : isId r.id = true
  no : r.no.size ≤ 255
  tx : isTx r.no = true
  ro : isPa r.ro = true
  pr : 0 ≤ r.pr ∧ r.pr ≤ 1000
  ki : (r.ki = 1 ∧ (0 ≤ r.ra ∧ r.ra ≤ 1000000) ∧ (1 ≤ r.pe ∧ r.pe ≤ 86400000) ∧ (1 ≤ r.bu ∧ r.bu ≤ 1000000) ∧ (0 ≤ r.co ∧ r.co ≤ 1000) ∧ r.mx = 0 ∧ r.fa = 0 ∧ r.wa = 0 ∧ r.pb = 0)
    ∨ (r.ki = 2 ∧ r.ra = 0 ∧ r.pe = 0 ∧ r.bu = 0 ∧ r.co = 0 ∧ (1 ≤ r.mx ∧ r.mx ≤ 1000000) ∧ r.fa = 0 ∧ r.wa = 0 ∧ r.pb = 0)
    ∨ (r.ki = 3 ∧ r.ra = 0 ∧ r.pe = 0 ∧ r.bu = 0 ∧ r.co = 0 ∧ r.mx = 0 ∧ (1 ≤ r.fa ∧ r.fa ≤ 1000) ∧ (1 ≤ r.wa ∧ r.wa ≤ 86400000) ∧ (0 ≤ r.pb ∧ r.pb ≤ 100))
theorem e1_zero (r : Ru) : e1 r = 0 ↔ isId r.id = true := by unfold e1; split <;> simp [*]
theorem e2_zero (r : Ru) : e2 r = 0 ↔ r.no.size ≤ 255 ∧ isTx r.no = true := by
  unfold e2
  split
  · exact ⟨fun h => absurd h (by decide), fun h => by omega⟩
  · split
    · exact ⟨fun _ => ⟨by omega, by assumption⟩, fun _ => rfl⟩
    · exact ⟨fun h => absurd h (by decide), fun h => absurd h.2 (by assumption)⟩
theorem e3_zero (r : Ru) : e3 r = 0 ↔ isPa r.ro = true := by unfold e3; split <;> simp [*]
theorem e4_zero (r : Ru) : e4 r = 0 ↔ 0 ≤ r.pr ∧ r.pr ≤ 1000 := by unfold e4; split <;> omega
theorem e5_zero (r : Ru) : e5 r = 0 ↔ r.ki = 1 ∨ r.ki = 2 ∨ r.ki = 3 := by unfold e5; split <;> omega
theorem all_cons {p : ByteArray} {e : Int} {l : List (ByteArray × Int)} : (∀ x ∈ (p, e) :: l, x.2 = 0) ↔ e = 0 ∧ ∀ x ∈ l, x.2 = 0 :=
  ⟨fun h => ⟨h _ List.mem_cons_self, fun x hx => h x (List.mem_cons_of_mem _ hx)⟩, fun h x hx => by
    rcases List.mem_cons.1 hx with rfl | hx
    · exact h.1
    · exact h.2 x hx⟩
theorem all_nil : (∀ x ∈ ([] : List (ByteArray × Int)), x.2 = 0) ↔ True := ⟨fun _ => trivial, fun _ x h => by cases h⟩
theorem chk_zero (r : Ru) : (chk r).2 = 0 ↔ Rt r := by
  unfold chk errs nums
  rw [fst_zero]
  simp only [all_cons, all_nil, e1_zero, e2_zero, e3_zero, e4_zero, e5_zero, fd_zero]
  constructor
  · rintro ⟨h1, ⟨h2, h2'⟩, h3, h4, h5, a1, a2, a3, a4, a5, a6, a7, a8, _⟩
    refine ⟨h1, h2, h2', h3, h4, ?_⟩
    rcases h5 with hk | hk | hk
    · exact .inl ⟨hk, a1.2 hk.symm, a2.2 hk.symm, a3.2 hk.symm, a4.2 hk.symm, a5.1 (by omega), a6.1 (by omega), a7.1 (by omega), a8.1 (by omega)⟩
    · exact .inr (.inl ⟨hk, a1.1 (by omega), a2.1 (by omega), a3.1 (by omega), a4.1 (by omega), a5.2 hk.symm, a6.1 (by omega), a7.1 (by omega), a8.1 (by omega)⟩)
    · exact .inr (.inr ⟨hk, a1.1 (by omega), a2.1 (by omega), a3.1 (by omega), a4.1 (by omega), a5.1 (by omega), a6.2 hk.symm, a7.2 hk.symm, a8.2 hk.symm⟩)
  · rintro ⟨h1, h2, h2', h3, h4, h5⟩
    rcases h5 with ⟨hk, b1, b2, b3, b4, b5, b6, b7, b8⟩ | ⟨hk, b1, b2, b3, b4, b5, b6, b7, b8⟩ | ⟨hk, b1, b2, b3, b4, b5, b6, b7, b8⟩
    · exact ⟨h1, ⟨h2, h2'⟩, h3, h4, .inl hk, ⟨fun h => absurd hk.symm h, fun _ => b1⟩, ⟨fun h => absurd hk.symm h, fun _ => b2⟩, ⟨fun h => absurd hk.symm h, fun _ => b3⟩, ⟨fun h => absurd hk.symm h, fun _ => b4⟩,
        ⟨fun _ => b5, fun h => by omega⟩, ⟨fun _ => b6, fun h => by omega⟩, ⟨fun _ => b7, fun h => by omega⟩, ⟨fun _ => b8, fun h => by omega⟩, trivial⟩
    · exact ⟨h1, ⟨h2, h2'⟩, h3, h4, .inr (.inl hk), ⟨fun _ => b1, fun h => by omega⟩, ⟨fun _ => b2, fun h => by omega⟩, ⟨fun _ => b3, fun h => by omega⟩, ⟨fun _ => b4, fun h => by omega⟩,
        ⟨fun h => absurd hk.symm h, fun _ => b5⟩, ⟨fun _ => b6, fun h => by omega⟩, ⟨fun _ => b7, fun h => by omega⟩, ⟨fun _ => b8, fun h => by omega⟩, trivial⟩
    · exact ⟨h1, ⟨h2, h2'⟩, h3, h4, .inr (.inr hk), ⟨fun _ => b1, fun h => by omega⟩, ⟨fun _ => b2, fun h => by omega⟩, ⟨fun _ => b3, fun h => by omega⟩, ⟨fun _ => b4, fun h => by omega⟩,
        ⟨fun _ => b5, fun h => by omega⟩, ⟨fun h => absurd hk.symm h, fun _ => b6⟩, ⟨fun h => absurd hk.symm h, fun _ => b7⟩, ⟨fun h => absurd hk.symm h, fun _ => b8⟩, trivial⟩
theorem chk_ok {r : Ru} (h : Rt r) : chk r = (⟨#[]⟩, 0) := fst_ok _ ((chk_zero r).2 h)
/-! ### the canonical form -/
def can (r : Ru) : Ru :=
  if r.ki = 1 then { r with ra := r.ra / Sat.gd r.ra r.pe, pe := r.pe / Sat.gd r.ra r.pe, co := max r.co 1 } else if r.ki = 3 then { r with pb := max r.pb 1 } else r
def cn (r : Ru) : Ru := if (chk r).2 = 0 then can r else zero
theorem gd_nat (a b : Nat) : Sat.gd (a : Int) (b : Int) = ((Nat.gcd a b : Nat) : Int) := rfl
theorem gd_div {a b : Int} (ha : 0 ≤ a) (hb : 1 ≤ b) : 1 ≤ Sat.gd a b ∧ Sat.gd a b ≤ b ∧ a / Sat.gd a b * b = a * (b / Sat.gd a b) ∧ 0 ≤ a / Sat.gd a b ∧ a / Sat.gd a b ≤ a ∧ 1 ≤ b / Sat.gd a b ∧ b / Sat.gd a b ≤ b ∧ Sat.gd (a / Sat.gd a b) (b / Sat.gd a b) = 1 := by
  obtain ⟨m, rfl⟩ := Int.eq_ofNat_of_zero_le ha
  obtain ⟨n, rfl⟩ := Int.eq_ofNat_of_zero_le (show 0 ≤ b by omega)
  rw [gd_nat]
  have hn : 0 < n := by omega
  have hg : 0 < Nat.gcd m n := Nat.gcd_pos_of_pos_right m hn
  have hl : Nat.gcd m n ≤ n := Nat.gcd_le_right m hn
  have hc : Nat.gcd (m / Nat.gcd m n) (n / Nat.gcd m n) = 1 := Nat.coprime_div_gcd_div_gcd hg
  obtain ⟨x, hx⟩ := Nat.gcd_dvd_left m n
  obtain ⟨y, hy⟩ := Nat.gcd_dvd_right m n
  have ex : m / Nat.gcd m n = x := by
    conv => lhs; arg 1; rw [hx]
    exact Nat.mul_div_cancel_left x hg
  have ey : n / Nat.gcd m n = y := by
    conv => lhs; arg 1; rw [hy]
    exact Nat.mul_div_cancel_left y hg
  have cx : ((m : Int) / ((Nat.gcd m n : Nat) : Int)) = (x : Int) := by rw [← Int.natCast_ediv, ex]
  have cy : ((n : Int) / ((Nat.gcd m n : Nat) : Int)) = (y : Int) := by rw [← Int.natCast_ediv, ey]
  rw [cx, cy, gd_nat]
  rw [ex, ey] at hc
  have hy0 : 0 < y := by
    rcases Nat.eq_zero_or_pos y with h | h
    · rw [h, Nat.mul_zero] at hy; omega
    · exact h
  have hxm : x ≤ m := by rw [← ex]; exact Nat.div_le_self _ _
  have hyn : y ≤ n := by rw [← ey]; exact Nat.div_le_self _ _
  refine ⟨by omega, by omega, ?_, by omega, by omega, by omega, by omega, by rw [hc]; rfl⟩
  rw [← Int.natCast_mul, ← Int.natCast_mul]
  congr 1
  generalize Nat.gcd m n = g at *
  rw [hx, hy, Nat.mul_left_comm, ← Nat.mul_assoc]
theorem can_one {r : Ru} (h : r.ki = 1) : can r = { r with ra := r.ra / Sat.gd r.ra r.pe, pe := r.pe / Sat.gd r.ra r.pe, co := max r.co 1 } := by unfold can; rw [if_pos h]
theorem can_two {r : Ru} (h : r.ki = 2) : can r = r := by unfold can; rw [if_neg (by omega), if_neg (by omega)]
theorem can_three {r : Ru} (h : r.ki = 3) : can r = { r with pb := max r.pb 1 } := by unfold can; rw [if_neg (by omega), if_pos h]
theorem can_right {r : Ru} (h : Rt r) : Rt (can r) := by
  rcases h.ki with hk | hk | hk
  · rw [can_one hk.1]
    have := gd_div hk.2.1.1 hk.2.2.1.1
    exact ⟨h.id, h.no, h.tx, h.ro, h.pr, .inl ⟨hk.1, (show 0 ≤ r.ra / Sat.gd r.ra r.pe ∧ r.ra / Sat.gd r.ra r.pe ≤ 1000000 by omega), (show 1 ≤ r.pe / Sat.gd r.ra r.pe ∧ r.pe / Sat.gd r.ra r.pe ≤ 86400000 by omega), hk.2.2.2.1, (show 0 ≤ max r.co 1 ∧ max r.co 1 ≤ 1000 by omega), hk.2.2.2.2.2⟩⟩
  · rw [can_two hk.1]; exact h
  · rw [can_three hk.1]
    exact ⟨h.id, h.no, h.tx, h.ro, h.pr, .inr (.inr ⟨hk.1, hk.2.1, hk.2.2.1, hk.2.2.2.1, hk.2.2.2.2.1, hk.2.2.2.2.2.1, hk.2.2.2.2.2.2.1, hk.2.2.2.2.2.2.2.1, (show 0 ≤ max r.pb 1 ∧ max r.pb 1 ≤ 100 by omega)⟩)⟩
theorem can_can {r : Ru} (h : Rt r) : can (can r) = can r := by
  rcases h.ki with hk | hk | hk
  · rw [can_one hk.1]
    have hg := gd_div hk.2.1.1 hk.2.2.1.1
    refine Eq.trans (can_one (by exact hk.1)) ?_
    show Ru.mk _ _ _ _ _ (r.ra / Sat.gd r.ra r.pe / Sat.gd (r.ra / Sat.gd r.ra r.pe) (r.pe / Sat.gd r.ra r.pe)) (r.pe / Sat.gd r.ra r.pe / Sat.gd (r.ra / Sat.gd r.ra r.pe) (r.pe / Sat.gd r.ra r.pe)) _ (max (max r.co 1) 1) _ _ _ _ = _
    rw [hg.2.2.2.2.2.2.2, Int.ediv_one, Int.ediv_one, show max (max r.co 1) 1 = max r.co 1 by omega]
  · rw [can_two hk.1, can_two hk.1]
  · rw [can_three hk.1]
    refine Eq.trans (can_three (by exact hk.1)) ?_
    show Ru.mk _ _ _ _ _ _ _ _ _ _ _ _ (max (max r.pb 1) 1) = _
    rw [show max (max r.pb 1) 1 = max r.pb 1 by omega]
/-- What the canonical form keeps, and the quotient. -/
theorem can_keeps {r : Ru} (h : Rt r) : (can r).id = r.id ∧ (can r).no = r.no ∧ (can r).ro = r.ro ∧ (can r).pr = r.pr ∧ (can r).ki = r.ki ∧ (can r).bu = r.bu ∧ (can r).mx = r.mx
    ∧ (can r).ra * r.pe = r.ra * (can r).pe ∧ (r.ki = 1 → 1 ≤ (can r).co) ∧ (r.ki = 3 → 1 ≤ (can r).pb) := by
  rcases h.ki with hk | hk | hk
  · rw [can_one hk.1]
    have hg := gd_div hk.2.1.1 hk.2.2.1.1
    exact ⟨rfl, rfl, rfl, rfl, rfl, rfl, rfl, hg.2.2.1, fun _ => by show _ ≤ max _ _; omega, fun e => by omega⟩
  · rw [can_two hk.1]
    exact ⟨rfl, rfl, rfl, rfl, rfl, rfl, rfl, rfl, fun e => by omega, fun e => by omega⟩
  · rw [can_three hk.1]
    exact ⟨rfl, rfl, rfl, rfl, rfl, rfl, rfl, rfl, fun e => by omega, fun _ => by show _ ≤ max _ _; omega⟩

/-! ### a field that is spoilt -/
/-! ### kinds' names -/
def k1 : ByteArray := ⟨#[98, 117, 99, 107, 101, 116]⟩
def k2 : ByteArray := ⟨#[99, 97, 112]⟩
def k3 : ByteArray := ⟨#[98, 114, 101, 97, 107, 101, 114]⟩
def kB (k : Int) : ByteArray := if k = 1 then k1 else if k = 2 then k2 else if k = 3 then k3 else ⟨#[]⟩
def kO (s : ByteArray) : Int := if s = k1 then 1 else if s = k2 then 2 else if s = k3 then 3 else 0
theorem kO_at {k : Nat} (h : k < 4) : kO (kB k) = k := by
  match k, h with
  | 0, _ => decide
  | 1, _ => decide
  | 2, _ => decide
  | 3, _ => decide
theorem kO_no {s : ByteArray} (h : ∀ k : Nat, 1 ≤ k → k < 4 → kB k ≠ s) : kO s = 0 := by
  have a1 := h 1 (by omega) (by omega); have a2 := h 2 (by omega) (by omega); have a3 := h 3 (by omega) (by omega)
  unfold kO
  rw [if_neg (fun e : s = k1 => a1 e.symm), if_neg (fun e : s = k2 => a2 e.symm), if_neg (fun e : s = k3 => a3 e.symm)]
theorem kB_none (k : Int) : kB k = ⟨#[]⟩ ↔ ¬ (k = 1 ∨ k = 2 ∨ k = 3) := by
  unfold kB
  split
  · exact ⟨fun h => absurd h (by decide), fun h => by omega⟩
  · split
    · exact ⟨fun h => absurd h (by decide), fun h => by omega⟩
    · split
      · exact ⟨fun h => absurd h (by decide), fun h => by omega⟩
      · exact ⟨fun _ => by omega, fun _ => rfl⟩
end Go.Proofs.YtehkiojohldlgaaGreatDoor.Rul

namespace Go.Proofs.YtehkiojohldlgaaGreatDoor.Thr
open Go.Proofs.YtehkiojohldlgaaGreatDoor.Rul (Ru zero chk can cn Rt fst fst_yes fst_no fst_zero fst_ok chk_zero chk_ok can_right can_can can_keeps)
open Go.Proofs.YtehkiojohldlgaaGreatDoor.Ide (lt lt_irrefl lt_trans lt_asymm lt_total)

/-! ### two rules, two sets -/
def rE (a b : Ru) : Bool :=
  decide (a.id = b.id) && (decide (a.no = b.no) && (decide (a.ro = b.ro) && (decide (a.pr = b.pr) && (decide (a.ki = b.ki) && (decide (a.ra = b.ra) && (decide (a.pe = b.pe) && (decide (a.bu = b.bu) && (decide (a.co = b.co) && (decide (a.mx = b.mx) && (decide (a.fa = b.fa) && (decide (a.wa = b.wa) && decide (a.pb = b.pb))))))))))))
theorem rE_iff (a b : Ru) : rE a b = true ↔ a = b := by
  unfold rE
  simp only [Bool.and_eq_true, decide_eq_true_eq]
  obtain ⟨a0, a1, a2, a3, a4, a5, a6, a7, a8, a9, a10, a11, a12⟩ := a
  obtain ⟨b0, b1, b2, b3, b4, b5, b6, b7, b8, b9, b10, b11, b12⟩ := b
  dsimp only
  constructor
  · rintro ⟨rfl, rfl, rfl, rfl, rfl, rfl, rfl, rfl, rfl, rfl, rfl, rfl, rfl⟩; rfl
  · intro h
    cases h
    exact ⟨rfl, rfl, rfl, rfl, rfl, rfl, rfl, rfl, rfl, rfl, rfl, rfl, rfl⟩
def ga (L : List Ru) (i : Nat) : Ru := L.getD i zero
theorem ga_at {L : List Ru} {i : Nat} (h : i < L.length) : ga L i = L[i] := by
  unfold ga
  rw [List.getD_eq_getElem?_getD, List.getElem?_eq_getElem h]; rfl
theorem ga_mem {L : List Ru} {i : Nat} (h : i < L.length) : ga L i ∈ L := by rw [ga_at h]; exact List.getElem_mem _
theorem mem_ga {L : List Ru} {r : Ru} (h : r ∈ L) : ∃ i, i < L.length ∧ ga L i = r := by
  obtain ⟨i, hi, e⟩ := List.getElem_of_mem h
  exact ⟨i, hi, by rw [ga_at hi, e]⟩
/-- Are both the same rules in the same order? -/
def sm : List Ru → List Ru → Bool
  | [], [] => true
  | a :: l, b :: m => rE a b && sm l m
  | _, _ => false
theorem sm_iff : ∀ l m : List Ru, sm l m = true ↔ l = m
  | [], [] => ⟨fun _ => rfl, fun _ => rfl⟩
  | [], _ :: _ => ⟨fun h => (by cases h), fun h => (by cases h)⟩
  | _ :: _, [] => ⟨fun h => (by cases h), fun h => (by cases h)⟩
  | a :: l, b :: m => by
    unfold sm
    rw [Bool.and_eq_true, rE_iff, sm_iff l m]
    constructor
    · rintro ⟨rfl, rfl⟩; rfl
    · intro h; cases h; exact ⟨rfl, rfl⟩
theorem sm_self (l : List Ru) : sm l l = true := (sm_iff l l).2 rfl
theorem ext_ga {l m : List Ru} (hl : l.length = m.length) (h : ∀ i, i < l.length → ga l i = ga m i) : l = m := by
  refine List.ext_getElem hl fun i h1 h2 => ?_
  have := h i h1
  rwa [ga_at h1, ga_at h2] at this
theorem sm_no_len {l m : List Ru} (h : l.length ≠ m.length) : sm l m = false := by
  cases hs : sm l m with
  | false => rfl
  | true => exact absurd (by rw [(sm_iff l m).1 hs]) h
theorem sm_no_at {l m : List Ru} (i : Nat) (h : ga l i ≠ ga m i) : sm l m = false := by
  cases hs : sm l m with
  | false => rfl
  | true => exact absurd (by rw [(sm_iff l m).1 hs]) h
theorem sm_yes {l m : List Ru} (hl : l.length = m.length) (h : ∀ i, i < l.length → ga l i = ga m i) : sm l m = true := (sm_iff l m).2 (ext_ga hl h)

/-! ### what is wrong -/
/-- A path behind a rule's place. -/
def pre (i : Nat) (p : ByteArray) : ByteArray := ⟨#[47]⟩ ++ ⟨(Lib.itoa (i : Int)).toArray⟩ ++ p
/-- Has an earlier rule the id of rule i? -/
def tw (L : List Ru) (i : Nat) : Bool := (L.take i).any fun x => decide (x.id = (ga L i).id)
def nx (L : List Ru) (i : Nat) : ByteArray × Int :=
  if (chk (ga L i)).2 = 0 then (if tw L i = true then (pre i Rul.p1, 11) else (⟨#[]⟩, 0)) else (pre i (chk (ga L i)).1, (chk (ga L i)).2)
def nxs (L : List Ru) : List (ByteArray × Int) := (List.range L.length).map (nx L)
def sck (L : List Ru) : ByteArray × Int := if 4096 < L.length then (⟨#[]⟩, 12) else fst (nxs L)
theorem nxs_len (L : List Ru) : (nxs L).length = L.length := by unfold nxs; rw [List.length_map, List.length_range]
theorem nxs_drop (L : List Ru) {i : Nat} (h : i < L.length) : (nxs L).drop i = nx L i :: (nxs L).drop (i + 1) := by
  rw [List.drop_eq_getElem_cons (by rw [nxs_len]; exact h)]
  congr 1
  unfold nxs
  rw [List.getElem_map, List.getElem_range]
theorem nx_bad {L : List Ru} {i : Nat} (h : (chk (ga L i)).2 ≠ 0) : nx L i = (pre i (chk (ga L i)).1, (chk (ga L i)).2) := by unfold nx; rw [if_neg h]
theorem nx_twice {L : List Ru} {i : Nat} (h : (chk (ga L i)).2 = 0) (k : tw L i = true) : nx L i = (pre i Rul.p1, 11) := by unfold nx; rw [if_pos h, if_pos k]
theorem nx_ok {L : List Ru} {i : Nat} (h : (chk (ga L i)).2 = 0) (k : tw L i = false) : nx L i = (⟨#[]⟩, 0) := by unfold nx; rw [if_pos h, if_neg (by rw [k]; decide)]
theorem tw_yes {L : List Ru} {i k : Nat} (hi : i < L.length) (hk : k < i) (h : (ga L k).id = (ga L i).id) : tw L i = true := by
  unfold tw
  rw [List.any_eq_true]
  refine ⟨ga L k, ?_, decide_eq_true h⟩
  rw [List.mem_take_iff_getElem]
  exact ⟨k, by omega, (ga_at (by omega)).symm⟩
theorem tw_no {L : List Ru} {i : Nat} (h : ∀ k, k < i → k < L.length → (ga L k).id ≠ (ga L i).id) : tw L i = false := by
  unfold tw
  rw [List.any_eq_false]
  intro x hx hd
  rw [List.mem_take_iff_getElem] at hx
  obtain ⟨k, hk, rfl⟩ := hx
  have h2 : k < i ∧ k < L.length := by omega
  exact h k h2.1 h2.2 (by rw [ga_at h2.2]; exact of_decide_eq_true hd)
theorem tw_iff {L : List Ru} {i : Nat} (hi : i < L.length) : tw L i = false ↔ ∀ k, k < i → (ga L k).id ≠ (ga L i).id :=
  ⟨fun h k hk e => absurd (tw_yes hi hk e) (by rw [h]; decide), fun h => tw_no fun k hk _ => h k hk⟩
theorem nx_zero {L : List Ru} {i : Nat} (hi : i < L.length) : (nx L i).2 = 0 ↔ Rt (ga L i) ∧ ∀ k, k < i → (ga L k).id ≠ (ga L i).id := by
  rw [← chk_zero, ← tw_iff hi]
  unfold nx
  by_cases h : (chk (ga L i)).2 = 0
  · rw [if_pos h]
    cases tw L i with
    | false => exact ⟨fun _ => ⟨h, rfl⟩, fun _ => rfl⟩
    | true => exact ⟨fun q => absurd q (by simp), fun q => by cases q.2⟩
  · rw [if_neg h]
    exact ⟨fun q => absurd q h, fun q => absurd q.1 h⟩
/-- A right set. -/
structure Rs (L : List Ru) : Prop where
  len : L.length ≤ 4096
  rt : ∀ r ∈ L, Rt r
  nd : (L.map (·.id)).Nodup
theorem nodup_ga (L : List Ru) : (L.map (·.id)).Nodup ↔ ∀ i, i < L.length → ∀ k, k < i → (ga L k).id ≠ (ga L i).id := by
  unfold List.Nodup
  rw [List.pairwise_map, List.pairwise_iff_getElem]
  constructor
  · intro h i hi k hk
    rw [ga_at hi, ga_at (by omega)]
    exact h k i (by omega) hi hk
  · intro h i j hi hj hij
    have := h j hj i hij
    rwa [ga_at hi, ga_at hj] at this
theorem sck_zero (L : List Ru) : (sck L).2 = 0 ↔ Rs L := by
  unfold sck
  by_cases h : 4096 < L.length
  · rw [if_pos h]
    exact ⟨fun q => absurd q (by decide), fun q => absurd q.len (by omega)⟩
  · rw [if_neg h, fst_zero]
    have key : (∀ x ∈ nxs L, x.2 = 0) ↔ ∀ i, i < L.length → (nx L i).2 = 0 := by
      unfold nxs
      constructor
      · intro q i hi
        exact q _ (List.mem_map.2 ⟨i, List.mem_range.2 hi, rfl⟩)
      · intro q x hx
        obtain ⟨i, hi, rfl⟩ := List.mem_map.1 hx
        exact q i (List.mem_range.1 hi)
    rw [key]
    constructor
    · intro q
      refine ⟨by omega, fun r hr => ?_, (nodup_ga L).2 fun i hi => ((nx_zero hi).1 (q i hi)).2⟩
      obtain ⟨i, hi, rfl⟩ := mem_ga hr
      exact ((nx_zero hi).1 (q i hi)).1
    · intro q i hi
      exact (nx_zero hi).2 ⟨q.rt _ (ga_mem hi), (nodup_ga L).1 q.nd i hi⟩
theorem sck_ok {L : List Ru} (h : Rs L) : sck L = (⟨#[]⟩, 0) := by
  have hz := (sck_zero L).2 h
  unfold sck at hz ⊢
  rw [if_neg (by have := h.len; omega)] at hz ⊢
  exact fst_ok _ hz

/-! ### rising ids -/
def ls (a b : Ru) : Prop := lt a.id b.id = true
def ins (r : Ru) : List Ru → List Ru
  | [] => [r]
  | x :: l => if lt x.id r.id = true then x :: ins r l else r :: x :: l
theorem ins_perm (r : Ru) : ∀ l, (ins r l).Perm (r :: l)
  | [] => List.Perm.refl _
  | x :: l => by
    unfold ins
    split
    · exact ((ins_perm r l).cons x).trans (List.Perm.swap r x l)
    · exact List.Perm.refl _
theorem ins_rises {r : Ru} : ∀ {l : List Ru}, (∀ x ∈ l, x.id ≠ r.id) → l.Pairwise ls → (ins r l).Pairwise ls
  | [], _, _ => List.pairwise_singleton _ _
  | x :: l, hn, hp => by
    rw [List.pairwise_cons] at hp
    unfold ins
    by_cases hx : lt x.id r.id = true
    · rw [if_pos hx, List.pairwise_cons]
      refine ⟨fun y hy => ?_, ins_rises (fun y hy => hn y (List.mem_cons_of_mem _ hy)) hp.2⟩
      rcases List.mem_cons.1 ((ins_perm r l).mem_iff.1 hy) with rfl | hy
      · exact hx
      · exact hp.1 y hy
    · rw [if_neg hx, List.pairwise_cons]
      have hrx : lt r.id x.id = true := by
        cases hq : lt r.id x.id with
        | true => rfl
        | false => exact absurd (lt_total (by simpa using hx) hq) (hn x List.mem_cons_self)
      refine ⟨fun y hy => ?_, List.pairwise_cons.2 hp⟩
      rcases List.mem_cons.1 hy with rfl | hy
      · exact hrx
      · exact lt_trans hrx (hp.1 y hy)
/-- Where a rule is put among others. -/
def pl (L : List Ru) (s : ByteArray) : Nat := Ide.fn (L.map (·.id)) s
theorem ids_ga {L : List Ru} {j : Nat} (h : j < L.length) : Ide.ga (L.map (·.id)) j = (ga L j).id := by
  unfold Ide.ga
  rw [List.getD_eq_getElem?_getD, List.getElem?_map, List.getElem?_eq_getElem h, ga_at h]; rfl
theorem pl_is {L : List Ru} {s : ByteArray} {k : Nat} (hk : k ≤ L.length) (h1 : ∀ j, j < k → lt (ga L j).id s = true) (h2 : k < L.length → lt (ga L k).id s = false) : pl L s = k :=
  Ide.fn_is (by rw [List.length_map]; exact hk) (fun j hj => by rw [ids_ga (by omega)]; exact h1 j hj) (fun h => by rw [List.length_map] at h; rw [ids_ga h]; exact h2 h)
theorem ins_split (r : Ru) : ∀ L : List Ru, ins r L = L.take (pl L r.id) ++ r :: L.drop (pl L r.id)
  | [] => rfl
  | x :: L => by
    have e : pl (x :: L) r.id = if lt x.id r.id = true then pl L r.id + 1 else 0 := by
      unfold pl Ide.fn
      rw [List.map_cons, List.takeWhile_cons]
      split <;> rfl
    unfold ins
    rw [e]
    split
    · rw [ins_split r L, List.take_succ_cons, List.drop_succ_cons, List.cons_append]
    · rfl
/-- The rules by rising ids. -/
def srt (L : List Ru) : List Ru := L.foldl (fun l r => ins r l) []
theorem fold_perm : ∀ (L l : List Ru), (L.foldl (fun l r => ins r l) l).Perm (L ++ l)
  | [], l => List.Perm.refl _
  | r :: L, l => by
    rw [List.foldl_cons]
    refine (fold_perm L (ins r l)).trans ?_
    refine (List.Perm.append_left L (ins_perm r l)).trans ?_
    exact List.perm_middle
theorem srt_perm (L : List Ru) : (srt L).Perm L := by
  have := fold_perm L []
  rwa [List.append_nil] at this
theorem fold_rises : ∀ (L l : List Ru), l.Pairwise ls → ((L ++ l).map (·.id)).Nodup → (L.foldl (fun l r => ins r l) l).Pairwise ls
  | [], l, h, _ => h
  | r :: L, l, h, hn => by
    rw [List.foldl_cons]
    have hp : ((r :: L) ++ l).Perm (L ++ ins r l) := (List.perm_middle (a := r) (l₁ := L) (l₂ := l)).symm.trans (List.Perm.append_left L (ins_perm r l).symm)
    refine fold_rises L (ins r l) (ins_rises (fun x hx e => ?_) h) ((hp.map _).nodup_iff.1 hn)
    rw [List.cons_append, List.map_cons, List.nodup_cons] at hn
    exact hn.1 (List.mem_map.2 ⟨x, List.mem_append_right _ hx, e⟩)
theorem srt_rises {L : List Ru} (h : (L.map (·.id)).Nodup) : (srt L).Pairwise ls := fold_rises L [] List.Pairwise.nil (by rwa [List.append_nil])
theorem rises_one : ∀ (l m : List Ru), l.Pairwise ls → m.Pairwise ls → l.Perm m → l = m
  | [], m, _, _, h => (List.Perm.nil_eq h)
  | a :: l, [], _, _, h => absurd h.length_eq (by simp)
  | a :: l, b :: m, hl, hm, h => by
    rw [List.pairwise_cons] at hl hm
    have hab : a = b := by
      have h1 : a ∈ b :: m := h.mem_iff.1 List.mem_cons_self
      have h2 : b ∈ a :: l := h.mem_iff.2 List.mem_cons_self
      rcases List.mem_cons.1 h1 with e | h1
      · exact e
      rcases List.mem_cons.1 h2 with e | h2
      · exact e.symm
      have k1 := hm.1 a h1
      have k2 := hl.1 b h2
      unfold ls at k1 k2
      rw [lt_asymm k1] at k2
      cases k2
    subst hab
    rw [rises_one l m hl.2 hm.2 (h.cons_inv)]
theorem srt_self {L : List Ru} (h : L.Pairwise ls) (hn : (L.map (·.id)).Nodup) : srt L = L := rises_one _ _ (srt_rises hn) h (srt_perm L)

/-! ### the canonical form -/
def scn (L : List Ru) : List Ru := if (sck L).2 = 0 then srt (L.map can) else []
theorem scn_ok {L : List Ru} (h : Rs L) : scn L = srt (L.map can) := by unfold scn; rw [if_pos ((sck_zero L).2 h)]
theorem scn_no {L : List Ru} (h : (sck L).2 ≠ 0) : scn L = [] := by unfold scn; rw [if_neg h]
theorem can_id {r : Ru} (h : Rt r) : (can r).id = r.id := (can_keeps h).1
theorem can_ids {L : List Ru} (h : ∀ r ∈ L, Rt r) : (L.map can).map (·.id) = L.map (·.id) := by
  rw [List.map_map]
  exact List.map_congr_left fun r hr => can_id (h r hr)
theorem cans_right {L : List Ru} (h : Rs L) : Rs (L.map can) :=
  ⟨by rw [List.length_map]; exact h.len, fun r hr => by obtain ⟨q, hq, rfl⟩ := List.mem_map.1 hr; exact can_right (h.rt q hq), by rw [can_ids h.rt]; exact h.nd⟩
theorem right_perm {L M : List Ru} (hp : L.Perm M) (h : Rs L) : Rs M :=
  ⟨by rw [← hp.length_eq]; exact h.len, fun r hr => h.rt r (hp.mem_iff.2 hr), (hp.map _).nodup_iff.1 h.nd⟩
theorem scn_perm {L : List Ru} (h : Rs L) : (scn L).Perm (L.map can) := by rw [scn_ok h]; exact srt_perm _
theorem scn_right {L : List Ru} (h : Rs L) : Rs (scn L) := right_perm (scn_perm h).symm (cans_right h)
theorem scn_rises {L : List Ru} (h : Rs L) : (scn L).Pairwise ls := by rw [scn_ok h]; exact srt_rises (cans_right h).nd
theorem scn_len {L : List Ru} (h : Rs L) : (scn L).length = L.length := by rw [(scn_perm h).length_eq, List.length_map]
/-- The canonical form's own is itself. -/
theorem scn_scn {L : List Ru} (h : Rs L) : scn (scn L) = scn L := by
  rw [scn_ok (scn_right h)]
  have e : (scn L).map can = scn L := by
    have : ∀ r ∈ scn L, can r = r := fun r hr => by
      obtain ⟨q, hq, rfl⟩ := List.mem_map.1 ((scn_perm h).mem_iff.1 hr)
      exact can_can (h.rt q hq)
    rw [List.map_congr_left this, List.map_id']
  rw [e]
  exact srt_self (scn_rises h) (scn_right h).nd
/-- Is it in its canonical form? -/
def isC (L : List Ru) : Bool := decide ((sck L).2 = 0) && sm (scn L) L
theorem isC_no {L : List Ru} (h : (sck L).2 ≠ 0) : isC L = false := by unfold isC; rw [decide_eq_false h]; rfl
theorem isC_ok {L : List Ru} (h : Rs L) : isC L = sm (scn L) L := by unfold isC; rw [decide_eq_true ((sck_zero L).2 h)]; rfl
/-! ### where an id stands -/
def fd (L : List Ru) (s : ByteArray) : Int := Ide.fst (fun i => decide ((ga L i).id = s)) L.length
end Go.Proofs.YtehkiojohldlgaaGreatDoor.Thr

namespace Go.Proofs.YtehkiojohldlgaaGreatDoor.Mat
open Go.Proofs.YtehkiojohldlgaaGreatDoor.Rou

/-- A part's text. -/
abbrev T := List UInt8
def st : T := [42]
def ss : T := [42, 42]
/-- Does x stand for y, or is it y? -/
def one (x y : T) : Bool := decide (x = st) || decide (x = y)
/-! ### what both match -/
/-- A word for x. -/
def pk1 (x : T) : T := if x = st then [97] else x
/-- A word for both. -/
def pk (x y : T) : T := if x = st then pk1 y else x
/-- The parts of a route that both match. -/
def bt1 : List T → List T
  | [] => []
  | x :: l => if x = ss then [] else pk1 x :: bt1 l
def bt : List T → List T → List T
  | [], m => bt1 m
  | x :: l, [] => bt1 (x :: l)
  | x :: l, y :: m => if x = ss then bt1 (y :: m) else if y = ss then bt1 (x :: l) else pk x y :: bt l m
/-- The parts of a pattern: each a word or a star, two stars at the end alone. -/
def Pt (l : List T) : Prop := (inn l).all sg = true
/-! ### what is joined is parted again -/
/-! ### how long it is -/
end Go.Proofs.YtehkiojohldlgaaGreatDoor.Mat

namespace Go.Proofs.YtehkiojohldlgaaGreatDoor.Ord
open Go.Proofs.YtehkiojohldlgaaGreatDoor.Rou Go.Proofs.YtehkiojohldlgaaGreatDoor.Mat

/-! ### keys -/
/-- A part's digit. -/
def wg (x : T) : UInt8 := if x = st then 49 else if x = ss then 51 else 48
def ky (l : List T) : List UInt8 := l.map wg ++ [50]
def kyS (s : List UInt8) : List UInt8 := if patR s = true then ky (prt s) else []
def kyB (s : ByteArray) : ByteArray := ⟨(kyS s.data.toList).toArray⟩
/-! ### ahead -/
/-- p stands ahead of q. -/
def ls (p q : ByteArray) : Bool := if kyB p = kyB q then Ide.lt p q else Ide.lt (kyB p) (kyB q)
/-! ### the best one -/
def ga (l : List ByteArray) (k : Nat) : ByteArray := l.getD k ⟨#[]⟩
/-- The place of the best one of the first k of l that f takes, or -1. -/
def bs (f : ByteArray → Bool) (l : List ByteArray) : Nat → Int
  | 0 => -1
  | k + 1 => if (f (ga l k) && (decide (bs f l k < 0) || ls (ga l k) (ga l (bs f l k).toNat))) = true then (k : Int) else bs f l k
end Go.Proofs.YtehkiojohldlgaaGreatDoor.Ord

namespace Go.Proofs.YtehkiojohldlgaaGreatDoor.Ptr
open Go.RowKit Go.Lib Go.Proofs.YtehkiojohldlgaaGreatDoor.Byt

/-- The library's variable MaxLen holds some number. -/
def Mx (w : World) : Prop := ∃ m, w.cell? ⟨1, 0, none⟩ = some (.int .i64 m)
theorem Mx.next {w w' : World} (h : Mx w) (hb : Below w.heap.size w w') : Mx w' := by
  obtain ⟨m, hm⟩ := h
  exact ⟨m, (hb.cell (Lib.lt_of_cell hm)).trans hm⟩
theorem rep_any (s old new : ByteArray) (w : World) (hs : s.size ≤ 16000000) (hn : new.size ≤ 2) (hM : Mx w) (h1 : 1 ≤ old.size) :
    Calls Tryz.prog 126 #[.string s, .string old, .string new] w fun e w' => e = .returned (.string ⟨(replaceAll s.data.toList old.data.toList new.data.toList).toArray⟩) ∧ Below w.heap.size w w' := by
  obtain ⟨m, hm⟩ := hM
  have hc := Lib.countB_le old h1 s.size s (Nat.le_refl _)
  have hk : Lib.countB s old * new.size ≤ 16000000 * 2 := Nat.mul_le_mul (by omega) hn
  exact Tryz.strings_ReplaceAll s old new m w (by omega) hm h1 (by omega)
theorem ra_len1 (s : List UInt8) : (replaceAll s [126] [126, 48]).length ≤ 2 * s.length := by
  rw [ra_is s (by decide)]
  induction s with
  | nil => rw [ra_nil _ (by decide)]; exact Nat.zero_le _
  | cons c l ih =>
    by_cases h : c = 126
    · subst h
      rw [ra_hit _ (by simp) (by decide) (one_yes _ _), List.length_append]
      show 2 + (ra [126] [126, 48] l).length ≤ _
      rw [List.length_cons]; omega
    · rw [ra_skip _ (by decide) (one_no l h), List.length_cons, List.length_cons]; omega
theorem sz_mk (l : List UInt8) : (⟨l.toArray⟩ : ByteArray).size = l.length := by show (List.toArray _).size = _; simp
theorem dt_mk (l : List UInt8) : (⟨l.toArray⟩ : ByteArray).data.toList = l := by simp

theorem escape_any (s : ByteArray) (w : World) (hs : s.size ≤ 8000000) (hM : Mx w) :
    Calls Tryz.prog 99 #[.string s] w fun e w' => e = .returned (.string ⟨(eL s.data.toList).toArray⟩) ∧ Below w.heap.size w w' := by
  have hl : s.data.toList.length = s.size := by simp
  have h1 := ra_len1 s.data.toList
  have HA := Lib.hid (rep_any s ⟨#[126]⟩ ⟨#[126, 48]⟩ w (by omega) (by decide) hM (by decide))
  have HB := Lib.hid fun (W : World) (hm : Mx W) => rep_any ⟨(replaceAll s.data.toList [126] [126, 48]).toArray⟩ ⟨#[47]⟩ ⟨#[126, 49]⟩ W (by rw [sz_mk]; omega) (by decide) hm (by decide)
  rw [dt_mk] at HB
  have e1 := esc_is s.data.toList
  have e2 : (⟨#[126]⟩ : ByteArray).data.toList = [126] ∧ (⟨#[126, 48]⟩ : ByteArray).data.toList = [126, 48] ∧ (⟨#[47]⟩ : ByteArray).data.toList = [47] ∧ (⟨#[126, 49]⟩ : ByteArray).data.toList = [126, 49] := ⟨rfl, rfl, rfl, rfl⟩
  rw [e2.1, e2.2.1] at HA
  rw [e2.2.2.1, e2.2.2.2, e1] at HB
  clear e1 e2 h1 hl
  generalize (⟨(replaceAll s.data.toList [126] [126, 48]).toArray⟩ : ByteArray) = t at *
  generalize (⟨(eL s.data.toList).toArray⟩ : ByteArray) = u at *
  go_enter Tryz.func99, Tryz.ntmps99
  go_wp2_with (first
    | (go_at_call 126; (with_reducible refine HA.out.mono ?_); rintro e w1 ⟨rfl, hb1⟩)
    | (go_at_call 126; (with_reducible refine (HB.out _ (hM.next hb1)).mono ?_); rintro e w2 ⟨rfl, hb2⟩))
  go_ret
  exact ⟨rfl, hb1.trans (hb2.mono hb1.size)⟩
/-! ### Put, Join -/
/-- The text of parts. -/
def pB (l : List ByteArray) : List UInt8 := putP (l.map fun x => x.data.toList)
theorem pB_cons (x : ByteArray) (l : List ByteArray) : pB (x :: l) = 47 :: (eL x.data.toList ++ pB l) := by unfold pB; rw [List.map_cons, putP_cons]
theorem pB_snoc (l : List ByteArray) (x : ByteArray) : pB (l ++ [x]) = pB l ++ 47 :: eL x.data.toList := by unfold pB; rw [List.map_append, List.map_singleton, putP_snoc]
theorem pB_step (l : List ByteArray) (k : Nat) (h : k < l.length) : pB (l.take (k + 1)) = pB (l.take k) ++ 47 :: eL (l.getD k ⟨#[]⟩).data.toList := by
  rw [← pB_snoc, List.take_add_one, List.getElem?_eq_getElem h, List.getD_eq_getElem?_getD, List.getElem?_eq_getElem h]
  rfl
/-- Few and short parts: their text is short. -/
def Fit (l : List ByteArray) : Prop := ∀ x ∈ l, x.size ≤ 4000
theorem Fit.take {l : List ByteArray} (h : Fit l) (k : Nat) : Fit (l.take k) := fun x hx => h x (List.mem_of_mem_take hx)
theorem Fit.at_ {l : List ByteArray} (h : Fit l) {k : Nat} (hk : k < l.length) : (l.getD k ⟨#[]⟩).size ≤ 4000 := by
  rw [List.getD_eq_getElem?_getD, List.getElem?_eq_getElem hk]
  exact h _ (List.getElem_mem hk)
/-- The text of one more part. -/
def jB (s x : ByteArray) : ByteArray := s ++ ⟨(pB [x]).toArray⟩
end Go.Proofs.YtehkiojohldlgaaGreatDoor.Ptr
