/- Texts of my own, packed: ThrP3, ThrTabs, Upto, RenCw, PtrIx, ThrM. Conditions: as each theorem states. -/
import Derived.ProofKit
import Derived.OpenShut
import Derived.WideShapes
import Derived.ChangeSlices
import Derived.LaidMore
import Derived.Stop.LaidErr
import Derived.Lib.LaidTab
import Derived.Lib.LaidU8
import Derived.Lib.LaidU8T
import Derived.PinnedBridge
import Derived.Test.YtehkiojohldlgaaGreatDoorRows
import Derived.Deep.DeepHandedRow
import Derived.LaidLaws
import Derived.Lib.AtoiTie
import Derived.Test.YtehkiojohldlgaaGreatDoorK09
import Derived.Test.YtehkiojohldlgaaGreatDoorK18
import Derived.Test.YtehkiojohldlgaaGreatDoorK31
import Derived.Test.YtehkiojohldlgaaGreatDoorK32
import Derived.Test.YtehkiojohldlgaaGreatDoorK35
namespace Go.Proofs.YtehkiojohldlgaaGreatDoor.Thr
open Go.RowKit Go.Lib
open Go.Proofs.YtehkiojohldlgaaGreatDoor.Rul (Ru zero Row Own ruC ruL rga)

def lg1 (r : Ru) : Bool := decide (r.id.size ≤ 400) && decide (r.no.size ≤ 400) && decide (r.ro.size ≤ 400)
theorem lg1_iff (r : Ru) : lg1 r = true ↔ r.id.size ≤ 400 ∧ r.no.size ≤ 400 ∧ r.ro.size ≤ 400 := by
  unfold lg1
  rw [Bool.and_eq_true, Bool.and_eq_true, decide_eq_true_eq, decide_eq_true_eq, decide_eq_true_eq]
  exact ⟨fun h => ⟨h.1.1, h.1.2, h.2⟩, fun h => ⟨⟨h.1, h.2.1⟩, h.2.2⟩⟩
/-- Few rules, with short texts, or more than there may be. -/
def lgS (L : List Ru) : Bool := !((decide (60 < L.length) && decide (L.length ≤ 4096)) || decide (5000 < L.length)) && L.all lg1
theorem lgS_long {L : List Ru} (h : (60 < L.length ∧ L.length ≤ 4096) ∨ 5000 < L.length) : lgS L = false := by
  unfold lgS
  have : ((decide (60 < L.length) && decide (L.length ≤ 4096)) || decide (5000 < L.length)) = true := by simpa using h
  rw [this]; rfl
theorem lgS_wide {L : List Ru} {i : Nat} (hi : i < L.length) (h : lg1 (ga L i) = false) : lgS L = false := by
  unfold lgS
  rw [Bool.and_eq_false_iff]
  right
  rw [List.all_eq_false]
  exact ⟨_, ga_mem hi, by rw [h]; decide⟩
theorem lgS_yes {L : List Ru} (h1 : ¬ ((60 < L.length ∧ L.length ≤ 4096) ∨ 5000 < L.length)) (h2 : ∀ j, j < L.length → lg1 (ga L j) = true) : lgS L = true := by
  unfold lgS
  have : ((decide (60 < L.length) && decide (L.length ≤ 4096)) || decide (5000 < L.length)) = false := by
    rw [Bool.eq_false_iff]
    intro q
    exact h1 (by simpa using q)
  rw [this, Bool.not_false, Bool.true_and, List.all_eq_true]
  intro r hr
  obtain ⟨i, hi, rfl⟩ := mem_ga hr
  exact h2 i hi
theorem lgS_iff {L : List Ru} (h : lgS L = true) : L.length ≤ 5000 ∧ (L.length ≤ 60 ∨ 4096 < L.length) ∧ ∀ r ∈ L, r.id.size ≤ 400 ∧ r.no.size ≤ 400 ∧ r.ro.size ≤ 400 := by
  have h1 : ¬ ((60 < L.length ∧ L.length ≤ 4096) ∨ 5000 < L.length) := fun q => by rw [lgS_long q] at h; cases h
  refine ⟨by omega, by omega, fun r hr => ?_⟩
  obtain ⟨i, hi, rfl⟩ := mem_ga hr
  cases hq : lg1 (ga L i) with
  | true => exact (lg1_iff _).1 hq
  | false => rw [lgS_wide hi hq] at h; cases h
/-- The texts are strings. -/
def Fit (L : List Ru) : Prop := ∀ r ∈ L, r.id.size ≤ 9223372036854775807 ∧ r.no.size ≤ 9223372036854775807 ∧ r.ro.size ≤ 9223372036854775807

end Go.Proofs.YtehkiojohldlgaaGreatDoor.Thr

namespace Go.Proofs.YtehkiojohldlgaaGreatDoor.Thr
open Go.RowKit Go.Lib
open Go.Proofs.YtehkiojohldlgaaGreatDoor.Rul (Ru zero Row Own ruC ruL rga chk can cn)
open Go.Proofs.YtehkiojohldlgaaGreatDoor.Ren (Pw)

/-- The tables that the code reads. -/
structure Ev (W : World) : Prop where
  tab : Rul.Tab W
  utf : Utf.Tabs W
  pow : Pw W
theorem Ev.next {W W' : World} (h : Ev W) (hb : Below W.heap.size W W') : Ev W' := ⟨h.tab.next hb, Utf.Tabs.next h.utf hb, h.pow.next hb⟩

/-! ### awake's sets -/
end Go.Proofs.YtehkiojohldlgaaGreatDoor.Thr

namespace Go.Proofs.YtehkiojohldlgaaGreatDoor.Thr
open Go.RowKit Go.Lib
open Go.Proofs.YtehkiojohldlgaaGreatDoor.Rul (Ru zero Row Own ruC ruL rga chk can cn)
open Go.Proofs.YtehkiojohldlgaaGreatDoor.Ren (Pw)

/-- What the code's calls answer. -/
def CkP : Prop := ∀ (L : List Ru) (v : Value) (W : World), Row W v L → L.length ≤ 5000 → Mod L → Ev W →
  Calls Tryz.prog 42 #[v] W fun e w' => e = .returned (.tuple #[.string (sck L).1, .int .i64 (sck L).2]) ∧ Below W.heap.size W w'
def CnP : Prop := ∀ (L : List Ru) (v : Value) (W : World), Row W v L → L.length ≤ 5000 → Mod L → Ev W →
  Calls Tryz.prog 22 #[v] W fun e w' => ∃ v', e = .returned (.tuple #[v', .string (sck L).1, .int .i64 (sck L).2]) ∧ Row w' v' (scn L) ∧ Below W.heap.size W w'
def IsP : Prop := ∀ (L : List Ru) (v : Value) (W : World), Row W v L → L.length ≤ 5000 → Mod L → Ev W →
  Calls Tryz.prog 27 #[v] W fun e w' => e = .returned (.bool (isC L)) ∧ Below W.heap.size W w'
def SmP : Prop := ∀ (L M : List Ru) (v u : Value) (W : World), Row W v L → Row W u M → L.length ≤ 9223372036854775807 → M.length ≤ 9223372036854775807 →
  Calls Tryz.prog 26 #[v, u] W fun e w' => e = .returned (.bool (sm L M)) ∧ Below W.heap.size W w'
theorem scn_size {L : List Ru} (h : L.length ≤ 5000) : (scn L).length ≤ 5000 := by
  by_cases hz : (sck L).2 = 0
  · rw [scn_len ((sck_zero L).1 hz)]; exact h
  · rw [scn_no hz]; exact Nat.zero_le _
theorem mod_of {L : List Ru} (h : lgS L = true) : Mod L := fun r hr => by
  have := (lgS_iff h).2.2 r hr
  omega

end Go.Proofs.YtehkiojohldlgaaGreatDoor.Thr

namespace Go.Proofs.YtehkiojohldlgaaGreatDoor.Thr
open Go.ChangeShapes Go.WideShapes Go.ChangeAt Go.RowKit Go.Lib
open Go.Proofs.YtehkiojohldlgaaGreatDoor.Rul (Ru)

/-- The tables that the rows of this stage list, in their order. -/
def tabs : List (String × DataW Unit) := [("math/bits.deBruijn32tab", Rows.laid_math_bits_deBruijn32tab), ("math/bits.deBruijn64tab", Rows.laid_math_bits_deBruijn64tab), ("internal/strconv.uint64pow10", Rows.laid_internal_strconv_uint64pow10), ("unicode/utf8.acceptRanges", Rows.laid_unicode_utf8_acceptRanges), ("stoplog/rule.names", Rows.laid_stoplog_rule_names), ("unicode/utf8.first", Rows.laid_unicode_utf8_first)]
theorem utf_of {W : World} (h : laidMetH Tryz.prog tabs W) : Utf.Tabs W := by
  rw [MakeChecks.laidMetH_plain _ _ _ (by kernel_rfl)] at h
  have e1 : (Rows.laid_unicode_utf8_acceptRanges : DataW Unit) = Lib.acceptData := by kernel_rfl
  have e2 : Rows.laid_unicode_utf8_first = Lib.firstData := Pinned.utf8First_eq
  have h1 := Lib.laidMet.reads h (.tail _ (.tail _ (.tail _ (.head _))))
  have h2 := Lib.laidMet.reads h (.tail _ (.tail _ (.tail _ (.tail _ (.tail _ (.head _))))))
  rw [e1] at h1
  rw [e2] at h2
  exact utf8Tabs_of_readsT (U8Types.of260 Tryz.lays260) ⟨by kernel_rfl, by kernel_rfl, by kernel_rfl, by kernel_rfl, by kernel_rfl, by kernel_rfl, by kernel_rfl⟩ h2 h1
theorem tab_of {W : World} (h : laidMetH Tryz.prog tabs W) : Rul.Tab W := by
  rw [MakeChecks.laidMetH_plain _ _ _ (by kernel_rfl)] at h
  obtain ⟨g, t, cs, fuel, p, hg, hty, hvar, hd⟩ := Lib.laidMet.reads h (.tail _ (.tail _ (.tail _ (.tail _ (.head _)))))
  obtain rfl := Option.some.inj ((show Tryz.prog.globalNamed "stoplog/rule.names" = some 0 by kernel_rfl).symm.trans hg)
  obtain rfl := Option.some.inj ((show (Tryz.prog.globals[0]?).map (·.type) = some 110 by kernel_rfl).symm.trans hty)
  have k0 : Tryz.prog.cellsOf 9 = 1 := by kernel_rfl
  intro u hu
  unfold Rows.laid_stoplog_rule_names at hd
  obtain ⟨fuel', d, q, hdi, he⟩ := array_elem Tryz.underlying110 hd u hu
  rw [k0, Nat.mul_one] at he
  obtain ⟨s, hs, rfl⟩ : ∃ s : List UInt8, Rul.kB u = ⟨s.toArray⟩ ∧ d = .lit (.string s) := by
    match u, hu with
    | 0, _ => exact ⟨_, rfl, (Option.some.inj hdi).symm⟩
    | 1, _ => exact ⟨_, rfl, (Option.some.inj hdi).symm⟩
    | 2, _ => exact ⟨_, rfl, (Option.some.inj hdi).symm⟩
    | 3, _ => exact ⟨_, rfl, (Option.some.inj hdi).symm⟩
  rw [hs]
  clear hs hdi
  obtain ⟨s', hs', e', _⟩ := DataW.trod_string Tryz.underlying9 he
  simp only [Prod.mk.injEq, DataW.lit.injEq, Lit.string.injEq] at e'
  have es : (⟨s.toArray⟩ : ByteArray) = s' := by rw [e'.1]
  rw [es]
  have c0 := congrArg (·[0]?) hs'
  simp only [List.getElem?_take, List.getElem?_drop] at c0
  rw [World.var?_cell hg hvar u, ← Array.getElem?_toList]
  simpa using c0
theorem pow_of {W : World} (h : laidMetH Tryz.prog tabs W) : Ren.Pw W := by
  rw [MakeChecks.laidMetH_plain _ _ _ (by kernel_rfl)] at h
  have e3 : (Rows.laid_internal_strconv_uint64pow10 : DataW Unit) = Lib.tabData .u64 Lib.pow10Tab := by kernel_rfl
  have h3 := h.tail.tail
  rw [e3] at h3
  exact Lib.tabIs_of_head (n := 20) (g := 2) (by kernel_rfl) rfl (by kernel_rfl) Tryz.underlying141 (by kernel_rfl) (by kernel_rfl) h3
theorem ev_of {W : World} (h : laidMetH Tryz.prog tabs W) : Ev W := ⟨tab_of h, utf_of h, pow_of h⟩
theorem fit_of {L : List Ru} (h : ∀ x ∈ L, Rul.Fits x) : Fit L := fun r hr => ⟨(h r hr).id, (h r hr).no, (h r hr).ro⟩
end Go.Proofs.YtehkiojohldlgaaGreatDoor.Thr

namespace Go.Proofs.YtehkiojohldlgaaGreatDoor.Upto

theorem witness {H : Type} {enc : TypeId × Value → H} {C : Checked} {os : Os} {f : FuncId} {fn : Func} {s : OpenSpec} {conds : List PathCond} {apart : Bool} {laid : List (String × DataW Unit)} (modest : Bool) (w0 : World) (args : Array Value) (hos : w0.os = os)
    (hsh : (w0.forCall (fun _ _ => 0) ⟨#[], args, []⟩).Shaped C.prog)
    (hok : Input.okWideB C.prog (w0.forCall (fun _ _ => 0) ⟨#[], args, []⟩) f ⟨#[], args, []⟩ = true)
    (hrow : s.preRow enc C.prog fn conds apart laid (w0.forCall (fun _ _ => 0) ⟨#[], args, []⟩).memory args) :
    ∃ (w : World) (tape : Tape) (i : Input), w.os = os ∧ (w.forCall tape i).Shaped C.prog ∧ i.vars = [] ∧ Input.okWide C.prog (w.forCall tape i) .any w.heap.size f i ∧
      s.preRow enc C.prog fn conds apart laid (w.forCall tape i).memory i.args ∧ ({ modest := modest } : Assume).holds C.prog (lone (Frame.enter C.prog f i.args .normal) [] (w.forCall tape i)) :=
  ⟨w0, fun _ _ => 0, ⟨#[], args, []⟩, hos, hsh, (Input.okWide_of_okWideB (base := 0) hok).1, (Input.okWide_of_okWideB hok).2, hrow, by
    simp only [Assume.holds]
    exact ⟨by simp, by simp, fun _ => Modest.zero, by simp, by simp⟩⟩
theorem reads {H : Type} {o : Option (List (DataW H) × List (DataW H) × List MemPlace)} (h : o.map (fun x => Rows.uptoSmall H (x.1 ++ x.2.1)) = some true) : ∃ x, o = some x ∧ Rows.uptoSmall H (x.1 ++ x.2.1) = true := by
  cases o with
  | none => cases h
  | some x => exact ⟨x, rfl, Option.some.inj h⟩
theorem bound {H : Type} {l : List (DataW H)} (h : Rows.uptoSmall H l = true) : Rows.uptoBulkAll l ≤ 1048576 := of_decide_eq_true h
theorem one {H : Type} {a : DataW H} {l : List (DataW H)} (h : Rows.uptoSmall H (a :: l) = true) : Rows.uptoBulk a ≤ 1048576 := by
  have := bound h
  simp only [Rows.uptoBulkAll] at this
  omega
theorem two {H : Type} {a b : DataW H} {l : List (DataW H)} (h : Rows.uptoSmall H (a :: b :: l) = true) : Rows.uptoBulk b ≤ 1048576 := by
  have := bound h
  simp only [Rows.uptoBulkAll] at this
  omega
end Go.Proofs.YtehkiojohldlgaaGreatDoor.Upto

namespace Go.Proofs.YtehkiojohldlgaaGreatDoor.Ren
open Go.Lib Go.Proofs.YtehkiojohldlgaaGreatDoor.Utf Go.Proofs.YtehkiojohldlgaaGreatDoor.Quo Go.Proofs.YtehkiojohldlgaaGreatDoor.Lx Go.Proofs.YtehkiojohldlgaaGreatDoor.Par
open Go.Proofs.YtehkiojohldlgaaGreatDoor.Tre (Vt V0 cnt cntL)

/-- Its values and the bytes of its texts. -/
def cw (v : Vt) : Nat := cnt v + wg v
def cwL (l : List Vt) : Nat := cntL l + wgL l
def nmz (ns : List ByteArray) : Nat := (ns.map ByteArray.size).sum
theorem cw_mk (k n : Int) (s : ByteArray) (l : List Vt) (ns : List ByteArray) : cw (.mk k n s l ns) = 1 + s.size + nmz ns + cwL l := by
  unfold cw cwL nmz
  rw [cnt, wg]
  omega
theorem tx_size (t : Tk) : (tx t).size = t.v.length := by
  show t.v.toArray.size = _
  simp
section
variable {l : List UInt8}
end
end Go.Proofs.YtehkiojohldlgaaGreatDoor.Ren

namespace Go.Proofs.YtehkiojohldlgaaGreatDoor.Ptr
open Go.Lib (atoiAll atoi decNat decFrom digitVal itoa NumEnd)
open Go.Proofs.YtehkiojohldlgaaGreatDoor.Lx (vl hd allD dcL d8)

theorem all_iff (s : List UInt8) : (s.all fun c => Lx.dg c.toNat) = true ↔ allD s := List.all_eq_true
theorem itoa_pos (u : Nat) (h : u < 18446744073709551616) : itoa (u : Int) = dcL u := by
  unfold itoa
  rw [if_neg (by omega)]
  exact Ren.dec_is u h
end Go.Proofs.YtehkiojohldlgaaGreatDoor.Ptr

namespace Go.Proofs.YtehkiojohldlgaaGreatDoor.Thr
open Go.RowKit Go.Lib
open Go.Proofs.YtehkiojohldlgaaGreatDoor.Rul (Ru zero Row Own ruC ruL rga)
open Go.Proofs.YtehkiojohldlgaaGreatDoor.Ren (Pw)

theorem at_any (i : Nat) (h : i ≤ 5000) (W : World) (hP : Pw W) : Calls Tryz.prog 81 #[.int .i64 (i : Int)] W fun e w' => e = .returned (.string (at_ i)) ∧ Below W.heap.size W w' := by
  have HI := Lib.hid (itoa_at (i : Int) (by omega) (by omega) W hP)
  have hz := itoa_size i h
  have hat : (⟨#[47]⟩ : ByteArray) ++ ⟨(Lib.itoa (i : Int)).toArray⟩ = at_ i := rfl
  generalize (⟨(Lib.itoa (i : Int)).toArray⟩ : ByteArray) = it at *
  generalize at_ i = A at *
  clear hP
  go_enter Tryz.func81, Tryz.ntmps81
  go_wp2_with (first
    | (go_at_call 35; (with_reducible refine HI.out.mono ?_); rintro e w1 ⟨rfl, hb1⟩))
  go_ret
  exact ⟨rfl, hb1⟩

theorem same_any : SmP := by
  intro L M v u W hr hq hl hm
  have HE := Lib.hid (equal_any L M v u W hr hq hl hm)
  clear hr hq
  generalize sm L M = b at *
  go_enter Tryz.func26, Tryz.ntmps26
  go_wp2_with (first
    | (go_at_call 52; (with_reducible refine HE.out.mono ?_); rintro e w1 ⟨rfl, hb1⟩))
  go_ret
  exact ⟨rfl, hb1⟩
end Go.Proofs.YtehkiojohldlgaaGreatDoor.Thr
