/- Texts of my own, packed: SatB, RenMath, PtrFd, JsnQ, TreM, RulP1. Conditions: as each theorem states. -/
import Derived.Lib.Hide
import Derived.Laws.Cover1
import Derived.Deep.MidRow
import Derived.Laws.CopyOwn
import Derived.Lib.Builder
import Derived.Great.BuildSlice
import Derived.Handy
import Derived.Test.YtehkiojohldlgaaGreatDoorK01
import Derived.Test.YtehkiojohldlgaaGreatDoorK03
import Derived.Test.YtehkiojohldlgaaGreatDoorK08
namespace Go.Proofs.YtehkiojohldlgaaGreatDoor.Sat
open Go.RowKit Go.Lib

theorem gcd_step (x y : Nat) (_h : y ≠ 0) : Nat.gcd y (x % y) = Nat.gcd x y := by
  rw [Nat.gcd_comm x y, Nat.gcd_rec y x, Nat.gcd_comm]

theorem gcd_any (a b : Int) (w : World) (_a0 : -9223372036854775808 ≤ a) (a1 : a ≤ 9223372036854775807) (_b0 : -9223372036854775808 ≤ b) (b1 : b ≤ 9223372036854775807) :
    Calls Tryz.prog 82 #[.int .i64 a, .int .i64 b] w fun e w' => e = .returned (.int .i64 (gd a b)) ∧ ∃ n, w' = w.drewN n := by
  obtain ⟨V, hV⟩ : ∃ V : Int, gd a b = V := ⟨_, rfl⟩
  rw [hV]
  have HV := Lib.hid hV; clear hV
  go_enter Tryz.func82, Tryz.ntmps82
  go_wp2
  all_goals
    go_loopw [0, 1] (fun p q wr => ∃ x y : Nat, x ≤ 9223372036854775807 ∧ y ≤ 9223372036854775807 ∧ p = .int .i64 (x : Int) ∧ q = .int .i64 (y : Int) ∧ Hid (V = ((Nat.gcd x y : Nat) : Int)) ∧ ∃ n, wr = w.drewN n) (fun _ q _ => (intOf q).toNat)
    case atStart => 
      refine ⟨a.toNat, b.toNat, by omega, by omega, ?_, ?_, Lib.hid ?_, ⟨0, rfl⟩⟩
      · congr 1; omega
      · congr 1; omega
      · exact HV.out.symm
    case round =>
      obtain ⟨x, y, hx, hy, rfl, rfl, hg, n, rfl⟩ := hrel
      by_cases h0 : y = 0
      · subst h0
        go_wp2
        go_ret
        exact ⟨ret_int (by rw [hg.out, Nat.gcd_zero_right]), n, rfl⟩
      · have hs := gcd_step x y h0
        have hm : (x : Int) % (y : Int) = ((x % y : Nat) : Int) := (Int.natCast_emod x y).symm
        have hm2 : x % y < y := Nat.mod_lt _ (by omega)
        have HS := Lib.hid hs
        have HM := Lib.hid hm
        clear hs hm
        have hy0 : 0 < y := by omega
        clear h0
        go_wp2
        go_quiet (fail)
        go_wp2
        go_roundw
        case rel => exact ⟨y, x % y, hy, by omega, rfl, by rw [HM.out], Lib.hid (by rw [HS.out]; exact hg.out), n + nq, by rw [World.drewN_drewN]⟩
        case measure => have := HM.out; simp only [intOf]; omega

end Go.Proofs.YtehkiojohldlgaaGreatDoor.Sat

namespace Go.Proofs.YtehkiojohldlgaaGreatDoor.Ren
open Go.Lib Go.Proofs.YtehkiojohldlgaaGreatDoor.Utf Go.Proofs.YtehkiojohldlgaaGreatDoor.Quo Go.Proofs.YtehkiojohldlgaaGreatDoor.Lx Go.Proofs.YtehkiojohldlgaaGreatDoor.Par
open Go.Proofs.YtehkiojohldlgaaGreatDoor.Tre (Vt V0 wi wiL wiL_all hdB textB nmB noneB scal cnt cntL cntL_mem vt_ind)

/-! ### what is written -/
/-! ### how long it is -/
mutual
/-- The bytes of a value's texts and names. -/
def wg : Vt → Nat
  | .mk _ _ s l ns => s.size + (ns.map ByteArray.size).sum + wgL l
def wgL : List Vt → Nat
  | [] => 0
  | x :: l => wg x + wgL l
end
/-! ### tokens with something behind -/
/-- What may follow a number. -/
def Stp (r : List UInt8) : Prop := Lx.dg (hd r) = false ∧ mk (hd r) = false
theorem Stp.nil : Stp [] := ⟨rfl, rfl⟩
/-! ### places told by what follows -/
/-- Where r begins, at the end of S. -/
def pl (S r : List UInt8) : Nat := S.length - r.length
end Go.Proofs.YtehkiojohldlgaaGreatDoor.Ren

namespace Go.Proofs.YtehkiojohldlgaaGreatDoor.Ptr
open Go.Proofs.YtehkiojohldlgaaGreatDoor.Tre (Vt V0 find cnt wi)
open Go.Proofs.YtehkiojohldlgaaGreatDoor.Lx (vl hd)

/-- The place that a part names in a list of e items. -/
def plc (s : List UInt8) (e : Nat) : Option Nat :=
  if s = [] ∨ 9 < s.length ∨ (1 < s.length ∧ hd s = 48) ∨ (s.all fun c => Lx.dg c.toNat) = false then none else if vl s < e then some (vl s) else none
theorem plc_lt {s : List UInt8} {e n : Nat} (h : plc s e = some n) : n < e := by
  unfold plc at h
  split at h
  · cases h
  · split at h
    · rename_i h2; rw [← Option.some.inj h]; exact h2
    · cases h
end Go.Proofs.YtehkiojohldlgaaGreatDoor.Ptr

namespace Go.Proofs.YtehkiojohldlgaaGreatDoor.Ptr
open Go.RowKit Go.Lib Go.Proofs.YtehkiojohldlgaaGreatDoor.Byt

/-- Few and short parts: their text is short. -/
def Fit2 (l : List ByteArray) : Prop := ∀ x ∈ l, x.size ≤ 4000000
theorem pB_len2 (l : List ByteArray) (hf : Fit2 l) : (pB l).length ≤ l.length * 8000001 := by
  induction l with
  | nil => simp [pB, putP]
  | cons x r ih =>
    have h1 := ih fun y hy => hf y (List.mem_cons_of_mem _ hy)
    have h2 := hf x List.mem_cons_self
    have h3 := eL_len x.data.toList
    have hl : x.data.toList.length = x.size := by simp
    rw [pB_cons, List.length_cons, List.length_append, List.length_cons]
    omega
theorem Fit2.take {l : List ByteArray} (h : Fit2 l) (k : Nat) : Fit2 (l.take k) := fun x hx => h x (List.mem_of_mem_take hx)
theorem Fit2.at_ {l : List ByteArray} (h : Fit2 l) {k : Nat} (hk : k < l.length) : (l.getD k ⟨#[]⟩).size ≤ 4000000 := by
  rw [List.getD_eq_getElem?_getD, List.getElem?_eq_getElem hk]
  exact h _ (List.getElem_mem hk)
set_option maxHeartbeats 1000000 in
theorem pput2_any (v : Value) (l : List ByteArray) (w : World) (hr : Strs.Row w v l) (hM : Mx w) (hf : Fit2 l) (hl : l.length ≤ 10) :
    Calls Tryz.prog 69 #[v] w fun e w' => e = .returned (.string ⟨(pB l).toArray⟩) ∧ Below w.heap.size w w' := by
  obtain ⟨a, cap, rfl, hc⟩ := hr.open_
  have HCell := Lib.hid hc
  have HM := Lib.hid hM
  have hmx : l.length ≤ 9223372036854775807 := by omega
  have HF := Lib.hid hf
  have HN := Lib.hid (Bld.holds_new w w.heap.size (Nat.le_refl _))
  have HB0 := Lib.hid (show Below w.heap.size w (w.alloc (.cells #[.pointer none, .slice none 0 0] 116)) from (Below.refl _ _).alloc (Nat.le_refl _) _)
  clear hc hM hf hr
  go_enter Tryz.func69, Tryz.ntmps69
  go_wp2_with fail
  go_loopw [8] (fun i wr => ∃ k : Nat, i = .int .i64 (k : Int) ∧ k ≤ l.length ∧ Hid (Bld.Holds wr w.heap.size w.heap.size (pB (l.take k))) ∧ Hid (Below w.heap.size w wr)) (fun i _ => l.length - (RowKit.intOf i).toNat)
  case atStart => exact ⟨0, rfl, Nat.zero_le _, HN, HB0⟩
  case round =>
    obtain ⟨k, rfl, hk, HH, HB⟩ := hrel
    have hsz := HB.out.size
    have hle := pB_len2 _ (HF.out.take k)
    have htk : (l.take k).length ≤ l.length := by rw [List.length_take]; omega
    have hle2 : (pB (l.take k)).length ≤ 800000100000 := Nat.le_trans hle (Nat.le_trans (Nat.mul_le_mul_right _ (Nat.le_trans htk hl)) (by omega))
    clear hle htk
    by_cases hlt : k < l.length
    · obtain ⟨b, off, rfl, hc0⟩ := HCell.out k hlt
      have hcl := (HB.out.cell (Strs.cell_lt hc0)).trans hc0
      have hx := HF.out.at_ hlt
      have HS := Lib.hid (pB_step l k hlt)
      have hE := eL_len (l.getD k ⟨#[]⟩).data.toList
      have hxl : (l.getD k ⟨#[]⟩).data.toList.length = (l.getD k ⟨#[]⟩).size := by simp
      have HW1 := Lib.hid (Bld.write_any w.heap.size w.heap.size (pB (l.take k)) ⟨#[47]⟩ wr HH.out (by show _ + 1 ≤ _; omega) hsz)
      have HES := Lib.hid fun (W : World) (hb : Below w.heap.size w W) => escape_any (l.getD k ⟨#[]⟩) W (by omega) (HM.out.next hb)
      have HW2 := Lib.hid fun (W : World) (hh : Bld.Holds W w.heap.size w.heap.size (pB (l.take k) ++ (⟨#[47]⟩ : ByteArray).data.toList)) (hz : w.heap.size ≤ W.heap.size) => Bld.write_any w.heap.size w.heap.size _ ⟨(eL (l.getD k ⟨#[]⟩).data.toList).toArray⟩ W hh (by rw [List.length_append, sz_mk]; show _ + 1 + _ ≤ _; omega) hz
      rw [dt_mk] at HW2
      have e1 : pB (l.take k) ++ (⟨#[47]⟩ : ByteArray).data.toList ++ eL (l.getD k ⟨#[]⟩).data.toList = pB (l.take (k + 1)) := by rw [HS.out, List.append_assoc]; rfl
      rw [e1] at HW2
      clear e1 HS hc0 hE hxl hx HH
      generalize l.getD k ⟨#[]⟩ = x at *
      generalize (⟨(eL x.data.toList).toArray⟩ : ByteArray) = y at *
      go_wp2_with (first
        | (go_at_call 98; (with_reducible refine HW1.out.mono ?_); rintro e w3 ⟨rfl, h3, hb3⟩; have hb4 := HB.out.trans hb3)
        | (go_at_call 99; (with_reducible refine (HES.out _ hb4).mono ?_); rintro e w5 ⟨rfl, hb5⟩; have h5 := h3.next hb5; have hb6 := hb4.trans (hb5.mono hb4.size))
        | (go_at_call 98; (with_reducible refine (HW2.out _ h5 hb6.size).mono ?_); rintro e w7 ⟨rfl, h7, hb7⟩))
      go_roundw
      case rel => exact ⟨k + 1, by go_num, by omega, Lib.hid h7, Lib.hid (hb6.trans hb7)⟩
      case measure => simp [RowKit.intOf]; omega
    · obtain rfl : k = l.length := by omega
      have HS := Lib.hid (Bld.string_any w.heap.size w.heap.size _ wr HH.out hsz)
      rw [List.take_length] at HS
      clear HH hle2
      go_wp2_with (go_at_call 100; (with_reducible refine HS.out.mono ?_); rintro e w3 ⟨rfl, hb3⟩)
      go_ret
      exact ⟨rfl, HB.out.trans hb3⟩
set_option maxHeartbeats 1000000 in
theorem pjoin2_any (s x : ByteArray) (w : World) (hM : Mx w) (hs : s.size ≤ 8000000) (hx : x.size ≤ 4000000) :
    Calls Tryz.prog 34 #[.string s, .string x] w fun e w' => e = .returned (.string (jB s x)) ∧ Below w.heap.size w w' := by
  have hf : Fit2 [x] := fun y hy => by rw [List.mem_singleton.1 hy]; exact hx
  have hz : (⟨(pB [x]).toArray⟩ : ByteArray).size ≤ 8000001 := by rw [sz_mk]; exact Nat.le_trans (pB_len2 [x] hf) (by simp)
  have HP := Lib.hid fun (v : Value) (W : World) (hr : Strs.Row W v [x]) (hm : Mx W) => pput2_any v [x] W hr hm hf (by simp)
  have HJ := Lib.hid (show jB s x = s ++ ⟨(pB [x]).toArray⟩ from rfl)
  have HR := Lib.hid (show Strs.Row (w.alloc (.cells #[.string x] 9)) (.slice (some ⟨w.heap.size, 0, none⟩) 1 1) [x] from .inr ⟨w.heap.size, 0, 1, rfl, fun j hj => by
    have : j = 0 := by simpa using hj
    subst this
    rw [Lib.cell_of_heap (heap_alloc_new w _)]
    rfl⟩)
  have HM := Lib.hid (hM.next ((Below.refl w.heap.size w).alloc (Nat.le_refl _) (.cells #[.string x] 9)))
  have HB := Lib.hid ((Below.refl w.heap.size w).alloc (Nat.le_refl _) (.cells #[.string x] 9))
  clear hM hf
  generalize (⟨(pB [x]).toArray⟩ : ByteArray) = t at *
  go_enter Tryz.func34, Tryz.ntmps34
  go_wp2_with (go_at_call 69; refine (HP.out _ _ HR.out HM.out).mono ?_; rintro e w3 ⟨rfl, hb3⟩)
  go_ret
  exact ⟨congrArg (fun b => Ending.returned (.string b)) HJ.out.symm, HB.out.trans (hb3.mono HB.out.size)⟩
end Go.Proofs.YtehkiojohldlgaaGreatDoor.Ptr

namespace Go.Proofs.YtehkiojohldlgaaGreatDoor.Tre
open Go.Lib

section
variable (key : Nat → ByteArray)
/-- Place i stands ahead of place j: by its name, then by itself. -/
def ltN (i j : Nat) : Prop := ltB (key i) (key j) = true ∨ (key i = key j ∧ i < j)
def insN (p : Nat) : List Nat → List Nat
  | [] => [p]
  | q :: l => if ltB (key q) (key p) = true then q :: insN p l else p :: q :: l
def sortN : List Nat → List Nat
  | [] => []
  | p :: l => insN key p (sortN l)
theorem ins_map (f : Nat → Vt) (p : Nat) : ∀ l : List Nat, ins (key p, f p) (l.map fun i => (key i, f i)) = (insN key p l).map fun i => (key i, f i)
  | [] => rfl
  | q :: l => by
    rw [List.map_cons, ins, insN]
    split
    · rw [ins_map f p l]; rfl
    · rfl
theorem sort_map (f : Nat → Vt) : ∀ l : List Nat, isort (l.map fun i => (key i, f i)) = (sortN key l).map fun i => (key i, f i)
  | [] => rfl
  | p :: l => by rw [List.map_cons, isort, sort_map f l, ins_map, sortN]
theorem insN_perm (p : Nat) : ∀ l, (insN key p l).Perm (p :: l)
  | [] => List.Perm.refl _
  | q :: l => by
    rw [insN]
    split
    · exact ((insN_perm p l).cons q).trans (List.Perm.swap p q l)
    · exact List.Perm.refl _
theorem sortN_perm : ∀ l, (sortN key l).Perm l
  | [] => List.Perm.refl _
  | p :: l => (insN_perm key p _).trans ((sortN_perm l).cons p)
variable {key}
theorem ltN_trans {a b c : Nat} (h : ltN key a b) (k : ltN key b c) : ltN key a c := by
  rcases h with h | ⟨h, h2⟩
  · rcases k with k | ⟨k, _⟩
    · exact .inl (lt_trans h k)
    · exact .inl (k ▸ h)
  · rcases k with k | ⟨k, k2⟩
    · exact .inl (h ▸ k)
    · exact .inr ⟨h.trans k, by omega⟩
theorem ltN_irrefl (a : Nat) : ¬ ltN key a a := by
  rintro (h | ⟨_, h⟩)
  · rw [lt_irrefl] at h; cases h
  · omega
theorem ltN_total {a b : Nat} (h : a ≠ b) : ltN key a b ∨ ltN key b a := by
  cases h1 : ltB (key a) (key b) with
  | true => exact .inl (.inl h1)
  | false =>
    cases h2 : ltB (key b) (key a) with
    | true => exact .inr (.inl h2)
    | false =>
      have e := lt_total h1 h2
      rcases Nat.lt_or_gt_of_ne h with q | q
      · exact .inl (.inr ⟨e, q⟩)
      · exact .inr (.inr ⟨e.symm, q⟩)
theorem insN_sorted {p : Nat} : ∀ {l : List Nat}, (∀ q ∈ l, p < q) → l.Pairwise (ltN key) → (insN key p l).Pairwise (ltN key)
  | [], _, _ => by rw [insN]; exact List.pairwise_singleton _ _
  | q :: l, hp, hl => by
    rw [List.pairwise_cons] at hl
    rw [insN]
    split
    · rename_i h
      rw [List.pairwise_cons]
      refine ⟨fun x hx => ?_, insN_sorted (fun x hx => hp x (List.mem_cons_of_mem _ hx)) hl.2⟩
      rcases List.mem_cons.1 ((insN_perm key p l).mem_iff.1 hx) with rfl | hx
      · exact .inl h
      · exact hl.1 x hx
    · rename_i h
      have hpq : ltN key p q := by
        have hlt := hp q List.mem_cons_self
        rcases ltN_total (key := key) (show p ≠ q by omega) with h' | h'
        · exact h'
        · rcases h' with h' | ⟨_, h'⟩
          · exact absurd h' h
          · omega
      rw [List.pairwise_cons, List.pairwise_cons]
      refine ⟨fun x hx => ?_, hl⟩
      rcases List.mem_cons.1 hx with rfl | hx
      · exact hpq
      · exact ltN_trans hpq (hl.1 x hx)
theorem sortN_sorted : ∀ {l : List Nat}, l.Pairwise (· < ·) → (sortN key l).Pairwise (ltN key)
  | [], _ => List.Pairwise.nil
  | p :: l, h => by
    rw [List.pairwise_cons] at h
    rw [sortN]
    exact insN_sorted (fun q hq => h.1 q ((sortN_perm key l).mem_iff.1 hq)) (sortN_sorted h.2)
/-- There is one such order. -/
theorem ltN_one : ∀ (l m : List Nat), l.Pairwise (ltN key) → m.Pairwise (ltN key) → l.Perm m → l = m
  | [], m, _, _, h => by rw [List.Perm.eq_nil (h.symm)]
  | x :: l, [], _, _, h => by have := h.length_eq; simp at this
  | x :: l, y :: m, hl, hm, h => by
    rw [List.pairwise_cons] at hl hm
    have hxy : x = y := by
      by_cases e : x = y
      · exact e
      · exfalso
        have hx : x ∈ m := (List.mem_cons.1 (h.mem_iff.1 List.mem_cons_self)).resolve_left e
        have hy : y ∈ l := (List.mem_cons.1 (h.mem_iff.2 List.mem_cons_self)).resolve_left (fun q => e q.symm)
        exact ltN_irrefl x (ltN_trans (hl.1 y hy) (hm.1 x hx))
    subst hxy
    rw [ltN_one l m hl.2 hm.2 ((List.perm_cons x).1 h)]
end
/-- The places of names in their order. -/
def plc (ns : List ByteArray) : List Nat := sortN (fun i => ns.getD i ⟨#[]⟩) (List.range ns.length)
theorem plc_perm (ns : List ByteArray) : (plc ns).Perm (List.range ns.length) := sortN_perm _ _
theorem plc_len (ns : List ByteArray) : (plc ns).length = ns.length := by rw [(plc_perm ns).length_eq, List.length_range]
theorem plc_lt {ns : List ByteArray} {i : Nat} (h : i ∈ plc ns) : i < ns.length := List.mem_range.1 ((plc_perm ns).mem_iff.1 h)
theorem plc_one {ns : List ByteArray} {P : List Nat} (hp : P.Perm (List.range ns.length)) (hs : P.Pairwise (ltN fun i => ns.getD i ⟨#[]⟩)) : P = plc ns :=
  ltN_one _ _ hs (sortN_sorted List.pairwise_lt_range) (hp.trans (plc_perm ns).symm)
theorem zip_range (ns : List ByteArray) (l : List Vt) (h : ns.length = l.length) : ns.zip l = (List.range ns.length).map fun i => (ns.getD i ⟨#[]⟩, l.getD i V0) := by
  refine List.ext_getElem (by simp [h]) fun i h1 h2 => ?_
  simp at h1 h2
  simp [List.getD_eq_getElem?_getD, show i < l.length by omega, show i < ns.length by omega]
theorem isort_plc (ns : List ByteArray) (l : List Vt) (h : ns.length = l.length) : isort (ns.zip l) = (plc ns).map fun i => (ns.getD i ⟨#[]⟩, l.getD i V0) := by
  rw [zip_range ns l h, sort_map (fun i => ns.getD i ⟨#[]⟩) (fun i => l.getD i V0)]
  rfl
theorem isort_fst (ns : List ByteArray) (l : List Vt) (h : ns.length = l.length) : (isort (ns.zip l)).map Prod.fst = (plc ns).map fun i => ns.getD i ⟨#[]⟩ := by
  rw [isort_plc ns l h, List.map_map]; rfl
theorem isort_snd (ns : List ByteArray) (l : List Vt) (h : ns.length = l.length) : (isort (ns.zip l)).map Prod.snd = (plc ns).map fun i => l.getD i V0 := by
  rw [isort_plc ns l h, List.map_map]; rfl
end Go.Proofs.YtehkiojohldlgaaGreatDoor.Tre

namespace Go.Proofs.YtehkiojohldlgaaGreatDoor.Rul
open Go.RowKit Go.Lib

/-- The table of kinds' names reads as the program lays it. -/
def Tab (w : World) : Prop := ∀ u : Nat, u < 4 → w.cell? ⟨0, u, none⟩ = some (.string (kB u))
theorem Tab.next {w W : World} (h : Tab w) (hb : Below w.heap.size w W) : Tab W := fun u hu => by
  have hc := h u hu
  have hlt : 0 < w.heap.size := by
    rcases Nat.lt_or_ge 0 w.heap.size with h' | h'
    · exact h'
    · simp [World.cell?, Array.getElem?_eq_none h'] at hc
  exact (hb.cell (p := ⟨_, u, none⟩) hlt).trans hc
theorem str_ne {a b : ByteArray} (h : a ≠ b) : (a.toList == b.toList) = false := by
  rw [beq_eq_false_iff_ne]
  rcases a with ⟨⟨l⟩⟩
  rcases b with ⟨⟨m⟩⟩
  rw [show (⟨⟨l⟩⟩ : ByteArray).toList = l from ByteArray.toList_mk l, show (⟨⟨m⟩⟩ : ByteArray).toList = m from ByteArray.toList_mk m]
  exact fun q => h (by rw [q])

/-- n is from lo to hi. -/
def isIn (n lo hi : Int) : Bool := decide (lo ≤ n) && decide (n ≤ hi)
theorem within_any (n lo hi : Int) (w : World) : Calls Tryz.prog 134 #[.int .i64 n, .int .i64 lo, .int .i64 hi] w fun e w' => e = .returned (.bool (isIn n lo hi)) ∧ w = w' := by
  unfold isIn
  by_cases h1 : lo ≤ n
  all_goals by_cases h2 : n ≤ hi
  all_goals
    go_enter Tryz.func134, Tryz.ntmps134
    go_wp2
    go_ret
    exact ⟨by simp [h1, h2], rfl⟩

theorem kind_any (k : Int) (w : World) (hT : Tab w) : Calls Tryz.prog 55 #[.int .i64 k] w fun e w' => e = .returned (.string (kB k)) ∧ w = w' := by
  by_cases h1 : k < 1
  · rw [(kB_none k).2 (by omega)]
    go_enter Tryz.func55, Tryz.ntmps55
    go_wp2
    go_ret
    exact ⟨rfl, rfl⟩
  by_cases h2 : 3 < k
  · rw [(kB_none k).2 (by omega)]
    go_enter Tryz.func55, Tryz.ntmps55
    go_wp2
    go_ret
    exact ⟨rfl, rfl⟩
  obtain ⟨u, rfl⟩ := Int.eq_ofNat_of_zero_le (show 0 ≤ k by omega)
  have hc := hT u (by omega)
  have hu : u < 4 := by omega
  clear hT
  generalize kB (u : Int) = z at *
  go_enter Tryz.func55, Tryz.ntmps55
  go_wp2
  go_ret
  exact ⟨rfl, rfl⟩

set_option maxRecDepth 100000 in
/-- A name of the table, taken by value. -/
theorem index_at (w : World) (m : Int) (h : 0 ≤ m) (h4 : m < 4) :
    Sem.run Tryz.prog (Instr.index 110 (.agg #[.string (kB 0), .string (kB 1), .string (kB 2), .string (kB 3)]) (.int .i64 m)) w = .ok (.string (kB m)) w := by
  obtain rfl | rfl | rfl | rfl : m = 0 ∨ m = 1 ∨ m = 2 ∨ m = 3 := by omega
  · rfl
  · rfl
  · rfl
  · rfl
theorem kb_next {m : Int} {s : ByteArray} (h : ∀ k : Nat, (k : Int) < m → kB k ≠ s) (hm : kB m ≠ s) : ∀ k : Nat, (k : Int) < m + 1 → kB k ≠ s := fun k hk => by
  by_cases e : (k : Int) < m
  · exact h k e
  · obtain e2 : (k : Int) = m := by omega
    rw [e2]; exact hm
theorem kO_in {m : Int} (h : 0 ≤ m) (h4 : m < 4) : kO (kB m) = m := by
  obtain ⟨k, rfl⟩ := Int.eq_ofNat_of_zero_le h
  exact kO_at (by omega)

theorem kindof_any (s : ByteArray) (w : World) (hT : Tab w) :
    Calls Tryz.prog 68 #[.string s] w fun e w' => e = .returned (.int .i64 (kO s)) ∧ w = w' := by
  have c0 : w.cell? ⟨0, 0, none⟩ = some (.string (kB 0)) := hT 0 (by omega)
  have c1 : w.cell? ⟨0, 1, none⟩ = some (.string (kB 1)) := hT 1 (by omega)
  have c2 : w.cell? ⟨0, 2, none⟩ = some (.string (kB 2)) := hT 2 (by omega)
  have c3 : w.cell? ⟨0, 3, none⟩ = some (.string (kB 3)) := hT 3 (by omega)
  clear hT
  have HX := Lib.hid index_at
  obtain ⟨nm, hnm⟩ : ∃ nm, nm = kB := ⟨_, rfl⟩
  have PI := Lib.hid fun (m : Int) (h : 0 ≤ m) (h4 : m < 4) => kO_in h h4
  have PN := Lib.hid fun (h : ∀ k : Nat, 1 ≤ k → k < 4 → kB k ≠ s) => kO_no h
  have HN0 := Lib.hid fun (m : Int) (h : ∀ k : Nat, (k : Int) < m → kB k ≠ s) (hm : kB m ≠ s) => kb_next h hm
  rw [← hnm] at c0 c1 c2 c3 HX PI PN HN0
  clear hnm
  go_enter Tryz.func68, Tryz.ntmps68
  go_wp2_with fail
  go_loop [6] (fun i => ∃ m : Int, i = .int .i64 m ∧ 0 ≤ m ∧ m ≤ 4 ∧ Hid (∀ k : Nat, (k : Int) < m → nm k ≠ s)) (fun i => 4 - (RowKit.intOf i).toNat)
  case atStart => exact ⟨0, rfl, by omega, by omega, Lib.hid fun k h => absurd h (by omega)⟩
  case round =>
    obtain ⟨m, rfl, h0, h4, HN⟩ := hrel
    by_cases hlt : m < 4
    · have hx := HX.out w m h0 hlt
      by_cases hz : nm m = s
      · have HP := Lib.hid (hz ▸ PI.out m h0 hlt)
        have hq : (s.toList == s.toList) = true := beq_self_eq_true _
        rw [hz] at hx
        clear hz
        go_wp2_with fail
        go_ret
        rw [HP.out]
        exact ⟨rfl, rfl⟩
      · have HN2 := Lib.hid (HN0.out m HN.out hz)
        have hq : ((nm m).toList == s.toList) = false := str_ne hz
        clear hz
        generalize nm m = z at *
        go_wp2_with fail
        go_round
        case rel => exact ⟨m + 1, rfl, by omega, by omega, HN2⟩
        case measure => simp [RowKit.intOf]; omega
    · obtain rfl : m = 4 := by omega
      have HE := Lib.hid (PN.out fun k _ hk => HN.out k (by omega))
      go_wp2_with fail
      go_ret
      rw [HE.out]
      exact ⟨rfl, rfl⟩

/-- A number's field in memory, as a value. -/
theorem fcheck_any (p : ByteArray) (n k lo hi ki : Int) (w : World) :
    Calls Tryz.prog 106 #[.agg #[.string p, .int .i64 n, .int .i64 k, .int .i64 lo, .int .i64 hi], .int .i64 ki] w fun e w' => e = .returned (.int .i64 (fd k ki n lo hi)) ∧ Below w.heap.size w w' := by
  have HW := Lib.hid fun W => within_any n lo hi W
  unfold fd
  by_cases h1 : k = ki
  · subst h1
    cases hi' : isIn n lo hi
    · rw [hi'] at HW
      unfold isIn at hi'
      have hh : n < lo ∨ hi < n := by rw [Bool.and_eq_false_iff, decide_eq_false_iff_not, decide_eq_false_iff_not] at hi'; omega
      rw [if_neg (by simp), if_pos ⟨rfl, hh⟩]
      clear hi' hh
      go_enter Tryz.func106, Tryz.ntmps106
      go_wp2_with (go_at_call 134; (with_reducible refine (HW.out _).mono ?_); rintro e w1 ⟨rfl, rfl⟩)
      go_ret
      exact ⟨rfl, (Below.refl _ _).alloc (Nat.le_refl _) _⟩
    · rw [hi'] at HW
      unfold isIn at hi'
      have hh : ¬ (n < lo ∨ hi < n) := by rw [Bool.and_eq_true, decide_eq_true_eq, decide_eq_true_eq] at hi'; omega
      rw [if_neg (by simp), if_neg (fun q => hh q.2)]
      clear hi' hh
      go_enter Tryz.func106, Tryz.ntmps106
      go_wp2_with (go_at_call 134; (with_reducible refine (HW.out _).mono ?_); rintro e w1 ⟨rfl, rfl⟩)
      go_ret
      exact ⟨rfl, (Below.refl _ _).alloc (Nat.le_refl _) _⟩
  · by_cases h2 : n = 0
    · subst h2
      rw [if_neg (fun q => q.2 rfl), if_neg (fun q => h1 q.1)]
      go_enter Tryz.func106, Tryz.ntmps106
      go_wp2_with fail
      go_ret
      exact ⟨rfl, (Below.refl _ _).alloc (Nat.le_refl _) _⟩
    · rw [if_pos ⟨h1, h2⟩]
      have b1 : (k != ki) = true := by simp [h1]
      have b2 : (n != 0) = true := by simp [h2]
      go_enter Tryz.func106, Tryz.ntmps106
      go_wp2_with fail
      go_ret
      exact ⟨rfl, (Below.refl _ _).alloc (Nat.le_refl _) _⟩
end Go.Proofs.YtehkiojohldlgaaGreatDoor.Rul

namespace Go.Proofs.YtehkiojohldlgaaGreatDoor.Rul
open Go.RowKit Go.Lib

/-! ### a rule in memory -/
theorem info13 : (Tryz.prog.info? 49).map (·.size) = some 13 := by kernel_rfl
/-- A rule's cells. -/
def ruC (r : Ru) : Array Value := #[.string r.id, .string r.no, .string r.ro, .int .i64 r.pr, .int .i64 r.ki, .int .i64 r.ra, .int .i64 r.pe, .int .i64 r.bu, .int .i64 r.co, .int .i64 r.mx, .int .i64 r.fa, .int .i64 r.wa, .int .i64 r.pb]
/-- Block g holds those cells. -/
def Bx (w : World) (g : Nat) (cs : Array Value) : Prop := w.heap[g]? = some (.cells cs 49 (0, 0))
theorem Bx.next {w w' : World} {B g : Nat} {cs : Array Value} (h : Bx w g cs) (hb : Below B w w') (hg : g < B) : Bx w' g cs := (hb.block g hg).trans h
theorem Bx.lt {w : World} {g : Nat} {cs : Array Value} (h : Bx w g cs) : g < w.heap.size := by
  rcases Nat.lt_or_ge g w.heap.size with h' | h'
  · exact h'
  · unfold Bx at h; simp [Array.getElem?_eq_none h'] at h
theorem Bx.cell {w : World} {g : Nat} {cs : Array Value} (h : Bx w g cs) (j : Nat) : w.cell? ⟨g, j, none⟩ = cs[j]? := by
  unfold Bx at h
  simp [World.cell?, h]
theorem Bx.free {w : World} {g : Nat} {cs : Array Value} (h : Bx w g cs) (j : Nat) : w.frozen? ⟨g, j, none⟩ = false := Lib.frozen_of_heap h j
theorem bx_new (w : World) (cs : Array Value) : Bx (w.alloc (.cells cs 49)) w.heap.size cs := Go.heap_alloc_new _ _
theorem bx_old {w : World} {g : Nat} {cs : Array Value} (h : Bx w g cs) (o : Obj) : Bx (w.alloc o) g cs := by
  have hl := h.lt
  unfold Bx at h ⊢
  rw [← h]
  exact ((Below.refl w.heap.size w).alloc (Nat.le_refl _) o).block g hl
theorem setRow_self {w : World} {g : Nat} {cs : Array Value} (h : Bx w g cs) : w.setRow g cs = w := by
  have hlt := h.lt
  have hv : w.heap[g]'hlt = .cells cs 49 (0, 0) := by
    unfold Bx at h
    rw [Array.getElem?_eq_getElem hlt] at h
    exact Option.some.inj h
  have e : (w.setRow g cs).heap = w.heap := by
    unfold World.setRow
    apply Array.ext
    · simp
    · intro i h1 h2
      simp only [Array.getElem_modify]
      split
      · rename_i hk; subst hk; rw [hv]
      · rfl
  exact (show w.setRow g cs = { w with heap := (w.setRow g cs).heap } from rfl).trans (by rw [e])
/-- What is stored is what stood there. -/
theorem setCell_self {w : World} {g : Nat} {cs : Array Value} (h : Bx w g cs) {j : Nat} {v : Value} (hv : cs[j]? = some v) : w.setCell ⟨g, j, none⟩ v = w := by
  rw [setCell_eq_setRow w g j cs _ _ v h]
  have e : cs.setIfInBounds j v = cs := by
    apply Array.ext
    · simp
    · intro i h1 h2
      rw [Array.getElem_setIfInBounds]
      split
      · rename_i hk
        subst hk
        rw [Array.getElem?_eq_getElem h2] at hv
        exact (Option.some.inj hv).symm
      · rfl
  rw [e]
  exact setRow_self h
theorem Bx.set {w : World} {g : Nat} {cs : Array Value} (h : Bx w g cs) (j : Nat) (v : Value) : Bx (w.setCell ⟨g, j, none⟩ v) g (cs.setIfInBounds j v) := by
  rw [setCell_eq_setRow w g j cs _ _ v h]
  exact setRow_heap w g cs _ _ _ h

section
variable {ops : Array Oper} {rest : List Oper} {o : Oper} {a : Act} {Q : Exit → Act → World → Prop}
/-- 'x := *p' of a rule's variable. -/
theorem wpList_fetch (W : World) (hgd : o.guard = none) (x : Operand) (ho : o.op = .load 49 x) (g : Nat) (cs : Array Value)
    (hx : a.eval x = .pointer (some ⟨g, 0, none⟩)) (hk : Bx W g cs) (h13 : cs.size = 13)
    (h : wpList Tryz.prog ops Q rest (a.put o.dst (.agg cs)) W) : wpList Tryz.prog ops Q (o :: rest) a W :=
  wpList_load_row hgd _ x ho g hx _ cs _ _ hk Tryz.underlying49 rfl (by rw [info13, h13]) h
/-- '*p = r' of a rule's variable. -/
theorem wpList_keep (W : World) (hgd : o.guard = none) (x y : Operand) (ho : o.op = .store 49 x y) (B : Nat) (w0 : World) (hb : Below B w0 W) (g : Nat) (hB : B ≤ g) (r : Ru) (old : Array Value)
    (hx : a.eval x = .pointer (some ⟨g, 0, none⟩)) (hy : a.eval y = .agg (ruC r)) (hk : Bx W g old) (ho13 : old.size = 13)
    (h : ∀ w', Bx w' g (ruC r) → Below B w0 w' → (∀ k, k ≠ g → w'.heap[k]? = W.heap[k]?) → wpList Tryz.prog ops Q rest (a.put o.dst undef) w') : wpList Tryz.prog ops Q (o :: rest) a W := by
  refine wpList_store_row hgd _ x y ho g _ hx hy _ old hk (by rw [info13]; rfl) (by rw [ho13]; rfl) (by simp [ruC, Value.oneCell']) ?_
  exact h _ (setRow_heap W g old _ _ _ hk) (below_setRow hb hB _) (fun k hk => setRow_other W g k _ hk)
end
/-- What a function hands back whose one result is a rule in memory. -/
theorem results_one {fn : Func} {q : Tmp} (h : fn.results = #[.cell q 49]) (tmps : Array Value) (w : World) (g : Nat) (cs : Array Value)
    (hp : tmps.getD q undef = .pointer (some ⟨g, 0, none⟩)) (hk : Bx w g cs) (h13 : cs.size = 13) : (results fn tmps).run Tryz.prog w = .ok (.agg cs) w :=
  results_cell_row h tmps w g _ cs _ _ hp hk Tryz.underlying49 rfl (by rw [info13, h13])
/-- Whose first result is a rule in memory, two more behind it. -/
theorem results_three {fn : Func} {p t u : Tmp} (h : fn.results = #[.cell p 49, .tmp t, .tmp u]) (tmps : Array Value) (w : World) (g : Nat) (cs : Array Value)
    (hp : tmps.getD p undef = .pointer (some ⟨g, 0, none⟩)) (hk : Bx w g cs) (h13 : cs.size = 13) : (results fn tmps).run Tryz.prog w = .ok (.tuple #[.agg cs, tmps.getD t undef, tmps.getD u undef]) w := by
  have hl := run_loadVar_row (P := Tryz.prog) w g _ 49 cs _ _ hk Tryz.underlying49 rfl (by rw [info13, h13])
  have hp' : tmps[p]?.getD undef = .pointer (some ⟨g, 0, none⟩) := by simpa using hp
  simp [results, h, hp', asAddr, hl]

/-! ### the fields -/
def pt (m : Int) : ByteArray := if m = 0 then f1 else if m = 1 then f2 else if m = 2 then f3 else if m = 3 then f4 else if m = 4 then f5 else if m = 5 then f6 else if m = 6 then f7 else f8
def nv (r : Ru) (m : Int) : Int := if m = 0 then r.ra else if m = 1 then r.pe else if m = 2 then r.bu else if m = 3 then r.co else if m = 4 then r.mx else if m = 5 then r.fa else if m = 6 then r.wa else r.pb
def kd (m : Int) : Int := if m < 4 then 1 else if m = 4 then 2 else 3
def lw (m : Int) : Int := if m = 0 then 0 else if m = 3 then 0 else if m = 7 then 0 else 1
def hh (m : Int) : Int := if m = 0 then 1000000 else if m = 1 then 86400000 else if m = 2 then 1000000 else if m = 3 then 1000 else if m = 4 then 1000000 else if m = 5 then 1000 else if m = 6 then 86400000 else 100
def ev (r : Ru) (m : Int) : Int := fd (kd m) r.ki (nv r m) (lw m) (hh m)
theorem nums_drop (r : Ru) : ∀ m : Nat, m < 8 → (nums r).drop m = (pt m, ev r m) :: (nums r).drop (m + 1)
  | 0, _ => rfl
  | 1, _ => rfl
  | 2, _ => rfl
  | 3, _ => rfl
  | 4, _ => rfl
  | 5, _ => rfl
  | 6, _ => rfl
  | 7, _ => rfl
/-- A field's cells, for a row of all. -/
def fdC (p : ByteArray) (n k lo hi : Int) : List Value := [.string p, .int .i64 n, .int .i64 k, .int .i64 lo, .int .i64 hi]
def flC (r : Ru) : Array Value :=
  #[.string f1, .int .i64 r.ra, .int .i64 1, .int .i64 0, .int .i64 1000000, .string f2, .int .i64 r.pe, .int .i64 1, .int .i64 1, .int .i64 86400000,
    .string f3, .int .i64 r.bu, .int .i64 1, .int .i64 1, .int .i64 1000000, .string f4, .int .i64 r.co, .int .i64 1, .int .i64 0, .int .i64 1000,
    .string f5, .int .i64 r.mx, .int .i64 2, .int .i64 1, .int .i64 1000000, .string f6, .int .i64 r.fa, .int .i64 3, .int .i64 1, .int .i64 1000,
    .string f7, .int .i64 r.wa, .int .i64 3, .int .i64 1, .int .i64 86400000, .string f8, .int .i64 r.pb, .int .i64 3, .int .i64 0, .int .i64 100]
set_option maxRecDepth 100000 in
theorem field_at (r : Ru) (w : World) (m : Int) (h : 0 ≤ m) (h8 : m < 8) :
    Sem.run Tryz.prog (Instr.index 127 (.agg (flC r)) (.int .i64 m)) w = .ok (.agg #[.string (pt m), .int .i64 (nv r m), .int .i64 (kd m), .int .i64 (lw m), .int .i64 (hh m)]) w := by
  obtain rfl | rfl | rfl | rfl | rfl | rfl | rfl | rfl : m = 0 ∨ m = 1 ∨ m = 2 ∨ m = 3 ∨ m = 4 ∨ m = 5 ∨ m = 6 ∨ m = 7 := by omega
  all_goals rfl
theorem info40 : (Tryz.prog.info? 127).map (·.size) = some 40 := by kernel_rfl
/-- The row of fields in memory. -/
def Fx (w : World) (g : Nat) (cs : Array Value) : Prop := w.heap[g]? = some (.cells cs 127 (0, 0))
theorem wpList_fill {ops : Array Oper} {rest : List Oper} {o : Oper} {a : Act} {Q : Exit → Act → World → Prop} (W : World) (hgd : o.guard = none) (x y : Operand) (ho : o.op = .store 127 x y) (hd : o.dst = none) (g : Nat) (r : Ru)
    (old : Array Value) (hx : a.eval x = .pointer (some ⟨g, 0, none⟩)) (hy : a.eval y = .agg (flC r)) (hk : W.heap[g]? = some (.cells old 127 (0, 0))) (ho40 : old.size = 40) (B : Nat) (w0 : World) (hb : Below B w0 W) (hB : B ≤ g)
    (h : ∀ w', Fx w' g (flC r) → Below B w0 w' → wpList Tryz.prog ops Q rest a w') : wpList Tryz.prog ops Q (o :: rest) a W := by
  refine wpList_store_rowTo hgd _ x y ho hd g (flC r) hx hy _ old hk info40 ho40 (by simp [flC, Value.oneCell']) ?_
  exact h _ (setRow_heap W g old _ _ _ hk) (below_setRow hb hB _)
theorem results_flC {fn : Func} {p : Tmp} (h : fn.results = #[.cell p 127]) (tmps : Array Value) (w : World) (g : Nat) (cs : Array Value)
    (hp : tmps.getD p undef = .pointer (some ⟨g, 0, none⟩)) (hk : Fx w g cs) (h5 : cs.size = 40) : (results fn tmps).run Tryz.prog w = .ok (.agg cs) w :=
  results_cell_row h tmps w g _ cs _ _ hp hk Tryz.underlying127 rfl (by rw [info40, h5])
theorem built_flC (r : Ru) (a : Act) (parts : Array (Nat × Operand)) (hp : (parts.map fun (i, x) => (i, a.eval x)) = #[(0, .agg (fdC f1 r.ra 1 0 1000000).toArray), (1, .agg (fdC f2 r.pe 1 1 86400000).toArray), (2, .agg (fdC f3 r.bu 1 1 1000000).toArray), (3, .agg (fdC f4 r.co 1 0 1000).toArray),
    (4, .agg (fdC f5 r.mx 2 1 1000000).toArray), (5, .agg (fdC f6 r.fa 3 1 1000).toArray), (6, .agg (fdC f7 r.wa 3 1 86400000).toArray), (7, .agg (fdC f8 r.pb 3 0 100).toArray)]) :
    Tryz.prog.built 127 (parts.map fun (i, x) => (i, a.eval x)).toList = some (flC r) := by
  rw [hp]
  kernel_rfl
set_option maxRecDepth 100000 in
theorem two_new (w : World) (o1 o2 : Obj) : ((w.alloc o1).alloc o2).heap[w.heap.size + 1]? = some o2 := by
  have := Go.heap_alloc_new (w.alloc o1) o2
  rw [World.size_alloc] at this
  exact this
theorem two_below (w : World) (o1 o2 : Obj) : Below w.heap.size w ((w.alloc o1).alloc o2) := ((Below.refl _ _).alloc (Nat.le_refl _) _).alloc (by simp) _
set_option maxHeartbeats 4000000 in
set_option maxRecDepth 100000 in
theorem fields_any (r : Ru) (w : World) : Calls Tryz.prog 105 #[.agg (ruC r)] w fun e w' => e = .returned (.agg (flC r)) ∧ Below w.heap.size w w' := by
  obtain ⟨id, no, ro, pr, ki, ra, pe, bu, co, mx, fa, wa, pb⟩ := r
  unfold ruC
  go_enter Tryz.func105, Tryz.ntmps105
  go_wp2_with (first
    | (refine wpList_buildTo rfl 127 _ rfl _ rfl _ (built_flC ⟨id, no, ro, pr, ki, ra, pe, bu, co, mx, fa, wa, pb⟩ _ _ rfl) ?_)
    | (refine wpList_fill _ rfl _ _ rfl rfl _ ⟨id, no, ro, pr, ki, ra, pe, bu, co, mx, fa, wa, pb⟩ _ rfl rfl (two_new _ _ _) rfl w.heap.size w (two_below _ _ _) (by simp) ?_; intro w' hk hb))
  refine bodyPost_ret (results_flC rfl _ _ _ _ rfl hk rfl) rfl ?_
  exact ⟨rfl, hb⟩
end Go.Proofs.YtehkiojohldlgaaGreatDoor.Rul
