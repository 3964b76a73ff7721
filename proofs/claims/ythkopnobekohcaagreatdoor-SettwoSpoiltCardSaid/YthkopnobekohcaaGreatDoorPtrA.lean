/- Contracts of pointer's escape, unescape, escapesRight, Put and Join. Conditions: the library's variable MaxLen holds some number; as each theorem states. -/
import Derived.Test.YthkopnobekohcaaGreatDoorRowsA
import Derived.Test.YthkopnobekohcaaGreatDoorPtrStr
import Derived.Lib.AtoiErrMem
namespace Go.Proofs.YthkopnobekohcaaGreatDoor.Ptr
open Go.RowKit Go.Lib Go.Proofs.YthkopnobekohcaaGreatDoor.Byt

/-- The library's variable MaxLen holds some number. -/
def Mx (w : World) : Prop := ∃ m, w.cell? ⟨2, 0, none⟩ = some (.int .i64 m)
theorem Mx.next {w w' : World} (h : Mx w) (hb : Below w.heap.size w w') : Mx w' := by
  obtain ⟨m, hm⟩ := h
  exact ⟨m, (hb.cell (Lib.lt_of_cell hm)).trans hm⟩
theorem count_any (s sep : ByteArray) (w : World) (hs : s.size ≤ 8000000) (hM : Mx w) (h1 : 1 ≤ sep.size) :
    Calls Tryz.prog 107 #[.string s, .string sep] w fun e w' => e = .returned (.int .i64 ((count s.data.toList sep.data.toList : Nat) : Int)) ∧ w' = w := by
  obtain ⟨m, hm⟩ := hM
  exact Tryz.strings_Count_any s sep m w (by omega) hm h1
theorem rep_any (s old new : ByteArray) (w : World) (hs : s.size ≤ 16000000) (hn : new.size ≤ 2) (hM : Mx w) (h1 : 1 ≤ old.size) :
    Calls Tryz.prog 77 #[.string s, .string old, .string new] w fun e w' => e = .returned (.string ⟨(replaceAll s.data.toList old.data.toList new.data.toList).toArray⟩) ∧ Below w.heap.size w w' := by
  obtain ⟨m, hm⟩ := hM
  have hc := Lib.countB_le old h1 s.size s (Nat.le_refl _)
  have hk : Lib.countB s old * new.size ≤ 16000000 * 2 := Nat.mul_le_mul (by omega) hn
  exact Tryz.strings_ReplaceAll s old new m w (by omega) hm h1 (by omega)
theorem ra_len1 (s : List UInt8) : (replaceAll s [126] [126, 48]).length ≤ 2 * s.length := by
  rw [ra_is s (by decide)]
  induction s with
  | nil => rw [ra_nil _ (by decide)]; exact Nat.zero_le _
  | cons c l ih =>
    by_cases h : c = 126
    · subst h
      rw [ra_hit _ (by simp) (by decide) (one_yes _ _), List.length_append]
      show 2 + (ra [126] [126, 48] l).length ≤ _
      rw [List.length_cons]; omega
    · rw [ra_skip _ (by decide) (one_no l h), List.length_cons, List.length_cons]; omega
theorem ra_len2 (s : List UInt8) : (replaceAll s [126, 49] [47]).length ≤ s.length := by
  rw [ra_is s (by decide)]
  refine ind2 (p := fun s => (ra [126, 49] [47] s).length ≤ s.length) ?_ ?_ ?_ ?_ ?_ s
  · rw [ra_nil _ (by decide)]; exact Nat.le_refl _
  · intro c l h ih; rw [ra_skip _ (by decide) (two_no _ l h), List.length_cons, List.length_cons]; omega
  · rintro d l (rfl | rfl) ih
    · rw [ra_skip _ (by decide) (two_no2 l (by decide)), ra_skip _ (by decide) (two_no _ l (by decide))]; simp only [List.length_cons]; omega
    · rw [ra_hit _ (by simp) (by decide) (two_yes _ _ l), List.length_append]
      show 1 + (ra [126, 49] [47] l).length ≤ _
      simp only [List.length_cons]; omega
  · rw [ra_skip _ (by decide) (two_end _ _ _), ra_nil _ (by decide)]; exact Nat.le_refl _
  · intro d l h ih
    rw [ra_skip _ (by decide) (two_no2 l (fun q => h (.inr q))), List.length_cons, List.length_cons]
    simp only [List.length_cons] at ih ⊢; omega
theorem sz_mk (l : List UInt8) : (⟨l.toArray⟩ : ByteArray).size = l.length := by show (List.toArray _).size = _; simp
theorem dt_mk (l : List UInt8) : (⟨l.toArray⟩ : ByteArray).data.toList = l := by simp

theorem escape_any (s : ByteArray) (w : World) (hs : s.size ≤ 8000000) (hM : Mx w) :
    Calls Tryz.prog 47 #[.string s] w fun e w' => e = .returned (.string ⟨(eL s.data.toList).toArray⟩) ∧ Below w.heap.size w w' := by
  have hl : s.data.toList.length = s.size := by simp
  have h1 := ra_len1 s.data.toList
  have HA := Lib.hid (rep_any s ⟨#[126]⟩ ⟨#[126, 48]⟩ w (by omega) (by decide) hM (by decide))
  have HB := Lib.hid fun (W : World) (hm : Mx W) => rep_any ⟨(replaceAll s.data.toList [126] [126, 48]).toArray⟩ ⟨#[47]⟩ ⟨#[126, 49]⟩ W (by rw [sz_mk]; omega) (by decide) hm (by decide)
  rw [dt_mk] at HB
  have e1 := esc_is s.data.toList
  have e2 : (⟨#[126]⟩ : ByteArray).data.toList = [126] ∧ (⟨#[126, 48]⟩ : ByteArray).data.toList = [126, 48] ∧ (⟨#[47]⟩ : ByteArray).data.toList = [47] ∧ (⟨#[126, 49]⟩ : ByteArray).data.toList = [126, 49] := ⟨rfl, rfl, rfl, rfl⟩
  rw [e2.1, e2.2.1] at HA
  rw [e2.2.2.1, e2.2.2.2, e1] at HB
  clear e1 e2 h1 hl
  generalize (⟨(replaceAll s.data.toList [126] [126, 48]).toArray⟩ : ByteArray) = t at *
  generalize (⟨(eL s.data.toList).toArray⟩ : ByteArray) = u at *
  go_enter Tryz.func47, Tryz.ntmps47
  go_wp2_with (first
    | (go_at_call 77; (with_reducible refine HA.out.mono ?_); rintro e w1 ⟨rfl, hb1⟩)
    | (go_at_call 77; (with_reducible refine (HB.out _ (hM.next hb1)).mono ?_); rintro e w2 ⟨rfl, hb2⟩))
  go_ret
  exact ⟨rfl, hb1.trans (hb2.mono hb1.size)⟩
/-! ### Put, Join -/
/-- The text of parts. -/
def pB (l : List ByteArray) : List UInt8 := putP (l.map fun x => x.data.toList)
theorem pB_cons (x : ByteArray) (l : List ByteArray) : pB (x :: l) = 47 :: (eL x.data.toList ++ pB l) := by unfold pB; rw [List.map_cons, putP_cons]
theorem pB_snoc (l : List ByteArray) (x : ByteArray) : pB (l ++ [x]) = pB l ++ 47 :: eL x.data.toList := by unfold pB; rw [List.map_append, List.map_singleton, putP_snoc]
theorem pB_step (l : List ByteArray) (k : Nat) (h : k < l.length) : pB (l.take (k + 1)) = pB (l.take k) ++ 47 :: eL (l.getD k ⟨#[]⟩).data.toList := by
  rw [← pB_snoc, List.take_add_one, List.getElem?_eq_getElem h, List.getD_eq_getElem?_getD, List.getElem?_eq_getElem h]
  rfl
/-- Few and short parts: their text is short. -/
def Fit (l : List ByteArray) : Prop := ∀ x ∈ l, x.size ≤ 4000
theorem pB_len (l : List ByteArray) (hf : Fit l) : (pB l).length ≤ l.length * 8001 := by
  induction l with
  | nil => simp [pB, putP]
  | cons x r ih =>
    have h1 := ih fun y hy => hf y (List.mem_cons_of_mem _ hy)
    have h2 := hf x List.mem_cons_self
    have h3 := eL_len x.data.toList
    have hl : x.data.toList.length = x.size := by simp
    rw [pB_cons, List.length_cons, List.length_append, List.length_cons]
    omega
theorem Fit.take {l : List ByteArray} (h : Fit l) (k : Nat) : Fit (l.take k) := fun x hx => h x (List.mem_of_mem_take hx)
theorem Fit.at_ {l : List ByteArray} (h : Fit l) {k : Nat} (hk : k < l.length) : (l.getD k ⟨#[]⟩).size ≤ 4000 := by
  rw [List.getD_eq_getElem?_getD, List.getElem?_eq_getElem hk]
  exact h _ (List.getElem_mem hk)
set_option maxHeartbeats 1000000 in
theorem pput_any (v : Value) (l : List ByteArray) (w : World) (hr : Strs.Row w v l) (hM : Mx w) (hf : Fit l) (hl : l.length ≤ 100000) :
    Calls Tryz.prog 30 #[v] w fun e w' => e = .returned (.string ⟨(pB l).toArray⟩) ∧ Below w.heap.size w w' := by
  obtain ⟨a, cap, rfl, hc⟩ := hr.open_
  have HCell := Lib.hid hc
  have HM := Lib.hid hM
  have hmx : l.length ≤ 9223372036854775807 := by omega
  have HF := Lib.hid hf
  have HN := Lib.hid (Bld.holds_new w w.heap.size (Nat.le_refl _))
  have HB0 := Lib.hid (show Below w.heap.size w (w.alloc (.cells #[.pointer none, .slice none 0 0] 58)) from (Below.refl _ _).alloc (Nat.le_refl _) _)
  clear hc hM hf hr
  go_enter Tryz.func30, Tryz.ntmps30
  go_wp2_with fail
  go_loopw [8] (fun i wr => ∃ k : Nat, i = .int .i64 (k : Int) ∧ k ≤ l.length ∧ Hid (Bld.Holds wr w.heap.size w.heap.size (pB (l.take k))) ∧ Hid (Below w.heap.size w wr)) (fun i _ => l.length - (RowKit.intOf i).toNat)
  case atStart => exact ⟨0, rfl, Nat.zero_le _, HN, HB0⟩
  case round =>
    obtain ⟨k, rfl, hk, HH, HB⟩ := hrel
    have hsz := HB.out.size
    have hle := pB_len _ (HF.out.take k)
    have htk : (l.take k).length ≤ l.length := by rw [List.length_take]; omega
    have hle2 : (pB (l.take k)).length ≤ 800100000 := Nat.le_trans hle (Nat.le_trans (Nat.mul_le_mul_right _ (Nat.le_trans htk hl)) (by omega))
    clear hle htk
    by_cases hlt : k < l.length
    · obtain ⟨b, off, rfl, hc0⟩ := HCell.out k hlt
      have hcl := (HB.out.cell (Strs.cell_lt hc0)).trans hc0
      have hx := HF.out.at_ hlt
      have HS := Lib.hid (pB_step l k hlt)
      have hE := eL_len (l.getD k ⟨#[]⟩).data.toList
      have hxl : (l.getD k ⟨#[]⟩).data.toList.length = (l.getD k ⟨#[]⟩).size := by simp
      have HW1 := Lib.hid (Bld.write_any w.heap.size w.heap.size (pB (l.take k)) ⟨#[47]⟩ wr HH.out (by show _ + 1 ≤ _; omega) hsz)
      have HES := Lib.hid fun (W : World) (hb : Below w.heap.size w W) => escape_any (l.getD k ⟨#[]⟩) W (by omega) (HM.out.next hb)
      have HW2 := Lib.hid fun (W : World) (hh : Bld.Holds W w.heap.size w.heap.size (pB (l.take k) ++ (⟨#[47]⟩ : ByteArray).data.toList)) (hz : w.heap.size ≤ W.heap.size) => Bld.write_any w.heap.size w.heap.size _ ⟨(eL (l.getD k ⟨#[]⟩).data.toList).toArray⟩ W hh (by rw [List.length_append, sz_mk]; show _ + 1 + _ ≤ _; omega) hz
      rw [dt_mk] at HW2
      have e1 : pB (l.take k) ++ (⟨#[47]⟩ : ByteArray).data.toList ++ eL (l.getD k ⟨#[]⟩).data.toList = pB (l.take (k + 1)) := by rw [HS.out, List.append_assoc]; rfl
      rw [e1] at HW2
      clear e1 HS hc0 hE hxl hx HH
      generalize l.getD k ⟨#[]⟩ = x at *
      generalize (⟨(eL x.data.toList).toArray⟩ : ByteArray) = y at *
      go_wp2_with (first
        | (go_at_call 46; (with_reducible refine HW1.out.mono ?_); rintro e w3 ⟨rfl, h3, hb3⟩; have hb4 := HB.out.trans hb3)
        | (go_at_call 47; (with_reducible refine (HES.out _ hb4).mono ?_); rintro e w5 ⟨rfl, hb5⟩; have h5 := h3.next hb5; have hb6 := hb4.trans (hb5.mono hb4.size))
        | (go_at_call 46; (with_reducible refine (HW2.out _ h5 hb6.size).mono ?_); rintro e w7 ⟨rfl, h7, hb7⟩))
      go_roundw
      case rel => exact ⟨k + 1, by go_num, by omega, Lib.hid h7, Lib.hid (hb6.trans hb7)⟩
      case measure => simp [RowKit.intOf]; omega
    · obtain rfl : k = l.length := by omega
      have HS := Lib.hid (Bld.string_any w.heap.size w.heap.size _ wr HH.out hsz)
      rw [List.take_length] at HS
      clear HH hle2
      go_wp2_with (go_at_call 48; (with_reducible refine HS.out.mono ?_); rintro e w3 ⟨rfl, hb3⟩)
      go_ret
      exact ⟨rfl, HB.out.trans hb3⟩
/-- The text of one more part. -/
def jB (s x : ByteArray) : ByteArray := s ++ ⟨(pB [x]).toArray⟩
set_option maxHeartbeats 1000000 in
theorem pjoin_any (s x : ByteArray) (w : World) (hM : Mx w) (hs : s.size ≤ 8000000) (hx : x.size ≤ 4000) :
    Calls Tryz.prog 18 #[.string s, .string x] w fun e w' => e = .returned (.string (jB s x)) ∧ Below w.heap.size w w' := by
  have hf : Fit [x] := fun y hy => by rw [List.mem_singleton.1 hy]; exact hx
  have hz : (⟨(pB [x]).toArray⟩ : ByteArray).size ≤ 8001 := by rw [sz_mk]; exact Nat.le_trans (pB_len [x] hf) (by simp)
  have HP := Lib.hid fun (v : Value) (W : World) (hr : Strs.Row W v [x]) (hm : Mx W) => pput_any v [x] W hr hm hf (by simp)
  have HJ := Lib.hid (show jB s x = s ++ ⟨(pB [x]).toArray⟩ from rfl)
  have HR := Lib.hid (show Strs.Row (w.alloc (.cells #[.string x] 9)) (.slice (some ⟨w.heap.size, 0, none⟩) 1 1) [x] from .inr ⟨w.heap.size, 0, 1, rfl, fun j hj => by
    have : j = 0 := by simpa using hj
    subst this
    rw [Lib.cell_of_heap (heap_alloc_new w _)]
    rfl⟩)
  have HM := Lib.hid (hM.next ((Below.refl w.heap.size w).alloc (Nat.le_refl _) (.cells #[.string x] 9)))
  have HB := Lib.hid ((Below.refl w.heap.size w).alloc (Nat.le_refl _) (.cells #[.string x] 9))
  clear hM hf
  generalize (⟨(pB [x]).toArray⟩ : ByteArray) = t at *
  go_enter Tryz.func18, Tryz.ntmps18
  go_wp2_with (go_at_call 30; refine (HP.out _ _ HR.out HM.out).mono ?_; rintro e w3 ⟨rfl, hb3⟩)
  go_ret
  exact ⟨congrArg (fun b => Ending.returned (.string b)) HJ.out.symm, HB.out.trans (hb3.mono HB.out.size)⟩
end Go.Proofs.YthkopnobekohcaaGreatDoor.Ptr
