/- The contract of pointer's Take. Conditions: the library's variable MaxLen holds some number; as each theorem states. -/
import Derived.Test.YtfefbfohenmajaaDoorPtrA
import Derived.Test.YtfefbfohenmajaaDoorUtfG1
namespace Go.Proofs.YtfefbfohenmajaaDoor.Ptr
open Go.RowKit Go.Lib Go.Proofs.YtfefbfohenmajaaDoor.Byt

/-- The parts whose text is s, if there are some. -/
def tkA (s : ByteArray) : Option (List ByteArray) := (tkP s.data.toList).map fun ps => ps.map fun l => ⟨l.toArray⟩
def bA (l : List UInt8) : ByteArray := ⟨l.toArray⟩
theorem bA_data (x : ByteArray) : bA x.data.toList = x := by cases x; simp [bA]
theorem map_bA (l : List ByteArray) : (l.map fun x => x.data.toList).map bA = l := by rw [List.map_map]; exact (List.map_congr_left fun x _ => bA_data x).trans (List.map_id l)
/-- What is put is taken. -/
theorem tkA_put (l : List ByteArray) : tkA ⟨(pB l).toArray⟩ = some l := by
  unfold tkA pB
  rw [dt_mk, put_take]
  exact congrArg some (map_bA l)
/-- What is taken has that text. -/
theorem pB_take {s : ByteArray} {l : List ByteArray} (h : tkA s = some l) : pB l = s.data.toList := by
  unfold tkA at h
  obtain ⟨ps, h1, rfl⟩ := Option.map_eq_some_iff.1 h
  rw [← take_put h1]
  unfold pB
  rw [List.map_map]
  exact congrArg putP ((List.map_congr_left fun x _ => dt_mk x).trans (List.map_id ps))
theorem pB_same {a b : List ByteArray} (h : pB a = pB b) : a = b := by
  have := tkA_put a
  rw [h, tkA_put] at this
  exact (Option.some.inj this).symm
theorem eL_ge (l : List UInt8) : l.length ≤ (eL l).length := by
  induction l with
  | nil => simp
  | cons c l ih => rw [eL_cons, List.length_append, List.length_cons]; have := (eB_len c).1; omega
theorem pB_ge (l : List ByteArray) : l.length ≤ (pB l).length ∧ ∀ x ∈ l, x.size ≤ (pB l).length := by
  induction l with
  | nil => exact ⟨by simp, fun x hx => by cases hx⟩
  | cons y r ih =>
    have h1 := eL_ge y.data.toList
    have hl : y.data.toList.length = y.size := by simp
    rw [pB_cons]
    simp only [List.length_cons, List.length_append]
    refine ⟨by omega, fun x hx => ?_⟩
    rcases List.mem_cons.1 hx with rfl | hx
    · omega
    · have := ih.2 x hx; omega
/-- The parts of a short text are few and short. -/
theorem tkA_fit {s : ByteArray} {l : List ByteArray} (h : tkA s = some l) : l.length ≤ s.size ∧ ∀ x ∈ l, x.size ≤ s.size := by
  have h1 := pB_ge l
  have hl : s.data.toList.length = s.size := by simp
  rw [pB_take h, hl] at h1
  exact h1

/-! ### a row of strings that the call changes in its place -/
/-- Block g holds the strings l. -/
def Sb (w : World) (g : Nat) (l : List ByteArray) : Prop := w.heap[g]? = some (.cells (l.map Value.string).toArray 9 (0, 0))
section
variable {w w' : World} {g : Nat} {l : List ByteArray}
theorem Sb.lt (h : Sb w g l) : g < w.heap.size := by
  rcases Nat.lt_or_ge g w.heap.size with h' | h'
  · exact h'
  · unfold Sb at h; simp [Array.getElem?_eq_none h'] at h
theorem Sb.next (h : Sb w g l) (hb : Below w.heap.size w w') : Sb w' g l := (hb.block g h.lt).trans h
theorem Sb.cell (h : Sb w g l) {j : Nat} (hj : j < l.length) : w.cell? ⟨g, j, none⟩ = some (.string (l.getD j ⟨#[]⟩)) := by
  rw [Lib.cell_of_heap h]
  simp [hj]
theorem Sb.free (h : Sb w g l) (j : Nat) : w.frozen? ⟨g, j, none⟩ = false := Lib.frozen_of_heap h j
theorem Sb.set (h : Sb w g l) (j : Nat) (x : ByteArray) : Sb (w.setCell ⟨g, j, none⟩ (.string x)) g (l.set j x) := by
  have := heap_setCell_same w g j _ _ (.string x) h
  unfold Sb
  rw [this, List.setIfInBounds_toArray, List.map_set]
theorem Sb.row (h : Sb w g l) (cap : Nat) : Strs.Row w (.slice (some ⟨g, 0, none⟩) l.length cap) l := .inr ⟨g, 0, cap, rfl, fun j hj => by rw [Nat.zero_add]; exact h.cell hj⟩
end
theorem half_len (f : ByteArray → ByteArray) (l : List ByteArray) (k : Nat) : ((l.take k).map f ++ l.drop k).length = l.length := by
  rw [List.length_append, List.length_map, List.length_take, List.length_drop]; omega
theorem half_get (f : ByteArray → ByteArray) {l : List ByteArray} {k : Nat} (h : k < l.length) : ((l.take k).map f ++ l.drop k).getD k ⟨#[]⟩ = l.getD k ⟨#[]⟩ := by
  have hl : ((l.take k).map f).length = k := by rw [List.length_map, List.length_take]; omega
  rw [List.getD_eq_getElem?_getD, List.getElem?_append_right (by omega), hl, Nat.sub_self, List.getElem?_drop, Nat.add_zero, List.getD_eq_getElem?_getD]
theorem half_set (f : ByteArray → ByteArray) {l : List ByteArray} {k : Nat} (h : k < l.length) : ((l.take k).map f ++ l.drop k).set k (f (l.getD k ⟨#[]⟩)) = (l.take (k + 1)).map f ++ l.drop (k + 1) := by
  have hl : ((l.take k).map f).length = k := by rw [List.length_map, List.length_take]; omega
  rw [List.set_append_right _ _ (by omega), hl, Nat.sub_self, List.drop_eq_getElem_cons h, List.set_cons_zero, List.take_add_one, List.getElem?_eq_getElem h, List.getD_eq_getElem?_getD, List.getElem?_eq_getElem h]
  simp only [Option.toList_some, List.map_append, List.map_cons, List.map_nil, List.append_assoc, List.cons_append, List.nil_append, Option.getD_some]
theorem pieces_len (sep : ByteArray) : ∀ (k : Nat) (s : ByteArray), ∀ x ∈ splitB sep 0 k s, x.size ≤ s.size
  | 0, s, x, h => by rw [List.mem_singleton.1 h]; exact Nat.le_refl _
  | k + 1, s, x, h => by
    unfold splitB at h
    split at h
    · rw [List.mem_singleton.1 h]; exact Nat.le_refl _
    · rcases List.mem_cons.1 h with rfl | h
      · rw [ByteArray.size_extract]; omega
      · have := pieces_len sep k _ x h
        rw [ByteArray.size_extract] at this
        omega
/-- One piece, as its part. -/
def unB (x : ByteArray) : ByteArray := ⟨(un x.data.toList).toArray⟩
theorem unB_pts (t : ByteArray) : (splitB ⟨#[47]⟩ 0 (Lib.countB t ⟨#[47]⟩) t).map unB = (pts t.data.toList).map fun l => ⟨l.toArray⟩ := by
  have h := Lib.splitB_data ⟨#[47]⟩ 0 (Lib.countB t ⟨#[47]⟩) t
  have e : Lib.countB t ⟨#[47]⟩ = count t.data.toList [47] := rfl
  have e2 : (⟨#[47]⟩ : ByteArray).data.toList = [47] := rfl
  rw [e2, e] at h
  unfold pts sp
  rw [← h, e, List.map_map, List.map_map]
  rfl
theorem ret_tk {v : Value} {a b : Bool} (h : a = b) : Ending.returned (.tuple #[v, .bool a]) = .returned (.tuple #[v, .bool b]) := by rw [h]

theorem clone_str (s : ByteArray) (w : World) (hs : s.size ≤ 281474976710656) :
    Calls Tryd.prog 22 #[.string s] w fun e w' => e = .returned (.string s) ∧ Below w.heap.size w w' := by
  go_enter Tryd.func22, Tryd.ntmps22
  go_wp2_with (go_at_call 37; refine (Tryd.stringslite_Clone _ _ hs).mono ?_; rintro e w' ⟨rfl, hb⟩)
  go_ret
  exact ⟨rfl, hb⟩
theorem split_any (s : ByteArray) (w : World) (hs : s.size ≤ 8000000) (hM : Mx w) :
    Calls Tryd.prog 21 #[.string s, .string ⟨#[47]⟩] w fun e w' => e = .returned (.slice (some ⟨w.heap.size, 0, none⟩) (splitB ⟨#[47]⟩ 0 (Lib.countB s ⟨#[47]⟩) s).length (splitB ⟨#[47]⟩ 0 (Lib.countB s ⟨#[47]⟩) s).length) ∧ Sb w' w.heap.size (splitB ⟨#[47]⟩ 0 (Lib.countB s ⟨#[47]⟩) s) ∧ Below w.heap.size w w' := by
  obtain ⟨m, hm⟩ := hM
  have hl := Lib.splitB_all ⟨#[47]⟩ (by decide) 0 (Lib.countB s ⟨#[47]⟩) s rfl
  refine (Tryd.strings_Split s ⟨#[47]⟩ m w (by omega) hm (by decide)).mono ?_
  rintro e w' ⟨rfl, rfl⟩
  rw [hl]
  exact ⟨rfl, heap_alloc_new _ _, (Below.refl _ _).alloc (Nat.le_refl _) _⟩
/-- 's[0]'. -/
theorem index0 (s : ByteArray) (h : 0 < s.size) (w : World) : (Instr.index 9 (.string s) (.int .i64 0)).run Tryd.prog w = .ok (.int .u8 (Utf.bt s 0 : Int)) w := by
  rw [run_index_string w 9 _ .i64 0 Tryd.underlying9, dif_pos ⟨by omega, by omega⟩, ← Utf.bt_at s 0 h]
  rfl
set_option maxHeartbeats 2000000 in
theorem ptake_any (s : ByteArray) (w : World) (hs : s.size ≤ 8000000) (hM : Mx w) :
    Calls Tryd.prog 9 #[.string s] w fun e w' => ∃ v, e = .returned (.tuple #[v, .bool (tkA s).isSome]) ∧ Strs.Row w' v ((tkA s).getD []) ∧ Below w.heap.size w w' := by
  by_cases h0 : s.size = 0
  · obtain rfl : s = ⟨#[]⟩ := str_none h0
    have hT : tkA ⟨#[]⟩ = some [] := rfl
    rw [hT]
    go_enter Tryd.func9, Tryd.ntmps9
    go_wp2_with fail
    go_ret2
    exact ⟨_, rfl, Strs.Row.nil _, Below.refl _ _⟩
  · have hne := str_some (s := s) (by omega)
    have hz : s.size ≠ 0 := h0
    obtain ⟨c, l, hcl⟩ : ∃ c l, s.data.toList = c :: l := by
      cases hd : s.data.toList with
      | nil => exact absurd (by have := congrArg List.length hd; simpa using this) h0
      | cons c l => exact ⟨c, l, rfl⟩
    have hT := take_is c l
    have hbt : Utf.bt s 0 = c.toNat := by unfold Utf.bt; rw [hcl]; rfl
    have hix := index0 s (by omega)
    rw [hbt] at hix
    have HRT := Lib.hid fun W (h : Mx W) => right_any s W hs h
    rw [hcl] at HRT
    have hTA : tkA s = (tkP (c :: l)).map fun ps => ps.map fun l => ⟨l.toArray⟩ := by unfold tkA; rw [hcl]
    by_cases h47 : c = 47
    · subst h47
      by_cases hok : okE (47 :: l) = true
      · rw [if_pos ⟨rfl, hok⟩] at hT
        rw [hT] at hTA
        rw [hok] at HRT
        have hsl : ∀ w, (Instr.slice 9 (.string s) (some (.int .i64 1)) none none).run Tryd.prog w = .ok (.string (cutB s 1 (s.size - 1))) w := sl_from s 1 (s.size - 1) (by omega)
        have htd : (cutB s 1 (s.size - 1)).data.toList = l := by
          unfold cutB
          rw [dt_mk, hcl]
          show l.take (s.size - 1) = l
          rw [List.take_of_length_le]
          have := congrArg List.length hcl
          simp only [Array.length_toList, List.length_cons] at this
          have e : s.data.size = s.size := rfl
          omega
        have htz := cutB_size s 1 (s.size - 1) (by omega)
        have hU := unB_pts (cutB s 1 (s.size - 1))
        rw [htd] at hU
        have hTA2 : tkA s = some ((splitB ⟨#[47]⟩ 0 (Lib.countB (cutB s 1 (s.size - 1)) ⟨#[47]⟩) (cutB s 1 (s.size - 1))).map unB) := by rw [hTA, hU]; rfl
        have HSP := Lib.hid fun W (h : Mx W) => split_any (cutB s 1 (s.size - 1)) W (by omega) h
        have HCL := Lib.hid fun W => clone_str (cutB s 1 (s.size - 1)) W (by omega)
        have hpl := pieces_len ⟨#[47]⟩ (Lib.countB (cutB s 1 (s.size - 1)) ⟨#[47]⟩) (cutB s 1 (s.size - 1))
        have hln := Lib.countB_le ⟨#[47]⟩ (by decide) (cutB s 1 (s.size - 1)).size (cutB s 1 (s.size - 1)) (Nat.le_refl _)
        have hla := Lib.splitB_all ⟨#[47]⟩ (by decide) 0 (Lib.countB (cutB s 1 (s.size - 1)) ⟨#[47]⟩) (cutB s 1 (s.size - 1)) rfl
        rw [hTA2]
        have hbig : (splitB ⟨#[47]⟩ 0 (Lib.countB (cutB s 1 (s.size - 1)) ⟨#[47]⟩) (cutB s 1 (s.size - 1))).length ≤ 9000000 := by omega
        have hpz : ∀ x ∈ splitB ⟨#[47]⟩ 0 (Lib.countB (cutB s 1 (s.size - 1)) ⟨#[47]⟩) (cutB s 1 (s.size - 1)), x.size ≤ 8000000 := fun x hx => by have := hpl x hx; omega
        have HPZ := Lib.hid hpz
        have HM := Lib.hid hM
        clear hpz hpl hln hla hTA hTA2 hT hU htd hok hcl hbt hM
        generalize splitB ⟨#[47]⟩ 0 (Lib.countB (cutB s 1 (s.size - 1)) ⟨#[47]⟩) (cutB s 1 (s.size - 1)) = L at *
        generalize cutB s 1 (s.size - 1) = t at *
        go_enter Tryd.func9, Tryd.ntmps9
        go_wp2_with (first
          | (go_at_call 20; (with_reducible refine (HRT.out _ HM.out).mono ?_); rintro e w1 ⟨rfl, rfl⟩)
          | (go_at_call 22; (with_reducible refine (HCL.out _).mono ?_); rintro e w2 ⟨rfl, hb2⟩)
          | (go_at_call 21; (with_reducible refine (HSP.out _ (HM.out.next hb2)).mono ?_); rintro e w3 ⟨rfl, hs3, hb3⟩))
        have hsz2 := hb2.size
        have H3 := Lib.hid hs3
        have B3 := Lib.hid (hb2.trans (hb3.mono hsz2))
        clear hs3 hb3
        go_loopw [23] (fun i wr => ∃ k : Nat, i = .int .i64 (k : Int) ∧ k ≤ L.length ∧ Hid (Sb wr w2.heap.size ((L.take k).map unB ++ L.drop k)) ∧ Hid (Below w1.heap.size w1 wr)) (fun i _ => L.length - (RowKit.intOf i).toNat)
        case atStart => exact ⟨0, rfl, Nat.zero_le _, H3, B3⟩
        case round =>
          obtain ⟨k, rfl, hk, HS, HB⟩ := hrel
          by_cases hlt : k < L.length
          · have hcl := HS.out.cell (j := k) (by rw [half_len]; exact hlt)
            rw [half_get unB hlt] at hcl
            have hx : (L.getD k ⟨#[]⟩).size ≤ 8000000 := by
              rw [List.getD_eq_getElem?_getD, List.getElem?_eq_getElem hlt]
              exact HPZ.out _ (List.getElem_mem hlt)
            have HST := Lib.hid (half_set unB hlt)
            have HU := Lib.hid (unescape_any (L.getD k ⟨#[]⟩) wr hx (HM.out.next HB.out))
            have HUB := Lib.hid (show (⟨(un (L.getD k ⟨#[]⟩).data.toList).toArray⟩ : ByteArray) = unB (L.getD k ⟨#[]⟩) from rfl)
            rw [HUB.out] at HU
            clear HUB hx
            generalize unB (L.getD k ⟨#[]⟩) = y at *
            generalize L.getD k ⟨#[]⟩ = x at *
            go_wp2_with (go_at_call 23; (with_reducible refine HU.out.mono ?_); rintro e w5 ⟨rfl, hb5⟩; have h5 := HS.out.next hb5; have fz5 := h5.free k; have c5 := h5.cell (j := k) (by rw [half_len]; exact hlt))
            go_roundw
            case rel => exact ⟨k + 1, by go_num, by omega, Lib.hid (by rw [← HST.out]; exact h5.set k y), Lib.hid (below_set (HB.out.trans (hb5.mono HB.out.size)) hsz2 k _)⟩
            case measure => simp [RowKit.intOf]; omega
          · obtain rfl : k = L.length := by omega
            have HS2 := HS.out
            rw [List.take_length, List.drop_length, List.append_nil] at HS2
            have HRW := Lib.hid (HS2.row L.length)
            rw [List.length_map] at HRW
            clear HS HS2
            go_wp2_with fail
            go_ret2
            exact ⟨_, rfl, HRW.out, HB.out⟩
      · rw [if_neg fun q => hok q.2] at hT
        rw [hT] at hTA
        have hTA2 : tkA s = none := by rw [hTA]; rfl
        rw [hTA2]
        have hok2 : okE (47 :: l) = false := by cases h : okE (47 :: l) with
          | true => exact absurd h hok
          | false => rfl
        rw [hok2] at HRT
        clear hTA hTA2 hT hok hok2 hcl hbt
        go_enter Tryd.func9, Tryd.ntmps9
        go_wp2_with (go_at_call 20; (with_reducible refine (HRT.out _ hM).mono ?_); rintro e w1 ⟨rfl, rfl⟩)
        go_ret2
        exact ⟨_, rfl, Strs.Row.nil _, Below.refl _ _⟩
    · rw [if_neg fun q => h47 q.1] at hT
      rw [hT] at hTA
      have hTA2 : tkA s = none := by rw [hTA]; rfl
      rw [hTA2]
      have hcn : ((c.toNat : Int) != 47) = true := by
        rw [bne_iff_ne]
        intro q
        exact h47 (UInt8.toNat_inj.1 (by show c.toNat = 47; omega))
      clear hTA hTA2 hT h47 hcl hbt HRT
      generalize c.toNat = cn at *
      go_enter Tryd.func9, Tryd.ntmps9
      go_wp2_with fail
      go_ret2
      exact ⟨_, rfl, Strs.Row.nil _, Below.refl _ _⟩
end Go.Proofs.YtfefbfohenmajaaDoor.Ptr
