/- Texts of my own, packed: RouG3. Conditions: as each theorem states. -/
import Derived.StillTailTactics
import Derived.Test.YtehkiojohldlgaaGreatDoorK08
namespace Go.Proofs.YtehkiojohldlgaaGreatDoor.Rou
open Go.RowKit Go.Lib Go.Proofs.YtehkiojohldlgaaGreatDoor.Byt

/-! ### a store into a row of one's own -/
section
variable {w w' : World} {B : Nat} {v : Value} {l : List ByteArray}
theorem own_shape (h : Strs.Own w B v l) : (v = .slice none 0 0 ∧ l = []) ∨ ∃ g cap, v = .slice (some ⟨g, 0, none⟩) l.length cap ∧ B ≤ g := by
  rcases h.2 with ⟨hv, hx⟩ | ⟨g, cap, cur, hv, hB, _⟩
  · left; exact ⟨hv, List.eq_nil_of_length_eq_zero hx⟩
  · right; exact ⟨g, cap, hv, hB⟩
theorem own_set {g cap : Nat} (h : Strs.Own w B (.slice (some ⟨g, 0, none⟩) l.length cap) l) (j : Nat) (b : ByteArray) :
    Strs.Own (w.setCell ⟨g, j, none⟩ (.string b)) B (.slice (some ⟨g, 0, none⟩) l.length cap) (l.set j b) := by
  unfold Strs.Own at h ⊢
  rw [List.length_set]
  have := (World.ownsRow.stored h j (.string b)).1
  rwa [show (l.map Value.string).set j (.string b) = (l.set j b).map Value.string by rw [List.map_set]] at this
theorem own_cell {g cap : Nat} (h : Strs.Own w B (.slice (some ⟨g, 0, none⟩) l.length cap) l) (j : Nat) (hj : j < l.length) : w.cell? ⟨g, j, none⟩ = some (.string (l.getD j ⟨#[]⟩)) := by
  unfold Strs.Own at h
  have := World.ownsRow.cellAt h j (by omega)
  rw [this]
  simp [hj]
theorem own_free {g cap : Nat} (h : Strs.Own w B (.slice (some ⟨g, 0, none⟩) l.length cap) l) (j : Nat) : w.frozen? ⟨g, j, none⟩ = false := World.ownsRow.frozenAt h j
theorem own_one (w : World) (B : Nat) (hB : B ≤ w.heap.size) (x : ByteArray) : Strs.Own (w.alloc (.cells #[.string x] 9)) B (.slice (some ⟨w.heap.size, 0, none⟩) 1 1) [x] := by
  have := World.ownsRow_lit (base := B) (e := 9) (size := 1) w #[.string x] 1 hB (by decide) rfl
  simpa [Strs.Own] using this
end

/-! ### what is read so far -/
theorem psB_last (l : List UInt8) : ∃ P x, psB l = P ++ [x] ∧ x.size ≤ l.length := by
  obtain ⟨h, t, e⟩ := ps_some l
  have hne : psB l ≠ [] := by unfold psB; rw [e]; exact List.cons_ne_nil _ _
  refine ⟨(psB l).dropLast, (psB l).getLast hne, (List.dropLast_concat_getLast hne).symm, ?_⟩
  have := List.getLast_mem hne
  unfold psB at this
  obtain ⟨p, hp, hp2⟩ := List.mem_map.1 this
  have hs := ps_size l p hp
  have : (psB l).getLast hne = mk p := hp2.symm
  rw [this, sz_mk]; exact hs
theorem psB_snoc_slash (l : List UInt8) : psB (l ++ [47]) = psB l ++ [⟨#[]⟩] := by unfold psB; rw [ps_snoc_slash, List.map_append]; rfl
theorem psB_snoc {c : UInt8} {l : List UInt8} {P : List ByteArray} {x : ByteArray} (h : c ≠ 47) (e : psB l = P ++ [x]) : psB (l ++ [c]) = P ++ [x ++ mk [c]] := by
  unfold psB at e ⊢
  rw [ps_snoc l h]
  unfold tl1
  rw [List.map_append, List.map_dropLast, e]
  have hl : (ps l).getLast? = some x.data.toList := by
    have := congrArg List.getLast? e
    rw [List.getLast?_map, List.getLast?_append] at this
    obtain ⟨p, hp, hp2⟩ := Option.map_eq_some_iff.1 (this.trans rfl)
    have hp3 : mk p = x := hp2
    rw [hp, ← hp3, dt_mk]
  rw [hl]
  have e2 : mk (x.data.toList ++ [c]) = x ++ mk [c] := ext_data (by rw [app_data, dt_mk, dt_mk])
  simp [e2]
/-- The parts of what stands ahead of place j. -/
def fs (l : List UInt8) (j : Nat) : List ByteArray := psB (l.take (j - 1))
theorem take_snoc {l : List UInt8} {k : Nat} (h : k < l.length) : l.take (k + 1) = l.take k ++ [l.getD k 0] := by
  rw [List.take_add_one, List.getElem?_eq_getElem h, Option.toList_some, List.getD_eq_getElem?_getD, List.getElem?_eq_getElem h]
  rfl
theorem cut_one {s : ByteArray} {l : List UInt8} (h : s.data.toList = 47 :: l) {k : Nat} (hk : k < l.length) : cutB s (k + 1) 1 = mk [l.getD k 0] := by
  unfold cutB mk
  rw [h, List.drop_succ_cons, List.getD_eq_getElem?_getD, List.getElem?_eq_getElem hk, List.drop_eq_getElem_cons hk]
  rfl
theorem fs_slash {l : List UInt8} {k : Nat} (hk : k < l.length) (h : l.getD k 0 = 47) : fs l (k + 1 + 1) = fs l (k + 1) ++ [⟨#[]⟩] := by
  show psB (l.take (k + 1)) = psB (l.take k) ++ _
  rw [take_snoc hk, h, psB_snoc_slash]
theorem fs_plain {s : ByteArray} {l : List UInt8} {k : Nat} (hcl : s.data.toList = 47 :: l) (hk : k < l.length) (h : l.getD k 0 ≠ 47) :
    ∃ P x, fs l (k + 1) = P ++ [x] ∧ x.size ≤ l.length ∧ fs l (k + 1 + 1) = P ++ [x ++ cutB s (k + 1) 1] := by
  obtain ⟨P, x, e, hx⟩ := psB_last (l.take k)
  refine ⟨P, x, e, by rw [List.length_take] at hx; omega, ?_⟩
  show psB (l.take (k + 1)) = _
  rw [take_snoc hk, psB_snoc h e, cut_one hcl hk]
theorem fs_len (l : List UInt8) (j : Nat) : (fs l j).length ≤ l.length + 1 := by
  unfold fs
  rw [psB_len]
  have h1 := List.count_le_length (a := (47 : UInt8)) (l := l.take (j - 1))
  rw [List.length_take] at h1
  omega
theorem getD_last (P : List ByteArray) (x : ByteArray) {m : Nat} (h : P.length = m) : (P ++ [x]).getD m ⟨#[]⟩ = x := by
  subst h; simp
theorem set_last (P : List ByteArray) (x y : ByteArray) {m : Nat} (h : P.length = m) : (P ++ [x]).set m y = P ++ [y] := by
  subst h; simp
theorem bc_at {s : ByteArray} {l : List UInt8} (h : s.data.toList = 47 :: l) {k : Nat} : bc s (k + 1) = (l.getD k 0).toNat := by
  unfold bc
  rw [h]; rfl
theorem bc_zero {s : ByteArray} {c : UInt8} {l : List UInt8} (h : s.data.toList = c :: l) : bc s 0 = c.toNat := by
  unfold bc
  rw [h]; rfl
set_option maxHeartbeats 4000000 in
set_option maxRecDepth 100000 in
theorem rsplit_any (s : ByteArray) (w : World) (hs : s.size ≤ 140737488355328) :
    Calls Tryz.prog 172 #[.string s] w fun e w' => ∃ a c, e = .returned (.tuple #[.slice a (spB s).length c, .bool (rowB s)]) ∧ Strs.Row w' (.slice a (spB s).length c) (spB s) ∧ Below w.heap.size w w' := by
  by_cases h0 : s.size = 0
  · obtain rfl := Byt.str_none h0
    have hq : rowB ⟨#[]⟩ = false ∧ spB ⟨#[]⟩ = [] := ⟨rfl, rfl⟩
    rw [hq.1, hq.2]
    go_enter Tryz.func172, Tryz.ntmps172
    go_wp2_with fail
    go_ret2
    exact ⟨none, 0, rfl, Strs.Row.nil _, Below.refl _ _⟩
  · have e0 := Byt.str_some (s := s) (by omega)
    have hix := fun w => index_of s 0 0 rfl (by omega) w
    obtain ⟨c, l, hcl⟩ : ∃ c l, s.data.toList = c :: l := by
      cases hd : s.data.toList with
      | nil => exact absurd (by have := congrArg List.length hd; simpa using this) h0
      | cons c l => exact ⟨c, l, rfl⟩
    rw [bc_zero hcl] at hix
    have hsz : s.size = l.length + 1 := by rw [← len_dt, hcl]; rfl
    by_cases h47 : c = 47
    · subst h47
      by_cases hbig : 255 < s.size
      · have hr : rowB s = false := by
          cases h : rowB s with
          | false => rfl
          | true => have := rowB_size h; omega
        have hq : spB s = [] := by unfold spB; rw [hr]; rfl
        rw [hr, hq]
        have g1 : decide ((255 : Int) < (s.size : Int)) = true := decide_eq_true (by omega)
        have g2 : decide (255 < s.size) = true := decide_eq_true hbig
        clear hr hq hcl
        go_enter Tryz.func172, Tryz.ntmps172
        go_wp2_with fail
        go_ret2
        exact ⟨none, 0, rfl, Strs.Row.nil _, Below.refl _ _⟩
      · have g1 : decide ((255 : Int) < (s.size : Int)) = false := decide_eq_false (by omega)
        have g2 : decide (255 < s.size) = false := decide_eq_false hbig
        by_cases hl : l = []
        · subst hl
          obtain rfl : s = ⟨#[47]⟩ := by rw [← mk_data s, hcl]; rfl
          have hq : rowB ⟨#[47]⟩ = true ∧ spB ⟨#[47]⟩ = [] := ⟨rfl, rfl⟩
          rw [hq.1, hq.2]
          clear hcl hsz hbig h0 hs
          go_enter Tryz.func172, Tryz.ntmps172
          go_wp2_with fail
          go_ret2
          exact ⟨none, 0, rfl, Strs.Row.nil _, Below.refl _ _⟩
        · have hne : s ≠ ⟨#[47]⟩ := by
            rintro rfl
            have : ([47] : List UInt8) = 47 :: l := hcl
            exact hl ((List.cons_inj_right _).1 this).symm
          have hn := Byt.str_neq hne
          rw [Byt.toList_data ⟨#[47]⟩] at hn
          change (s.toList == [47]) = false at hn
          have hR : rowB s = decide ((psB l).length ≤ 32) := by
            unfold rowB
            rw [hcl, psB_len, Bool.eq_iff_iff]
            simp only [row, Bool.and_eq_true, decide_eq_true_eq, true_and]
            omega
          have hP : prB s = psB l := by unfold prB psB; rw [hcl, prt_cons _ hl]
          have HP := Lib.hid (show spB s = if rowB s = true then psB l else [] by unfold spB; rw [hP])
          have HCL := Lib.hid hcl
          rw [hR] at HP ⊢
          obtain ⟨bb, hbb⟩ : ∃ bb, decide ((psB l).length ≤ 32) = bb := ⟨_, rfl⟩
          have HBB := Lib.hid hbb
          rw [hbb] at HP ⊢
          clear hbb
          generalize spB s = Z at *
          have HSZ := Lib.hid hsz
          have hs255 : s.size ≤ 255 := by omega
          have hsp : 1 ≤ s.size := by omega
          clear hR hP hl hne hcl hsz hs
          go_enter Tryz.func172, Tryz.ntmps172
          go_wp2_with fail
          go_loopw [4, 5] (fun o i wr => ∃ j : Nat, i = .int .i64 (j : Int) ∧ 1 ≤ j ∧ j ≤ s.size ∧ Hid (Strs.Own wr w.heap.size o (fs l j)) ∧ Hid (Below w.heap.size w wr)) (fun _ i _ => s.size - (RowKit.intOf i).toNat)
          case atStart => exact ⟨1, rfl, Nat.le_refl _, hsp, Lib.hid (own_one w _ (Nat.le_refl _) ⟨#[]⟩), Lib.hid ((Below.refl _ _).alloc (Nat.le_refl _) _)⟩
          case round =>
            obtain ⟨j, rfl, hj1, hj, HO, HB⟩ := hrel
            have hbz := HB.out.size
            by_cases hlt : j < s.size
            · obtain ⟨k, hk⟩ : ∃ k, j = k + 1 := ⟨j - 1, by omega⟩
              have hkl : k < l.length := by have := HSZ.out; omega
              have hix2 := fun W => index_of s j (j : Int) rfl hlt W
              have hbc : bc s j = (l.getD k 0).toNat := by rw [hk]; exact bc_at HCL.out
              rw [hbc] at hix2
              have hfl := fs_len l j
              have hfl2 : (fs l j).length ≤ 256 := by have := HSZ.out; omega
              by_cases hc : l.getD k 0 = 47
              · have HF := Lib.hid (show fs l (j + 1) = fs l j ++ [⟨#[]⟩] by rw [hk]; exact fs_slash hkl hc)
                rw [hc] at hix2
                have hix3 : ∀ W, (Instr.index 9 (.string s) (.int .i64 (j : Int))).run Tryz.prog W = .ok (.int .u8 47) W := hix2
                clear hix2 hbc hc hix hk hfl
                go_wp2_with (with_reducible refine Strs.wpList_push _ rfl _ _ rfl w.heap.size w _ _ rfl (HO.out.alloc _) (HB.out.alloc hbz _) (Nat.le_refl _) _ _ _ rfl _ _ (heap_alloc_new _ _) [⟨#[]⟩] rfl rfl (by simp; omega) ?_; intro v3 w3 hown3 hb3 _)
                go_roundw
                case rel => exact ⟨j + 1, by go_num, by omega, by omega, Lib.hid (by rw [HF.out]; exact hown3), Lib.hid hb3⟩
                case measure => simp [RowKit.intOf]; omega
              · obtain ⟨P, x, e1, hx, e2⟩ := fs_plain HCL.out hkl hc
                rw [← hk] at e1 e2
                have g47 : (((l.getD k 0).toNat : Int) == 47) = false := by
                  rw [beq_eq_false_iff_ne]
                  exact fun q => hc (UInt8.toNat_inj.1 (by show (l.getD k 0).toNat = 47; omega))
                obtain ⟨m, hm⟩ : ∃ m, P.length = m := ⟨_, rfl⟩
                have E2 := Lib.hid e2
                have SL := Lib.hid fun y => set_last P x y hm
                have hgx := getD_last P x hm
                have hlen : (P ++ [x]).length = m + 1 := by rw [List.length_append, hm]; rfl
                rw [e1, hlen] at hfl2
                rw [e1] at HO
                obtain ⟨g, cap, rfl, hBg⟩ : ∃ g cap, u4 = .slice (some ⟨g, 0, none⟩) (m + 1) cap ∧ w.heap.size ≤ g := by
                  rcases own_shape HO.out with ⟨_, h⟩ | ⟨g, cap, h, hB⟩
                  · simp at h
                  · exact ⟨g, cap, by rw [h, hlen], hB⟩
                have HO2 : Strs.Own wr w.heap.size (.slice (some ⟨g, 0, none⟩) (P ++ [x]).length cap) (P ++ [x]) := by rw [hlen]; exact HO.out
                have cl := own_cell HO2 m (by rw [hlen]; omega)
                rw [hgx] at cl
                have fr := own_free HO2 m
                have HST := Lib.hid fun y => own_set (w := wr.drew) HO2 m y
                rw [hlen] at HST
                have c1 := fun W => run_cut s (j : Int) ((j : Int) + 1) j 1 rfl rfl (by omega) W
                have hz := cutB_size s j 1 (by omega)
                have hl254 : l.length ≤ 254 := by have := HSZ.out; omega
                have r1 := add_run x (cutB s j 1) _ rfl (by rw [ByteArray.size_append, hz]; omega)
                generalize cutB s j 1 = u at *
                generalize (x ++ u : ByteArray) = y at *
                generalize (l.getD k 0).toNat = cn at *
                have hwr : IntKind.i64.wrap ((j : Int) + 1) = (j : Int) + 1 := by rw [IntKind.wrap_i64]; omega
                have hwm : IntKind.i64.wrap (m : Int) = (m : Int) := by rw [IntKind.wrap_i64]; omega
                have hmi : (m : Int) < (m : Int) + 1 := by omega
                have hmn : m < m + 1 := by omega
                clear hix hfl e1 e2 hgx hlen HO HO2 hbc hc hk hz
                go_wp2_with fail
                go_still_tail 13, (by kernel_rfl)
                change wpList _ _ _ _ _ wr.drew
                have hc2 : wr.drew.cell? ⟨g, m, none⟩ = some (.string x) := cl
                have hf2 : wr.drew.frozen? ⟨g, m, none⟩ = false := fr
                have HB2 := Lib.hid HB.out.drew
                generalize wr.drew = w2 at *
                go_wp2_with fail
                go_roundw
                case rel => exact ⟨j + 1, by go_num, by omega, by omega, Lib.hid (by rw [E2.out, ← SL.out]; exact HST.out y), Lib.hid (below_set HB2.out hBg m _)⟩
                case measure => simp [RowKit.intOf]; omega
            · obtain rfl : j = s.size := by omega
              have HF := Lib.hid (show fs l s.size = psB l by unfold fs; rw [HSZ.out, Nat.add_sub_cancel, List.take_length])
              rw [HF.out] at HO
              rcases own_shape HO.out with ⟨_, h⟩ | ⟨g, cap, rfl, hB⟩
              · have := psB_len l
                rw [h] at this
                cases this
              · have HRW := Lib.hid HO.out.row
                clear HO
                generalize psB l = Y at *
                cases bb with
                | true =>
                  have hZ : Z = Y := HP.out
                  subst hZ
                  have h32 : Z.length ≤ 32 := of_decide_eq_true HBB.out
                  have g3 : decide ((32 : Int) < (Z.length : Int)) = false := decide_eq_false (by omega)
                  have g4 : decide (32 < Z.length) = false := decide_eq_false (by omega)
                  go_wp2_with fail
                  go_ret2
                  exact ⟨_, _, rfl, HRW.out, HB.out⟩
                | false =>
                  have hZ : Z = [] := HP.out
                  subst hZ
                  have h32 : ¬ Y.length ≤ 32 := of_decide_eq_false HBB.out
                  have g3 : decide ((32 : Int) < (Y.length : Int)) = true := decide_eq_true (by omega)
                  have g4 : decide (32 < Y.length) = true := decide_eq_true (by omega)
                  go_wp2_with fail
                  go_ret2
                  exact ⟨none, 0, rfl, Strs.Row.nil _, HB.out⟩
    · have hr : rowB s = false := by
        cases h : rowB s with
        | false => rfl
        | true =>
          obtain ⟨l', hl', _⟩ := row_iff.1 h
          rw [hcl] at hl'
          injection hl' with e1
          exact absurd e1 h47
      have hq : spB s = [] := by unfold spB; rw [hr]; rfl
      rw [hr, hq]
      have g1 : ((c.toNat : Int) != 47) = true := by
        rw [bne_iff_ne]
        intro q
        exact h47 (UInt8.toNat_inj.1 (by show c.toNat = 47; omega))
      clear hr hq hcl h47
      generalize c.toNat = cn at *
      go_enter Tryz.func172, Tryz.ntmps172
      go_wp2_with fail
      go_ret2
      exact ⟨none, 0, rfl, Strs.Row.nil _, Below.refl _ _⟩
end Go.Proofs.YtehkiojohldlgaaGreatDoor.Rou

namespace Go.Proofs.YtehkiojohldlgaaGreatDoor.Rou
open Go.RowKit Go.Lib Go.Proofs.YtehkiojohldlgaaGreatDoor.Byt

theorem ret_b {a b : Bool} (h : a = b) : Ending.returned (.bool a) = .returned (.bool b) := by rw [h]
/-- So far all right. -/
def okN (r : Bool) (L : List ByteArray) (f : Nat → ByteArray → Bool) : Nat → Bool
  | 0 => r
  | k + 1 => okN r L f k && f k (L.getD k ⟨#[]⟩)
theorem okN_iff (r : Bool) (L : List ByteArray) (f : Nat → ByteArray → Bool) (k : Nat) : okN r L f k = true ↔ r = true ∧ ∀ j, j < k → f j (L.getD j ⟨#[]⟩) = true := by
  induction k with
  | zero => exact ⟨fun h => ⟨h, fun j hj => absurd hj (Nat.not_lt_zero _)⟩, fun h => h.1⟩
  | succ k ih =>
    rw [okN, Bool.and_eq_true, ih]
    constructor
    · rintro ⟨⟨h1, h2⟩, h3⟩
      refine ⟨h1, fun j hj => ?_⟩
      by_cases q : j < k
      · exact h2 j q
      · obtain rfl : j = k := by omega
        exact h3
    · rintro ⟨h1, h2⟩
      exact ⟨⟨h1, fun j hj => h2 j (by omega)⟩, h2 k (by omega)⟩
theorem all_iff (L : List ByteArray) (f : ByteArray → Bool) : L.all f = true ↔ ∀ j, j < L.length → f (L.getD j ⟨#[]⟩) = true := ⟨fun h j hj => by rw [List.all_eq_true] at h; exact h _ (mem_at hj), all_yes⟩
theorem sp_row (s : ByteArray) (f : List ByteArray → Bool) : (rowB s && f (spB s)) = (rowB s && f (prB s)) := by
  unfold spB
  cases rowB s with
  | false => rfl
  | true => rfl
/-- May x stand at place i of n? -/
def pf (n i : Nat) (x : ByteArray) : Bool := wdB x || (decide (x = ⟨#[42]⟩) || (decide (x = ⟨#[42, 42]⟩) && decide (i + 1 = n)))
theorem ok_pat (s : ByteArray) : okN (rowB s) (spB s) (pf (spB s).length) (spB s).length = patB s := by
  rw [patB_is, ← sp_row s fun L => (innB L).all sgB, Bool.eq_iff_iff, okN_iff, Bool.and_eq_true, all_iff]
  generalize spB s = L
  refine and_congr_right fun _ => ?_
  have sgw : ∀ x, sgB x = true ↔ (wdB x = true ∨ x = ⟨#[42]⟩) := fun x => by
    unfold sgB
    rw [Bool.or_eq_true, decide_eq_true_eq, or_comm]
  have pfw : ∀ i x, pf L.length i x = true ↔ (sgB x = true ∨ (x = ⟨#[42, 42]⟩ ∧ i + 1 = L.length)) := fun i x => by
    rw [sgw]
    unfold pf
    rw [Bool.or_eq_true, Bool.or_eq_true, Bool.and_eq_true, decide_eq_true_eq, decide_eq_true_eq, decide_eq_true_eq, or_assoc]
  by_cases h0 : L = []
  · subst h0; exact ⟨fun _ j hj => absurd hj (Nat.not_lt_zero _), fun _ j hj => absurd hj (Nat.not_lt_zero _)⟩
  · have hp : 0 < L.length := List.length_pos_iff.2 h0
    have hla := last_at hp
    by_cases hs : L.getD (L.length - 1) ⟨#[]⟩ = ⟨#[42, 42]⟩
    · have hq : innB L = L.dropLast := by unfold innB; rw [hla, hs, if_pos rfl]
      have hg : ∀ j, j < L.length - 1 → L.dropLast.getD j ⟨#[]⟩ = L.getD j ⟨#[]⟩ := fun j hj => by
        rw [List.dropLast_eq_take, List.getD_eq_getElem?_getD, List.getD_eq_getElem?_getD, List.getElem?_take_of_lt hj]
      rw [hq, List.length_dropLast]
      constructor
      · intro h j hj
        rw [hg j hj]
        rcases (pfw _ _).1 (h j (by omega)) with q | ⟨_, q⟩
        · exact q
        · omega
      · intro h j hj
        rw [pfw]
        by_cases q : j < L.length - 1
        · left; have := h j q; rwa [hg j q] at this
        · right
          obtain rfl : j = L.length - 1 := by omega
          exact ⟨hs, by omega⟩
    · have hq : innB L = L := by
        unfold innB
        rw [hla, if_neg]
        intro q
        exact hs (Option.some.inj q)
      rw [hq]
      constructor
      · intro h j hj
        rcases (pfw _ _).1 (h j hj) with q | ⟨q1, q2⟩
        · exact q
        · obtain rfl : j = L.length - 1 := by omega
          exact absurd q1 hs
      · intro h j hj
        rw [pfw]; left; exact h j hj
theorem spB_size (s : ByteArray) : (spB s).length ≤ 32 ∧ ∀ x ∈ spB s, x.size ≤ 255 := by
  unfold spB
  split
  · rename_i h; exact ⟨prB_len h, prB_size h⟩
  · exact ⟨Nat.zero_le _, fun x hx => by cases hx⟩
set_option maxHeartbeats 8000000 in
set_option maxRecDepth 100000 in
theorem rpat_any (s : ByteArray) (w : World) (hs : s.size ≤ 140737488355328) :
    Calls Tryz.prog 151 #[.string s] w fun e w' => e = .returned (.bool (patB s)) ∧ Below w.heap.size w w' := by
  have HSP := Lib.hid (rsplit_any s w hs)
  rw [← ok_pat]
  obtain ⟨hn, hm⟩ := spB_size s
  have HM := Lib.hid fun k (h : k < (spB s).length) => hm _ (mem_at h)
  generalize spB s = L at *
  generalize rowB s = r at *
  clear hm
  go_enter Tryz.func151, Tryz.ntmps151
  go_wp2_with (go_at_call 172; (with_reducible refine HSP.out.mono ?_); rintro e w1 ⟨a, c, rfl, hrw, hb1⟩)
  obtain ⟨a', c', e, hc⟩ := hrw.open_
  injection e with q1 _ q3
  subst q1 q3
  have HC := Lib.hid hc
  have HB := Lib.hid hb1
  clear hc hrw hb1 HSP
  go_loop [4, 13] (fun b i => ∃ k : Nat, k ≤ L.length ∧ i = .int .i64 (k : Int) ∧ b = .bool (okN r L (pf L.length) k)) (fun _ i => L.length - (RowKit.intOf i).toNat)
  case atStart => exact ⟨0, Nat.zero_le _, rfl, rfl⟩
  case round =>
    obtain ⟨k, hk, rfl, rfl⟩ := hrel
    by_cases hlt : k < L.length
    · obtain ⟨b, off, rfl, hcl⟩ := HC.out k hlt
      have hx := HM.out k hlt
      have HW := Lib.hid fun W => rword_any (L.getD k ⟨#[]⟩) W (by omega)
      have hst : okN r L (pf L.length) (k + 1) = (okN r L (pf L.length) k && pf L.length k (L.getD k ⟨#[]⟩)) := rfl
      generalize hO : okN r L (pf L.length) (k + 1) = o1 at *
      have HO := Lib.hid hO
      generalize okN r L (pf L.length) k = o0 at *
      unfold pf at hst
      have f1 : ((L.getD k ⟨#[]⟩).toList == [42]) = decide (L.getD k ⟨#[]⟩ = ⟨#[42]⟩) := by
        have := sb_eq (x := L.getD k ⟨#[]⟩) (y := ⟨#[42]⟩)
        rwa [Byt.toList_data ⟨#[42]⟩] at this
      have f2 : ((L.getD k ⟨#[]⟩).toList == [42, 42]) = decide (L.getD k ⟨#[]⟩ = ⟨#[42, 42]⟩) := by
        have := sb_eq (x := L.getD k ⟨#[]⟩) (y := ⟨#[42, 42]⟩)
        rwa [Byt.toList_data ⟨#[42, 42]⟩] at this
      have f3 : ((k : Int) == (L.length : Int) - 1) = decide (k + 1 = L.length) := by rw [Bool.eq_iff_iff, beq_iff_eq, decide_eq_true_eq]; omega
      generalize decide (L.getD k ⟨#[]⟩ = ⟨#[42]⟩) = b1 at *
      generalize decide (L.getD k ⟨#[]⟩ = ⟨#[42, 42]⟩) = b2 at *
      generalize decide (k + 1 = L.length) = b3 at *
      generalize wdB (L.getD k ⟨#[]⟩) = q at *
      generalize L.getD k ⟨#[]⟩ = x at *
      clear hO hx
      subst hst
      cases o0 <;> cases q <;> cases b1 <;> cases b2 <;> cases b3
      all_goals
        go_wp2_with (go_at_call 173; (with_reducible refine (HW.out _).mono ?_); rintro e w2 ⟨rfl, rfl⟩)
        go_round
        case rel => exact ⟨k + 1, by omega, by go_num, by rw [HO.out]; rfl⟩
        case measure => simp [RowKit.intOf]; omega
    · obtain rfl : k = L.length := by omega
      generalize hO : okN r L (pf L.length) L.length = o at *
      have HO := Lib.hid (ret_b hO.symm)
      clear hO
      go_wp2_with fail
      go_ret
      exact ⟨HO.out, HB.out⟩

/-! ### Prefix -/
end Go.Proofs.YtehkiojohldlgaaGreatDoor.Rou
