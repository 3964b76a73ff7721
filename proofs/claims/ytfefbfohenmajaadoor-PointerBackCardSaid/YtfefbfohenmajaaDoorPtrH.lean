/- The contract of the document's Take. Conditions: as each theorem states. -/
import Derived.Test.YtfefbfohenmajaaDoorPtrG
import Derived.Test.YtfefbfohenmajaaDoorTreQ
import Derived.StillTailTactics
namespace Go.Proofs.YtfefbfohenmajaaDoor.Ptr
open Go.RowKit Go.Lib Go.Proofs.YtfefbfohenmajaaDoor.Byt

/-- What has been taken ahead of place k. -/
def Gt (s : ByteArray) (k : Nat) (L : List ByteArray) : Prop :=
  (k = 0 ∧ L = []) ∨ ∃ (ds : List (List UInt8)) (p : List UInt8), 0 < k ∧ L = (ds ++ [p]).map bA ∧ ds.length < k ∧ p.length ≤ k ∧ tk (s.data.toList.drop k) ds p = tkP s.data.toList
def lst (L : List ByteArray) : ByteArray := L.getD (L.length - 1) ⟨#[]⟩
theorem drop_at (s : ByteArray) (k : Nat) (h : k < s.size) : s.data.toList.drop k = s.data.toList.getD k 0 :: s.data.toList.drop (k + 1) := by
  have h2 : k < s.data.toList.length := by simpa using h
  rw [List.getD_eq_getElem?_getD, List.getElem?_eq_getElem h2]
  exact List.drop_eq_getElem_cons h2
theorem Gt.len {s : ByteArray} {k : Nat} {L : List ByteArray} (h : Gt s k L) : L.length ≤ k := by
  rcases h with ⟨_, rfl⟩ | ⟨ds, p, _, rfl, h1, _⟩
  · simp
  · rw [List.length_map, List.length_append, List.length_singleton]; omega
theorem Gt.last {s : ByteArray} {k : Nat} {L : List ByteArray} (h : Gt s k L) (hk : 0 < k) : 0 < L.length ∧ (lst L).size ≤ k := by
  rcases h with ⟨h0, _⟩ | ⟨ds, p, _, rfl, _, h2, _⟩
  · omega
  · refine ⟨by simp, ?_⟩
    have e : lst ((ds ++ [p]).map bA) = bA p := by
      unfold lst
      rw [List.length_map, List.length_append, List.length_singleton, Nat.add_sub_cancel, List.map_append, List.getD_eq_getElem?_getD, List.getElem?_append_right (by simp), List.length_map, Nat.sub_self]
      rfl
    rw [e]
    show (⟨p.toArray⟩ : ByteArray).size ≤ k
    rw [sz_mk]; exact h2
theorem tkP_at {s : ByteArray} {l : List UInt8} (h : s.data.toList = 47 :: l) : tkP s.data.toList = tk l [] [] := by rw [h]; rfl
theorem Gt.slash {s : ByteArray} {k : Nat} {L : List ByteArray} (h : Gt s k L) (hk : k < s.size) (hc : s.data.toList.getD k 0 = 47) : Gt s (k + 1) (L ++ [⟨#[]⟩]) := by
  have hd := drop_at s k hk
  rw [hc] at hd
  rcases h with ⟨rfl, rfl⟩ | ⟨ds, p, h0, rfl, h1, h2, h3⟩
  · refine .inr ⟨[], [], by omega, rfl, by simp, by simp, ?_⟩
    rw [List.drop_zero] at hd
    rw [tkP_at hd]
  · refine .inr ⟨ds ++ [p], [], by omega, by simp [bA], by rw [List.length_append, List.length_singleton]; omega, by simp, ?_⟩
    rw [← h3, hd, tk_slash]
theorem last_set (ds : List (List UInt8)) (p q : List UInt8) : ((ds ++ [p]).map bA).set (((ds ++ [p]).map bA).length - 1) (bA q) = (ds ++ [q]).map bA := by
  rw [List.length_map, List.length_append, List.length_singleton, Nat.add_sub_cancel, List.map_append, List.map_append, List.set_append_right _ _ (by simp), List.length_map, Nat.sub_self]
  rfl
theorem last_is (ds : List (List UInt8)) (p : List UInt8) : lst ((ds ++ [p]).map bA) = bA p := by
  unfold lst
  rw [List.length_map, List.length_append, List.length_singleton, Nat.add_sub_cancel, List.map_append, List.getD_eq_getElem?_getD, List.getElem?_append_right (by simp), List.length_map, Nat.sub_self]
  rfl
theorem bA_app (p : List UInt8) (c : UInt8) : bA p ++ ⟨#[c]⟩ = bA (p ++ [c]) := app_mk p [c]
theorem Gt.plain {s : ByteArray} {k : Nat} {L : List ByteArray} {c : UInt8} (h : Gt s k L) (h0 : 0 < k) (hk : k < s.size) (hc : s.data.toList.getD k 0 = c) (h1 : c ≠ 126) (h2 : c ≠ 47) : Gt s (k + 1) (L.set (L.length - 1) (lst L ++ ⟨#[c]⟩)) := by
  have hd := drop_at s k hk
  rw [hc] at hd
  rcases h with ⟨q, _⟩ | ⟨ds, p, _, rfl, g1, g2, g3⟩
  · omega
  · rw [last_is, bA_app, last_set]
    refine .inr ⟨ds, p ++ [c], by omega, rfl, by omega, by rw [List.length_append, List.length_singleton]; omega, ?_⟩
    have := tk_eB c (s.data.toList.drop (k + 1)) ds p
    unfold eB at this
    rw [if_neg h1, if_neg h2] at this
    rw [← g3, hd]
    exact this.symm
theorem Gt.esc {s : ByteArray} {k : Nat} {L : List ByteArray} (h : Gt s k L) (h0 : 0 < k) (hk : k + 1 < s.size) (hc : s.data.toList.getD k 0 = 126) :
    (s.data.toList.getD (k + 1) 0 = 48 → Gt s (k + 2) (L.set (L.length - 1) (lst L ++ ⟨#[126]⟩))) ∧ (s.data.toList.getD (k + 1) 0 = 49 → Gt s (k + 2) (L.set (L.length - 1) (lst L ++ ⟨#[47]⟩))) ∧ (s.data.toList.getD (k + 1) 0 ≠ 48 → s.data.toList.getD (k + 1) 0 ≠ 49 → tkA s = none) := by
  have hd := drop_at s k (by omega)
  have hd2 := drop_at s (k + 1) hk
  rw [hc, hd2] at hd
  generalize s.data.toList.getD (k + 1) 0 = d at *
  rcases h with ⟨q, _⟩ | ⟨ds, p, _, rfl, g1, g2, g3⟩
  · omega
  · rw [hd] at g3
    refine ⟨?_, ?_, ?_⟩
    · rintro rfl
      rw [last_is, bA_app, last_set]
      refine .inr ⟨ds, p ++ [126], by omega, rfl, by omega, by rw [List.length_append, List.length_singleton]; omega, ?_⟩
      rw [← g3, tk, if_pos rfl, if_pos rfl]
    · rintro rfl
      rw [last_is, bA_app, last_set]
      refine .inr ⟨ds, p ++ [47], by omega, rfl, by omega, by rw [List.length_append, List.length_singleton]; omega, ?_⟩
      rw [← g3, tk, if_pos rfl, if_neg (by decide), if_pos rfl]
    · intro e1 e2
      unfold tkA
      rw [← g3, tk, if_pos rfl, if_neg e1, if_neg e2]
      rfl
theorem Gt.cut {s : ByteArray} {k : Nat} {L : List ByteArray} (h : Gt s k L) (h0 : 0 < k) (hk : k + 1 = s.size) (hc : s.data.toList.getD k 0 = 126) : tkA s = none := by
  have hd := drop_at s k (by omega)
  have e : s.data.toList.drop (k + 1) = [] := List.drop_eq_nil_of_le (by simp; omega)
  rw [hc, e] at hd
  rcases h with ⟨q, _⟩ | ⟨ds, p, _, rfl, g1, g2, g3⟩
  · omega
  · unfold tkA
    rw [← g3, hd, tk, if_pos rfl]
    rfl
theorem Gt.first {s : ByteArray} (hk : 0 < s.size) (hc : s.data.toList.getD 0 0 ≠ 47) : tkA s = none := by
  have hd := drop_at s 0 hk
  rw [List.drop_zero] at hd
  generalize s.data.toList.getD 0 0 = c at *
  unfold tkA
  rw [hd]
  show ((if c = 47 then tk (s.data.toList.drop (0 + 1)) [] [] else none) : Option (List (List UInt8))).map _ = none
  rw [if_neg hc]
  rfl
theorem Gt.end_ {s : ByteArray} {L : List ByteArray} (h : Gt s s.size L) : tkA s = some L := by
  have e : s.data.toList.drop s.size = [] := List.drop_eq_nil_of_le (by simp)
  rcases h with ⟨h0, rfl⟩ | ⟨ds, p, _, rfl, g1, g2, g3⟩
  · obtain rfl : s = ⟨#[]⟩ := str_none h0
    rfl
  · unfold tkA
    rw [← g3, e, tk]
    rfl
theorem sl_sign0 (w : World) : (Instr.slice 9 (.string ⟨#[126, 47]⟩) (some (.int .u8 0)) (some (.int .u8 1)) none).run Tryd.prog w = .ok (.string ⟨#[126]⟩) w := by
  rw [run_slice_string w 9 _ .u8 .u8 0 1 Tryd.underlying9 (by decide) (by decide) (by decide)]
  rfl
theorem sl_sign1 (w : World) : (Instr.slice 9 (.string ⟨#[126, 47]⟩) (some (.int .u8 1)) (some (.int .u8 2)) none).run Tryd.prog w = .ok (.string ⟨#[47]⟩) w := by
  rw [run_slice_string w 9 _ .u8 .u8 1 2 Tryd.underlying9 (by decide) (by decide) (by decide)]
  rfl
set_option maxHeartbeats 8000000 in
set_option maxRecDepth 100000 in
theorem rtake_any (s : ByteArray) (w : World) (hs : s.size ≤ 8000) :
    Calls Tryd.prog 10 #[.string s] w fun e w' => ∃ v, e = .returned (.tuple #[v, .bool (tkA s).isSome]) ∧ Strs.Row w' v ((tkA s).getD []) ∧ Below w.heap.size w w' := by
  obtain ⟨R, hR⟩ : ∃ R, tkA s = R := ⟨_, rfl⟩
  have HR := Lib.hid hR
  rw [hR]
  have hmx : s.size ≤ 9223372036854775807 := by omega
  clear hR
  go_enter Tryd.func10, Tryd.ntmps10
  go_wp2_with fail
  go_loopw [4, 5] (fun v i wr => ∃ (k : Nat) (L : List ByteArray), i = .int .i64 (k : Int) ∧ k ≤ s.size ∧ Hid (Strs.Own wr w.heap.size v L) ∧ Hid (Gt s k L) ∧ Hid (Below w.heap.size w wr)) (fun _ i _ => s.size - (RowKit.intOf i).toNat)
  case atStart => exact ⟨0, [], rfl, Nat.zero_le _, Lib.hid (Strs.Own.nil _ _), Lib.hid (.inl ⟨rfl, rfl⟩), Lib.hid (Below.refl _ _)⟩
  case round =>
    obtain ⟨k, L, rfl, hk, HO, HG, HB⟩ := hrel
    have hLk := HG.out.len
    by_cases hlt : k < s.size
    · have hix := Utf.index_at s k k rfl hlt
      have hbt : Utf.bt s k = (s.data.toList.getD k 0).toNat := rfl
      rw [hbt] at hix
      clear hbt
      obtain ⟨c, hc⟩ : ∃ c, s.data.toList.getD k 0 = c := ⟨_, rfl⟩
      rw [hc] at hix
      have HC := Lib.hid hc
      clear hc
      by_cases h47 : c = 47
      · subst h47
        have hix2 : ∀ W : World, (Instr.index 9 (.string s) (.int .i64 (k : Int))).run Tryd.prog W = .ok (.int .u8 47) W := hix
        have HS := Lib.hid (HG.out.slash hlt HC.out)
        have hsz := HB.out.size
        clear hix HG
        by_cases hk0 : k = 0
        · subst hk0
          have hix3 : ∀ W : World, (Instr.index 9 (.string s) (.int .i64 0)).run Tryd.prog W = .ok (.int .u8 47) W := hix2
          clear hix2
          go_wp2_with (with_reducible refine Strs.wpList_push _ rfl _ _ rfl w.heap.size w _ _ rfl (HO.out.alloc _) (HB.out.alloc hsz _) (Nat.le_refl _) _ _ _ rfl _ _ (heap_alloc_new _ _) [⟨#[]⟩] rfl rfl (by simp; omega) ?_; intro v3 w3 hown3 hb3 _)
          go_roundw
          case rel => exact ⟨1, _, by go_num, by omega, Lib.hid hown3, HS, Lib.hid hb3⟩
          case measure => simp [RowKit.intOf]; omega
        · have g0 : ((k : Int) == 0) = false := by rw [beq_eq_false_iff_ne]; omega
          clear hk0
          go_wp2_with (with_reducible refine Strs.wpList_push _ rfl _ _ rfl w.heap.size w _ _ rfl (HO.out.alloc _) (HB.out.alloc hsz _) (Nat.le_refl _) _ _ _ rfl _ _ (heap_alloc_new _ _) [⟨#[]⟩] rfl rfl (by simp; omega) ?_; intro v3 w3 hown3 hb3 _)
          go_roundw
          case rel => exact ⟨k + 1, _, by go_num, by omega, Lib.hid hown3, HS, Lib.hid hb3⟩
          case measure => simp [RowKit.intOf]; omega
      · have gc : ((c.toNat : Int) == 47) = false := by
          rw [beq_eq_false_iff_ne]
          exact fun q => h47 (UInt8.toNat_inj.1 (by show c.toNat = 47; omega))
        have gc2 : ((c.toNat : Int) != 47) = true := by
          rw [bne_iff_ne]
          exact fun q => h47 (UInt8.toNat_inj.1 (by show c.toNat = 47; omega))
        by_cases hk0 : k = 0
        · subst hk0
          obtain rfl : R = none := by rw [← HR.out]; exact Gt.first hlt (by rw [HC.out]; exact h47)
          have hix3 : ∀ W : World, (Instr.index 9 (.string s) (.int .i64 0)).run Tryd.prog W = .ok (.int .u8 (c.toNat : Int)) W := hix
          clear HC HG h47 hix
          generalize c.toNat = cn at *
          go_wp2_with fail
          go_ret2
          exact ⟨_, rfl, Strs.Row.nil _, HB.out⟩
        · have g0 : ((k : Int) == 0) = false := by rw [beq_eq_false_iff_ne]; omega
          have hk1 : 0 < k := by omega
          obtain ⟨hL0, hLz⟩ := HG.out.last hk1
          rcases HO.out.2 with ⟨rfl, hn⟩ | ⟨g, cap, cur, rfl, hBg, _⟩
          · omega
          have hc0 := Tre.strs_cell HO.out (L.length - 1) (by omega)
          have hf0 := Tre.strs_free HO.out (L.length - 1)
          have hlst : L.getD (L.length - 1) ⟨#[]⟩ = lst L := rfl
          rw [hlst] at hc0
          have HST := Lib.hid fun (W : World) x (h : Strs.Own W w.heap.size (.slice (some ⟨g, 0, none⟩) L.length cap) L) => Tre.strs_set h (L.length - 1) x
          obtain ⟨m, hm⟩ : ∃ m : Nat, m = L.length - 1 := ⟨_, rfl⟩
          have hLm : L.length = m + 1 := by omega
          rw [← hm] at hc0 hf0 HST
          have hsz := HB.out.size
          clear hlst hk0
          by_cases h126 : c = 126
          · subst h126
            have hix0 : ∀ W : World, (Instr.index 9 (.string s) (.int .i64 (k : Int))).run Tryd.prog W = .ok (.int .u8 126) W := hix
            have j0 : (0 : Int) ≤ (k : Int) := by omega
            by_cases hend : k + 1 = s.size
            · obtain rfl : R = none := by rw [← HR.out]; exact HG.out.cut hk1 hend HC.out
              have ge : ((k : Int) + 1 == (s.size : Int)) = true := by rw [beq_iff_eq]; omega
              clear HG HST hix gc gc2 h47 hm
              go_wp2_with fail
              go_ret2
              exact ⟨_, rfl, Strs.Row.nil _, HB.out⟩
            · have hk2 : k + 1 < s.size := by omega
              have ge : ((k : Int) + 1 == (s.size : Int)) = false := by rw [beq_eq_false_iff_ne]; omega
              have hesc := HG.out.esc hk1 hk2 HC.out
              have hixd := Utf.index_at s (k + 1) ((k : Int) + 1) (by omega) hk2
              have hbt : Utf.bt s (k + 1) = (s.data.toList.getD (k + 1) 0).toNat := rfl
              rw [hbt] at hixd
              rw [← hm] at hesc
              clear hbt hend
              generalize s.data.toList.getD (k + 1) 0 = d at *
              by_cases hd : d = 48 ∨ d = 49
              · rcases hd with rfl | rfl
                · have HP := Lib.hid (hesc.1 rfl)
                  have hixd2 : ∀ W : World, (Instr.index 9 (.string s) (.int .i64 ((k : Int) + 1))).run Tryd.prog W = .ok (.int .u8 48) W := hixd
                  have hsl := sl_sign0
                  have p1 : ∀ W, (Op.stringOp .add (lst L) ⟨#[126]⟩).run Tryd.prog W = .ok (.string (lst L ++ ⟨#[126]⟩)) W := fun W => run_string_add W _ _ (by omega) (by show 1 ≤ _; decide)
                  clear HG hesc hixd hix h47
                  generalize lst L = x at *
                  generalize (⟨#[126]⟩ : ByteArray) = y at *
                  generalize x ++ y = z at *
                  have HO2 := Lib.hid (HST.out wr.drew z HO.out)
                  have HB2 := Lib.hid (below_set HB.out.drew hBg m (.string z))
                  generalize L.length = n at *
                  subst hLm
                  clear HST hm gc gc2
                  have i0 : (0 : Int) ≤ (m : Int) := by omega
                  have i1 : (m : Int) < (m : Int) + 1 := by omega
                  have i2 : m < m + 1 := by omega
                  have i3 : (k : Int) + 1 < (s.size : Int) := by omega
                  have q1 : IntKind.u8.wrap 0 = 0 := by rw [IntKind.wrap_u8]; omega
                  have q2 : IntKind.u8.wrap 1 = 1 := by rw [IntKind.wrap_u8]; omega
                  go_wp2_with fail
                  go_still_tail 16, (by kernel_rfl)
                  change wpList _ _ _ _ _ wr.drew
                  have hf2 : wr.drew.frozen? ⟨g, m, none⟩ = false := hf0
                  have hc2 : wr.drew.cell? ⟨g, m, none⟩ = some (.string x) := hc0
                  generalize wr.drew = w4 at *
                  go_wp2_with fail
                  go_roundw
                  case rel => exact ⟨k + 2, _, by go_num, by omega, HO2, HP, HB2⟩
                  case measure => simp [RowKit.intOf]; omega
                · have HP := Lib.hid (hesc.2.1 rfl)
                  have hixd2 : ∀ W : World, (Instr.index 9 (.string s) (.int .i64 ((k : Int) + 1))).run Tryd.prog W = .ok (.int .u8 49) W := hixd
                  have hsl := sl_sign1
                  have p1 : ∀ W, (Op.stringOp .add (lst L) ⟨#[47]⟩).run Tryd.prog W = .ok (.string (lst L ++ ⟨#[47]⟩)) W := fun W => run_string_add W _ _ (by omega) (by show 1 ≤ _; decide)
                  clear HG hesc hixd hix h47
                  generalize lst L = x at *
                  generalize (⟨#[47]⟩ : ByteArray) = y at *
                  generalize x ++ y = z at *
                  have HO2 := Lib.hid (HST.out wr.drew z HO.out)
                  have HB2 := Lib.hid (below_set HB.out.drew hBg m (.string z))
                  generalize L.length = n at *
                  subst hLm
                  clear HST hm gc gc2
                  have i0 : (0 : Int) ≤ (m : Int) := by omega
                  have i1 : (m : Int) < (m : Int) + 1 := by omega
                  have i2 : m < m + 1 := by omega
                  have i3 : (k : Int) + 1 < (s.size : Int) := by omega
                  have q1 : IntKind.u8.wrap 1 = 1 := by rw [IntKind.wrap_u8]; omega
                  have q2 : IntKind.u8.wrap 2 = 2 := by rw [IntKind.wrap_u8]; omega
                  go_wp2_with fail
                  go_still_tail 16, (by kernel_rfl)
                  change wpList _ _ _ _ _ wr.drew
                  have hf2 : wr.drew.frozen? ⟨g, m, none⟩ = false := hf0
                  have hc2 : wr.drew.cell? ⟨g, m, none⟩ = some (.string x) := hc0
                  generalize wr.drew = w4 at *
                  go_wp2_with fail
                  go_roundw
                  case rel => exact ⟨k + 2, _, by go_num, by omega, HO2, HP, HB2⟩
                  case measure => simp [RowKit.intOf]; omega
              · obtain rfl : R = none := by rw [← HR.out]; exact hesc.2.2 (fun e => hd (.inl e)) (fun e => hd (.inr e))
                have d0 : ((d.toNat : Int) != 48) = true := by
                  rw [bne_iff_ne]
                  exact fun q => hd (.inl (UInt8.toNat_inj.1 (by show d.toNat = 48; omega)))
                have d1 : ((d.toNat : Int) != 49) = true := by
                  rw [bne_iff_ne]
                  exact fun q => hd (.inr (UInt8.toNat_inj.1 (by show d.toNat = 49; omega)))
                clear HG HST hesc hix gc gc2 h47 hd hm
                generalize d.toNat = dn at *
                go_wp2_with fail
                go_ret2
                exact ⟨_, rfl, Strs.Row.nil _, HB.out⟩
          · have hp := HG.out.plain hk1 hlt HC.out h126 h47
            rw [← hm] at hp
            have HP := Lib.hid hp
            have hsl : ∀ w, (Instr.slice 9 (.string s) (some (.int .i64 (k : Int))) (some (.int .i64 ((k : Int) + 1))) none).run Tryd.prog w = .ok (.string (cutB s k 1)) w := run_cut s k (k + 1) k 1 rfl rfl hlt
            rw [cut_one s k hlt, HC.out] at hsl
            have gt : ((c.toNat : Int) != 126) = true := by
              rw [bne_iff_ne]
              exact fun q => h126 (UInt8.toNat_inj.1 (by show c.toNat = 126; omega))
            have p1 : ∀ W, (Op.stringOp .add (lst L) ⟨#[c]⟩).run Tryd.prog W = .ok (.string (lst L ++ ⟨#[c]⟩)) W := fun W => run_string_add W _ _ (by omega) (by show 1 ≤ _; decide)
            clear HG hp h126 h47 HC
            generalize c.toNat = cn at *
            generalize lst L = x at *
            generalize (⟨#[c]⟩ : ByteArray) = y at *
            generalize x ++ y = z at *
            have HO2 := Lib.hid (HST.out wr.drew z HO.out)
            have HB2 := Lib.hid (below_set HB.out.drew hBg m (.string z))
            have HLm := Lib.hid hLm
            generalize L.length = n at *
            subst hLm
            clear HST hm HLm
            have i0 : (0 : Int) ≤ (m : Int) := by omega
            have i1 : (m : Int) < (m : Int) + 1 := by omega
            have i2 : m < m + 1 := by omega
            have i3 : (k : Int) < (s.size : Int) := by omega
            have i4 : IntKind.i64.wrap ((k : Int) + 1) = (k : Int) + 1 := by rw [IntKind.wrap_i64]; omega
            go_wp2_with fail
            go_still_tail 11, (by kernel_rfl)
            change wpList _ _ _ _ _ wr.drew
            have hf2 : wr.drew.frozen? ⟨g, m, none⟩ = false := hf0
            have hc2 : wr.drew.cell? ⟨g, m, none⟩ = some (.string x) := hc0
            generalize wr.drew = w4 at *
            go_wp2_with fail
            go_roundw
            case rel => exact ⟨k + 1, _, by go_num, by omega, HO2, HP, HB2⟩
            case measure => simp [RowKit.intOf]; omega
    · obtain rfl : k = s.size := by omega
      obtain rfl : R = some L := by rw [← HR.out]; exact HG.out.end_
      clear HG
      go_wp2_with fail
      go_ret2
      exact ⟨_, rfl, HO.out.row, HB.out⟩
end Go.Proofs.YtfefbfohenmajaaDoor.Ptr
