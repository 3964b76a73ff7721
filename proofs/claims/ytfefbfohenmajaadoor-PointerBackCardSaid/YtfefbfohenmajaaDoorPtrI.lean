/- The contract of the document's place. Conditions: as each theorem states. -/
import Derived.Test.YtfefbfohenmajaaDoorPtrIx
import Derived.Test.YtfefbfohenmajaaDoorUtfG1
namespace Go.Proofs.YtfefbfohenmajaaDoor.Ptr
open Go.RowKit Go.Lib Go.Proofs.YtfefbfohenmajaaDoor.Byt
open Go.Proofs.YtfefbfohenmajaaDoor.Lx (vl hd allD)

theorem take_step (s : ByteArray) (k : Nat) (h : k < s.size) : s.data.toList.take (k + 1) = s.data.toList.take k ++ [s.data.toList.getD k 0] := by
  have h2 : k < s.data.toList.length := by simpa using h
  rw [List.take_add_one, List.getElem?_eq_getElem h2, List.getD_eq_getElem?_getD, List.getElem?_eq_getElem h2]
  rfl
/-- The number that the first k bytes spell, if they are digits. -/
def nV (s : ByteArray) (k : Nat) : Nat := vl (s.data.toList.take k)
theorem nV_step (s : ByteArray) (k : Nat) (h : k < s.size) : nV s (k + 1) = 10 * nV s k + ((s.data.toList.getD k 0).toNat - 48) := by
  unfold nV
  rw [take_step s k h, Lx.vl_snoc]
theorem nV_lt (s : ByteArray) : ∀ k, k ≤ s.size → allD (s.data.toList.take k) → nV s k < 10 ^ k
  | 0, _, _ => by show 0 < 1; decide
  | k + 1, h, ha => by
    rw [take_step s k (by omega)] at ha
    have ih := nV_lt s k (by omega) fun d hd => ha d (List.mem_append_left _ hd)
    have hc : Lx.dg (s.data.toList.getD k 0).toNat = true := ha _ (by simp)
    unfold Lx.dg at hc
    rw [decide_eq_true_eq] at hc
    rw [nV_step s k (by omega), Nat.pow_succ]
    omega
set_option maxHeartbeats 2000000 in
theorem rplace_any (s : ByteArray) (e : Nat) (w : World) (hs : s.size ≤ 8000000) (_he : e ≤ 9223372036854775807) :
    Calls Tryd.prog 28 #[.string s, .int .i64 (e : Int)] w fun x w' => (∃ n : Int, x = .returned (.tuple #[.int .i64 n, .bool (plc s.data.toList e).isSome]) ∧ ∀ m, plc s.data.toList e = some m → n = (m : Int)) ∧ w' = w := by
  have hl : s.data.toList.length = s.size := by simp
  by_cases h0 : s.size = 0
  · obtain rfl : s = ⟨#[]⟩ := str_none h0
    have hp : plc (⟨#[]⟩ : ByteArray).data.toList e = none := plc_no (fun h => h.1 rfl) e
    rw [hp]
    go_enter Tryd.func28, Tryd.ntmps28
    go_wp2_with fail
    go_ret2
    first | exact ⟨⟨_, rfl, fun m q => (by cases q)⟩, rfl⟩ | exact ⟨⟨_, rfl⟩, rfl⟩ | exact ⟨rfl, rfl⟩
  have hne := str_some (s := s) (by omega)
  have hnl : s.data.toList ≠ [] := fun q => by rw [q] at hl; simp at hl; omega
  by_cases h9 : 9 < s.size
  · have hp : plc s.data.toList e = none := plc_no (fun h => by have := h.2.1; omega) e
    rw [hp]
    have g9 : decide ((9 : Int) < (s.size : Int)) = true := decide_eq_true (by omega)
    have g9n : decide (9 < s.size) = true := decide_eq_true h9
    clear hp hl hnl h9
    go_enter Tryd.func28, Tryd.ntmps28
    go_wp2_with fail
    go_ret2
    first | exact ⟨⟨_, rfl, fun m q => (by cases q)⟩, rfl⟩ | exact ⟨⟨_, rfl⟩, rfl⟩ | exact ⟨rfl, rfl⟩
  have g9 : decide ((9 : Int) < (s.size : Int)) = false := decide_eq_false (by omega)
  have g9n : decide (9 < s.size) = false := decide_eq_false h9
  have hix0 : ∀ W : World, (Instr.index 9 (.string s) (.int .i64 0)).run Tryd.prog W = .ok (.int .u8 (Utf.bt s 0 : Int)) W := Utf.index_at s 0 0 rfl (by omega)
  have hhd : hd s.data.toList = Utf.bt s 0 := rfl
  by_cases hz : 1 < s.size ∧ Utf.bt s 0 = 48
  · have hp : plc s.data.toList e = none := plc_no (fun h => h.2.2.1 ⟨by omega, by rw [hhd]; exact hz.2⟩) e
    rw [hp]
    have g1 : decide ((1 : Int) < (s.size : Int)) = true := decide_eq_true (by omega)
    have g1n : decide (1 < s.size) = true := decide_eq_true hz.1
    rw [hz.2] at hix0
    have hix1 : ∀ W : World, (Instr.index 9 (.string s) (.int .i64 0)).run Tryd.prog W = .ok (.int .u8 48) W := hix0
    clear hp hl hnl h9 hz hhd hix0
    go_enter Tryd.func28, Tryd.ntmps28
    go_wp2_with fail
    go_ret2
    first | exact ⟨⟨_, rfl, fun m q => (by cases q)⟩, rfl⟩ | exact ⟨⟨_, rfl⟩, rfl⟩ | exact ⟨rfl, rfl⟩
  have HD : Hid (allD s.data.toList → dgP s.data.toList) := Lib.hid fun h => ⟨hnl, by omega, fun q => hz ⟨by omega, by rw [← hhd]; exact q.2⟩, h⟩
  have hg : decide ((1 : Int) < (s.size : Int)) = false ∨ (decide ((1 : Int) < (s.size : Int)) = true ∧ ((Utf.bt s 0 : Int) == 48) = false) := by
    by_cases q : 1 < s.size
    · refine .inr ⟨decide_eq_true (by omega), ?_⟩
      rw [beq_eq_false_iff_ne]
      exact fun r => hz ⟨q, by omega⟩
    · exact .inl (decide_eq_false (by omega))
  obtain ⟨P, hP⟩ : ∃ P, plc s.data.toList e = P := ⟨_, rfl⟩
  have HP := Lib.hid hP
  rw [hP]
  have hmx : s.size ≤ 9223372036854775807 := by omega
  have hsz9 : s.size ≤ 9 := by omega
  generalize hb0 : Utf.bt s 0 = b0 at *
  clear hz hhd hb0 hP hl hnl h9
  rcases hg with gg | ⟨gg, gg2⟩
  all_goals
    have ggn : decide (1 < s.size) = decide ((1 : Int) < (s.size : Int)) := by
      rw [Bool.eq_iff_iff, decide_eq_true_eq, decide_eq_true_eq]; omega
    rw [gg] at ggn
    go_enter Tryd.func28, Tryd.ntmps28
    go_wp2_with fail
    go_loop [6, 27] (fun n i => ∃ k : Nat, i = .int .i64 (k : Int) ∧ n = .int .i64 (nV s k : Int) ∧ k ≤ s.size ∧ Hid (allD (s.data.toList.take k))) (fun _ i => s.size - (RowKit.intOf i).toNat)
    case atStart => exact ⟨0, rfl, rfl, Nat.zero_le _, Lib.hid fun d hd => by cases hd⟩
    case round =>
      obtain ⟨k, rfl, rfl, hk, HA⟩ := hrel
      have hlt10 := nV_lt s k hk HA.out
      have hpw : (10 : Nat) ^ k ≤ 1000000000 := Nat.le_trans (Nat.pow_le_pow_right (by omega) (show k ≤ 9 by omega)) (by decide)
      have hb : nV s k < 1000000000 := by omega
      clear hlt10 hpw
      by_cases hlt : k < s.size
      · have hix := Utf.index_at s k k rfl hlt
        have hbt : Utf.bt s k = (s.data.toList.getD k 0).toNat := rfl
        have HST := Lib.hid (nV_step s k hlt)
        have HTK := Lib.hid (take_step s k hlt)
        have hc256 := UInt8.toNat_lt (s.data.toList.getD k 0)
        rw [hbt] at hix
        clear hbt
        by_cases hdg : Lx.dg (s.data.toList.getD k 0).toNat = true
        · have HA2 : Hid (allD (s.data.toList.take (k + 1))) := Lib.hid (by
            rw [HTK.out]
            intro d hd
            rcases List.mem_append.1 hd with hd | hd
            · exact HA.out d hd
            · rw [List.mem_singleton.1 hd]; exact hdg)
          unfold Lx.dg at hdg
          rw [decide_eq_true_eq] at hdg
          clear HTK HA
          generalize (s.data.toList.getD k 0).toNat = c at *
          generalize nV s k = n at *
          have c1 : decide ((c : Int) < 48) = false := decide_eq_false (by omega)
          have c2 : decide ((57 : Int) < (c : Int)) = false := decide_eq_false (by omega)
          go_wp2_with fail
          go_round
          case rel => exact ⟨k + 1, by go_num, by rw [HST.out]; go_num, by omega, HA2⟩
          case measure => simp [RowKit.intOf]; omega
        · have hno : ¬ dgP s.data.toList := fun h => hdg (h.2.2.2 _ (by
            have h2 : k < s.data.toList.length := by simpa using hlt
            rw [List.getD_eq_getElem?_getD, List.getElem?_eq_getElem h2]
            exact List.getElem_mem h2))
          obtain rfl : P = none := by rw [← HP.out]; exact plc_no hno e
          unfold Lx.dg at hdg
          rw [decide_eq_true_eq] at hdg
          clear HTK HA HST hno
          generalize (s.data.toList.getD k 0).toNat = c at *
          generalize nV s k = n at *
          have hcc : (decide ((c : Int) < 48) = true) ∨ (decide ((c : Int) < 48) = false ∧ decide ((57 : Int) < (c : Int)) = true) := by
            by_cases q : c < 48
            · exact .inl (decide_eq_true (by omega))
            · exact .inr ⟨decide_eq_false (by omega), decide_eq_true (by omega)⟩
          clear hdg
          rcases hcc with c1 | ⟨c1, c2⟩
          all_goals
            go_wp2_with fail
            go_ret2
            first | exact ⟨⟨_, rfl, fun m q => (by cases q)⟩, rfl⟩ | exact ⟨⟨_, rfl⟩, rfl⟩ | exact ⟨rfl, rfl⟩
      · obtain rfl : k = s.size := by omega
        have hd := HD.out (by
          have := HA.out
          rwa [List.take_of_length_le (by simp)] at this)
        have hpl : P = if nV s s.size < e then some (nV s s.size) else none := by
          rw [← HP.out, plc_yes hd]
          unfold nV
          rw [List.take_of_length_le (by simp)]
        clear HA HP HD hd
        generalize nV s s.size = n at *
        by_cases hne2 : n < e
        · rw [if_pos hne2] at hpl
          subst hpl
          have g : decide ((n : Int) < (e : Int)) = true := decide_eq_true (by omega)
          have gn : decide (n < e) = true := decide_eq_true hne2
          go_wp2_with fail
          go_ret2
          exact ⟨rfl, rfl⟩
        · rw [if_neg hne2] at hpl
          subst hpl
          have g : decide ((n : Int) < (e : Int)) = false := decide_eq_false (by omega)
          have gn : decide (n < e) = false := decide_eq_false hne2
          go_wp2_with fail
          go_ret2
          first | exact ⟨⟨_, rfl, fun m q => (by cases q)⟩, rfl⟩ | exact ⟨⟨_, rfl⟩, rfl⟩ | exact ⟨rfl, rfl⟩
end Go.Proofs.YtfefbfohenmajaaDoor.Ptr
