/- Contracts of the document's escaped, Put and Join. Conditions: as each theorem states. -/
import Derived.Test.YtfefbfohenmajaaDoorPtrB
import Derived.Test.YtfefbfohenmajaaDoorUtfG1
namespace Go.Proofs.YtfefbfohenmajaaDoor.Ptr
open Go.RowKit Go.Lib Go.Proofs.YtfefbfohenmajaaDoor.Byt

/-- The first k bytes, escaped. -/
def xB (s : ByteArray) (k : Nat) : ByteArray := ⟨(eL (s.data.toList.take k)).toArray⟩
theorem xB_zero (s : ByteArray) : xB s 0 = ⟨#[]⟩ := rfl
theorem xB_all (s : ByteArray) : xB s s.size = ⟨(eL s.data.toList).toArray⟩ := by
  unfold xB
  rw [List.take_of_length_le (by simp)]
theorem app_mk (a b : List UInt8) : (⟨a.toArray⟩ : ByteArray) ++ ⟨b.toArray⟩ = ⟨(a ++ b).toArray⟩ := by
  apply ByteArray.ext
  rw [ByteArray.data_append]
  simp
theorem xB_step (s : ByteArray) (k : Nat) (h : k < s.size) : xB s (k + 1) = xB s k ++ ⟨(eB (s.data.toList.getD k 0)).toArray⟩ := by
  have h2 : k < s.data.toList.length := by simpa using h
  unfold xB
  rw [app_mk, ← eL_snoc, List.take_add_one, List.getElem?_eq_getElem h2, List.getD_eq_getElem?_getD, List.getElem?_eq_getElem h2]
  rfl
theorem xB_size (s : ByteArray) (k : Nat) : (xB s k).size ≤ 2 * s.size := by
  unfold xB
  rw [sz_mk]
  have h1 := eL_len (s.data.toList.take k)
  have h2 : (s.data.toList.take k).length ≤ s.size := by rw [List.length_take]; simp; omega
  omega
theorem cut_one (s : ByteArray) (k : Nat) (h : k < s.size) : cutB s k 1 = ⟨#[s.data.toList.getD k 0]⟩ := by
  have h2 : k < s.data.toList.length := by simpa using h
  unfold cutB
  rw [List.drop_eq_getElem_cons h2, List.getD_eq_getElem?_getD, List.getElem?_eq_getElem h2]
  rfl
set_option maxHeartbeats 1000000 in
theorem resc_any (s : ByteArray) (w : World) (hs : s.size ≤ 4000) :
    Calls Tryd.prog 32 #[.string s] w fun e w' => e = .returned (.string ⟨(eL s.data.toList).toArray⟩) ∧ w' = w := by
  have HALL := Lib.hid (xB_all s)
  have HZ := Lib.hid (xB_zero s)
  have hmx : s.size ≤ 9223372036854775807 := by omega
  go_enter Tryd.func32, Tryd.ntmps32
  go_wp2_with fail
  go_loop [3, 7] (fun o i => ∃ k : Nat, i = .int .i64 (k : Int) ∧ o = .string (xB s k) ∧ k ≤ s.size) (fun _ i => s.size - (RowKit.intOf i).toNat)
  case atStart => exact ⟨0, rfl, by rw [HZ.out], Nat.zero_le _⟩
  case round =>
    obtain ⟨k, rfl, rfl, hk⟩ := hrel
    by_cases hlt : k < s.size
    · have hst := xB_step s k hlt
      have hix := Utf.index_at s k k rfl hlt
      have hbt : Utf.bt s k = (s.data.toList.getD k 0).toNat := rfl
      have hz := xB_size s k
      have hsl : ∀ w, (Instr.slice 9 (.string s) (some (.int .i64 (k : Int))) (some (.int .i64 ((k : Int) + 1))) none).run Tryd.prog w = .ok (.string (cutB s k 1)) w := run_cut s k (k + 1) k 1 rfl rfl hlt
      have hc1 := cut_one s k hlt
      rw [hbt] at hix
      generalize s.data.toList.getD k 0 = c at *
      have hzl : (xB s k).size ≤ 8000 := by omega
      clear hz hbt
      by_cases h1 : c = 126
      · subst h1
        have e1 : (⟨(eB 126).toArray⟩ : ByteArray) = ⟨#[126, 48]⟩ := rfl
        rw [e1] at hst
        have HS := Lib.hid hst
        have hix2 : ∀ W : World, (Instr.index 9 (.string s) (.int .i64 (k : Int))).run Tryd.prog W = .ok (.int .u8 126) W := hix
        clear e1 hst hix hc1
        generalize xB s k = o at *
        go_wp2_with fail
        go_round
        case rel => exact ⟨k + 1, by go_num, by rw [HS.out], by omega⟩
        case measure => simp [RowKit.intOf]; omega
      · by_cases h2 : c = 47
        · subst h2
          have e1 : (⟨(eB 47).toArray⟩ : ByteArray) = ⟨#[126, 49]⟩ := rfl
          rw [e1] at hst
          have HS := Lib.hid hst
          have hix2 : ∀ W : World, (Instr.index 9 (.string s) (.int .i64 (k : Int))).run Tryd.prog W = .ok (.int .u8 47) W := hix
          clear e1 hst hix hc1 h1
          generalize xB s k = o at *
          go_wp2_with fail
          go_round
          case rel => exact ⟨k + 1, by go_num, by rw [HS.out], by omega⟩
          case measure => simp [RowKit.intOf]; omega
        · have e1 : (⟨(eB c).toArray⟩ : ByteArray) = cutB s k 1 := by
            unfold eB
            rw [if_neg h1, if_neg h2, hc1]
          rw [e1] at hst
          have HS := Lib.hid hst
          have hcz := cutB_size s k 1 hlt
          have g1 : ((c.toNat : Int) == 126) = false := by
            rw [beq_eq_false_iff_ne]
            exact fun q => h1 (UInt8.toNat_inj.1 (by show c.toNat = 126; omega))
          have g2 : ((c.toNat : Int) == 47) = false := by
            rw [beq_eq_false_iff_ne]
            exact fun q => h2 (UInt8.toNat_inj.1 (by show c.toNat = 47; omega))
          clear e1 hst hc1 h1 h2
          generalize xB s k = o at *
          generalize cutB s k 1 = t at *
          generalize c.toNat = cn at *
          go_wp2_with fail
          go_round
          case rel => exact ⟨k + 1, by go_num, by rw [HS.out], by omega⟩
          case measure => simp [RowKit.intOf]; omega
    · obtain rfl : k = s.size := by omega
      go_wp2_with fail
      go_ret
      exact ⟨congrArg (fun b => Ending.returned (.string b)) HALL.out, rfl⟩

/-- The text of the first k parts. -/
def yB (l : List ByteArray) (k : Nat) : ByteArray := ⟨(pB (l.take k)).toArray⟩
theorem yB_zero (l : List ByteArray) : yB l 0 = ⟨#[]⟩ := rfl
theorem yB_all (l : List ByteArray) : yB l l.length = ⟨(pB l).toArray⟩ := by unfold yB; rw [List.take_length]
theorem yB_step (l : List ByteArray) (k : Nat) (h : k < l.length) : yB l (k + 1) = yB l k ++ ((⟨#[47]⟩ : ByteArray) ++ ⟨(eL (l.getD k ⟨#[]⟩).data.toList).toArray⟩) := by
  unfold yB
  have e : (⟨#[47]⟩ : ByteArray) = ⟨[47].toArray⟩ := rfl
  rw [pB_step l k h, e, app_mk, app_mk]
  rfl
theorem yB_size (l : List ByteArray) (k : Nat) (hf : Fit l) : (yB l k).size ≤ l.length * 8001 := by
  unfold yB
  rw [sz_mk]
  refine Nat.le_trans (pB_len _ (hf.take k)) (Nat.mul_le_mul_right _ ?_)
  rw [List.length_take]; omega
set_option maxHeartbeats 1000000 in
theorem rput_any (v : Value) (l : List ByteArray) (w : World) (hr : Strs.Row w v l) (hf : Fit l) (hl : l.length ≤ 1000) :
    Calls Tryd.prog 14 #[v] w fun e w' => e = .returned (.string ⟨(pB l).toArray⟩) ∧ w' = w := by
  obtain ⟨a, cap, rfl, hc⟩ := hr.open_
  have HCell := Lib.hid hc
  have hmx : l.length ≤ 9223372036854775807 := by omega
  have HF := Lib.hid hf
  have HALL := Lib.hid (yB_all l)
  have HZ := Lib.hid (yB_zero l)
  clear hc hf hr
  go_enter Tryd.func14, Tryd.ntmps14
  go_wp2_with fail
  go_loop [3, 7] (fun o i => ∃ k : Nat, i = .int .i64 (k : Int) ∧ o = .string (yB l k) ∧ k ≤ l.length) (fun _ i => l.length - (RowKit.intOf i).toNat)
  case atStart => exact ⟨0, rfl, by rw [HZ.out], Nat.zero_le _⟩
  case round =>
    obtain ⟨k, rfl, rfl, hk⟩ := hrel
    by_cases hlt : k < l.length
    · obtain ⟨b, off, rfl, hcl⟩ := HCell.out k hlt
      have HS := Lib.hid (yB_step l k hlt)
      have hz := yB_size l k HF.out
      have hz2 : (yB l k).size ≤ 8001000 := Nat.le_trans hz (Nat.le_trans (Nat.mul_le_mul_right _ hl) (by omega))
      have hx := HF.out.at_ hlt
      have hE := eL_len (l.getD k ⟨#[]⟩).data.toList
      have hxl : (l.getD k ⟨#[]⟩).data.toList.length = (l.getD k ⟨#[]⟩).size := by simp
      have hez : (⟨(eL (l.getD k ⟨#[]⟩).data.toList).toArray⟩ : ByteArray).size ≤ 8000 := by rw [sz_mk]; omega
      have HES := Lib.hid fun (W : World) => resc_any (l.getD k ⟨#[]⟩) W hx
      clear hz hE hxl hx
      generalize l.getD k ⟨#[]⟩ = x at *
      generalize (⟨(eL x.data.toList).toArray⟩ : ByteArray) = y at *
      have hy : ((⟨#[47]⟩ : ByteArray) ++ y).size ≤ 8001 := by rw [ByteArray.size_append]; show 1 + y.size ≤ _; omega
      have p1 : ∀ W, (Op.stringOp .add ⟨#[47]⟩ y).run Tryd.prog W = .ok (.string (⟨#[47]⟩ ++ y)) W := fun W => run_string_add W _ _ (by decide) (by omega)
      have p2 : ∀ W, (Op.stringOp .add (yB l k) (⟨#[47]⟩ ++ y)).run Tryd.prog W = .ok (.string (yB l k ++ (⟨#[47]⟩ ++ y))) W := fun W => run_string_add W _ _ (by omega) (by omega)
      generalize yB l k = o at *
      go_wp2_with (go_at_call 32; (with_reducible refine (HES.out _).mono ?_); rintro e w1 ⟨rfl, rfl⟩)
      go_round
      case rel => exact ⟨k + 1, by go_num, by rw [HS.out], by omega⟩
      case measure => simp [RowKit.intOf]; omega
    · obtain rfl : k = l.length := by omega
      go_wp2_with fail
      go_ret
      exact ⟨congrArg (fun b => Ending.returned (.string b)) HALL.out, rfl⟩
theorem jB_is (s x : ByteArray) : jB s x = s ++ ⟨#[47]⟩ ++ ⟨(eL x.data.toList).toArray⟩ := by
  unfold jB
  have e : pB [x] = 47 :: (eL x.data.toList ++ []) := by rw [pB_cons]; rfl
  have e2 : (⟨#[47]⟩ : ByteArray) = ⟨[47].toArray⟩ := rfl
  rw [e, List.append_nil, ByteArray.append_assoc, e2, app_mk]
  rfl
theorem rjoin_any (s x : ByteArray) (w : World) (hs : s.size ≤ 8000000) (hx : x.size ≤ 4000) :
    Calls Tryd.prog 16 #[.string s, .string x] w fun e w' => e = .returned (.string (jB s x)) ∧ w' = w := by
  have HJ := Lib.hid (jB_is s x)
  have hE := eL_len x.data.toList
  have hxl : x.data.toList.length = x.size := by simp
  have hez : (⟨(eL x.data.toList).toArray⟩ : ByteArray).size ≤ 8000 := by rw [sz_mk]; omega
  have HES := Lib.hid fun (W : World) => resc_any x W hx
  clear hE hxl hx
  generalize (⟨(eL x.data.toList).toArray⟩ : ByteArray) = y at *
  have hy : (s ++ (⟨#[47]⟩ : ByteArray)).size ≤ 8000001 := by rw [ByteArray.size_append]; show s.size + 1 ≤ _; omega
  have p1 : ∀ W, (Op.stringOp .add s ⟨#[47]⟩).run Tryd.prog W = .ok (.string (s ++ ⟨#[47]⟩)) W := fun W => run_string_add W _ _ (by omega) (by decide)
  have p2 : ∀ W, (Op.stringOp .add (s ++ ⟨#[47]⟩) y).run Tryd.prog W = .ok (.string (s ++ ⟨#[47]⟩ ++ y)) W := fun W => run_string_add W _ _ (by omega) (by omega)
  go_enter Tryd.func16, Tryd.ntmps16
  go_wp2_with (go_at_call 32; (with_reducible refine (HES.out _).mono ?_); rintro e w1 ⟨rfl, rfl⟩)
  go_ret
  exact ⟨congrArg (fun b => Ending.returned (.string b)) HJ.out.symm, rfl⟩
end Go.Proofs.YtfefbfohenmajaaDoor.Ptr
