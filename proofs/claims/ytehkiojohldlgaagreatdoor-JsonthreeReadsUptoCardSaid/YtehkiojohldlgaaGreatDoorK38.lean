/- Texts of my own, packed: JsnJ, JsnV. Conditions: as each theorem states. -/
import Derived.Laws.Concat
import Derived.Test.YtehkiojohldlgaaGreatDoorK08
import Derived.Test.YtehkiojohldlgaaGreatDoorK26
import Derived.Test.YtehkiojohldlgaaGreatDoorK33
import Derived.Test.YtehkiojohldlgaaGreatDoorK37
namespace Go.Proofs.YtehkiojohldlgaaGreatDoor.Ptr
open Go.RowKit Go.Lib
open Go.RowKit Go.Lib Go.Proofs.YtehkiojohldlgaaGreatDoor.Byt
set_option maxHeartbeats 1000000 in
theorem resc2_any (s : ByteArray) (w : World) (hs : s.size ≤ 140737488355328) :
    Calls Tryz.prog 76 #[.string s] w fun e w' => e = .returned (.string ⟨(eL s.data.toList).toArray⟩) ∧ w' = w := by
  have HALL := Lib.hid (xB_all s)
  have HZ := Lib.hid (xB_zero s)
  have hmx : s.size ≤ 9223372036854775807 := by omega
  go_enter Tryz.func76, Tryz.ntmps76
  go_wp2_with fail
  go_loop [3, 7] (fun o i => ∃ k : Nat, i = .int .i64 (k : Int) ∧ o = .string (xB s k) ∧ k ≤ s.size) (fun _ i => s.size - (RowKit.intOf i).toNat)
  case atStart => exact ⟨0, rfl, by rw [HZ.out], Nat.zero_le _⟩
  case round =>
    obtain ⟨k, rfl, rfl, hk⟩ := hrel
    by_cases hlt : k < s.size
    · have hst := xB_step s k hlt
      have hix := Utf.index_at s k k rfl hlt
      have hbt : Utf.bt s k = (s.data.toList.getD k 0).toNat := rfl
      have hz := xB_size s k
      have hsl : ∀ w, (Instr.slice 9 (.string s) (some (.int .i64 (k : Int))) (some (.int .i64 ((k : Int) + 1))) none).run Tryz.prog w = .ok (.string (cutB s k 1)) w := run_cut s k (k + 1) k 1 rfl rfl hlt
      have hc1 := cut_one s k hlt
      rw [hbt] at hix
      generalize s.data.toList.getD k 0 = c at *
      have hzl : (xB s k).size ≤ 281474976710656 := by omega
      clear hz hbt
      by_cases h1 : c = 126
      · subst h1
        have e1 : (⟨(eB 126).toArray⟩ : ByteArray) = ⟨#[126, 48]⟩ := rfl
        rw [e1] at hst
        have HS := Lib.hid hst
        have hix2 : ∀ W : World, (Instr.index 9 (.string s) (.int .i64 (k : Int))).run Tryz.prog W = .ok (.int .u8 126) W := hix
        clear e1 hst hix hc1
        generalize xB s k = o at *
        have p1 : ∀ W, (Op.stringOp .add o ⟨#[126, 48]⟩).run Tryz.prog W = .ok (.string (o ++ ⟨#[126, 48]⟩)) W := fun W => run_string_add_sum W o ⟨#[126, 48]⟩ (by have : (⟨#[126, 48]⟩ : ByteArray).size = 2 := rfl; omega)
        go_wp2_with fail
        go_round
        case rel => exact ⟨k + 1, by go_num, by rw [HS.out], by omega⟩
        case measure => simp [RowKit.intOf]; omega
      · by_cases h2 : c = 47
        · subst h2
          have e1 : (⟨(eB 47).toArray⟩ : ByteArray) = ⟨#[126, 49]⟩ := rfl
          rw [e1] at hst
          have HS := Lib.hid hst
          have hix2 : ∀ W : World, (Instr.index 9 (.string s) (.int .i64 (k : Int))).run Tryz.prog W = .ok (.int .u8 47) W := hix
          clear e1 hst hix hc1 h1
          generalize xB s k = o at *
          have p1 : ∀ W, (Op.stringOp .add o ⟨#[126, 49]⟩).run Tryz.prog W = .ok (.string (o ++ ⟨#[126, 49]⟩)) W := fun W => run_string_add_sum W o ⟨#[126, 49]⟩ (by have : (⟨#[126, 49]⟩ : ByteArray).size = 2 := rfl; omega)
          go_wp2_with fail
          go_round
          case rel => exact ⟨k + 1, by go_num, by rw [HS.out], by omega⟩
          case measure => simp [RowKit.intOf]; omega
        · have e1 : (⟨(eB c).toArray⟩ : ByteArray) = cutB s k 1 := by
            unfold eB
            rw [if_neg h1, if_neg h2, hc1]
          rw [e1] at hst
          have HS := Lib.hid hst
          have hcz := cutB_size s k 1 hlt
          have g1 : ((c.toNat : Int) == 126) = false := by
            rw [beq_eq_false_iff_ne]
            exact fun q => h1 (UInt8.toNat_inj.1 (by show c.toNat = 126; omega))
          have g2 : ((c.toNat : Int) == 47) = false := by
            rw [beq_eq_false_iff_ne]
            exact fun q => h2 (UInt8.toNat_inj.1 (by show c.toNat = 47; omega))
          clear e1 hst hc1 h1 h2
          generalize xB s k = o at *
          generalize cutB s k 1 = t at *
          generalize c.toNat = cn at *
          have p1 : ∀ W, (Op.stringOp .add o t).run Tryz.prog W = .ok (.string (o ++ t)) W := fun W => run_string_add_sum W o t (by omega)
          go_wp2_with fail
          go_round
          case rel => exact ⟨k + 1, by go_num, by rw [HS.out], by omega⟩
          case measure => simp [RowKit.intOf]; omega
    · obtain rfl : k = s.size := by omega
      go_wp2_with fail
      go_ret
      exact ⟨congrArg (fun b => Ending.returned (.string b)) HALL.out, rfl⟩

theorem rjoin2_any (s x : ByteArray) (w : World) (hs : s.size ≤ 140737488355328) (hx : x.size ≤ 140737488355328) :
    Calls Tryz.prog 37 #[.string s, .string x] w fun e w' => e = .returned (.string (jB s x)) ∧ w' = w := by
  have HJ := Lib.hid (jB_is s x)
  have hE := eL_len x.data.toList
  have hxl : x.data.toList.length = x.size := by simp
  have hez : (⟨(eL x.data.toList).toArray⟩ : ByteArray).size ≤ 281474976710656 := by rw [sz_mk]; omega
  have HES := Lib.hid fun (W : World) => resc2_any x W hx
  clear hE hxl hx
  generalize (⟨(eL x.data.toList).toArray⟩ : ByteArray) = y at *
  have hy : (s ++ (⟨#[47]⟩ : ByteArray)).size ≤ 140737488355329 := by rw [ByteArray.size_append]; show s.size + 1 ≤ _; omega
  have p1 : ∀ W, (Op.stringOp .add s ⟨#[47]⟩).run Tryz.prog W = .ok (.string (s ++ ⟨#[47]⟩)) W := fun W => run_string_add_sum W _ _ (by have : (⟨#[47]⟩ : ByteArray).size = 1 := rfl; omega)
  have p2 : ∀ W, (Op.stringOp .add (s ++ ⟨#[47]⟩) y).run Tryz.prog W = .ok (.string (s ++ ⟨#[47]⟩ ++ y)) W := fun W => run_string_add_sum W _ _ (by omega)
  go_enter Tryz.func37, Tryz.ntmps37
  go_wp2_with (go_at_call 76; (with_reducible refine (HES.out _).mono ?_); rintro e w1 ⟨rfl, rfl⟩)
  go_ret
  exact ⟨congrArg (fun b => Ending.returned (.string b)) HJ.out.symm, rfl⟩
end Go.Proofs.YtehkiojohldlgaaGreatDoor.Ptr
namespace Go.Proofs.YtehkiojohldlgaaGreatDoor.Jsn
open Go.Proofs.YtehkiojohldlgaaGreatDoor.Tre (Vt V0 find OkT OkT_iff okV OkT_find)
open Go.Proofs.YtehkiojohldlgaaGreatDoor.Rul (Ru zero fst fst_yes fst_no fst_zero)

theorem OkT_s {v : Vt} (h : OkT v) : v.s.size ≤ 140737488351232 := ((OkT_iff v).1 h).1.2.2.1
theorem tx_size {v : Vt} (h : OkT v) (s : ByteArray) : (tx v s).1.size ≤ 140737488351232 := by
  have hf := OkT_find h s
  unfold tx
  cases hq : find v s with
  | none => exact Nat.zero_le _
  | some x =>
    rw [hq] at hf
    show (if x.k = 3 then (x.s, (0 : Int)) else (⟨#[]⟩, 15)).1.size ≤ _
    split
    · exact OkT_s hf
    · exact Nat.zero_le _
theorem rdR_size {v : Vt} (h : OkT v) : (rdR v).id.size ≤ 140737488355328 ∧ (rdR v).no.size ≤ 140737488355328 ∧ (rdR v).ro.size ≤ 140737488355328 :=
  ⟨Nat.le_trans (tx_size h _) (by decide), Nat.le_trans (tx_size h _) (by decide), Nat.le_trans (tx_size h _) (by decide)⟩
theorem fst_mem : ∀ l : List (ByteArray × Int), (fst l).1 = ⟨#[]⟩ ∨ ∃ x ∈ l, (fst l).1 = x.1
  | [] => .inl rfl
  | (p, e) :: l => by
    by_cases h : e = 0
    · rw [fst_no _ h]
      rcases fst_mem l with k | ⟨x, hx, k⟩
      · exact .inl k
      · exact .inr ⟨x, List.mem_cons_of_mem _ hx, k⟩
    · rw [fst_yes _ h]
      exact .inr ⟨(p, e), List.mem_cons_self, rfl⟩
theorem nm_size : ∀ i, i < 13 → (nm i).size ≤ 8 := by decide
theorem rdE_size {v : Vt} (h : OkT v) : (rdE v).1.size ≤ 140737488351232 := by
  have hns := ((OkT_iff v).1 h).1.2.2.2.2.2
  unfold rdE
  cases hu : unk v.ns all with
  | some s => exact hns s (List.mem_of_find?_eq_some hu)
  | none =>
    show (fst (rdL v)).1.size ≤ _
    rcases fst_mem (rdL v) with k | ⟨x, hx, k⟩
    · rw [k]; exact Nat.zero_le _
    · rw [k]
      have key : ∃ i, i < 13 ∧ x.1 = nm i := by
        unfold rdL at hx
        simp only [List.mem_cons, List.mem_map] at hx
        rcases hx with rfl | rfl | rfl | rfl | rfl | ⟨i, hi, rfl⟩
        · exact ⟨0, by decide, rfl⟩
        · exact ⟨1, by decide, rfl⟩
        · exact ⟨2, by decide, rfl⟩
        · exact ⟨3, by decide, rfl⟩
        · exact ⟨4, by decide, rfl⟩
        · exact ⟨i, by have : i < 13 := by { simp only [List.not_mem_nil, or_false] at hi; omega }; exact this, rfl⟩
      obtain ⟨i, hi, e⟩ := key
      rw [e]
      exact Nat.le_trans (nm_size i hi) (by decide)
theorem gv_ok {v : Vt} (h : OkT v) {i : Nat} (hi : i < v.l.length) : OkT (gv v.l i) := by
  rw [gv_at hi]
  exact ((OkT_iff v).1 h).2 _ (List.getElem_mem hi)
/-- What is wrong with an item, by what is read of it. -/
theorem bad_X (i : Nat) (x : Vt) (p : ByteArray) (E : Int) (h : (if x.k = 5 then rdE x else (⟨#[]⟩, 15)) = (p, E)) :
    (E = 0 → bad i x = (⟨#[]⟩, 0) ∧ x.k = 5) ∧ (E ≠ 0 → x.k = 5 → bad i x = (Ptr.jB (atP i) p, E)) ∧ (E ≠ 0 → x.k ≠ 5 → bad i x = (atP i, E)) := by
  by_cases hk : x.k = 5
  · rw [if_pos hk] at h
    refine ⟨fun e => ⟨?_, hk⟩, fun e _ => ?_, fun _ k => absurd hk k⟩
    · unfold bad; rw [if_pos hk, h, if_pos e]
    · unfold bad; rw [if_pos hk, h, if_neg e]; rfl
  · rw [if_neg hk] at h
    injection h with h1 h2
    refine ⟨fun e => by rw [← h2] at e; exact absurd e (by decide), fun _ k => absurd k hk, fun _ _ => ?_⟩
    unfold bad; rw [if_neg hk, h2]
end Go.Proofs.YtehkiojohldlgaaGreatDoor.Jsn

namespace Go.Proofs.YtehkiojohldlgaaGreatDoor.Jsn
open Go.RowKit Go.Lib
open Go.Proofs.YtehkiojohldlgaaGreatDoor.Tre (Vt V0 find OkT OkT_iff OkT_find)
open Go.Proofs.YtehkiojohldlgaaGreatDoor.Rul (Ru fst fst_yes fst_no fst_zero fst_ok kO)

/-! ### a member -/
def mb (v : Vt) (s : ByteArray) (k : Int) : Vt × Int := match find v s with
  | none => (V0, 16)
  | some x => if x.k = k then (x, 0) else (V0, 15)
theorem mb_none {v : Vt} {s : ByteArray} (k : Int) (h : find v s = none) : mb v s k = (V0, 16) := by unfold mb; rw [h]
theorem mb_some {v x : Vt} {s : ByteArray} (k : Int) (h : find v s = some x) : mb v s k = if x.k = k then (x, 0) else (V0, 15) := by unfold mb; rw [h]
theorem tx_mb (v : Vt) (s : ByteArray) : tx v s = ((mb v s 3).1.s, (mb v s 3).2) := by
  unfold tx mb
  cases find v s with
  | none => rfl
  | some x =>
    show (if x.k = 3 then (x.s, (0 : Int)) else (⟨#[]⟩, 15)) = ((if x.k = 3 then (x, (0 : Int)) else (V0, 15)).1.s, (if x.k = 3 then (x, (0 : Int)) else (V0, 15)).2)
    split <;> rfl
theorem nu_mb (v : Vt) (s : ByteArray) : nu v s = ((mb v s 2).1.n, (mb v s 2).2) := by
  unfold nu mb
  cases find v s with
  | none => rfl
  | some x =>
    show (if x.k = 2 then (x.n, (0 : Int)) else (0, 15)) = ((if x.k = 2 then (x, (0 : Int)) else (V0, 15)).1.n, (if x.k = 2 then (x, (0 : Int)) else (V0, 15)).2)
    split <;> rfl
theorem mb_e (v : Vt) (s : ByteArray) (k : Int) : (mb v s k).2 = 0 ∨ (mb v s k).2 = 15 ∨ (mb v s k).2 = 16 := by
  unfold mb
  cases find v s with
  | none => exact .inr (.inr rfl)
  | some x =>
    show (if x.k = k then (x, (0 : Int)) else (V0, 15)).2 = 0 ∨ (if x.k = k then (x, (0 : Int)) else (V0, 15)).2 = 15 ∨ (if x.k = k then (x, (0 : Int)) else (V0, 15)).2 = 16
    split
    · exact .inl rfl
    · exact .inr (.inl rfl)
theorem tx_e (v : Vt) (s : ByteArray) : (tx v s).2 = 0 ∨ (tx v s).2 = 15 ∨ (tx v s).2 = 16 := by rw [tx_mb]; exact mb_e v s 3
theorem nu_e (v : Vt) (s : ByteArray) : (nu v s).2 = 0 ∨ (nu v s).2 = 15 ∨ (nu v s).2 = 16 := by rw [nu_mb]; exact mb_e v s 2

/-! ### what is held -/
/-- The error of a member that may be missing or not. -/
def he (e : Int) (m : Bool) : Int := if e = 16 ∧ m = false then 0 else e
def hd (x : ByteArray × Int) (n : ByteArray) (e : Int) (m : Bool) : ByteArray × Int := if x.2 = 0 then (n, he e m) else x
/-- What is told of a row F: of what was held, and of the rest. -/
def Hd (F x : ByteArray × Int) (rest : List (ByteArray × Int)) : Prop := F = if x.2 = 0 then fst rest else x
theorem Hd.step {F x : ByteArray × Int} {n : ByteArray} {e e' : Int} {m : Bool} {rest : List (ByteArray × Int)} (h : Hd F x ((n, e') :: rest)) (hq : e' = he e m) : Hd F (hd x n e m) rest := by
  unfold Hd at h ⊢
  unfold hd
  by_cases hx : x.2 = 0
  · rw [if_pos hx] at h
    rw [if_pos hx, h, ← hq]
    by_cases h0 : e' = 0
    · rw [fst_no _ h0, if_pos h0]
    · rw [fst_yes _ h0, if_neg h0]
  · rw [if_neg hx] at h
    rw [if_neg hx, if_neg hx]
    exact h
theorem Hd.done {F x : ByteArray × Int} (h : Hd F x []) : F.2 = x.2 ∧ (x.2 ≠ 0 → F = x) ∧ (x.2 = 0 → F = (⟨#[]⟩, 0)) := by
  unfold Hd at h
  by_cases hx : x.2 = 0
  · rw [if_pos hx] at h
    rw [h]
    exact ⟨hx.symm, fun q => absurd hx q, fun _ => rfl⟩
  · rw [if_neg hx] at h
    exact ⟨by rw [h], fun _ => h, fun q => absurd q hx⟩
theorem he_true (e : Int) : he e true = e := if_neg fun h => by cases h.2
theorem he_only {e : Int} (h : e = 0 ∨ e = 15 ∨ e = 16) : only e = he e false := by
  rcases h with rfl | rfl | rfl <;> rfl
theorem he_wr {e : Int} (h : e = 0 ∨ e = 15 ∨ e = 16) (m : Bool) : wr e m = he e m := by
  rcases h with rfl | rfl | rfl <;> cases m <;> rfl

/-! ### the table of numbers -/
def kdj (j : Nat) : Int := if j < 4 then 1 else if j = 4 then 2 else 3
def msj (j : Nat) : Bool := !(decide (j = 3) || decide (j = 7))
theorem wan_is (k : Int) {j : Nat} (h : j < 8) : wan k (5 + j) = (msj j && decide (kdj j = k)) := by
  rcases (show j = 0 ∨ j = 1 ∨ j = 2 ∨ j = 3 ∨ j = 4 ∨ j = 5 ∨ j = 6 ∨ j = 7 by omega) with rfl | rfl | rfl | rfl | rfl | rfl | rfl | rfl <;> simp [wan, msj, kdj, eq_comm]
/-- The numbers of a rule's kind among the first of the table. -/
def nt (r : Ru) : Nat → List (ByteArray × Vt)
  | 0 => []
  | j + 1 => nt r j ++ (if kdj j = r.ki then [(nm (5 + j), N (num r (5 + j)))] else [])
theorem nt_yes (r : Ru) {j : Nat} (h : kdj j = r.ki) : nt r (j + 1) = nt r j ++ [(nm (5 + j), N (num r (5 + j)))] := by rw [nt, if_pos h]
theorem nt_not (r : Ru) {j : Nat} (h : kdj j ≠ r.ki) : nt r (j + 1) = nt r j := by rw [nt, if_neg h, List.append_nil]
theorem nt_len (r : Ru) : ∀ j, (nt r j).length ≤ j
  | 0 => Nat.le_refl _
  | j + 1 => by
    have := nt_len r j
    rw [nt, List.length_append]
    split <;> simp <;> omega
theorem nt_all {r : Ru} (hk : r.ki = 1 ∨ r.ki = 2 ∨ r.ki = 3) : nt r 8 = nums r := by
  unfold nums
  rcases hk with hk | hk | hk <;> simp [nt, kdj, hk, num]

/-! ### paths -/
theorem eL_digits : ∀ {l : List UInt8}, Lx.allD l → Ptr.eL l = l
  | [], _ => rfl
  | c :: l, h => by
    have hc := h c List.mem_cons_self
    have h48 : 48 ≤ c.toNat ∧ c.toNat ≤ 57 := by unfold Lx.dg at hc; simpa using hc
    rw [Ptr.eL_cons, eL_digits fun d hd => h d (List.mem_cons_of_mem _ hd)]
    unfold Ptr.eB
    rw [if_neg (by rintro rfl; exact absurd h48.2 (by decide)), if_neg (by rintro rfl; exact absurd h48.1 (by decide))]; rfl
theorem join_index (i : Nat) (h : i ≤ 5000) : Ptr.jB ⟨#[]⟩ ⟨(Lib.itoa (i : Int)).toArray⟩ = atP i := by
  have e : Lib.itoa (i : Int) = Lx.dcL i := Ptr.itoa_pos i (by omega)
  have hd := (Lx.dcL_facts i (by omega)).2.1
  show (⟨#[]⟩ : ByteArray) ++ ⟨(Ptr.putP [(Lib.itoa (i : Int)).toArray.toList]).toArray⟩ = ⟨#[47]⟩ ++ ⟨(Lib.itoa (i : Int)).toArray⟩
  rw [e, Ptr.putP_cons, Ptr.putP_nil, eL_digits hd, List.append_nil]
  apply ByteArray.ext
  apply Array.toList_inj.1
  simp
theorem join_behind (s p : ByteArray) : s ++ Ptr.jB ⟨#[]⟩ p = Ptr.jB s p := by
  show s ++ ((⟨#[]⟩ : ByteArray) ++ _) = s ++ _
  apply ByteArray.ext
  apply Array.toList_inj.1
  simp
theorem join_none (s : ByteArray) : s ++ (⟨#[]⟩ : ByteArray) = s := by
  apply ByteArray.ext
  apply Array.toList_inj.1
  simp
end Go.Proofs.YtehkiojohldlgaaGreatDoor.Jsn
