/- Contracts of the document's short, Hexes, letter, number, escape, Put and Take. Conditions: as each theorem states. · Contracts of the document's number and escape. Conditions: as each theorem states. · Contracts of the document's Put and Take. Conditions: as each theorem states. -/
import Derived.Test.YtbpofhlnnldceaaDoorQuoG1
import Derived.Test.YtbpofhlnnldceaaDoorUtfD
import Derived.Test.YtbpofhlnnldceaaDoorOctG1
import Derived.Laws.OwnMore
namespace Go.Proofs.YtbpofhlnnldceaaDoor.Quo
open Go.RowKit Go.Lib Go.Proofs.YtbpofhlnnldceaaDoor.Byt Go.Proofs.YtbpofhlnnldceaaDoor.Oct Go.Proofs.YtbpofhlnnldceaaDoor.Utf

section
variable {ops : Array Oper} {rest : List Oper} {o : Oper} {a : Act} {Q : Exit → Act → World → Prop}
/-- 'append(row, text...)'. -/
theorem wpList_text (W : World) (hg : o.guard = none) (sl x : Operand) (ho : o.op = .call { callee := .builtin .append, args := #[sl, x], argTypes := #[40, 9] })
    (B : Nat) (w0 : World) (v : Value) (l : List UInt8) (hs : a.eval sl = v) (hown : Own W B v l) (hb : Below B w0 W) (hB : B ≤ w0.heap.size) (s : ByteArray) (hx : a.eval x = .string s) (hlim : l.length + s.size ≤ 140737488355328)
    (h : ∀ v' w', Own w' B v' (l ++ s.data.toList) → Below B w0 w' → wpList Tryd.prog ops Q rest (a.put o.dst v') w') : wpList Tryd.prog ops Q (o :: rest) a W := by
  obtain ⟨i0, hi, hz0, hz1, hz2⟩ := info_parts info8
  have hsz := hb.size
  refine Lib.wpList_append_own_string W hg sl x 40 9 ho B 5 i0 Tryd.underlying40 Tryd.underlying9 hi hz0 hz1 hz2 v _ _ hs hown s hx (by unfold maxLen; omega) (by omega) (by omega) ?_
  intro v' w' h1 h2 _
  refine h v' w' ?_ (hb.grown h2 (by omega) (fun k hk => (hown.lt k hk).1))
  unfold Own
  rw [List.length_append, byteCells_append, Lib.size_eq] at *
  exact h1
end
/-- A row that is written out. -/
theorem Own.lit (w : World) (B : Nat) (l : List UInt8) (cs : Array Value) (n : Nat) (hB : B ≤ w.heap.size) (hn : l.length = n) (hcs : cs.toList = byteCells l) (hm : l.length ≤ maxLen) : Own (w.alloc (.cells cs 5)) B (.slice (some ⟨w.heap.size, 0, none⟩) n n) l := by
  subst hn
  unfold Own
  rw [← hcs]
  refine World.ownsRow_lit w cs l.length hB hm ?_
  have := congrArg List.length hcs
  simpa [byteCells] using this

theorem rshort_any (c : Nat) (w : World) : Calls Tryd.prog 42 #[.int .u8 (c : Int)] w fun e w' => e = .returned (.int .u8 (shN c : Int)) ∧ w = w' := by
  by_cases hc : c = 34 ∨ c = 92 ∨ c = 8 ∨ c = 9 ∨ c = 10 ∨ c = 12 ∨ c = 13
  · rcases hc with rfl | rfl | rfl | rfl | rfl | rfl | rfl
    all_goals
      go_enter Tryd.func42, Tryd.ntmps42
      go_wp2_with fail
      go_ret
      exact ⟨rfl, rfl⟩
  · have n := fun (m : Nat) (h : c ≠ m) => (show ((c : Int) == (m : Int)) = false by rw [beq_eq_false_iff_ne]; omega)
    have n34 : ((c : Int) == 34) = false := n 34 (by omega)
    have n92 : ((c : Int) == 92) = false := n 92 (by omega)
    have n8 : ((c : Int) == 8) = false := n 8 (by omega)
    have n9 : ((c : Int) == 9) = false := n 9 (by omega)
    have n10 : ((c : Int) == 10) = false := n 10 (by omega)
    have n12 : ((c : Int) == 12) = false := n 12 (by omega)
    have n13 : ((c : Int) == 13) = false := n 13 (by omega)
    have e : shN c = 0 := by unfold shN; rw [if_neg (by omega), if_neg (by omega), if_neg (by omega), if_neg (by omega), if_neg (by omega), if_neg (by omega), if_neg (by omega)]
    rw [e]
    clear e
    clear n hc
    go_enter Tryd.func42, Tryd.ntmps42
    go_wp2_with fail
    go_ret
    exact ⟨rfl, rfl⟩
/-! ### Hexes -/
theorem hx_at (q : ByteArray) (k : Nat) (n : Nat) (h : k < q.size) : hxF n (q.data.toList.drop k) = if dgA (bt q k) < 16 then hxF (16 * n + dgA (bt q k)) (q.data.toList.drop (k + 1)) else none := by
  have hl : q.data.toList.length = q.size := by simp
  rw [List.drop_eq_getElem_cons (by omega), hxF_cons]
  have e : bt q k = (q.data.toList[k]'(by omega)).toNat := by
    unfold bt
    rw [List.getD_eq_getElem?_getD, List.getElem?_eq_getElem (by omega)]
    rfl
  rw [e]
end Go.Proofs.YtbpofhlnnldceaaDoor.Quo

namespace Go.Proofs.YtbpofhlnnldceaaDoor.Quo
open Go.RowKit Go.Lib Go.Proofs.YtbpofhlnnldceaaDoor.Byt Go.Proofs.YtbpofhlnnldceaaDoor.Oct Go.Proofs.YtbpofhlnnldceaaDoor.Utf

theorem nO_cut (s : ByteArray) (i : Nat) : nO (dr s i) = if cutS s (i : Int) 2 = ⟨#[92, 117]⟩ then hO s ((i : Int) + 2) else none := by
  unfold cutS
  cases h : has s (i : Int) 2 with
  | false =>
    rw [nO_short s i h, if_neg]
    simp only [Bool.false_eq_true, if_false]
    intro h2
    have := congrArg ByteArray.size h2
    exact absurd this (by decide)
  | true =>
    simp only [if_true]
    rw [show ((i : Int)).toNat = i from rfl, show ((2 : Int)).toNat = 2 from rfl]
    by_cases hc : cutB s i 2 = ⟨#[92, 117]⟩
    · rw [if_pos hc, nO_mark s i hc]
    · rw [if_neg hc, nO_other s i hc]

/-- What the document's number hands back. -/
def rN (n : Nat) (o : Option Nat) : Value := if vB (nP n o).1 = true then .tuple #[.int .i64 ((nP n o).1 : Int), .int .i64 ((nP n o).2 - 1 : Nat), .int .i64 0] else .tuple #[.int .i64 0, .int .i64 0, .int .i64 8]
theorem rN_yes {n r k : Nat} {o : Option Nat} (h : nP n o = (r, k + 1)) (hv : vB r = true) : rN n o = .tuple #[.int .i64 (r : Int), .int .i64 (k : Int), .int .i64 0] := by
  unfold rN; rw [h]; simp only; rw [if_pos hv]; rfl
theorem rN_no {n : Nat} {o : Option Nat} (h : nP n o = (n, 6)) (hv : vB n = false) : rN n o = .tuple #[.int .i64 0, .int .i64 0, .int .i64 8] := by
  unfold rN; rw [h]; simp only; rw [if_neg (by rw [hv]; simp)]
theorem nP_no {n m : Nat} (h : ¬ ((55296 ≤ n ∧ n ≤ 56319) ∧ 56320 ≤ m ∧ m ≤ 57343)) : nP n (some m) = (n, 6) := by
  unfold nP; simp only; rw [show pr n m = false from decide_eq_false h, if_neg (by simp)]
theorem nP_yes {n m : Nat} (h : (55296 ≤ n ∧ n ≤ 56319) ∧ 56320 ≤ m ∧ m ≤ 57343) : nP n (some m) = (65536 + (n - 55296) * 1024 + (m - 56320), 12) := by
  unfold nP; simp only; rw [show pr n m = true from decide_eq_true h, if_pos rfl]
theorem isSome_getD {o : Option Nat} (h : o.isSome = true) : o = some (o.getD 0) := by cases o with
  | none => cases h
  | some m => rfl
theorem isSome_none {o : Option Nat} (h : o.isSome = false) : o = none := by cases o with
  | none => rfl
  | some m => cases h

/-! ### escape -/
theorem nO_not (s : ByteArray) (i : Nat) (h : bt s (i + 1) ≠ 117) : nO (dr s i) = none := by
  unfold nO
  refine if_neg fun h2 => h ?_
  rw [← dr_get s i 1]
  have h3 : ((dr s i).take 2).getD 1 0 = 117 := by rw [h2]; rfl
  rw [List.getD_eq_getElem?_getD, List.getElem?_take, if_pos (by decide), ← List.getD_eq_getElem?_getD] at h3
  rw [h3]; rfl
theorem nO_is (s : ByteArray) (i : Nat) (h0 : bt s i = 92) (h : bt s (i + 1) = 117) (hs : i + 2 ≤ s.size) : nO (dr s i) = hO s ((i : Int) + 2) := by
  unfold nO hO
  have g0 := dr_get s i 0
  have g1 := dr_get s i 1
  have hl := dr_len s i
  rw [show i + 0 = i from rfl, h0] at g0
  rw [h] at g1
  rw [if_pos (show (0 : Int) ≤ (i : Int) + 2 by omega), show ((i : Int) + 2).toNat = i + 2 by omega]
  change _ = h4 (dr s (i + 2))
  rw [← dr_drop]
  cases hd : dr s i with
  | nil => rw [hd, List.length_nil] at hl; omega
  | cons a t =>
    cases t with
    | nil => rw [hd, List.length_cons, List.length_nil] at hl; omega
    | cons b t =>
      rw [hd] at g0 g1
      simp only [List.getD_cons_zero, List.getD_cons_succ] at g0 g1
      have ea : a = 92 := UInt8.toNat_inj.1 (by rw [g0]; rfl)
      have eb : b = 117 := UInt8.toNat_inj.1 (by rw [g1]; rfl)
      subst ea eb
      rw [if_pos (by simp)]
/-- What the document's escape hands back. -/
def rE (p : Nat × Nat × List UInt8) : Value := .tuple #[.string ⟨p.2.2.toArray⟩, .int .i64 ((p.2.1 - 1 : Nat) : Int), .int .i64 (p.1 : Int)]
theorem one_u8 (m : Nat) (x : Int) (hm : m < 256) (h : x = (m : Int)) : (#[Value.int .u8 x]).toList = byteCells [UInt8.ofNat m] := by
  subst h
  have := ofNat_toNat m hm
  simp [byteCells, this]
end Go.Proofs.YtbpofhlnnldceaaDoor.Quo

namespace Go.Proofs.YtbpofhlnnldceaaDoor.Quo
open Go.RowKit Go.Lib Go.Proofs.YtbpofhlnnldceaaDoor.Byt Go.Proofs.YtbpofhlnnldceaaDoor.Oct Go.Proofs.YtbpofhlnnldceaaDoor.Utf

theorem own_next {w w' : World} {B : Nat} {v : Value} {l : List UInt8} (h : Own w B v l) (hb : Below w.heap.size w w') : Own w' B v l := by
  refine ⟨h.1, ?_⟩
  rcases h.2 with hn | ⟨g, cap, cur, hv, hbg, hg, rest⟩
  · exact .inl hn
  · have hg2 : g < w.heap.size := by
      rcases Nat.lt_or_ge g w.heap.size with h' | h'
      · exact h'
      · simp [Array.getElem?_eq_none h'] at hg
    exact .inr ⟨g, cap, cur, hv, hbg, (hb.block g hg2).trans hg, rest⟩
theorem qL_take (s : ByteArray) (k : Nat) (h : k < s.size) : qL (s.data.toList.take (k + 1)) = qL (s.data.toList.take k) ++ qB (UInt8.ofNat (bt s k)) := by
  have hl : s.data.toList.length = s.size := by simp
  have e : UInt8.ofNat (bt s k) = s.data.toList[k]'(by omega) := by
    apply UInt8.toNat_inj.1
    rw [ofNat_toNat _ (bt_lt s k)]
    unfold bt
    rw [List.getD_eq_getElem?_getD, List.getElem?_eq_getElem (by omega)]
    rfl
  rw [List.take_add_one, List.getElem?_eq_getElem (by omega), qL_append, e]
  simp [qL]
theorem qL_take_len (s : ByteArray) (k : Nat) : (qL (s.data.toList.take k)).length ≤ 6 * s.size := by
  have h1 := qL_len (s.data.toList.take k)
  have h2 : (s.data.toList.take k).length ≤ s.size := by rw [List.length_take]; have : s.data.toList.length = s.size := by simp
                                                         omega
  omega
theorem two_u8 (m : Nat) (x : Int) (hm : m < 256) (h : x = (m : Int)) : (#[Value.int .u8 92, .int .u8 x]).toList = byteCells [92, UInt8.ofNat m] := by
  subst h
  have := ofNat_toNat m hm
  simp [byteCells, this]
theorem shN_lt (c : Nat) : shN c < 256 := by unfold shN; repeat' split
                                             all_goals omega
theorem cut_one (s : ByteArray) (k : Nat) (h : k < s.size) : (cutB s k 1).data.toList = [UInt8.ofNat (bt s k)] := by
  have hl : s.data.toList.length = s.size := by simp
  have e : UInt8.ofNat (bt s k) = s.data.toList[k]'(by omega) := by
    apply UInt8.toNat_inj.1
    rw [ofNat_toNat _ (bt_lt s k)]
    unfold bt
    rw [List.getD_eq_getElem?_getD, List.getElem?_eq_getElem (by omega)]
    rfl
  show (s.data.toList.drop k).take 1 = _
  rw [List.drop_eq_getElem_cons (by omega), e]
  rfl

set_option maxRecDepth 100000 in
set_option maxHeartbeats 1000000 in
theorem rqput_any (s : ByteArray) (w : World) (hs : s.size ≤ 8000000) :
    Calls Tryd.prog 34 #[.string s] w fun e w' => e = .returned (rP s.data.toList) ∧ Below w.heap.size w w' := by
  unfold rP
  have HB := Lib.hid (fun w => rbad_any s w (by omega))
  unfold pT pE
  cases hbd : badL s.data.toList with
  | some k =>
    rw [hbd] at HB
    have HB2 : Hid (∀ w, Calls Tryd.prog 25 #[.string s] w fun e w' => e = .returned (.int .i64 (k : Int)) ∧ w = w') := Lib.hid HB.out
    rw [if_neg (by simp), if_neg (by simp)]
    clear hbd HB
    go_enter Tryd.func34, Tryd.ntmps34
    go_wp2_with (go_at_call 25; refine (HB2.out _).mono ?_; rintro e w1 ⟨rfl, rfl⟩)
    go_ret2
    exact ⟨rfl, Below.refl _ _⟩
  | none =>
    rw [hbd] at HB
    have HB2 : Hid (∀ w, Calls Tryd.prog 25 #[.string s] w fun e w' => e = .returned (.int .i64 (-1)) ∧ w = w') := Lib.hid HB.out
    rw [if_pos rfl, if_pos rfl]
    unfold qQ
    clear hbd HB
    go_enter Tryd.func34, Tryd.ntmps34
    go_wp2_with (go_at_call 25; refine (HB2.out _).mono ?_; rintro e w1 ⟨rfl, rfl⟩)
    have hown0 := Own.lit w w.heap.size [34] #[.int .u8 34] 1 (Nat.le_refl _) rfl rfl (by decide)
    have hb0 := (Below.refl _ w).alloc (Nat.le_refl _) (.cells #[.int .u8 34] 5)
    go_loopw [4, 13] (fun v i wr => ∃ k : Nat, i = .int .i64 (k : Int) ∧ k ≤ s.size ∧ Own wr w.heap.size v (34 :: qL (s.data.toList.take k)) ∧ Below w.heap.size w wr) (fun _ i _ => s.size - (RowKit.intOf i).toNat)
    case atStart => exact ⟨0, rfl, Nat.zero_le _, hown0, hb0⟩
    case round =>
      obtain ⟨k, rfl, hk, hown, hb⟩ := hrel
      have hsz := hb.size
      clear hown0 hb0
      by_cases hlt : k < s.size
      · have hix := fun w => index_at s k (k : Int) rfl hlt w
        have hc := bt_lt s k
        have HQ := Lib.hid (qL_take s k hlt)
        have hql := qL_take_len s k
        have HS := Lib.hid (fun w => rshort_any (bt s k) w)
        have hml := shN_lt (bt s k)
        have HCut := Lib.hid (cut_one s k hlt)
        have hsl := run_cut s (k : Int) ((k : Int) + 1) k 1 rfl rfl (by omega)
        have HX := Lib.hid (fun w => rhex_any (cutB s k 1) w (by rw [cutB_size s k 1 (by omega)]; omega))
        rw [HCut.out] at HX
        generalize qL (s.data.toList.take k) = A at *
        unfold qB at HQ
        rw [ofNat_toNat _ hc] at HQ
        generalize cutB s k 1 = q at *
        clear HCut
        by_cases h0 : shN (bt s k) = 0
        · rw [if_neg (by omega)] at HQ
          rw [h0] at HS
          by_cases h32 : bt s k < 32
          · rw [if_pos h32] at HQ
            have hl2 : (hexL [UInt8.ofNat (bt s k)]).length = 2 := by rw [hexL_length]; rfl
            generalize hexL [UInt8.ofNat (bt s k)] = hx at *
            generalize bt s k = c at *
            have hz : (⟨hx.toArray⟩ : ByteArray).size = 2 := by show hx.toArray.size = 2; simpa using hl2
            have HL := Lib.hid (show (⟨hx.toArray⟩ : ByteArray).data.toList = hx by simp)
            generalize (⟨hx.toArray⟩ : ByteArray) = hs2 at *
            clear h0 hml
            have bd4 : (34 :: A).length + (⟨#[92, 117, 48, 48]⟩ : ByteArray).size ≤ 140737488355328 := by show A.length + 1 + 4 ≤ _; omega
            have bd6 : ((34 :: A) ++ (⟨#[92, 117, 48, 48]⟩ : ByteArray).data.toList).length + hs2.size ≤ 140737488355328 := by rw [hz]; simp; omega
            go_wp2_with (first
              | (go_at_call 42; refine (HS.out _).mono ?_; rintro e w1 ⟨rfl, rfl⟩)
              | (at_builtin; refine wpList_text _ rfl _ _ rfl w.heap.size w _ _ rfl hown hb (Nat.le_refl _) ⟨#[92, 117, 48, 48]⟩ rfl bd4 ?_; intro v3 w3 hown3 hb3))
            go_wp2_with fail
            refine (HX.out _).mono ?_
            rintro e w2 ⟨rfl, hb2⟩
            have hsz3 := hb3.size
            have hown4 := own_next hown3 hb2
            have hb4 := hb3.trans (hb2.mono hsz3)
            clear hown3 hb3 hb2 hsz3
            go_wp2_with (at_builtin; refine wpList_text _ rfl _ _ rfl w.heap.size w _ _ rfl hown4 hb4 (Nat.le_refl _) hs2 rfl bd6 ?_; intro v5 w5 hown5 hb5)
            go_roundw
            case rel => exact ⟨k + 1, by go_num, by omega, by rw [HQ.out]; rw [HL.out] at hown5; simpa using hown5, hb5⟩
            case measure => simp [RowKit.intOf]; omega
          · rw [if_neg h32] at HQ
            generalize bt s k = c at *
            clear h0 hml HX hsl
            have bd1 : (34 :: A).length + [UInt8.ofNat c].length ≤ 140737488355328 := by show A.length + 1 + 1 ≤ _; omega
            go_wp2_with (first
              | (go_at_call 42; refine (HS.out _).mono ?_; rintro e w1 ⟨rfl, rfl⟩)
              | (with_reducible refine wpList_push _ rfl _ _ rfl w.heap.size w _ _ rfl (hown.alloc _) (hb.alloc hsz _) (Nat.le_refl _) _ _ _ rfl _ _ (heap_alloc_new _ _) [UInt8.ofNat c] rfl (one_u8 c _ hc rfl) bd1 ?_; intro v3 w3 hown3 hb3))
            go_roundw
            case rel => exact ⟨k + 1, by go_num, by omega, by rw [HQ.out]; simpa using hown3, hb3⟩
            case measure => simp [RowKit.intOf]; omega
        · rw [if_pos h0] at HQ
          have hm0 : ((shN (bt s k) : Int) != 0) = true := by rw [bne_iff_ne]; omega
          generalize shN (bt s k) = m at *
          generalize bt s k = c at *
          clear h0 HX hsl
          have bd2 : (34 :: A).length + [92, UInt8.ofNat m].length ≤ 140737488355328 := by show A.length + 1 + 2 ≤ _; omega
          go_wp2_with (first
            | (go_at_call 42; refine (HS.out _).mono ?_; rintro e w1 ⟨rfl, rfl⟩)
            | (with_reducible refine wpList_push _ rfl _ _ rfl w.heap.size w _ _ rfl (hown.alloc _) (hb.alloc hsz _) (Nat.le_refl _) _ _ _ rfl _ _ (heap_alloc_new _ _) [92, UInt8.ofNat m] rfl (two_u8 m _ hml rfl) bd2 ?_; intro v3 w3 hown3 hb3))
          go_roundw
          case rel => exact ⟨k + 1, by go_num, by omega, by rw [HQ.out]; simpa using hown3, hb3⟩
          case measure => simp [RowKit.intOf]; omega
      · obtain rfl : k = s.size := by omega
        have hql := qL_take_len s s.size
        rw [List.take_of_length_le (by simp)] at hown hql
        obtain ⟨A, hA⟩ : ∃ A, A = qL s.data.toList := ⟨_, rfl⟩
        rw [← hA] at hown hql
        have HA := Lib.hid hA
        clear hA
        have bd1 : (34 :: A).length + [(34 : UInt8)].length ≤ 140737488355328 := by show A.length + 1 + 1 ≤ _; omega
        go_wp2_with (first
          | (with_reducible refine wpList_push _ rfl _ _ rfl w.heap.size w _ _ rfl (hown.alloc _) (hb.alloc hsz _) (Nat.le_refl _) _ _ _ rfl _ _ (heap_alloc_new _ _) [34] rfl rfl bd1 ?_; intro v3 w3 hown3 hb3)
          | (with_reducible refine wpList_string _ rfl _ rfl _ _ _ rfl hown3 ?_))
        go_ret2
        exact ⟨by rw [← HA.out]; simp, hb3⟩

/-! ### Take -/
theorem bytes_of (l : List UInt8) : (⟨l.toArray⟩ : ByteArray).data.toList = l ∧ (⟨l.toArray⟩ : ByteArray).size = l.length := ⟨by simp, by show l.toArray.size = _; simp⟩
end Go.Proofs.YtbpofhlnnldceaaDoor.Quo
