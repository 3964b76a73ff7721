/- Contracts of match's single, word, chosen, shared, parts, Covers, Meets, Is, Both. Conditions: as each theorem states. -/
import Derived.Test.YtnhiloikficigaaMatA
import Derived.Test.YtnhiloikficigaaRouG3
namespace Go.Proofs.Ytnhiloikficigaa.Mat
open Go.RowKit Go.Lib Go.Proofs.Ytnhiloikficigaa.Byt Go.Proofs.Ytnhiloikficigaa.Rou

/-! ### single, word, chosen -/
theorem last_ss {L : Bs} {m : Nat} (h : L.length = m + 1) : sgl L = if L.getD m ⟨#[]⟩ = ⟨#[42, 42]⟩ then m else m + 1 := by
  unfold sgl
  rw [last_at (by omega), h, Nat.add_sub_cancel]
  by_cases q : L.getD m ⟨#[]⟩ = ⟨#[42, 42]⟩
  · rw [if_pos q, if_pos (by rw [q])]
  · rw [if_neg q, if_neg (fun e => q (Option.some.inj e))]
theorem single_any (L : Bs) (v : Value) (w : World) (hr : Strs.Row w v L) (hl : L.length ≤ 140737488355328) :
    Calls Try.prog 38 #[v] w fun e w' => e = .returned (.int .i64 (sgl L : Int)) ∧ w = w' := by
  cases hn : L.length with
  | zero =>
    obtain rfl : L = [] := List.eq_nil_of_length_eq_zero hn
    have HA := Lib.hid (at_neg 0)
    obtain ⟨a, cap, rfl, _⟩ := hr.open_
    have hq : sgl [] = 0 := rfl
    rw [hq]
    show Calls Try.prog _ #[.slice a 0 cap] w _
    clear hr hq hn hl
    go_enter Try.func38, Try.ntmps38
    go_wp2_with (go_at_call 35; (with_reducible refine (HA.out _ _ _).mono ?_); rintro e w1 ⟨rfl, rfl⟩)
    go_ret
    exact ⟨rfl, rfl⟩
  | succ m =>
    have HA := Lib.hid (at_any L v w hr m)
    obtain ⟨a, cap, rfl, _⟩ := hr.open_
    have hs := s2_eq (L.getD m ⟨#[]⟩)
    have h1 : ((m + 1 : Nat) : Int) - 1 = (m : Int) := by omega
    rw [last_ss hn]
    rw [hn] at HA hl ⊢
    by_cases hx : L.getD m ⟨#[]⟩ = ⟨#[42, 42]⟩
    · rw [if_pos hx]
      rw [decide_eq_true hx] at hs
      clear hx hr hn
      generalize L.getD m ⟨#[]⟩ = x at *
      generalize hN : m + 1 = n at *
      clear hN
      go_enter Try.func38, Try.ntmps38
      go_wp2_with (go_at_call 35; (with_reducible refine HA.out.mono ?_); rintro e w1 ⟨rfl, rfl⟩)
      go_ret
      exact ⟨rfl, rfl⟩
    · rw [if_neg hx]
      rw [decide_eq_false hx] at hs
      clear hx hr hn
      generalize L.getD m ⟨#[]⟩ = x at *
      generalize hN : m + 1 = n at *
      clear hN
      go_enter Try.func38, Try.ntmps38
      go_wp2_with (go_at_call 35; (with_reducible refine HA.out.mono ?_); rintro e w1 ⟨rfl, rfl⟩)
      go_ret
      exact ⟨rfl, rfl⟩
theorem word_any (x : ByteArray) (w : World) :
    Calls Try.prog 51 #[.string x] w fun e w' => e = .returned (.bool (wrB x)) ∧ w = w' := by
  have f1 := em_eq x
  have f2 := s1_eq x
  have f3 := s2_eq x
  unfold wrB
  rw [decide_not, decide_not, decide_not]
  generalize decide (x = ⟨#[]⟩) = b1 at *
  generalize decide (x = ⟨#[42]⟩) = b2 at *
  generalize decide (x = ⟨#[42, 42]⟩) = b3 at *
  cases b1 <;> cases b2 <;> cases b3
  all_goals
    go_enter Try.func51, Try.ntmps51
    go_wp2_with fail
    go_ret
    exact ⟨rfl, rfl⟩
theorem chosen_any (x y : ByteArray) (w : World) :
    Calls Try.prog 39 #[.string x, .string y] w fun e w' => e = .returned (.string (chB x y)) ∧ w = w' := by
  have H1 := Lib.hid (word_any x)
  have H2 := Lib.hid (word_any y)
  unfold chB
  generalize wrB x = b1 at *
  generalize wrB y = b2 at *
  cases b1 <;> cases b2
  all_goals
    go_enter Try.func39, Try.ntmps39
    go_wp2_with (go_at_call 51; first
      | ((with_reducible refine (H1.out _).mono ?_); rintro e w1 ⟨rfl, rfl⟩; clear H1)
      | ((with_reducible refine (H2.out _).mono ?_); rintro e w1 ⟨rfl, rfl⟩; clear H2))
    go_ret
    exact ⟨rfl, rfl⟩

/-! ### shared -/
section
variable {ops : Array Oper} {rest : List Oper} {o : Oper} {a : Act} {Q : Exit → Act → World → Prop}
/-- 'make([]string, n)'. -/
theorem wpList_madeS (W : World) (hg : o.guard = none) (x y : Operand) (ho : o.op = .makeSlice 28 x y) (B : Nat) (w0 : World) (hb : Below B w0 W) (hB : B ≤ w0.heap.size) (L C : Int) (n : Nat) (hx : a.eval x = .int .i64 L) (hy : a.eval y = .int .i64 C) (hL : L = (n : Int)) (hC : C = (n : Int)) (hlim : n ≤ 8796093022208)
    (h : ∀ w', Strs.Own w' B (.slice (some ⟨W.heap.size, 0, none⟩) n n) (List.replicate n ⟨#[]⟩) → Below B w0 w' → wpList Try.prog ops Q rest (a.put o.dst (.slice (some ⟨W.heap.size, 0, none⟩) n n)) w') : wpList Try.prog ops Q (o :: rest) a W := by
  obtain ⟨i0, hi, hz0, hz1, hz2⟩ := info_parts Strs.info16
  have hsz := hb.size
  refine wpList_make_full W hg x y _ ho B _ i0 _ 1 Try.underlying28 hi hz0 hz1 .i64 .i64 L C n hx hy hL hC (by rw [hz2]; omega) (by unfold maxLen; omega) (by omega) ?_
  intro w' h1 h2
  refine h w' ?_ (hb.grown h2 (by omega) (fun k hk => by cases hk))
  unfold Strs.Own
  rw [List.length_replicate, List.map_replicate]
  have hz : (madeCells (Value.string ⟨#[]⟩).cells (n * 1)).toList = List.replicate n (Value.string ⟨#[]⟩) := by
    rw [Nat.mul_one, show (Value.string ⟨#[]⟩).cells = #[Value.string ⟨#[]⟩] from rfl, toList_madeCells_one]
  rw [hz] at h1
  exact h1
end
theorem set_own {w : World} {B g n cap : Nat} {l : Bs} (h : Strs.Own w B (.slice (some ⟨g, 0, none⟩) n cap) l) (hn : l.length = n) (j : Nat) (b : ByteArray) :
    Strs.Own (w.setCell ⟨g, j, none⟩ (.string b)) B (.slice (some ⟨g, 0, none⟩) n cap) (l.set j b) := by
  subst hn
  exact own_set h j b
def bf (L M : Bs) (i : Nat) : ByteArray := chB (L.getD i ⟨#[]⟩) (M.getD i ⟨#[]⟩)
/-- The first k of what both match, and room for the rest. -/
def bh (L M : Bs) (n k : Nat) : Bs := (List.range k).map (bf L M) ++ List.replicate (n - k) ⟨#[]⟩
theorem bh_len {L M : Bs} {n k : Nat} (h : k ≤ n) : (bh L M n k).length = n := by
  unfold bh; rw [List.length_append, List.length_map, List.length_range, List.length_replicate]; omega
theorem bh_set {L M : Bs} {n k : Nat} (h : k < n) : (bh L M n k).set k (bf L M k) = bh L M n (k + 1) := by
  unfold bh
  have hl : ((List.range k).map (bf L M)).length = k := by rw [List.length_map, List.length_range]
  rw [show n - k = (n - (k + 1)) + 1 by omega, List.replicate_succ, List.set_append_right _ _ (by omega), hl, Nat.sub_self, List.set_cons_zero, List.range_succ, List.map_append]
  simp
theorem bh_zero (L M : Bs) (n : Nat) : bh L M n 0 = List.replicate n ⟨#[]⟩ := rfl
theorem bh_end (L M : Bs) : bh L M (max (sgl L) (sgl M)) (max (sgl L) (sgl M)) = btB L M := by
  unfold bh btB
  rw [Nat.sub_self, List.replicate_zero, List.append_nil]; rfl
theorem btB_len (L M : Bs) : (btB L M).length = max (sgl L) (sgl M) := by unfold btB; rw [List.length_map, List.length_range]
set_option maxHeartbeats 2000000 in
set_option maxRecDepth 100000 in
theorem shared_any (L M : Bs) (u v : Value) (w : World) (hu : Strs.Row w u L) (hv : Strs.Row w v M) (hl : L.length ≤ 1000) (hm : M.length ≤ 1000) :
    Calls Try.prog 20 #[u, v] w fun e w' => ∃ a c, e = .returned (.slice a (btB L M).length c) ∧ Strs.Row w' (.slice a (btB L M).length c) (btB L M) ∧ (btB L M).length ≤ c ∧ Below w.heap.size w w' := by
  have HA := Lib.hid fun W (hb : Below w.heap.size w W) k => at_any L u W (hu.next hb) k
  have HB := Lib.hid fun W (hb : Below w.heap.size w W) k => at_any M v W (hv.next hb) k
  have H1 := Lib.hid fun W (hb : Below w.heap.size w W) => single_any L u W (hu.next hb) (by omega)
  have H2 := Lib.hid fun W (hb : Below w.heap.size w W) => single_any M v W (hv.next hb) (by omega)
  have HC := Lib.hid chosen_any
  obtain ⟨a, cap, rfl, _⟩ := hu.open_
  obtain ⟨a2, cap2, rfl, _⟩ := hv.open_
  have hx := fun W => max_run (sgl L) (sgl M) W
  have s1 := sgl_le L
  have s2 := sgl_le M
  rw [btB_len]
  have HE := Lib.hid (bh_end L M)
  obtain ⟨n, hn⟩ : ∃ n, max (sgl L) (sgl M) = n := ⟨_, rfl⟩
  rw [hn] at hx HE ⊢
  have hn2 : n ≤ 1000 := by omega
  have HL := Lib.hid fun k (h : k ≤ n) => bh_len (L := L) (M := M) h
  have HS := Lib.hid fun k (h : k < n) => bh_set (L := L) (M := M) h
  have HZ := Lib.hid (bh_zero L M n)
  generalize sgl L = m1 at *
  generalize sgl M = m2 at *
  clear hu hv hn s1 s2
  have hb0 := Below.refl w.heap.size w
  go_enter Try.func20, Try.ntmps20
  go_wp2_with (first
    | (go_at_call 38; first
      | ((with_reducible refine (H1.out _ hb0).mono ?_); rintro e w1 ⟨rfl, rfl⟩; clear H1)
      | ((with_reducible refine (H2.out _ hb0).mono ?_); rintro e w1 ⟨rfl, rfl⟩; clear H2))
    | (with_reducible refine wpList_madeS _ rfl _ _ rfl w.heap.size w (Below.refl _ _) (Nat.le_refl _) _ _ n rfl rfl rfl rfl (by omega) ?_; intro w1 hown1 hb1))
  clear hx hb0
  go_loopw [15] (fun i wr => ∃ k : Nat, k ≤ n ∧ i = .int .i64 (k : Int) ∧ Strs.Own wr w.heap.size (.slice (some ⟨w.heap.size, 0, none⟩) n n) (bh L M n k) ∧ Below w.heap.size w wr)
    (fun i _ => n - (RowKit.intOf i).toNat)
  case atStart => exact ⟨0, Nat.zero_le _, rfl, by rw [HZ.out]; exact hown1, hb1⟩
  case round =>
    obtain ⟨k, hk, rfl, hown, hb⟩ := hrel
    by_cases hlt : k < n
    · have hlen := HL.out k hk
      have hown2 : Strs.Own wr w.heap.size (.slice (some ⟨w.heap.size, 0, none⟩) (bh L M n k).length n) (bh L M n k) := by rw [hlen]; exact hown
      have hc := own_cell hown2 k (by omega)
      have hf := own_free hown2 k
      clear hown2
      have HO := Lib.hid (set_own hown hlen k (bf L M k))
      rw [HS.out k hlt] at HO
      have HBB := Lib.hid (below_set hb (Nat.le_refl _) k (.string (bf L M k)))
      have HA1 := Lib.hid (HA.out _ hb k)
      have HB1 := Lib.hid (HB.out _ hb k)
      have HC1 := Lib.hid (HC.out (L.getD k ⟨#[]⟩) (M.getD k ⟨#[]⟩))
      change Hid (∀ W, Calls Try.prog 39 #[.string (L.getD k ⟨#[]⟩), .string (M.getD k ⟨#[]⟩)] W fun e w' => e = .returned (.string (bf L M k)) ∧ W = w') at HC1
      generalize bf L M k = z at *
      generalize L.getD k ⟨#[]⟩ = x at *
      generalize M.getD k ⟨#[]⟩ = y at *
      generalize (bh L M n k).getD k ⟨#[]⟩ = o at *
      clear hown hb hlen
      go_wp2_with (first
        | (go_at_call 35; first
          | ((with_reducible refine HA1.out.mono ?_); rintro e w1 ⟨rfl, rfl⟩; clear HA1)
          | ((with_reducible refine HB1.out.mono ?_); rintro e w1 ⟨rfl, rfl⟩; clear HB1))
        | (go_at_call 39; (with_reducible refine (HC1.out _).mono ?_); rintro e w1 ⟨rfl, rfl⟩))
      go_roundw
      case rel => exact ⟨k + 1, by omega, by go_num, HO.out, HBB.out⟩
      case measure => simp [RowKit.intOf]; omega
    · obtain rfl : k = n := by omega
      rw [HE.out] at hown
      clear HA HB HC HL HS HZ
      go_wp2_with fail
      go_ret
      exact ⟨_, _, rfl, hown.row, Nat.le_refl _, hb⟩

/-! ### parts -/
/-- The parts of a pattern; none of another text. -/
def ptB (p : ByteArray) : Bs := if patB p = true then spB p else []
theorem ptB_yes {p : ByteArray} (h : patB p = true) : ptB p = spB p := by unfold ptB; rw [if_pos h]
theorem ptB_no {p : ByteArray} (h : patB p = false) : ptB p = [] := by unfold ptB; rw [h]; rfl
theorem ptB_ne (p : ByteArray) : Ne (ptB p) := by
  cases h : patB p with
  | true => rw [ptB_yes h]; exact ne_sp h
  | false => rw [ptB_no h]; exact fun k hk => absurd hk (Nat.not_lt_zero _)
theorem ptB_len (p : ByteArray) : (ptB p).length ≤ 32 := by
  unfold ptB
  split
  · exact (spB_size p).1
  · exact Nat.zero_le _
theorem parts_any (p : ByteArray) (w : World) (hp : p.size ≤ 140737488355328) :
    Calls Try.prog 17 #[.string p] w fun e w' => ∃ a c, e = .returned (.tuple #[.slice a (ptB p).length c, .bool (patB p)]) ∧ Strs.Row w' (.slice a (ptB p).length c) (ptB p) ∧ Below w.heap.size w w' := by
  have HP := Lib.hid (pat_at p (patB p) rfl hp)
  cases h : patB p with
  | false =>
    rw [h] at HP
    rw [ptB_no h]
    clear h
    show Calls Try.prog _ _ w fun e w' => ∃ a c, e = .returned (.tuple #[.slice a 0 c, .bool false]) ∧ Strs.Row w' (.slice a 0 c) [] ∧ _
    go_enter Try.func17, Try.ntmps17
    go_wp2_with (go_at_call 15; (with_reducible refine (HP.out _).mono ?_); rintro e w1 ⟨rfl, hb1⟩)
    go_ret2
    exact ⟨_, _, rfl, Strs.Row.nil _, hb1⟩
  | true =>
    have HS := Lib.hid (split_at p (spB p) true rfl (pat_row h) hp)
    rw [h] at HP
    rw [ptB_yes h]
    generalize spB p = L at *
    clear h
    go_enter Try.func17, Try.ntmps17
    go_wp2_with (first
      | (go_at_call 15; (with_reducible refine (HP.out _).mono ?_); rintro e w1 ⟨rfl, hb1⟩)
      | (go_at_call 34; (with_reducible refine (HS.out _).mono ?_); rintro e w2 ⟨a2, c2, rfl, hr2, _, hb2⟩))
    go_ret2
    exact ⟨_, _, rfl, hr2, hb1.trans (hb2.mono hb1.size)⟩
theorem covB_pt (p q : ByteArray) : covB p q = (patB p && patB q && cvB (ptB p) (ptB q)) := by
  unfold covB ptB
  cases patB p <;> cases patB q <;> rfl
theorem mtsB_pt (p q : ByteArray) : mtsB p q = (patB p && patB q && meB (ptB p) (ptB q)) := by
  unfold mtsB ptB
  cases patB p <;> cases patB q <;> rfl

/-! ### Covers, Meets, Is, Both -/
set_option maxRecDepth 100000 in
theorem cov_any (p q : ByteArray) (w : World) (hp : p.size ≤ 140737488355328) (hq : q.size ≤ 140737488355328) :
    Calls Try.prog 11 #[.string p, .string q] w fun e w' => e = .returned (.bool (covB p q)) ∧ Below w.heap.size w w' := by
  have HP := Lib.hid fun W => parts_any p W hp
  have HQ := Lib.hid fun W => parts_any q W hq
  have h1 := ptB_len p
  have h2 := ptB_len q
  have hn := ptB_ne q
  have HC := Lib.hid fun (W : World) (u v : Value) (hu : Strs.Row W u (ptB p)) (hv : Strs.Row W v (ptB q)) => covers_any (ptB p) (ptB q) u v W hu hv hn (by omega) (by omega)
  rw [covB_pt]
  generalize cvB (ptB p) (ptB q) = b3 at *
  generalize ptB p = L at *
  generalize ptB q = M at *
  generalize patB p = b1 at *
  generalize patB q = b2 at *
  clear hn
  cases b1 <;> cases b2
  all_goals
    go_enter Try.func11, Try.ntmps11
    go_wp2_with (first
      | (go_at_call 17; first
        | ((with_reducible refine (HP.out _).mono ?_); rintro e w1 ⟨a1, c1, rfl, hr1, hb1⟩; clear HP)
        | ((with_reducible refine (HQ.out _).mono ?_); rintro e w2 ⟨a2, c2, rfl, hr2, hb2⟩; have HR := Lib.hid (hr1.next hb2); have HB := Lib.hid (hb1.trans (hb2.mono hb1.size)); clear HQ hr1 hb1 hb2))
      | (go_at_call 27; (with_reducible refine (HC.out _ _ _ HR.out hr2).mono ?_); rintro e w3 ⟨rfl, rfl⟩))
    go_ret
    exact ⟨rfl, HB.out⟩
set_option maxRecDepth 100000 in
theorem mts_any (p q : ByteArray) (w : World) (hp : p.size ≤ 140737488355328) (hq : q.size ≤ 140737488355328) :
    Calls Try.prog 13 #[.string p, .string q] w fun e w' => e = .returned (.bool (mtsB p q)) ∧ Below w.heap.size w w' := by
  have HP := Lib.hid fun W => parts_any p W hp
  have HQ := Lib.hid fun W => parts_any q W hq
  have h1 := ptB_len p
  have h2 := ptB_len q
  have hn := ptB_ne q
  have hn1 := ptB_ne p
  have HC := Lib.hid fun (W : World) (u v : Value) (hu : Strs.Row W u (ptB p)) (hv : Strs.Row W v (ptB q)) => meets_any (ptB p) (ptB q) u v W hu hv hn1 hn (by omega) (by omega)
  rw [mtsB_pt]
  generalize meB (ptB p) (ptB q) = b3 at *
  generalize ptB p = L at *
  generalize ptB q = M at *
  generalize patB p = b1 at *
  generalize patB q = b2 at *
  clear hn hn1
  cases b1 <;> cases b2
  all_goals
    go_enter Try.func13, Try.ntmps13
    go_wp2_with (first
      | (go_at_call 17; first
        | ((with_reducible refine (HP.out _).mono ?_); rintro e w1 ⟨a1, c1, rfl, hr1, hb1⟩; clear HP)
        | ((with_reducible refine (HQ.out _).mono ?_); rintro e w2 ⟨a2, c2, rfl, hr2, hb2⟩; have HR := Lib.hid (hr1.next hb2); have HB := Lib.hid (hb1.trans (hb2.mono hb1.size)); clear HQ hr1 hb1 hb2))
      | (go_at_call 18; (with_reducible refine (HC.out _ _ _ HR.out hr2).mono ?_); rintro e w3 ⟨rfl, rfl⟩))
    go_ret
    exact ⟨rfl, HB.out⟩
theorem mat_any (p s : ByteArray) (w : World) (hp : p.size ≤ 140737488355328) (hs : s.size ≤ 140737488355328) :
    Calls Try.prog 9 #[.string p, .string s] w fun e w' => e = .returned (.bool (matB p s)) ∧ Below w.heap.size w w' := by
  rw [matB_is]
  have HI := Lib.hid (is_at s (isB s) rfl hs)
  have HC := Lib.hid fun W => cov_any p s W hp hs
  generalize isB s = b1 at *
  generalize covB p s = b2 at *
  cases b1
  · go_enter Try.func9, Try.ntmps9
    go_wp2_with (go_at_call 16; (with_reducible refine (HI.out _).mono ?_); rintro e w1 ⟨rfl, hb1⟩)
    go_ret
    exact ⟨rfl, hb1⟩
  · go_enter Try.func9, Try.ntmps9
    go_wp2_with (first
      | (go_at_call 16; (with_reducible refine (HI.out _).mono ?_); rintro e w1 ⟨rfl, hb1⟩)
      | (go_at_call 11; (with_reducible refine (HC.out _).mono ?_); rintro e w2 ⟨rfl, hb2⟩))
    go_ret
    exact ⟨rfl, hb1.trans (hb2.mono hb1.size)⟩
def rt2 (p q : ByteArray) : ByteArray := joB (btB (ptB p) (ptB q))
theorem bokB_pt (p q : ByteArray) : bokB p q = (patB p && patB q && meB (ptB p) (ptB q) && isB (rt2 p q)) := by
  unfold bokB
  rw [mtsB_pt]
  unfold rtB rt2 ptB
  cases patB p <;> cases patB q <;> rfl
theorem botB_pt (p q : ByteArray) : botB p q = if (patB p && patB q && meB (ptB p) (ptB q) && isB (rt2 p q)) = true then rt2 p q else ⟨#[]⟩ := by
  unfold botB
  rw [bokB_pt]
  unfold rtB rt2 ptB
  cases patB p <;> cases patB q <;> rfl
theorem rt2_size {p q : ByteArray} (h1 : patB p = true) (h2 : patB q = true) : (rt2 p q).size ≤ 8000000 := by
  have := (rt_size h1 h2).1
  have := rowB_size (pat_row h1)
  have := rowB_size (pat_row h2)
  unfold rt2
  rw [ptB_yes h1, ptB_yes h2]
  unfold rtB at *
  omega
set_option maxHeartbeats 4000000 in
set_option maxRecDepth 100000 in
theorem both_any (p q : ByteArray) (w : World) (hp : p.size ≤ 140737488355328) (hq : q.size ≤ 140737488355328) :
    Calls Try.prog 7 #[.string p, .string q] w fun e w' => e = .returned (.tuple #[.string (botB p q), .bool (bokB p q)]) ∧ Below w.heap.size w w' := by
  have HP := Lib.hid fun W => parts_any p W hp
  have HQ := Lib.hid fun W => parts_any q W hq
  have h1 := ptB_len p
  have h2 := ptB_len q
  have hn := ptB_ne q
  have hn1 := ptB_ne p
  have HC := Lib.hid fun (W : World) (u v : Value) (hu : Strs.Row W u (ptB p)) (hv : Strs.Row W v (ptB q)) => meets_any (ptB p) (ptB q) u v W hu hv hn1 hn (by omega) (by omega)
  have HS := Lib.hid fun (W : World) (u v : Value) (hu : Strs.Row W u (ptB p)) (hv : Strs.Row W v (ptB q)) => shared_any (ptB p) (ptB q) u v W hu hv (by omega) (by omega)
  have HZ := Lib.hid (rt2_size (p := p) (q := q))
  have HI := Lib.hid fun (h : (rt2 p q).size ≤ 8000000) => is_at (rt2 p q) (isB (rt2 p q)) rfl (by omega)
  have HJ := Lib.hid fun (h : (rt2 p q).size ≤ 8000000) => join_at (btB (ptB p) (ptB q)) (rt2 p q) rfl h
  rw [bokB_pt, botB_pt]
  generalize isB (rt2 p q) = b4 at *
  generalize rt2 p q = R at *
  generalize btB (ptB p) (ptB q) = T at *
  generalize meB (ptB p) (ptB q) = b3 at *
  generalize ptB p = L at *
  generalize ptB q = M at *
  generalize patB p = b1 at *
  generalize patB q = b2 at *
  clear hn hn1
  cases b1 <;> cases b2 <;> cases b3 <;> cases b4
  all_goals
    have HZ1 := Lib.hid HZ.out
    clear HZ
    go_enter Try.func7, Try.ntmps7
    go_wp2_with (first
      | (go_at_call 17; first
        | ((with_reducible refine (HP.out _).mono ?_); rintro e w1 ⟨a1, c1, rfl, hr1, hb1⟩; clear HP)
        | ((with_reducible refine (HQ.out _).mono ?_); rintro e w2 ⟨a2, c2, rfl, hr2, hb2⟩; have HR := Lib.hid (hr1.next hb2); have HB := Lib.hid (hb1.trans (hb2.mono hb1.size)); clear HQ hr1 hb1 hb2))
      | (go_at_call 18; (with_reducible refine (HC.out _ _ _ HR.out hr2).mono ?_); rintro e w3 ⟨rfl, rfl⟩)
      | (go_at_call 20; (with_reducible refine (HS.out _ _ _ HR.out hr2).mono ?_); rintro e w4 ⟨a4, c4, rfl, hr4, hc4, hb4⟩; have HB := Lib.hid (HB.out.trans (hb4.mono HB.out.size)); clear hb4 HR)
      | (go_at_call 19; (with_reducible refine (HJ.out (HZ1.out (by trivial) (by trivial)) _ _ hc4 _ hr4).mono ?_); rintro e w5 ⟨rfl, hb5⟩; have HB := Lib.hid (HB.out.trans (hb5.mono HB.out.size)); clear hb5)
      | (go_at_call 16; (with_reducible refine (HI.out (HZ1.out (by trivial) (by trivial)) _).mono ?_); rintro e w6 ⟨rfl, hb6⟩; have HB := Lib.hid (HB.out.trans (hb6.mono HB.out.size)); clear hb6))
    go_ret2
    exact ⟨rfl, HB.out⟩
end Go.Proofs.Ytnhiloikficigaa.Mat
