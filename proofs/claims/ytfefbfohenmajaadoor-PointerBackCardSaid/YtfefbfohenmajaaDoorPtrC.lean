/- Contracts of pointer's index and place. Conditions: strconv's two errors are there, the table of powers is as the library's text lays it, MaxLen holds some number (Env); as each theorem states. -/
import Derived.Test.YtfefbfohenmajaaDoorPtrA
import Derived.Test.YtfefbfohenmajaaDoorPtrIx
import Derived.Test.YtfefbfohenmajaaDoorTreW
import Derived.Shelf.Strconv.AtoiAll
import Derived.Lib.AtoiErrMem
namespace Go.Proofs.YtfefbfohenmajaaDoor.Ptr
open Go.RowKit Go.Lib Go.Proofs.YtfefbfohenmajaaDoor.Byt
open Go.Proofs.YtfefbfohenmajaaDoor.Tre (Vt V0 find cnt OkT okV InV InV_iff InV_next Box)

/-- What the walks ask of the library's variables. -/
structure Env (w : World) : Prop where
  mx : Mx w
  pw : Ren.Pw w
  syn : ∃ tp p, w.cell? ⟨3, 0, none⟩ = some (.iface tp p)
  rng : ∃ tp p, w.cell? ⟨4, 0, none⟩ = some (.iface tp p)
theorem var_next {g : Nat} {w w' : World} (h : ∃ tp p, w.cell? ⟨g, 0, none⟩ = some (.iface tp p)) (hb : Below w.heap.size w w') : ∃ tp p, w'.cell? ⟨g, 0, none⟩ = some (.iface tp p) := by
  obtain ⟨tp, p, hc⟩ := h
  exact ⟨tp, p, (hb.cell (Lib.lt_of_cell hc)).trans hc⟩
theorem Env.next {w w' : World} (h : Env w) (hb : Below w.heap.size w w') : Env w' := ⟨h.mx.next hb, h.pw.next hb, var_next h.syn hb, var_next h.rng hb⟩

theorem atoi_ok (s : ByteArray) (v : Int) (w : World) (hs : s.size ≤ 8000000) (h : Lib.atoiAll s.data.toList = .ok v) :
    Calls Tryd.prog 49 #[.string s] w fun e w' => e = .returned (.tuple #[.int .i64 v, .nilIface]) ∧ Below w.heap.size w w' := by
  refine (Tryd.strconv_Atoi_ok s (by omega) v h w).mono ?_
  rintro e w' ⟨rfl, rfl | ⟨t, rfl⟩⟩
  · exact ⟨rfl, Below.refl _ _⟩
  · exact ⟨rfl, Lib.bytesWorld_below _ _ _⟩
theorem atoi_no (s : ByteArray) (w : World) (hs : s.size ≤ 8000000) (h : ∀ v, Lib.atoiAll s.data.toList ≠ .ok v) (hE : Env w) :
    Calls Tryd.prog 49 #[.string s] w fun e w' => (∃ n tp p, e = .returned (.tuple #[.int .i64 n, .iface tp p])) ∧ Below w.heap.size w w' := by
  obtain ⟨tp, p, hc⟩ := hE.rng
  obtain ⟨tq, q, hd⟩ := hE.syn
  cases ha : Lib.atoiAll s.data.toList with
  | ok v => exact absurd ha (h v)
  | range =>
    refine (Any.strconv_Atoi_range Tryd.laysC172 s (by omega) ha _ w hc (.inr ⟨tp, p, rfl⟩)).mono ?_
    rintro e w' ⟨N, rfl, _, _, hb⟩
    exact ⟨⟨_, _, _, rfl⟩, hb⟩
  | _ =>
    refine (Any.strconv_Atoi_syntax Tryd.laysC172 s (by omega) ha _ w hd (.inr ⟨tq, q, rfl⟩)).mono ?_
    rintro e w' ⟨N, rfl, _, _, hb⟩
    exact ⟨⟨_, _, _, rfl⟩, hb⟩
theorem itoa_any (n : Int) (h1 : -9223372036854775808 ≤ n) (h2 : n ≤ 9223372036854775807) (W : World) (hP : Ren.Pw W) :
    Calls Tryd.prog 50 #[.int .i64 n] W fun e w' => e = .returned (.string ⟨(itoa n).toArray⟩) ∧ Below W.heap.size W w' := by
  refine (Tryd.strconv_Itoa n h1 h2 W hP).mono ?_
  rintro e w' ⟨rfl, k, os, rfl⟩
  exact ⟨rfl, Lib.below_grow _ W (Nat.le_refl _) k os⟩
theorem ret_int {a b : Int} (h : a = b) : Ending.returned (.int .i64 a) = .returned (.int .i64 b) := by rw [h]
set_option maxHeartbeats 1000000 in
theorem ix_any (s : ByteArray) (w : World) (hs : s.size ≤ 8000000) (hE : Env w) :
    Calls Tryd.prog 39 #[.string s] w fun e w' => e = .returned (.int .i64 (pIx s.data.toList)) ∧ Below w.heap.size w w' := by
  have hl : s.data.toList.length = s.size := by simp
  have hp : pIx s.data.toList = match atoiAll s.data.toList with
    | .ok v => if s.data.toList.length ≤ 9 ∧ itoa v = s.data.toList then v else -1
    | _ => -1 := rfl
  by_cases hv : ∃ v, atoiAll s.data.toList = .ok v
  · obtain ⟨v, hv⟩ := hv
    have HA := Lib.hid fun W => atoi_ok s v W hs hv
    obtain ⟨hb1, hb2⟩ := Lib.atoiAll_bounds hv
    have HI := Lib.hid fun W h => itoa_any v hb1 hb2 W h
    rw [hv, hl] at hp
    have hp2 : pIx s.data.toList = if s.size ≤ 9 ∧ itoa v = s.data.toList then v else -1 := hp
    clear hp hv
    by_cases h9 : 9 < s.size
    · rw [if_neg (by omega)] at hp2
      have HR := Lib.hid (ret_int hp2.symm)
      have g9 : decide ((9 : Int) < (s.size : Int)) = true := decide_eq_true (by omega)
      clear hp2 HI
      go_enter Tryd.func39, Tryd.ntmps39
      go_wp2_with (go_at_call 49; (with_reducible refine (HA.out _).mono ?_); rintro e w1 ⟨rfl, hb1⟩)
      go_ret
      exact ⟨HR.out, hb1⟩
    · have g9 : decide ((9 : Int) < (s.size : Int)) = false := decide_eq_false (by omega)
      have e : itoa v = s.data.toList ↔ (⟨(itoa v).toArray⟩ : ByteArray) = s := by
        constructor
        · intro q; rw [q]
        · intro q; rw [← q]
      by_cases hi : itoa v = s.data.toList
      · rw [if_pos ⟨by omega, hi⟩] at hp2
        have HR := Lib.hid (ret_int hp2.symm)
        have hx := e.1 hi
        rw [hx] at HI
        have hq : (s.toList == s.toList) = true := beq_self_eq_true _
        clear hp2 hi e hx
        go_enter Tryd.func39, Tryd.ntmps39
        go_wp2_with (first
          | (go_at_call 49; (with_reducible refine (HA.out _).mono ?_); rintro e w1 ⟨rfl, hb1⟩)
          | (go_at_call 50; (with_reducible refine (HI.out _ (hE.pw.next hb1)).mono ?_); rintro e w2 ⟨rfl, hb2⟩))
        go_ret
        exact ⟨HR.out, hb1.trans (hb2.mono hb1.size)⟩
      · rw [if_neg fun q => hi q.2] at hp2
        have HR := Lib.hid (ret_int hp2.symm)
        have hq := str_neq fun q => hi (e.2 q)
        clear hp2 hi e
        generalize (⟨(itoa v).toArray⟩ : ByteArray) = t at *
        go_enter Tryd.func39, Tryd.ntmps39
        go_wp2_with (first
          | (go_at_call 49; (with_reducible refine (HA.out _).mono ?_); rintro e w1 ⟨rfl, hb1⟩)
          | (go_at_call 50; (with_reducible refine (HI.out _ (hE.pw.next hb1)).mono ?_); rintro e w2 ⟨rfl, hb2⟩))
        go_ret
        exact ⟨HR.out, hb1.trans (hb2.mono hb1.size)⟩
  · have hn : ∀ v, atoiAll s.data.toList ≠ .ok v := fun v q => hv ⟨v, q⟩
    have HA := Lib.hid fun W h => atoi_no s W hs hn h
    have hp2 : pIx s.data.toList = -1 := by
      rw [hp]
      cases ha : atoiAll s.data.toList with
      | ok v => exact absurd ha (hn v)
      | _ => rfl
    have HR := Lib.hid (ret_int hp2.symm)
    clear hp hp2 hn hv
    go_enter Tryd.func39, Tryd.ntmps39
    go_wp2_with (go_at_call 49; (with_reducible refine (HA.out _ hE).mono ?_); rintro e w1 ⟨⟨n, tp, p, rfl⟩, hb1⟩)
    go_ret
    exact ⟨HR.out, hb1⟩

/-! ### place -/
/-- The place of the item that a part names. -/
def plV (v : Vt) (p : ByteArray) : Int := if v.k = 4 then pIx p.data.toList else if v.k = 5 then Lib.idxOfS v.ns p else -1
theorem plV_bd (v : Vt) (p : ByteArray) (hv : okV v) : -9223372036854775808 ≤ plV v p ∧ plV v p ≤ 9223372036854775807 := by
  unfold plV
  split
  · exact pIx_bd _
  split
  · rcases Tre.idx_fnd v.ns p with ⟨h, _⟩ | ⟨i, h1, h2, _⟩
    · omega
    · have := hv.2.2.2.2.1; omega
  · omega
/-- What stands one part further. -/
theorem stp1_is (v : Vt) (p : ByteArray) : (0 ≤ plV v p ∧ plV v p < (v.l.length : Int) ∧ stp1 v p = some (v.l.getD (plV v p).toNat V0)) ∨ ((plV v p < 0 ∨ (v.l.length : Int) ≤ plV v p) ∧ stp1 v p = none) := by
  unfold stp1 plV
  by_cases h4 : v.k = 4
  · rw [if_pos h4, if_pos h4]
    rcases plc_is p.data.toList v.l.length with ⟨h1, h2, h3⟩ | ⟨h1, h3⟩
    · exact .inl ⟨h1, h2, by rw [h3]; rfl⟩
    · exact .inr ⟨h1, by rw [h3]; rfl⟩
  · rw [if_neg h4, if_neg h4]
    unfold find
    by_cases h5 : v.k = 5
    · rw [if_pos h5, if_pos h5]
      rcases Tre.idx_fnd v.ns p with ⟨h1, h2⟩ | ⟨i, h1, h2, h3⟩
      · exact .inr ⟨.inl (by omega), h2 _⟩
      · rw [h2]
        by_cases hi : i < v.l.length
        · refine .inl ⟨by omega, by omega, ?_⟩
          rw [h3, List.getElem?_eq_getElem hi, Int.toNat_natCast, List.getD_eq_getElem?_getD, List.getElem?_eq_getElem hi]
          rfl
        · exact .inr ⟨.inr (by omega), by rw [h3, List.getElem?_eq_none (by omega)]⟩
    · rw [if_neg h5, if_neg h5]
      exact .inr ⟨.inl (by omega), rfl⟩
set_option maxHeartbeats 1000000 in
theorem place_any (v : Vt) (hv : okV v) (p : ByteArray) (hp : p.size ≤ 8000000) (cs : List Value) (w : World) (h : InV w v cs) (hE : Env w) :
    Calls Tryd.prog 25 #[.agg cs.toArray, .string p] w fun e w' => e = .returned (.int .i64 (plV v p)) ∧ Below w.heap.size w w' := by
  obtain ⟨a, cap, c4, rfl, _, hr⟩ := (InV_iff w v cs).1 h
  have hpl : plV v p = if v.k = 4 then pIx p.data.toList else if v.k = 5 then Lib.idxOfS v.ns p else -1 := rfl
  have HX := Lib.hid fun W h => ix_any p W hp h
  have HIX := Lib.hid fun (W : World) (hb : Below w.heap.size w W) => Tre.index_any v.ns c4 p W (hr.next hb) hv.2.2.2.2.1
  obtain ⟨a2, cap2, rfl, _⟩ := hr.open_
  have HE := Lib.hid hE
  clear hE hr h hv
  generalize plV v p = PL at *
  generalize v.l.length = ll at *
  generalize v.ns = ns at *
  generalize v.k = k at *
  generalize v.n = n at *
  generalize v.s = vs at *
  have HB := Lib.hid fun (o : Obj) => (Below.refl w.heap.size w).alloc (Nat.le_refl _) o
  by_cases h4 : k = 4
  · rw [if_pos h4] at hpl
    have g4 : ((k : Int) == 4) = true := by rw [h4]; rfl
    have HR := Lib.hid (ret_int hpl.symm)
    clear h4 hpl HIX
    go_enter Tryd.func25, Tryd.ntmps25
    go_wp2_with (go_at_call 39; (with_reducible refine (HX.out _ (HE.out.next (HB.out _))).mono ?_); rintro e w2 ⟨rfl, hb2⟩)
    go_ret
    exact ⟨HR.out, (HB.out _).trans (hb2.mono (HB.out _).size)⟩
  · rw [if_neg h4] at hpl
    have g4 : ((k : Int) == 4) = false := by rw [beq_eq_false_iff_ne]; exact h4
    by_cases h5 : k = 5
    · rw [if_pos h5] at hpl
      have g5 : ((k : Int) == 5) = true := by rw [h5]; rfl
      have HR := Lib.hid (ret_int hpl.symm)
      clear h4 h5 hpl HX
      go_enter Tryd.func25, Tryd.ntmps25
      go_wp2_with (go_at_call 40; refine (HIX.out _ (HB.out _)).mono ?_; rintro e w2 ⟨rfl, rfl⟩)
      go_ret
      exact ⟨HR.out, HB.out _⟩
    · rw [if_neg h5] at hpl
      have g5 : ((k : Int) == 5) = false := by rw [beq_eq_false_iff_ne]; exact h5
      have HR := Lib.hid (ret_int hpl.symm)
      clear h4 h5 hpl HX HIX
      go_enter Tryd.func25, Tryd.ntmps25
      go_wp2_with fail
      go_ret
      exact ⟨HR.out, HB.out _⟩
end Go.Proofs.YtfefbfohenmajaaDoor.Ptr
