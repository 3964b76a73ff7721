/- Contracts of the document's member, items, members. Conditions: as each theorem states. -/
import Derived.Test.YtggahjhjapnfeaaDoorGraT
import Derived.Deep.RegionHeld3
namespace Go.Proofs.YtggahjhjapnfeaaDoor.Gr
open Go.RowKit Go.Lib Go.Proofs.YtggahjhjapnfeaaDoor.Byt Go.Proofs.YtggahjhjapnfeaaDoor.Lx

/-- 't' of a variable that holds the struct, under a guard that lets it by. -/
theorem wpList_fetchG {ops : Array Oper} {rest : List Oper} {o : Oper} {a : Act} {Q : Exit → Act → World → Prop} (W : World) (hw : Region.wanted o (yielded ops a.tmps) = true) (x : Operand) (ho : o.op = .load 31 x) (g : Nat) (s : ByteArray) (P : Pl)
    (hx : a.eval x = .pointer (some ⟨g, 0, none⟩)) (hk : Bx W g s P)
    (h : wpList Tryd.prog ops Q rest (a.put o.dst (.agg (tC s P))) W) : wpList Tryd.prog ops Q (o :: rest) a W :=
  wpList_step fun _ hK => by
    rw [if_pos hw]
    exact wp_load_row _ x ho g hx _ (tC s P) _ _ hk Tryd.underlying31 rfl (by rw [infoT]; rfl) (hK _ _ h)
/-- A member ends its name at k. -/
def gdM (s : ByteArray) (i j k : Nat) : Prop := by8 s k = 58 ∧ Nm (trm (ps s i k)) ∧ 0 ≤ gd (.elm false) (ps s (k + 1) j)
set_option maxHeartbeats 1000000 in
set_option maxRecDepth 100000 in
theorem rmember_any (s : ByteArray) (P : Pl) (Dv Di Dm : Nat → Nat → Prop) (i j : Nat) (a c : Int) (ha : a = (i : Int)) (hc : c = (j : Int)) (w : World) (h : Tb w s P Dv Di Dm) (hij : i ≤ j) (hj : j ≤ P.n) (hD : ∀ p q, i ≤ p → p ≤ q → q ≤ j → Dv p q) :
    Calls Tryd.prog 19 #[.agg (tC s P), .int .i64 a, .int .i64 c] w fun e w' => e = .returned (.int .i64 (gd (.elm true) (ps s i j))) ∧ Below w.heap.size w w' := by
  subst ha hc
  have hz := h.z
  have hz2 := h.z2
  have hl := ps_size s
  have HE := Lib.hid (fun (hno : ∀ k, i ≤ k → k < j → ¬ gdM s i j k) => (show gd (.elm true) (ps s i j) = -1 from member_none (l := s.data.toList) hij (by omega) hno))
  have HY := Lib.hid (fun k (h1 : i ≤ k) (h2 : k < j) (hg : gdM s i j k) => (show gd (.elm true) (ps s i j) = gd (.elm false) (ps s (k + 1) j) from member_yes (l := s.data.toList) h1 h2 (by omega) hg.1 hg.2.1 hg.2.2))
  have HT := Lib.hid (fun k (h1 : i ≤ k) (h2 : k < j) w => rtrimmed_any s i k (i : Int) (k : Int) rfl rfl h1 (by omega) (by omega) w)
  have HI := Lib.hid (fun k (h1 : i ≤ k) (h2 : k < j) W (hx : Tx w w.heap.size s P Dv Di Dm W) => ritem_any s P Dv Di Dm (k + 1) j ((k + 1 : Nat) : Int) (j : Int) rfl rfl W hx.tb (by omega) hj (fun p q hp hpq hq => hD p q (by omega) hpq hq))
  have hx0 := Tx.boxed h
  generalize hZ : gd (.elm true) (ps s i j) = Z at *
  clear hZ hD
  unfold tC at hx0 ⊢
  go_enter Tryd.func19, Tryd.ntmps19
  go_wp2_with fail
  go_loopw [7, 8, 9] (fun x _ _ wr => ∃ k : Nat, x = .int .i64 (k : Int) ∧ i ≤ k ∧ k ≤ j ∧ Tx w w.heap.size s P Dv Di Dm wr ∧ Hid (∀ k', i ≤ k' → k' < k → ¬ gdM s i j k')) (fun x _ _ _ => j - (RowKit.intOf x).toNat)
  case atStart => exact ⟨i, rfl, Nat.le_refl _, hij, hx0, Lib.hid fun k' h1 h2 => by omega⟩
  case round =>
    clear hx0
    obtain ⟨k, rfl, hik, hk, hR, hno⟩ := hrel
    by_cases hkj : k < j
    · have hix := fun w => index_of s k (k : Int) rfl (by omega) w
      have f0 := hR.f0
      have HTK := Lib.hid (HT.out k hik hkj)
      have HIK := Lib.hid (HI.out k hik hkj)
      have hwk : IntKind.i64.wrap ((k : Int) + 1) = ((k + 1 : Nat) : Int) := by rw [IntKind.wrap_i64]; omega
      have hnext : ¬ gdM s i j k → Hid (∀ k', i ≤ k' → k' < k + 1 → ¬ gdM s i j k') := fun hg => Lib.hid fun k' h1 h2 => by
        by_cases e : k' = k
        · subst e; exact hg
        · exact hno.out k' h1 (by omega)
      by_cases h58 : by8 s k = 58
      · obtain ⟨t1, t2, t3⟩ := t_in s i k hik (by omega)
        have hcut := fun w => run_cut s (tI s i k : Int) (tJ s i k : Int) (tI s i k) (tJ s i k - tI s i k) rfl (by omega) (by omega) w
        have hcs : (cutB s (tI s i k) (tJ s i k - tI s i k)).size ≤ 1000000 := by rw [cutB_size s _ _ (by omega)]; omega
        have hnm : (cutB s (tI s i k) (tJ s i k - tI s i k)).data.toList = trm (ps s i k) := by rw [ps_cut, t_trm s i k hik (by omega)]
        have h1 : (tI s i k : Int) ≤ (tJ s i k : Int) := by omega
        have h2 : tJ s i k ≤ s.size := by omega
        by_cases hn : Nm (trm (ps s i k))
        · have HN := Lib.hid (fun w => rname_any (cutB s (tI s i k) (tJ s i k - tI s i k)) true (by rw [hnm]; simpa using hn) hcs w)
          by_cases hi : 0 ≤ gd (.elm false) (ps s (k + 1) j)
          · have HZ := Lib.hid (HY.out k hik hkj ⟨h58, hn, hi⟩)
            have d1 : decide (0 ≤ gd (.elm false) (ps s (k + 1) j)) = true := decide_eq_true hi
            rw [h58] at hix
            generalize gd (.elm false) (ps s (k + 1) j) = G1 at *
            generalize cutB s (tI s i k) (tJ s i k - tI s i k) = X at *
            generalize tI s i k = p at *
            generalize tJ s i k = q at *
            generalize k + 1 = k1 at *
            clear h58 hnext hi hcs hnm hn t1 t2 t3
            go_wp2_with (first
              | (go_at_call 20; (with_reducible refine (HTK.out _).mono ?_); rintro e w1 ⟨rfl, rfl⟩)
              | (go_at_call 27; (with_reducible refine (HN.out _).mono ?_); rintro e w1 ⟨rfl, hb1⟩; have hx1 := Tx.next hR hb1)
              | (refine wpList_fetchT _ rfl _ rfl w.heap.size s P rfl hx2.bx ?_) | (refine wpList_fetchG _ (by rfl) _ rfl w.heap.size s P rfl hx1.bx ?_)
              | (go_at_call 14; (with_reducible refine (HIK.out _ hx2).mono ?_); rintro e w3 ⟨rfl, hb3⟩; have hx3 := Tx.next hx2 hb3)
              | (go_at_call 14; (with_reducible refine (HIK.out _ hx1).mono ?_); rintro e w2 ⟨rfl, hb2⟩; have hx2 := Tx.next hx1 hb2))
            first | go_ret | go_returns
            exact ⟨by rw [HZ.out]; rfl, hx3.bel⟩
          · have hnx := hnext fun hg => hi hg.2.2
            have d1 : decide (0 ≤ gd (.elm false) (ps s (k + 1) j)) = false := decide_eq_false hi
            rw [h58] at hix
            generalize gd (.elm false) (ps s (k + 1) j) = G1 at *
            generalize cutB s (tI s i k) (tJ s i k - tI s i k) = X at *
            generalize tI s i k = p at *
            generalize tJ s i k = q at *
            generalize hk1 : k + 1 = k1 at *
            have HK1 := Lib.hid hk1
            clear h58 hnext hi hcs hnm hn t1 t2 t3 hk1
            go_wp2_with (first
              | (go_at_call 20; (with_reducible refine (HTK.out _).mono ?_); rintro e w1 ⟨rfl, rfl⟩)
              | (go_at_call 27; (with_reducible refine (HN.out _).mono ?_); rintro e w1 ⟨rfl, hb1⟩; have hx1 := Tx.next hR hb1)
              | (refine wpList_fetchT _ rfl _ rfl w.heap.size s P rfl hx2.bx ?_) | (refine wpList_fetchG _ (by rfl) _ rfl w.heap.size s P rfl hx1.bx ?_)
              | (go_at_call 14; (with_reducible refine (HIK.out _ hx2).mono ?_); rintro e w3 ⟨rfl, hb3⟩; have hx3 := Tx.next hx2 hb3)
              | (go_at_call 14; (with_reducible refine (HIK.out _ hx1).mono ?_); rintro e w2 ⟨rfl, hb2⟩; have hx2 := Tx.next hx1 hb2))
            go_roundw
            case rel => exact ⟨k1, rfl, by have := HK1.out; omega, by have := HK1.out; omega, hx2, hnx⟩
            case measure => have := HK1.out; simp [RowKit.intOf]; omega
        · have hnx := hnext fun hg => hn hg.2.1
          have HN := Lib.hid (fun w => rname_any (cutB s (tI s i k) (tJ s i k - tI s i k)) false (by rw [hnm]; simpa using hn) hcs w)
          rw [h58] at hix
          generalize cutB s (tI s i k) (tJ s i k - tI s i k) = X at *
          generalize tI s i k = p at *
          generalize tJ s i k = q at *
          clear h58 hnext hcs hnm hn t1 t2 t3
          go_wp2_with (first
            | (go_at_call 20; (with_reducible refine (HTK.out _).mono ?_); rintro e w1 ⟨rfl, rfl⟩)
            | (go_at_call 27; (with_reducible refine (HN.out _).mono ?_); rintro e w1 ⟨rfl, hb1⟩; have hx1 := Tx.next hR hb1))
          go_roundw
          case rel => exact ⟨k + 1, rfl, by omega, by omega, hx1, hnx⟩
          case measure => simp [RowKit.intOf]; omega
      · have hnx := hnext fun hg => h58 hg.1
        have n1 : ((by8 s k : Int) == 58) = false := by rw [beq_eq_false_iff_ne]; omega
        generalize by8 s k = c at *
        generalize tI s i k = p at *
        generalize tJ s i k = q at *
        clear h58 hnext
        go_wp2_with (go_at_call 20; (with_reducible refine (HTK.out _).mono ?_); rintro e w1 ⟨rfl, rfl⟩)
        go_roundw
        case rel => exact ⟨k + 1, rfl, by omega, by omega, hR, hnx⟩
        case measure => simp [RowKit.intOf]; omega
    · obtain rfl : k = j := by omega
      have HZ := Lib.hid (HE.out hno.out)
      clear hno
      go_wp2_with fail
      first | go_ret | go_returns
      exact ⟨by rw [HZ.out]; rfl, hR.bel⟩

/-! ### items, members -/
theorem max_runI (x y : Int) (w : World) : (Builtin.max_ #[3, 3] 3 #[.int .i64 x, .int .i64 y]).run Tryd.prog w = .ok (.int .i64 (max x y)) w := by
  rw [run_max_int2]
  congr 2
  split <;> omega
/-- A comma at k parts the piece. -/
def gdC_items (s : ByteArray) (i j k : Nat) : Prop := by8 s k = 44 ∧ 0 ≤ gd (.elm false) (ps s i k) ∧ 0 ≤ gd (.elms false) (ps s (k + 1) j)
set_option maxHeartbeats 2000000 in
set_option maxRecDepth 100000 in
theorem ritems_any (s : ByteArray) (P : Pl) (Dv Di Dm : Nat → Nat → Prop) (i j : Nat) (a c : Int) (ha : a = (i : Int)) (hc : c = (j : Int)) (w : World) (h : Tb w s P Dv Di Dm) (hij : i ≤ j) (hj : j ≤ P.n) (hD : ∀ p q, i ≤ p → p ≤ q → q ≤ j → Dv p q) (hD2 : ∀ k, i ≤ k → k < j → Di (k + 1) j) :
    Calls Tryd.prog 12 #[.agg (tC s P), .int .i64 a, .int .i64 c] w fun e w' => e = .returned (.int .i64 (gd (.elms false) (ps s i j))) ∧ Below w.heap.size w w' := by
  subst ha hc
  have hz := h.z
  have hz2 := h.z2
  have hl := ps_size s
  have HE := Lib.hid (fun (h0 : ¬ 0 ≤ gd (.elm false) (ps s i j)) (hno : ∀ k, i ≤ k → k < j → ¬ gdC_items s i j k) => (show gd (.elms false) (ps s i j) = -1 from elms_none (l := s.data.toList) hij (by omega) h0 hno))
  have HY := Lib.hid (fun k (h1 : i ≤ k) (h2 : k < j) (hg : gdC_items s i j k) => (show gd (.elms false) (ps s i j) = max (gd (.elm false) (ps s i k)) (gd (.elms false) (ps s (k + 1) j)) from elms_more (l := s.data.toList) h1 h2 (by omega) hg.1 hg.2.1 hg.2.2))
  have H1 := Lib.hid (fun (h0 : 0 ≤ gd (.elm false) (ps s i j)) => (show gd (.elms false) (ps s i j) = gd (.elm false) (ps s i j) from elms_one (l := s.data.toList) h0))
  have HI : Hid (∀ k : Nat, i ≤ k → k ≤ j → ∀ W, Tx w w.heap.size s P Dv Di Dm W → Calls Tryd.prog 14 #[(.agg #[.string s, .slice (some ⟨P.gv, 0, none⟩) (P.n + 1) (P.n + 1), .slice (some ⟨P.gi, 0, none⟩) (P.n + 1) (P.n + 1), .slice (some ⟨P.gm, 0, none⟩) (P.n + 1) (P.n + 1)]), .int .i64 (i : Int), .int .i64 (k : Int)] W fun e w' => e = .returned (.int .i64 (gd (.elm false) (ps s i k))) ∧ Tx w w.heap.size s P Dv Di Dm w') :=
    Lib.hid fun k h1 h2 W hx => (ritem_any s P Dv Di Dm i k (i : Int) (k : Int) rfl rfl W hx.tb h1 (by omega) (fun p q hp hpq hq => hD p q hp hpq (by omega))).mono fun _ _ h => ⟨h.1, hx.next h.2⟩
  have hx0 := Tx.boxed h
  have HX := Lib.hid (fun k (h1 : i ≤ k) (h2 : k < j) W (hx : Tx w w.heap.size s P Dv Di Dm W) => (⟨hx.f2, hx.tb.i.row (k + 1) (by omega), hx.tb.i.at_ (p := k + 1) (q := j) (by omega) hj (hD2 k h1 h2)⟩ : W.cell? ⟨w.heap.size, 2, none⟩ = some (.slice (some ⟨P.gi, 0, none⟩) (P.n + 1) (P.n + 1)) ∧ W.cell? ⟨P.gi, k + 1, none⟩ = some (.slice (some ⟨P.ri (k + 1), 0, none⟩) (P.n + 1) (P.n + 1)) ∧ W.cell? ⟨P.ri (k + 1), j, none⟩ = some (.int .i64 (gd (.elms false) (ps s (k + 1) j)))))
  generalize hZ : gd (.elms false) (ps s i j) = Z at *
  clear hZ hD hD2
  have HJ := Lib.hid (HI.out j hij (Nat.le_refl _))
  unfold tC at hx0 ⊢
  have g0 := hx0.f0
  have g1 := hx0.f1
  have g2 := hx0.f2
  have g3 := hx0.f3
  by_cases h0 : 0 ≤ gd (.elm false) (ps s i j)
  · have HZ := Lib.hid (H1.out h0)
    have d0 : decide (0 ≤ gd (.elm false) (ps s i j)) = true := decide_eq_true h0
    generalize gd (.elm false) (ps s i j) = G0 at *
    clear h0
    go_enter Tryd.func12, Tryd.ntmps12
    go_wp2_with (first
      | (go_at_call 14; (with_reducible refine (HJ.out _ hx0).mono ?_); rintro e w1 ⟨rfl, hx1⟩))
    first | go_ret | go_returns
    exact ⟨by rw [HZ.out]; rfl, hx1.bel⟩
  · have HN := Lib.hid (HE.out h0)
    have d0 : decide (0 ≤ gd (.elm false) (ps s i j)) = false := decide_eq_false h0
    generalize gd (.elm false) (ps s i j) = G0 at *
    clear h0
    go_enter Tryd.func12, Tryd.ntmps12
    go_wp2_with (first
      | (go_at_call 14; (with_reducible refine (HJ.out _ hx0).mono ?_); rintro e w1 ⟨rfl, hx1⟩))
    go_loopw [8] (fun x wr => ∃ k : Nat, x = .int .i64 (k : Int) ∧ i ≤ k ∧ k ≤ j ∧ Tx w w.heap.size s P Dv Di Dm wr ∧ Hid (∀ k', i ≤ k' → k' < k → ¬ gdC_items s i j k')) (fun x _ => j - (RowKit.intOf x).toNat)
    case atStart => exact ⟨i, rfl, Nat.le_refl _, hij, hx1, Lib.hid fun k' h1 h2 => by omega⟩
    case round =>
      clear hx0 hx1 d0 g0 g1 g2 g3
      obtain ⟨k, rfl, hik, hk, hR, hno⟩ := hrel
      by_cases hkj : k < j
      · have hix := fun w => index_of s k (k : Int) rfl (by omega) w
        have f0 := hR.f0
        have f1 := hR.f1
        have f2 := hR.f2
        have f3 := hR.f3
        have HIK := Lib.hid (HI.out k hik hk)
        have HXK := Lib.hid (HX.out k hik hkj)
        have hwk : IntKind.i64.wrap ((k : Int) + 1) = ((k + 1 : Nat) : Int) := by rw [IntKind.wrap_i64]; omega
        have hnext : ¬ gdC_items s i j k → Hid (∀ k', i ≤ k' → k' < k + 1 → ¬ gdC_items s i j k') := fun hg => Lib.hid fun k' h1 h2 => by
          by_cases e : k' = k
          · subst e; exact hg
          · exact hno.out k' h1 (by omega)
        have hb1 : k + 1 < P.n + 1 := by omega
        have hb2 : j < P.n + 1 := by omega
        by_cases h44 : by8 s k = 44
        · rw [h44] at hix
          by_cases ha : 0 ≤ gd (.elm false) (ps s i k)
          · have d1 : decide (0 ≤ gd (.elm false) (ps s i k)) = true := decide_eq_true ha
            by_cases hb : 0 ≤ gd (.elms false) (ps s (k + 1) j)
            · have d2 : decide (0 ≤ gd (.elms false) (ps s (k + 1) j)) = true := decide_eq_true hb
              have HZ := Lib.hid (HY.out k hik hkj ⟨h44, ha, hb⟩)
              have hmx := fun w => max_runI (gd (.elm false) (ps s i k)) (gd (.elms false) (ps s (k + 1) j)) w
              generalize gd (.elm false) (ps s i k) = G1 at *
              generalize gd (.elms false) (ps s (k + 1) j) = G2 at *
              generalize k + 1 = k1 at *
              clear h44 hnext ha hb
              go_wp2_with (first
                | (go_at_call 14; (with_reducible refine (HIK.out _ hR).mono ?_); rintro e w2 ⟨rfl, hx2⟩; obtain ⟨y1, y2, y3⟩ := HXK.out _ hx2))
              have hd2 := hx2.drew
              have z0 : ∀ W, Tx w w.heap.size s P Dv Di Dm W → W.cell? ⟨w.heap.size, 0, none⟩ = some (.string s) := fun W h => h.f0
              have z1 : ∀ W, Tx w w.heap.size s P Dv Di Dm W → W.cell? ⟨w.heap.size, 1, none⟩ = some (.slice (some ⟨P.gv, 0, none⟩) (P.n + 1) (P.n + 1)) := fun W h => h.f1
              have z2 : ∀ W, Tx w w.heap.size s P Dv Di Dm W → W.cell? ⟨w.heap.size, 2, none⟩ = some (.slice (some ⟨P.gi, 0, none⟩) (P.n + 1) (P.n + 1)) := fun W h => h.f2
              have z3 : ∀ W, Tx w w.heap.size s P Dv Di Dm W → W.cell? ⟨w.heap.size, 3, none⟩ = some (.slice (some ⟨P.gm, 0, none⟩) (P.n + 1) (P.n + 1)) := fun W h => h.f3
              have z4 : ∀ W, Tx w w.heap.size s P Dv Di Dm W → W.cell? ⟨P.gi, k1, none⟩ = some (.slice (some ⟨P.ri k1, 0, none⟩) (P.n + 1) (P.n + 1)) := fun W h => (HXK.out W h).2.1
              have z5 : ∀ W, Tx w w.heap.size s P Dv Di Dm W → W.cell? ⟨P.ri k1, j, none⟩ = some (.int .i64 G2) := fun W h => (HXK.out W h).2.2
              have b1 : (0 : Int) ≤ (k1 : Int) := by omega
              have b2 : (k1 : Int) < (P.n : Int) + 1 := by omega
              have b3 : (0 : Int) ≤ (j : Int) := by omega
              have b4 : (j : Int) < (P.n : Int) + 1 := by omega
              clear y1 y2 y3 hR f0 f1 f2 f3
              go_region_held3 (Tx w w.heap.size s P Dv Di Dm) (first | exact hd2 | assumption)
                ((go_at_call 14; (with_reducible refine (HIK.out _ (by assumption)).mono ?_); rintro e wx ⟨rfl, hx3⟩))
              all_goals
                go_wp2_with fail
                first | go_ret | go_returns
                exact ⟨by rw [HZ.out]; rfl, hx3.bel⟩
            · have hnx := hnext fun hg => hb hg.2.2
              have d2 : decide (0 ≤ gd (.elms false) (ps s (k + 1) j)) = false := decide_eq_false hb
              generalize gd (.elm false) (ps s i k) = G1 at *
              generalize gd (.elms false) (ps s (k + 1) j) = G2 at *
              generalize hk1 : k + 1 = k1 at *
              have HK1 := Lib.hid hk1
              clear h44 hnext ha hb hk1
              go_wp2_with (first
                | (go_at_call 14; (with_reducible refine (HIK.out _ hR).mono ?_); rintro e w2 ⟨rfl, hx2⟩; obtain ⟨y1, y2, y3⟩ := HXK.out _ hx2))
              go_roundw
              case rel => exact ⟨k1, rfl, by have := HK1.out; omega, by have := HK1.out; omega, hx2, hnx⟩
              case measure => have := HK1.out; simp [RowKit.intOf]; omega
          · have hnx := hnext fun hg => ha hg.2.1
            have d1 : decide (0 ≤ gd (.elm false) (ps s i k)) = false := decide_eq_false ha
            generalize gd (.elm false) (ps s i k) = G1 at *
            generalize hk1 : k + 1 = k1 at *
            have HK1 := Lib.hid hk1
            clear h44 hnext ha hk1 HXK
            go_wp2_with (first
              | (go_at_call 14; (with_reducible refine (HIK.out _ hR).mono ?_); rintro e w2 ⟨rfl, hx2⟩))
            go_roundw
            case rel => exact ⟨k1, rfl, by have := HK1.out; omega, by have := HK1.out; omega, hx2, hnx⟩
            case measure => have := HK1.out; simp [RowKit.intOf]; omega
        · have hnx := hnext fun hg => h44 hg.1
          have n1 : ((by8 s k : Int) == 44) = false := by rw [beq_eq_false_iff_ne]; omega
          generalize by8 s k = c at *
          clear h44 hnext
          go_wp2_with fail
          go_roundw
          case rel => exact ⟨k + 1, rfl, by omega, by omega, hR, hnx⟩
          case measure => simp [RowKit.intOf]; omega
      · obtain rfl : k = j := by omega
        have HZ := Lib.hid (HN.out hno.out)
        clear hno
        go_wp2_with fail
        first | go_ret | go_returns
        exact ⟨by rw [HZ.out]; rfl, hR.bel⟩
/-- A comma at k parts the piece. -/
def gdC_members (s : ByteArray) (i j k : Nat) : Prop := by8 s k = 44 ∧ 0 ≤ gd (.elm true) (ps s i k) ∧ 0 ≤ gd (.elms true) (ps s (k + 1) j)
set_option maxHeartbeats 2000000 in
set_option maxRecDepth 100000 in
theorem rmembers_any (s : ByteArray) (P : Pl) (Dv Di Dm : Nat → Nat → Prop) (i j : Nat) (a c : Int) (ha : a = (i : Int)) (hc : c = (j : Int)) (w : World) (h : Tb w s P Dv Di Dm) (hij : i ≤ j) (hj : j ≤ P.n) (hD : ∀ p q, i ≤ p → p ≤ q → q ≤ j → Dv p q) (hD2 : ∀ k, i ≤ k → k < j → Dm (k + 1) j) :
    Calls Tryd.prog 13 #[.agg (tC s P), .int .i64 a, .int .i64 c] w fun e w' => e = .returned (.int .i64 (gd (.elms true) (ps s i j))) ∧ Below w.heap.size w w' := by
  subst ha hc
  have hz := h.z
  have hz2 := h.z2
  have hl := ps_size s
  have HE := Lib.hid (fun (h0 : ¬ 0 ≤ gd (.elm true) (ps s i j)) (hno : ∀ k, i ≤ k → k < j → ¬ gdC_members s i j k) => (show gd (.elms true) (ps s i j) = -1 from elms_none (l := s.data.toList) hij (by omega) h0 hno))
  have HY := Lib.hid (fun k (h1 : i ≤ k) (h2 : k < j) (hg : gdC_members s i j k) => (show gd (.elms true) (ps s i j) = max (gd (.elm true) (ps s i k)) (gd (.elms true) (ps s (k + 1) j)) from elms_more (l := s.data.toList) h1 h2 (by omega) hg.1 hg.2.1 hg.2.2))
  have H1 := Lib.hid (fun (h0 : 0 ≤ gd (.elm true) (ps s i j)) => (show gd (.elms true) (ps s i j) = gd (.elm true) (ps s i j) from elms_one (l := s.data.toList) h0))
  have HI : Hid (∀ k : Nat, i ≤ k → k ≤ j → ∀ W, Tx w w.heap.size s P Dv Di Dm W → Calls Tryd.prog 19 #[(.agg #[.string s, .slice (some ⟨P.gv, 0, none⟩) (P.n + 1) (P.n + 1), .slice (some ⟨P.gi, 0, none⟩) (P.n + 1) (P.n + 1), .slice (some ⟨P.gm, 0, none⟩) (P.n + 1) (P.n + 1)]), .int .i64 (i : Int), .int .i64 (k : Int)] W fun e w' => e = .returned (.int .i64 (gd (.elm true) (ps s i k))) ∧ Tx w w.heap.size s P Dv Di Dm w') :=
    Lib.hid fun k h1 h2 W hx => (rmember_any s P Dv Di Dm i k (i : Int) (k : Int) rfl rfl W hx.tb h1 (by omega) (fun p q hp hpq hq => hD p q hp hpq (by omega))).mono fun _ _ h => ⟨h.1, hx.next h.2⟩
  have hx0 := Tx.boxed h
  have HX := Lib.hid (fun k (h1 : i ≤ k) (h2 : k < j) W (hx : Tx w w.heap.size s P Dv Di Dm W) => (⟨hx.f3, hx.tb.m.row (k + 1) (by omega), hx.tb.m.at_ (p := k + 1) (q := j) (by omega) hj (hD2 k h1 h2)⟩ : W.cell? ⟨w.heap.size, 3, none⟩ = some (.slice (some ⟨P.gm, 0, none⟩) (P.n + 1) (P.n + 1)) ∧ W.cell? ⟨P.gm, k + 1, none⟩ = some (.slice (some ⟨P.rm (k + 1), 0, none⟩) (P.n + 1) (P.n + 1)) ∧ W.cell? ⟨P.rm (k + 1), j, none⟩ = some (.int .i64 (gd (.elms true) (ps s (k + 1) j)))))
  generalize hZ : gd (.elms true) (ps s i j) = Z at *
  clear hZ hD hD2
  have HJ := Lib.hid (HI.out j hij (Nat.le_refl _))
  unfold tC at hx0 ⊢
  have g0 := hx0.f0
  have g1 := hx0.f1
  have g2 := hx0.f2
  have g3 := hx0.f3
  by_cases h0 : 0 ≤ gd (.elm true) (ps s i j)
  · have HZ := Lib.hid (H1.out h0)
    have d0 : decide (0 ≤ gd (.elm true) (ps s i j)) = true := decide_eq_true h0
    generalize gd (.elm true) (ps s i j) = G0 at *
    clear h0
    go_enter Tryd.func13, Tryd.ntmps13
    go_wp2_with (first
      | (go_at_call 19; (with_reducible refine (HJ.out _ hx0).mono ?_); rintro e w1 ⟨rfl, hx1⟩))
    first | go_ret | go_returns
    exact ⟨by rw [HZ.out]; rfl, hx1.bel⟩
  · have HN := Lib.hid (HE.out h0)
    have d0 : decide (0 ≤ gd (.elm true) (ps s i j)) = false := decide_eq_false h0
    generalize gd (.elm true) (ps s i j) = G0 at *
    clear h0
    go_enter Tryd.func13, Tryd.ntmps13
    go_wp2_with (first
      | (go_at_call 19; (with_reducible refine (HJ.out _ hx0).mono ?_); rintro e w1 ⟨rfl, hx1⟩))
    go_loopw [8] (fun x wr => ∃ k : Nat, x = .int .i64 (k : Int) ∧ i ≤ k ∧ k ≤ j ∧ Tx w w.heap.size s P Dv Di Dm wr ∧ Hid (∀ k', i ≤ k' → k' < k → ¬ gdC_members s i j k')) (fun x _ => j - (RowKit.intOf x).toNat)
    case atStart => exact ⟨i, rfl, Nat.le_refl _, hij, hx1, Lib.hid fun k' h1 h2 => by omega⟩
    case round =>
      clear hx0 hx1 d0 g0 g1 g2 g3
      obtain ⟨k, rfl, hik, hk, hR, hno⟩ := hrel
      by_cases hkj : k < j
      · have hix := fun w => index_of s k (k : Int) rfl (by omega) w
        have f0 := hR.f0
        have f1 := hR.f1
        have f2 := hR.f2
        have f3 := hR.f3
        have HIK := Lib.hid (HI.out k hik hk)
        have HXK := Lib.hid (HX.out k hik hkj)
        have hwk : IntKind.i64.wrap ((k : Int) + 1) = ((k + 1 : Nat) : Int) := by rw [IntKind.wrap_i64]; omega
        have hnext : ¬ gdC_members s i j k → Hid (∀ k', i ≤ k' → k' < k + 1 → ¬ gdC_members s i j k') := fun hg => Lib.hid fun k' h1 h2 => by
          by_cases e : k' = k
          · subst e; exact hg
          · exact hno.out k' h1 (by omega)
        have hb1 : k + 1 < P.n + 1 := by omega
        have hb2 : j < P.n + 1 := by omega
        by_cases h44 : by8 s k = 44
        · rw [h44] at hix
          by_cases ha : 0 ≤ gd (.elm true) (ps s i k)
          · have d1 : decide (0 ≤ gd (.elm true) (ps s i k)) = true := decide_eq_true ha
            by_cases hb : 0 ≤ gd (.elms true) (ps s (k + 1) j)
            · have d2 : decide (0 ≤ gd (.elms true) (ps s (k + 1) j)) = true := decide_eq_true hb
              have HZ := Lib.hid (HY.out k hik hkj ⟨h44, ha, hb⟩)
              have hmx := fun w => max_runI (gd (.elm true) (ps s i k)) (gd (.elms true) (ps s (k + 1) j)) w
              generalize gd (.elm true) (ps s i k) = G1 at *
              generalize gd (.elms true) (ps s (k + 1) j) = G2 at *
              generalize k + 1 = k1 at *
              clear h44 hnext ha hb
              go_wp2_with (first
                | (go_at_call 19; (with_reducible refine (HIK.out _ hR).mono ?_); rintro e w2 ⟨rfl, hx2⟩; obtain ⟨y1, y2, y3⟩ := HXK.out _ hx2))
              have hd2 := hx2.drew
              have z0 : ∀ W, Tx w w.heap.size s P Dv Di Dm W → W.cell? ⟨w.heap.size, 0, none⟩ = some (.string s) := fun W h => h.f0
              have z1 : ∀ W, Tx w w.heap.size s P Dv Di Dm W → W.cell? ⟨w.heap.size, 1, none⟩ = some (.slice (some ⟨P.gv, 0, none⟩) (P.n + 1) (P.n + 1)) := fun W h => h.f1
              have z2 : ∀ W, Tx w w.heap.size s P Dv Di Dm W → W.cell? ⟨w.heap.size, 2, none⟩ = some (.slice (some ⟨P.gi, 0, none⟩) (P.n + 1) (P.n + 1)) := fun W h => h.f2
              have z3 : ∀ W, Tx w w.heap.size s P Dv Di Dm W → W.cell? ⟨w.heap.size, 3, none⟩ = some (.slice (some ⟨P.gm, 0, none⟩) (P.n + 1) (P.n + 1)) := fun W h => h.f3
              have z4 : ∀ W, Tx w w.heap.size s P Dv Di Dm W → W.cell? ⟨P.gm, k1, none⟩ = some (.slice (some ⟨P.rm k1, 0, none⟩) (P.n + 1) (P.n + 1)) := fun W h => (HXK.out W h).2.1
              have z5 : ∀ W, Tx w w.heap.size s P Dv Di Dm W → W.cell? ⟨P.rm k1, j, none⟩ = some (.int .i64 G2) := fun W h => (HXK.out W h).2.2
              have b1 : (0 : Int) ≤ (k1 : Int) := by omega
              have b2 : (k1 : Int) < (P.n : Int) + 1 := by omega
              have b3 : (0 : Int) ≤ (j : Int) := by omega
              have b4 : (j : Int) < (P.n : Int) + 1 := by omega
              clear y1 y2 y3 hR f0 f1 f2 f3
              go_region_held3 (Tx w w.heap.size s P Dv Di Dm) (first | exact hd2 | assumption)
                ((go_at_call 19; (with_reducible refine (HIK.out _ (by assumption)).mono ?_); rintro e wx ⟨rfl, hx3⟩))
              all_goals
                go_wp2_with fail
                first | go_ret | go_returns
                exact ⟨by rw [HZ.out]; rfl, hx3.bel⟩
            · have hnx := hnext fun hg => hb hg.2.2
              have d2 : decide (0 ≤ gd (.elms true) (ps s (k + 1) j)) = false := decide_eq_false hb
              generalize gd (.elm true) (ps s i k) = G1 at *
              generalize gd (.elms true) (ps s (k + 1) j) = G2 at *
              generalize hk1 : k + 1 = k1 at *
              have HK1 := Lib.hid hk1
              clear h44 hnext ha hb hk1
              go_wp2_with (first
                | (go_at_call 19; (with_reducible refine (HIK.out _ hR).mono ?_); rintro e w2 ⟨rfl, hx2⟩; obtain ⟨y1, y2, y3⟩ := HXK.out _ hx2))
              go_roundw
              case rel => exact ⟨k1, rfl, by have := HK1.out; omega, by have := HK1.out; omega, hx2, hnx⟩
              case measure => have := HK1.out; simp [RowKit.intOf]; omega
          · have hnx := hnext fun hg => ha hg.2.1
            have d1 : decide (0 ≤ gd (.elm true) (ps s i k)) = false := decide_eq_false ha
            generalize gd (.elm true) (ps s i k) = G1 at *
            generalize hk1 : k + 1 = k1 at *
            have HK1 := Lib.hid hk1
            clear h44 hnext ha hk1 HXK
            go_wp2_with (first
              | (go_at_call 19; (with_reducible refine (HIK.out _ hR).mono ?_); rintro e w2 ⟨rfl, hx2⟩))
            go_roundw
            case rel => exact ⟨k1, rfl, by have := HK1.out; omega, by have := HK1.out; omega, hx2, hnx⟩
            case measure => have := HK1.out; simp [RowKit.intOf]; omega
        · have hnx := hnext fun hg => h44 hg.1
          have n1 : ((by8 s k : Int) == 44) = false := by rw [beq_eq_false_iff_ne]; omega
          generalize by8 s k = c at *
          clear h44 hnext
          go_wp2_with fail
          go_roundw
          case rel => exact ⟨k + 1, rfl, by omega, by omega, hR, hnx⟩
          case measure => simp [RowKit.intOf]; omega
      · obtain rfl : k = j := by omega
        have HZ := Lib.hid (HN.out hno.out)
        clear hno
        go_wp2_with fail
        first | go_ret | go_returns
        exact ⟨by rw [HZ.out]; rfl, hR.bel⟩
end Go.Proofs.YtggahjhjapnfeaaDoor.Gr
