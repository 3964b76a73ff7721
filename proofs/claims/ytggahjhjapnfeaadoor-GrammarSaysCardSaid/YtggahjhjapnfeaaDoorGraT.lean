/- The document's tables in memory; the contract of value. Conditions: as each theorem states. -/
import Derived.Test.YtggahjhjapnfeaaDoorGraS
import Derived.Deep.MidRow
namespace Go.Proofs.YtggahjhjapnfeaaDoor.Gr
open Go.RowKit Go.Lib Go.Proofs.YtggahjhjapnfeaaDoor.Byt Go.Proofs.YtggahjhjapnfeaaDoor.Lx

/-- A row of rows, right where D says so. -/
structure Gd (W : World) (n g : Nat) (r : Nat → Nat) (k : Kd) (l : List UInt8) (D : Nat → Nat → Prop) : Prop where
  row : ∀ p, p ≤ n → W.cell? ⟨g, p, none⟩ = some (.slice (some ⟨r p, 0, none⟩) (n + 1) (n + 1))
  int : ∀ p q, p ≤ n → q ≤ n → ∃ z : Int, W.cell? ⟨r p, q, none⟩ = some (.int .i64 z) ∧ (D p q → z = gd k (pc l p q))
theorem Gd.next {W W' : World} {n g : Nat} {r : Nat → Nat} {k : Kd} {l : List UInt8} {D : Nat → Nat → Prop} (h : Gd W n g r k l D) (hb : Below W.heap.size W W') : Gd W' n g r k l D := by
  refine ⟨fun p hp => ?_, fun p q hp hq => ?_⟩
  · have := h.row p hp
    exact (hb.cell (Lib.lt_of_cell this)).trans this
  · obtain ⟨z, h1, h2⟩ := h.int p q hp hq
    exact ⟨z, (hb.cell (Lib.lt_of_cell h1)).trans h1, h2⟩
theorem Gd.at_ {W : World} {n g : Nat} {r : Nat → Nat} {k : Kd} {l : List UInt8} {D : Nat → Nat → Prop} (h : Gd W n g r k l D) {p q : Nat} (hp : p ≤ n) (hq : q ≤ n) (hd : D p q) : W.cell? ⟨r p, q, none⟩ = some (.int .i64 (gd k (pc l p q))) := by
  obtain ⟨z, h1, h2⟩ := h.int p q hp hq
  rw [h1, h2 hd]
/-- Where the tables lie. -/
structure Pl where
  n : Nat
  gv : Nat
  gi : Nat
  gm : Nat
  rv : Nat → Nat
  ri : Nat → Nat
  rm : Nat → Nat
def sl (g n : Nat) : Value := .slice (some ⟨g, 0, none⟩) (n + 1) (n + 1)
/-- The document's struct. -/
def tC (s : ByteArray) (P : Pl) : Array Value := #[.string s, .slice (some ⟨P.gv, 0, none⟩) (P.n + 1) (P.n + 1), .slice (some ⟨P.gi, 0, none⟩) (P.n + 1) (P.n + 1), .slice (some ⟨P.gm, 0, none⟩) (P.n + 1) (P.n + 1)]
structure Tb (W : World) (s : ByteArray) (P : Pl) (Dv Di Dm : Nat → Nat → Prop) : Prop where
  v : Gd W P.n P.gv P.rv .val s.data.toList Dv
  i : Gd W P.n P.gi P.ri (.elms false) s.data.toList Di
  m : Gd W P.n P.gm P.rm (.elms true) s.data.toList Dm
  z : s.size = P.n
  z2 : P.n ≤ 1000
theorem Tb.next {W W' : World} {s : ByteArray} {P : Pl} {Dv Di Dm : Nat → Nat → Prop} (h : Tb W s P Dv Di Dm) (hb : Below W.heap.size W W') : Tb W' s P Dv Di Dm := ⟨h.v.next hb, h.i.next hb, h.m.next hb, h.z, h.z2⟩
/-- The struct in a block. -/
def Bx (W : World) (b : Nat) (s : ByteArray) (P : Pl) : Prop := W.heap[b]? = some (.cells (tC s P) 31 (0, 0))
theorem Bx.lt {W : World} {b : Nat} {s : ByteArray} {P : Pl} (h : Bx W b s P) : b < W.heap.size := by
  rcases Nat.lt_or_ge b W.heap.size with h' | h'
  · exact h'
  · unfold Bx at h; simp [Array.getElem?_eq_none h'] at h
theorem Bx.next {W W' : World} {b : Nat} {s : ByteArray} {P : Pl} (h : Bx W b s P) (hb : Below W.heap.size W W') : Bx W' b s P := (hb.block b h.lt).trans h
/-- The tables, the struct in block b, all that was there in w0 as it was. -/
structure Tx (w0 : World) (b : Nat) (s : ByteArray) (P : Pl) (Dv Di Dm : Nat → Nat → Prop) (W : World) : Prop where
  tb : Tb W s P Dv Di Dm
  bx : Bx W b s P
  bel : Below w0.heap.size w0 W
section
variable {w0 W W' : World} {b : Nat} {s : ByteArray} {P : Pl} {Dv Di Dm : Nat → Nat → Prop}
theorem Tx.next (h : Tx w0 b s P Dv Di Dm W) (hb : Below W.heap.size W W') : Tx w0 b s P Dv Di Dm W' := ⟨h.tb.next hb, h.bx.next hb, h.bel.trans (hb.mono h.bel.size)⟩
theorem Tx.drew (h : Tx w0 b s P Dv Di Dm W) : Tx w0 b s P Dv Di Dm W.drew := h.next ((Below.refl _ _).drew)
theorem Tx.boxed (h : Tb w0 s P Dv Di Dm) : Tx w0 w0.heap.size s P Dv Di Dm (w0.alloc (.cells (tC s P) 31)) :=
  ⟨h.next ((Below.refl _ _).alloc (Nat.le_refl _) _), heap_alloc_new _ _, (Below.refl _ _).alloc (Nat.le_refl _) _⟩
theorem Tx.f0 (h : Tx w0 b s P Dv Di Dm W) : W.cell? ⟨b, 0, none⟩ = some (.string s) := by rw [Lib.cell_of_heap h.bx]; rfl
theorem Tx.f1 (h : Tx w0 b s P Dv Di Dm W) : W.cell? ⟨b, 1, none⟩ = some (.slice (some ⟨P.gv, 0, none⟩) (P.n + 1) (P.n + 1)) := by rw [Lib.cell_of_heap h.bx]; rfl
theorem Tx.f2 (h : Tx w0 b s P Dv Di Dm W) : W.cell? ⟨b, 2, none⟩ = some (.slice (some ⟨P.gi, 0, none⟩) (P.n + 1) (P.n + 1)) := by rw [Lib.cell_of_heap h.bx]; rfl
theorem Tx.f3 (h : Tx w0 b s P Dv Di Dm W) : W.cell? ⟨b, 3, none⟩ = some (.slice (some ⟨P.gm, 0, none⟩) (P.n + 1) (P.n + 1)) := by rw [Lib.cell_of_heap h.bx]; rfl
end
theorem infoT : (Tryd.prog.info? 31).map (·.size) = some 4 := by kernel_rfl
section
variable {ops : Array Oper} {rest : List Oper} {o : Oper} {a : Act} {Q : Exit → Act → World → Prop}
/-- 't' of a variable that holds the struct. -/
theorem wpList_fetchT (W : World) (hgd : o.guard = none) (x : Operand) (ho : o.op = .load 31 x) (g : Nat) (s : ByteArray) (P : Pl)
    (hx : a.eval x = .pointer (some ⟨g, 0, none⟩)) (hk : Bx W g s P)
    (h : wpList Tryd.prog ops Q rest (a.put o.dst (.agg (tC s P))) W) : wpList Tryd.prog ops Q (o :: rest) a W :=
  wpList_load_row hgd _ x ho g hx _ (tC s P) _ _ hk Tryd.underlying31 rfl (by rw [infoT]; rfl) h
end

/-! ### item -/
set_option maxHeartbeats 1000000 in
set_option maxRecDepth 100000 in
theorem ritem_any (s : ByteArray) (P : Pl) (Dv Di Dm : Nat → Nat → Prop) (i j : Nat) (a c : Int) (ha : a = (i : Int)) (hc : c = (j : Int)) (w : World) (h : Tb w s P Dv Di Dm) (hij : i ≤ j) (hj : j ≤ P.n) (hD : ∀ p q, i ≤ p → p ≤ q → q ≤ j → Dv p q) :
    Calls Tryd.prog 14 #[.agg (tC s P), .int .i64 a, .int .i64 c] w fun e w' => e = .returned (.int .i64 (gd (.elm false) (ps s i j))) ∧ Below w.heap.size w w' := by
  subst ha hc
  have hz := h.z
  have hz2 := h.z2
  have HT := Lib.hid (fun w => rtrimmed_any s i j (i : Int) (j : Int) rfl rfl hij (by omega) (by omega) w)
  obtain ⟨h1, h2, h3⟩ := t_in s i j hij (by omega)
  have hx := Tx.boxed h
  have hg : gd (.elm false) (ps s i j) = gd .val (ps s (tI s i j) (tJ s i j)) := by rw [t_trm s i j hij (by omega), gd_item]
  have r1 := hx.tb.v.row (tI s i j) (by omega)
  have r2 := hx.tb.v.at_ (p := tI s i j) (q := tJ s i j) (by omega) (by omega) (hD _ _ h1 h2 h3)
  rw [hg]
  unfold ps
  generalize gd .val _ = Z at *
  generalize tI s i j = p at *
  generalize tJ s i j = q at *
  have f0 := hx.f0
  have f1 := hx.f1
  have hbel := hx.bel
  unfold tC at *
  clear hx h hg hD
  go_enter Tryd.func14, Tryd.ntmps14
  go_wp2_with (go_at_call 20; (with_reducible refine (HT.out _).mono ?_); rintro e w1 ⟨rfl, rfl⟩)
  go_ret
  exact ⟨rfl, hbel⟩

/-! ### value -/
set_option maxHeartbeats 1000000 in
set_option maxRecDepth 100000 in
theorem rvalue_sc (s : ByteArray) (P : Pl) (Dv Di Dm : Nat → Nat → Prop) (i j : Nat) (w : World) (h : Tb w s P Dv Di Dm) (hij : i < j) (hj : j ≤ P.n) (hs : Sc (ps s i j)) :
    Calls Tryd.prog 11 #[.agg (tC s P), .int .i64 (i : Int), .int .i64 (j : Int)] w fun e w' => e = .returned (.int .i64 0) ∧ Below w.heap.size w w' := by
  have hz := h.z
  have hz2 := h.z2
  have hcut := fun w => run_cut s (i : Int) (j : Int) i (j - i) rfl (by omega) (by omega) w
  have hcs : (cutB s i (j - i)).size ≤ 1000000 := by rw [cutB_size s i (j - i) (by omega)]; omega
  have HS := Lib.hid (fun w => rscalar_any (cutB s i (j - i)) true (by rw [ps_cut]; simpa using hs) hcs w)
  have hbx := Tx.boxed h
  have f0 := hbx.f0
  generalize cutB s i (j - i) = x at *
  have H := Lib.hid h
  have hwji : IntKind.i64.wrap ((j : Int) - (i : Int)) = (j : Int) - (i : Int) := by rw [IntKind.wrap_i64]; omega
  clear h hs hcs hbx
  unfold tC at *
  go_enter Tryd.func11, Tryd.ntmps11
  go_wp2_with (go_at_call 17; (with_reducible refine (HS.out _).mono ?_); rintro e w1 ⟨rfl, hb1⟩; have hx := Tx.next (Tx.boxed H.out) hb1)
  go_ret
  exact ⟨rfl, hx.bel⟩
set_option maxHeartbeats 1000000 in
set_option maxRecDepth 100000 in
theorem rvalue_short (s : ByteArray) (P : Pl) (Dv Di Dm : Nat → Nat → Prop) (i j : Nat) (w : World) (h : Tb w s P Dv Di Dm) (hij : i < j) (hj : j ≤ P.n) (hs : ¬ Sc (ps s i j)) (h2 : j < i + 2) :
    Calls Tryd.prog 11 #[.agg (tC s P), .int .i64 (i : Int), .int .i64 (j : Int)] w fun e w' => e = .returned (.int .i64 (-1)) ∧ Below w.heap.size w w' := by
  have hz := h.z
  have hz2 := h.z2
  have hcut := fun w => run_cut s (i : Int) (j : Int) i (j - i) rfl (by omega) (by omega) w
  have hcs : (cutB s i (j - i)).size ≤ 1000000 := by rw [cutB_size s i (j - i) (by omega)]; omega
  have HS := Lib.hid (fun w => rscalar_any (cutB s i (j - i)) false (by rw [ps_cut]; simpa using hs) hcs w)
  have hbx := Tx.boxed h
  have f0 := hbx.f0
  generalize cutB s i (j - i) = x at *
  have H := Lib.hid h
  have hwji : IntKind.i64.wrap ((j : Int) - (i : Int)) = (j : Int) - (i : Int) := by rw [IntKind.wrap_i64]; omega
  have d1 : decide ((j : Int) - (i : Int) < 2) = true := decide_eq_true (by omega)
  clear h hs hcs hbx
  unfold tC at *
  go_enter Tryd.func11, Tryd.ntmps11
  go_wp2_with (go_at_call 17; (with_reducible refine (HS.out _).mono ?_); rintro e w1 ⟨rfl, hb1⟩; have hx := Tx.next (Tx.boxed H.out) hb1)
  go_ret
  exact ⟨rfl, hx.bel⟩
set_option maxHeartbeats 1000000 in
set_option maxRecDepth 100000 in
theorem rvalue_list_blank (s : ByteArray) (P : Pl) (Dv Di Dm : Nat → Nat → Prop) (i j : Nat) (w : World) (h : Tb w s P Dv Di Dm) (_hij : i < j) (hj : j ≤ P.n) (hs : ¬ Sc (ps s i j)) (h2 : i + 2 ≤ j) (ho : by8 s i = 91) (hc : by8 s (j - 1) = 93) (hD : Di (i + 1) (j - 1)) (hbl : blB (ps s (i + 1) (j - 1)) = true) :
    Calls Tryd.prog 11 #[.agg (tC s P), .int .i64 (i : Int), .int .i64 (j : Int)] w fun e w' => e = .returned (.int .i64 1) ∧ Below w.heap.size w w' := by
  have hz := h.z
  have hz2 := h.z2
  have hcut := fun w => run_cut s (i : Int) (j : Int) i (j - i) rfl (by omega) (by omega) w
  have hcs : (cutB s i (j - i)).size ≤ 1000000 := by rw [cutB_size s i (j - i) (by omega)]; omega
  have HS := Lib.hid (fun w => rscalar_any (cutB s i (j - i)) false (by rw [ps_cut]; simpa using hs) hcs w)
  have hbx := Tx.boxed h
  have f0 := hbx.f0
  generalize cutB s i (j - i) = x at *
  have H := Lib.hid h
  have hwji : IntKind.i64.wrap ((j : Int) - (i : Int)) = (j : Int) - (i : Int) := by rw [IntKind.wrap_i64]; omega
  have d1 : decide ((j : Int) - (i : Int) < 2) = false := decide_eq_false (by omega)
  have hixi := fun w => index_of s i (i : Int) rfl (by omega) w
  have hwj1 : IntKind.i64.wrap ((j : Int) - 1) = ((j - 1 : Nat) : Int) := by rw [IntKind.wrap_i64]; omega
  have hixj := fun w => index_of s (j - 1) ((j - 1 : Nat) : Int) rfl (by omega) w
  rw [ho] at hixi
  rw [hc] at hixj
  have hwi1 : IntKind.i64.wrap ((i : Int) + 1) = ((i + 1 : Nat) : Int) := by rw [IntKind.wrap_i64]; omega
  have hij1 : i + 1 ≤ j - 1 := by omega
  have hjn : j - 1 ≤ P.n := by omega
  have HB := Lib.hid (fun w => rblanks_any s (i + 1) (j - 1) ((i + 1 : Nat) : Int) ((j - 1 : Nat) : Int) rfl rfl hij1 (by omega) (by omega) w)
  rw [hbl] at HB
  have hgl := gd_len (.elms false) (ps s (i + 1) (j - 1))
  have hgl2 := gd_low (.elms false) (ps s (i + 1) (j - 1))
  have hln : (ps s (i + 1) (j - 1)).length = j - 1 - (i + 1) := pc_len (by rw [ps_size]; omega)
  have HX := Lib.hid (fun W (hx : Tx w w.heap.size s P Dv Di Dm W) => (⟨hx.f0, hx.f2, hx.tb.i.row (i + 1) (by omega), hx.tb.i.at_ (p := i + 1) (q := j - 1) (by omega) hjn hD⟩ : W.cell? ⟨w.heap.size, 0, none⟩ = some (.string s) ∧ W.cell? ⟨w.heap.size, 2, none⟩ = some (.slice (some ⟨P.gi, 0, none⟩) (P.n + 1) (P.n + 1)) ∧ W.cell? ⟨P.gi, i + 1, none⟩ = some (.slice (some ⟨P.ri (i + 1), 0, none⟩) (P.n + 1) (P.n + 1)) ∧ W.cell? ⟨P.ri (i + 1), j - 1, none⟩ = some (.int .i64 (gd (.elms false) (ps s (i + 1) (j - 1))))))
  generalize gd (.elms false) (ps s (i + 1) (j - 1)) = Z at *
  have HZ := Lib.hid (show -1 ≤ Z ∧ Z ≤ 1000 by omega)
  have hi1 : i + 1 < P.n + 1 := by omega
  generalize i + 1 = i1 at *
  generalize j - 1 = j1 at *
  have hj1 : j1 < P.n + 1 := by omega
  clear h hs hcs hbx ho hc hbl hD hgl hgl2 hln
  unfold tC at *
  go_enter Tryd.func11, Tryd.ntmps11
  go_wp2_with (first
    | (go_at_call 17; (with_reducible refine (HS.out _).mono ?_); rintro e w1 ⟨rfl, hb1⟩; have hx := Tx.next (Tx.boxed H.out) hb1; obtain ⟨x0, x1, x2, x3⟩ := HX.out _ hx)
    | (go_at_call 18; (with_reducible refine (HB.out _).mono ?_); rintro e w2 ⟨rfl, rfl⟩))
  go_ret
  exact ⟨rfl, hx.bel⟩
set_option maxHeartbeats 1000000 in
set_option maxRecDepth 100000 in
theorem rvalue_list_bad (s : ByteArray) (P : Pl) (Dv Di Dm : Nat → Nat → Prop) (i j : Nat) (w : World) (h : Tb w s P Dv Di Dm) (_hij : i < j) (hj : j ≤ P.n) (hs : ¬ Sc (ps s i j)) (h2 : i + 2 ≤ j) (ho : by8 s i = 91) (hc : by8 s (j - 1) = 93) (hD : Di (i + 1) (j - 1)) (hbl : blB (ps s (i + 1) (j - 1)) = false) :
    Calls Tryd.prog 11 #[.agg (tC s P), .int .i64 (i : Int), .int .i64 (j : Int)] w fun e w' => e = .returned (.int .i64 (if gd (.elms false) (ps s (i + 1) (j - 1)) < 0 then -1 else 1 + gd (.elms false) (ps s (i + 1) (j - 1)))) ∧ Below w.heap.size w w' := by
  have hz := h.z
  have hz2 := h.z2
  have hcut := fun w => run_cut s (i : Int) (j : Int) i (j - i) rfl (by omega) (by omega) w
  have hcs : (cutB s i (j - i)).size ≤ 1000000 := by rw [cutB_size s i (j - i) (by omega)]; omega
  have HS := Lib.hid (fun w => rscalar_any (cutB s i (j - i)) false (by rw [ps_cut]; simpa using hs) hcs w)
  have hbx := Tx.boxed h
  have f0 := hbx.f0
  generalize cutB s i (j - i) = x at *
  have H := Lib.hid h
  have hwji : IntKind.i64.wrap ((j : Int) - (i : Int)) = (j : Int) - (i : Int) := by rw [IntKind.wrap_i64]; omega
  have d1 : decide ((j : Int) - (i : Int) < 2) = false := decide_eq_false (by omega)
  have hixi := fun w => index_of s i (i : Int) rfl (by omega) w
  have hwj1 : IntKind.i64.wrap ((j : Int) - 1) = ((j - 1 : Nat) : Int) := by rw [IntKind.wrap_i64]; omega
  have hixj := fun w => index_of s (j - 1) ((j - 1 : Nat) : Int) rfl (by omega) w
  rw [ho] at hixi
  rw [hc] at hixj
  have hwi1 : IntKind.i64.wrap ((i : Int) + 1) = ((i + 1 : Nat) : Int) := by rw [IntKind.wrap_i64]; omega
  have hij1 : i + 1 ≤ j - 1 := by omega
  have hjn : j - 1 ≤ P.n := by omega
  have HB := Lib.hid (fun w => rblanks_any s (i + 1) (j - 1) ((i + 1 : Nat) : Int) ((j - 1 : Nat) : Int) rfl rfl hij1 (by omega) (by omega) w)
  rw [hbl] at HB
  have hgl := gd_len (.elms false) (ps s (i + 1) (j - 1))
  have hgl2 := gd_low (.elms false) (ps s (i + 1) (j - 1))
  have hln : (ps s (i + 1) (j - 1)).length = j - 1 - (i + 1) := pc_len (by rw [ps_size]; omega)
  have HX := Lib.hid (fun W (hx : Tx w w.heap.size s P Dv Di Dm W) => (⟨hx.f0, hx.f2, hx.tb.i.row (i + 1) (by omega), hx.tb.i.at_ (p := i + 1) (q := j - 1) (by omega) hjn hD⟩ : W.cell? ⟨w.heap.size, 0, none⟩ = some (.string s) ∧ W.cell? ⟨w.heap.size, 2, none⟩ = some (.slice (some ⟨P.gi, 0, none⟩) (P.n + 1) (P.n + 1)) ∧ W.cell? ⟨P.gi, i + 1, none⟩ = some (.slice (some ⟨P.ri (i + 1), 0, none⟩) (P.n + 1) (P.n + 1)) ∧ W.cell? ⟨P.ri (i + 1), j - 1, none⟩ = some (.int .i64 (gd (.elms false) (ps s (i + 1) (j - 1))))))
  generalize gd (.elms false) (ps s (i + 1) (j - 1)) = Z at *
  have HZ := Lib.hid (show -1 ≤ Z ∧ Z ≤ 1000 by omega)
  have hi1 : i + 1 < P.n + 1 := by omega
  generalize i + 1 = i1 at *
  generalize j - 1 = j1 at *
  have hj1 : j1 < P.n + 1 := by omega
  clear h hs hcs hbx ho hc hbl hD hgl hgl2 hln
  obtain ⟨g1, g2⟩ := HZ.out
  clear HZ
  by_cases hneg : Z < 0
  · rw [if_pos hneg]
    have d5 : decide (Z < 0) = true := decide_eq_true hneg
    clear hneg
    unfold tC at *
    go_enter Tryd.func11, Tryd.ntmps11
    go_wp2_with (first
      | (go_at_call 17; (with_reducible refine (HS.out _).mono ?_); rintro e w1 ⟨rfl, hb1⟩; have hx := Tx.next (Tx.boxed H.out) hb1; obtain ⟨x0, x1, x2, x3⟩ := HX.out _ hx)
      | (go_at_call 18; (with_reducible refine (HB.out _).mono ?_); rintro e w2 ⟨rfl, rfl⟩))
    go_ret
    exact ⟨rfl, hx.bel⟩
  · rw [if_neg hneg]
    have d5 : decide (Z < 0) = false := decide_eq_false hneg
    have hwz : IntKind.i64.wrap (1 + Z) = 1 + Z := by rw [IntKind.wrap_i64]; omega
    clear hneg
    unfold tC at *
    go_enter Tryd.func11, Tryd.ntmps11
    go_wp2_with (first
      | (go_at_call 17; (with_reducible refine (HS.out _).mono ?_); rintro e w1 ⟨rfl, hb1⟩; have hx := Tx.next (Tx.boxed H.out) hb1; obtain ⟨x0, x1, x2, x3⟩ := HX.out _ hx)
      | (go_at_call 18; (with_reducible refine (HB.out _).mono ?_); rintro e w2 ⟨rfl, rfl⟩))
    go_ret
    exact ⟨rfl, hx.bel⟩
set_option maxHeartbeats 1000000 in
set_option maxRecDepth 100000 in
theorem rvalue_object_blank (s : ByteArray) (P : Pl) (Dv Di Dm : Nat → Nat → Prop) (i j : Nat) (w : World) (h : Tb w s P Dv Di Dm) (_hij : i < j) (hj : j ≤ P.n) (hs : ¬ Sc (ps s i j)) (h2 : i + 2 ≤ j) (ho : by8 s i = 123) (hc : by8 s (j - 1) = 125) (hD : Dm (i + 1) (j - 1)) (hbl : blB (ps s (i + 1) (j - 1)) = true) :
    Calls Tryd.prog 11 #[.agg (tC s P), .int .i64 (i : Int), .int .i64 (j : Int)] w fun e w' => e = .returned (.int .i64 1) ∧ Below w.heap.size w w' := by
  have hz := h.z
  have hz2 := h.z2
  have hcut := fun w => run_cut s (i : Int) (j : Int) i (j - i) rfl (by omega) (by omega) w
  have hcs : (cutB s i (j - i)).size ≤ 1000000 := by rw [cutB_size s i (j - i) (by omega)]; omega
  have HS := Lib.hid (fun w => rscalar_any (cutB s i (j - i)) false (by rw [ps_cut]; simpa using hs) hcs w)
  have hbx := Tx.boxed h
  have f0 := hbx.f0
  generalize cutB s i (j - i) = x at *
  have H := Lib.hid h
  have hwji : IntKind.i64.wrap ((j : Int) - (i : Int)) = (j : Int) - (i : Int) := by rw [IntKind.wrap_i64]; omega
  have d1 : decide ((j : Int) - (i : Int) < 2) = false := decide_eq_false (by omega)
  have hixi := fun w => index_of s i (i : Int) rfl (by omega) w
  have hwj1 : IntKind.i64.wrap ((j : Int) - 1) = ((j - 1 : Nat) : Int) := by rw [IntKind.wrap_i64]; omega
  have hixj := fun w => index_of s (j - 1) ((j - 1 : Nat) : Int) rfl (by omega) w
  rw [ho] at hixi
  rw [hc] at hixj
  have hwi1 : IntKind.i64.wrap ((i : Int) + 1) = ((i + 1 : Nat) : Int) := by rw [IntKind.wrap_i64]; omega
  have hij1 : i + 1 ≤ j - 1 := by omega
  have hjn : j - 1 ≤ P.n := by omega
  have HB := Lib.hid (fun w => rblanks_any s (i + 1) (j - 1) ((i + 1 : Nat) : Int) ((j - 1 : Nat) : Int) rfl rfl hij1 (by omega) (by omega) w)
  rw [hbl] at HB
  have hgl := gd_len (.elms true) (ps s (i + 1) (j - 1))
  have hgl2 := gd_low (.elms true) (ps s (i + 1) (j - 1))
  have hln : (ps s (i + 1) (j - 1)).length = j - 1 - (i + 1) := pc_len (by rw [ps_size]; omega)
  have HX := Lib.hid (fun W (hx : Tx w w.heap.size s P Dv Di Dm W) => (⟨hx.f0, hx.f3, hx.tb.m.row (i + 1) (by omega), hx.tb.m.at_ (p := i + 1) (q := j - 1) (by omega) hjn hD⟩ : W.cell? ⟨w.heap.size, 0, none⟩ = some (.string s) ∧ W.cell? ⟨w.heap.size, 3, none⟩ = some (.slice (some ⟨P.gm, 0, none⟩) (P.n + 1) (P.n + 1)) ∧ W.cell? ⟨P.gm, i + 1, none⟩ = some (.slice (some ⟨P.rm (i + 1), 0, none⟩) (P.n + 1) (P.n + 1)) ∧ W.cell? ⟨P.rm (i + 1), j - 1, none⟩ = some (.int .i64 (gd (.elms true) (ps s (i + 1) (j - 1))))))
  generalize gd (.elms true) (ps s (i + 1) (j - 1)) = Z at *
  have HZ := Lib.hid (show -1 ≤ Z ∧ Z ≤ 1000 by omega)
  have hi1 : i + 1 < P.n + 1 := by omega
  generalize i + 1 = i1 at *
  generalize j - 1 = j1 at *
  have hj1 : j1 < P.n + 1 := by omega
  clear h hs hcs hbx ho hc hbl hD hgl hgl2 hln
  unfold tC at *
  go_enter Tryd.func11, Tryd.ntmps11
  go_wp2_with (first
    | (go_at_call 17; (with_reducible refine (HS.out _).mono ?_); rintro e w1 ⟨rfl, hb1⟩; have hx := Tx.next (Tx.boxed H.out) hb1; obtain ⟨x0, x1, x2, x3⟩ := HX.out _ hx)
    | (go_at_call 18; (with_reducible refine (HB.out _).mono ?_); rintro e w2 ⟨rfl, rfl⟩))
  go_ret
  exact ⟨rfl, hx.bel⟩
set_option maxHeartbeats 1000000 in
set_option maxRecDepth 100000 in
theorem rvalue_object_bad (s : ByteArray) (P : Pl) (Dv Di Dm : Nat → Nat → Prop) (i j : Nat) (w : World) (h : Tb w s P Dv Di Dm) (_hij : i < j) (hj : j ≤ P.n) (hs : ¬ Sc (ps s i j)) (h2 : i + 2 ≤ j) (ho : by8 s i = 123) (hc : by8 s (j - 1) = 125) (hD : Dm (i + 1) (j - 1)) (hbl : blB (ps s (i + 1) (j - 1)) = false) :
    Calls Tryd.prog 11 #[.agg (tC s P), .int .i64 (i : Int), .int .i64 (j : Int)] w fun e w' => e = .returned (.int .i64 (if gd (.elms true) (ps s (i + 1) (j - 1)) < 0 then -1 else 1 + gd (.elms true) (ps s (i + 1) (j - 1)))) ∧ Below w.heap.size w w' := by
  have hz := h.z
  have hz2 := h.z2
  have hcut := fun w => run_cut s (i : Int) (j : Int) i (j - i) rfl (by omega) (by omega) w
  have hcs : (cutB s i (j - i)).size ≤ 1000000 := by rw [cutB_size s i (j - i) (by omega)]; omega
  have HS := Lib.hid (fun w => rscalar_any (cutB s i (j - i)) false (by rw [ps_cut]; simpa using hs) hcs w)
  have hbx := Tx.boxed h
  have f0 := hbx.f0
  generalize cutB s i (j - i) = x at *
  have H := Lib.hid h
  have hwji : IntKind.i64.wrap ((j : Int) - (i : Int)) = (j : Int) - (i : Int) := by rw [IntKind.wrap_i64]; omega
  have d1 : decide ((j : Int) - (i : Int) < 2) = false := decide_eq_false (by omega)
  have hixi := fun w => index_of s i (i : Int) rfl (by omega) w
  have hwj1 : IntKind.i64.wrap ((j : Int) - 1) = ((j - 1 : Nat) : Int) := by rw [IntKind.wrap_i64]; omega
  have hixj := fun w => index_of s (j - 1) ((j - 1 : Nat) : Int) rfl (by omega) w
  rw [ho] at hixi
  rw [hc] at hixj
  have hwi1 : IntKind.i64.wrap ((i : Int) + 1) = ((i + 1 : Nat) : Int) := by rw [IntKind.wrap_i64]; omega
  have hij1 : i + 1 ≤ j - 1 := by omega
  have hjn : j - 1 ≤ P.n := by omega
  have HB := Lib.hid (fun w => rblanks_any s (i + 1) (j - 1) ((i + 1 : Nat) : Int) ((j - 1 : Nat) : Int) rfl rfl hij1 (by omega) (by omega) w)
  rw [hbl] at HB
  have hgl := gd_len (.elms true) (ps s (i + 1) (j - 1))
  have hgl2 := gd_low (.elms true) (ps s (i + 1) (j - 1))
  have hln : (ps s (i + 1) (j - 1)).length = j - 1 - (i + 1) := pc_len (by rw [ps_size]; omega)
  have HX := Lib.hid (fun W (hx : Tx w w.heap.size s P Dv Di Dm W) => (⟨hx.f0, hx.f3, hx.tb.m.row (i + 1) (by omega), hx.tb.m.at_ (p := i + 1) (q := j - 1) (by omega) hjn hD⟩ : W.cell? ⟨w.heap.size, 0, none⟩ = some (.string s) ∧ W.cell? ⟨w.heap.size, 3, none⟩ = some (.slice (some ⟨P.gm, 0, none⟩) (P.n + 1) (P.n + 1)) ∧ W.cell? ⟨P.gm, i + 1, none⟩ = some (.slice (some ⟨P.rm (i + 1), 0, none⟩) (P.n + 1) (P.n + 1)) ∧ W.cell? ⟨P.rm (i + 1), j - 1, none⟩ = some (.int .i64 (gd (.elms true) (ps s (i + 1) (j - 1))))))
  generalize gd (.elms true) (ps s (i + 1) (j - 1)) = Z at *
  have HZ := Lib.hid (show -1 ≤ Z ∧ Z ≤ 1000 by omega)
  have hi1 : i + 1 < P.n + 1 := by omega
  generalize i + 1 = i1 at *
  generalize j - 1 = j1 at *
  have hj1 : j1 < P.n + 1 := by omega
  clear h hs hcs hbx ho hc hbl hD hgl hgl2 hln
  obtain ⟨g1, g2⟩ := HZ.out
  clear HZ
  by_cases hneg : Z < 0
  · rw [if_pos hneg]
    have d5 : decide (Z < 0) = true := decide_eq_true hneg
    clear hneg
    unfold tC at *
    go_enter Tryd.func11, Tryd.ntmps11
    go_wp2_with (first
      | (go_at_call 17; (with_reducible refine (HS.out _).mono ?_); rintro e w1 ⟨rfl, hb1⟩; have hx := Tx.next (Tx.boxed H.out) hb1; obtain ⟨x0, x1, x2, x3⟩ := HX.out _ hx)
      | (go_at_call 18; (with_reducible refine (HB.out _).mono ?_); rintro e w2 ⟨rfl, rfl⟩))
    go_ret
    exact ⟨rfl, hx.bel⟩
  · rw [if_neg hneg]
    have d5 : decide (Z < 0) = false := decide_eq_false hneg
    have hwz : IntKind.i64.wrap (1 + Z) = 1 + Z := by rw [IntKind.wrap_i64]; omega
    clear hneg
    unfold tC at *
    go_enter Tryd.func11, Tryd.ntmps11
    go_wp2_with (first
      | (go_at_call 17; (with_reducible refine (HS.out _).mono ?_); rintro e w1 ⟨rfl, hb1⟩; have hx := Tx.next (Tx.boxed H.out) hb1; obtain ⟨x0, x1, x2, x3⟩ := HX.out _ hx)
      | (go_at_call 18; (with_reducible refine (HB.out _).mono ?_); rintro e w2 ⟨rfl, rfl⟩))
    go_ret
    exact ⟨rfl, hx.bel⟩
set_option maxHeartbeats 1000000 in
set_option maxRecDepth 100000 in
theorem rvalue_no1 (s : ByteArray) (P : Pl) (Dv Di Dm : Nat → Nat → Prop) (i j : Nat) (w : World) (h : Tb w s P Dv Di Dm) (_hij : i < j) (hj : j ≤ P.n) (hs : ¬ Sc (ps s i j)) (h2 : i + 2 ≤ j) (ho : by8 s i = 91) (hc : by8 s (j - 1) ≠ 93) :
    Calls Tryd.prog 11 #[.agg (tC s P), .int .i64 (i : Int), .int .i64 (j : Int)] w fun e w' => e = .returned (.int .i64 (-1)) ∧ Below w.heap.size w w' := by
  have hz := h.z
  have hz2 := h.z2
  have hcut := fun w => run_cut s (i : Int) (j : Int) i (j - i) rfl (by omega) (by omega) w
  have hcs : (cutB s i (j - i)).size ≤ 1000000 := by rw [cutB_size s i (j - i) (by omega)]; omega
  have HS := Lib.hid (fun w => rscalar_any (cutB s i (j - i)) false (by rw [ps_cut]; simpa using hs) hcs w)
  have hbx := Tx.boxed h
  have f0 := hbx.f0
  generalize cutB s i (j - i) = x at *
  have H := Lib.hid h
  have hwji : IntKind.i64.wrap ((j : Int) - (i : Int)) = (j : Int) - (i : Int) := by rw [IntKind.wrap_i64]; omega
  have d1 : decide ((j : Int) - (i : Int) < 2) = false := decide_eq_false (by omega)
  have hixi := fun w => index_of s i (i : Int) rfl (by omega) w
  have hwj1 : IntKind.i64.wrap ((j : Int) - 1) = ((j - 1 : Nat) : Int) := by rw [IntKind.wrap_i64]; omega
  have hixj := fun w => index_of s (j - 1) ((j - 1 : Nat) : Int) rfl (by omega) w
  rw [ho] at hixi
  have n1 : ((by8 s (j - 1) : Int) == 93) = false := by rw [beq_eq_false_iff_ne]; omega
  generalize by8 s (j - 1) = c at *
  clear ho hc
  clear h hs hcs hbx
  unfold tC at *
  go_enter Tryd.func11, Tryd.ntmps11
  go_wp2_with (go_at_call 17; (with_reducible refine (HS.out _).mono ?_); rintro e w1 ⟨rfl, hb1⟩; have hx := Tx.next (Tx.boxed H.out) hb1; have x0 := hx.f0)
  go_ret
  exact ⟨rfl, hx.bel⟩
set_option maxHeartbeats 1000000 in
set_option maxRecDepth 100000 in
theorem rvalue_no2 (s : ByteArray) (P : Pl) (Dv Di Dm : Nat → Nat → Prop) (i j : Nat) (w : World) (h : Tb w s P Dv Di Dm) (_hij : i < j) (hj : j ≤ P.n) (hs : ¬ Sc (ps s i j)) (h2 : i + 2 ≤ j) (ho : by8 s i = 123) (hc : by8 s (j - 1) ≠ 125) :
    Calls Tryd.prog 11 #[.agg (tC s P), .int .i64 (i : Int), .int .i64 (j : Int)] w fun e w' => e = .returned (.int .i64 (-1)) ∧ Below w.heap.size w w' := by
  have hz := h.z
  have hz2 := h.z2
  have hcut := fun w => run_cut s (i : Int) (j : Int) i (j - i) rfl (by omega) (by omega) w
  have hcs : (cutB s i (j - i)).size ≤ 1000000 := by rw [cutB_size s i (j - i) (by omega)]; omega
  have HS := Lib.hid (fun w => rscalar_any (cutB s i (j - i)) false (by rw [ps_cut]; simpa using hs) hcs w)
  have hbx := Tx.boxed h
  have f0 := hbx.f0
  generalize cutB s i (j - i) = x at *
  have H := Lib.hid h
  have hwji : IntKind.i64.wrap ((j : Int) - (i : Int)) = (j : Int) - (i : Int) := by rw [IntKind.wrap_i64]; omega
  have d1 : decide ((j : Int) - (i : Int) < 2) = false := decide_eq_false (by omega)
  have hixi := fun w => index_of s i (i : Int) rfl (by omega) w
  have hwj1 : IntKind.i64.wrap ((j : Int) - 1) = ((j - 1 : Nat) : Int) := by rw [IntKind.wrap_i64]; omega
  have hixj := fun w => index_of s (j - 1) ((j - 1 : Nat) : Int) rfl (by omega) w
  rw [ho] at hixi
  have n1 : ((by8 s (j - 1) : Int) == 125) = false := by rw [beq_eq_false_iff_ne]; omega
  generalize by8 s (j - 1) = c at *
  clear ho hc
  clear h hs hcs hbx
  unfold tC at *
  go_enter Tryd.func11, Tryd.ntmps11
  go_wp2_with (go_at_call 17; (with_reducible refine (HS.out _).mono ?_); rintro e w1 ⟨rfl, hb1⟩; have hx := Tx.next (Tx.boxed H.out) hb1; have x0 := hx.f0)
  go_ret
  exact ⟨rfl, hx.bel⟩
set_option maxHeartbeats 1000000 in
set_option maxRecDepth 100000 in
theorem rvalue_no3 (s : ByteArray) (P : Pl) (Dv Di Dm : Nat → Nat → Prop) (i j : Nat) (w : World) (h : Tb w s P Dv Di Dm) (_hij : i < j) (hj : j ≤ P.n) (hs : ¬ Sc (ps s i j)) (h2 : i + 2 ≤ j) (ho : by8 s i ≠ 91) (ho2 : by8 s i ≠ 123) :
    Calls Tryd.prog 11 #[.agg (tC s P), .int .i64 (i : Int), .int .i64 (j : Int)] w fun e w' => e = .returned (.int .i64 (-1)) ∧ Below w.heap.size w w' := by
  have hz := h.z
  have hz2 := h.z2
  have hcut := fun w => run_cut s (i : Int) (j : Int) i (j - i) rfl (by omega) (by omega) w
  have hcs : (cutB s i (j - i)).size ≤ 1000000 := by rw [cutB_size s i (j - i) (by omega)]; omega
  have HS := Lib.hid (fun w => rscalar_any (cutB s i (j - i)) false (by rw [ps_cut]; simpa using hs) hcs w)
  have hbx := Tx.boxed h
  have f0 := hbx.f0
  generalize cutB s i (j - i) = x at *
  have H := Lib.hid h
  have hwji : IntKind.i64.wrap ((j : Int) - (i : Int)) = (j : Int) - (i : Int) := by rw [IntKind.wrap_i64]; omega
  have d1 : decide ((j : Int) - (i : Int) < 2) = false := decide_eq_false (by omega)
  have hixi := fun w => index_of s i (i : Int) rfl (by omega) w
  have hwj1 : IntKind.i64.wrap ((j : Int) - 1) = ((j - 1 : Nat) : Int) := by rw [IntKind.wrap_i64]; omega
  have hixj := fun w => index_of s (j - 1) ((j - 1 : Nat) : Int) rfl (by omega) w
  have n1 : ((by8 s i : Int) == 91) = false := by rw [beq_eq_false_iff_ne]; omega
  have n2 : ((by8 s i : Int) == 123) = false := by rw [beq_eq_false_iff_ne]; omega
  generalize by8 s i = c at *
  clear ho ho2 hixj
  clear h hs hcs hbx
  unfold tC at *
  go_enter Tryd.func11, Tryd.ntmps11
  go_wp2_with (go_at_call 17; (with_reducible refine (HS.out _).mono ?_); rintro e w1 ⟨rfl, hb1⟩; have hx := Tx.next (Tx.boxed H.out) hb1; have x0 := hx.f0)
  go_ret
  exact ⟨rfl, hx.bel⟩
theorem rvalue_any (s : ByteArray) (P : Pl) (Dv Di Dm : Nat → Nat → Prop) (i j : Nat) (a c : Int) (ha : a = (i : Int)) (hc : c = (j : Int)) (w : World) (h : Tb w s P Dv Di Dm) (hij : i < j) (hj : j ≤ P.n) (hDi : i + 2 ≤ j → Di (i + 1) (j - 1)) (hDm : i + 2 ≤ j → Dm (i + 1) (j - 1)) :
    Calls Tryd.prog 11 #[.agg (tC s P), .int .i64 a, .int .i64 c] w fun e w' => e = .returned (.int .i64 (gd .val (ps s i j))) ∧ Below w.heap.size w w' := by
  subst ha hc
  have hl := ps_size s
  have hz := h.z
  have hjl : j ≤ s.data.toList.length := by omega
  by_cases hs : Sc (ps s i j)
  · rw [val_sc hs]; exact rvalue_sc s P Dv Di Dm i j w h hij hj hs
  · by_cases h2 : j < i + 2
    · have := val_short h2 hjl hs
      rw [show gd .val (ps s i j) = -1 from this]
      exact rvalue_short s P Dv Di Dm i j w h hij hj hs h2
    · have h2 : i + 2 ≤ j := by omega
      have b1 : (s.data.toList.getD i 0).toNat = by8 s i := rfl
      have b2 : (s.data.toList.getD (j - 1) 0).toNat = by8 s (j - 1) := rfl
      by_cases o1 : by8 s i = 91
      · by_cases c1 : by8 s (j - 1) = 93
        · cases hbl : blB (ps s (i + 1) (j - 1)) with
          | true =>
            rw [show gd .val (ps s i j) = 1 from val_blank false h2 hjl (b1.trans o1) (b2.trans c1) ((blB_iff _).1 hbl)]
            exact rvalue_list_blank s P Dv Di Dm i j w h hij hj hs h2 o1 c1 (hDi h2) hbl
          | false =>
            rw [show gd .val (ps s i j) = _ from val_inside false h2 hjl (b1.trans o1) (b2.trans c1) hs (fun hb => by rw [show blB (ps s (i + 1) (j - 1)) = true from (blB_iff _).2 hb] at hbl; cases hbl)]
            exact rvalue_list_bad s P Dv Di Dm i j w h hij hj hs h2 o1 c1 (hDi h2) hbl
        · rw [show gd .val (ps s i j) = -1 from val_other h2 hjl hs fun t ⟨k1, k2⟩ => by
            rw [b1, o1] at k1; rw [b2] at k2
            cases t with
            | false => exact c1 k2
            | true => exact absurd k1 (by decide)]
          exact rvalue_no1 s P Dv Di Dm i j w h hij hj hs h2 o1 c1
      · by_cases o2 : by8 s i = 123
        · by_cases c1 : by8 s (j - 1) = 125
          · cases hbl : blB (ps s (i + 1) (j - 1)) with
            | true =>
              rw [show gd .val (ps s i j) = 1 from val_blank true h2 hjl (b1.trans o2) (b2.trans c1) ((blB_iff _).1 hbl)]
              exact rvalue_object_blank s P Dv Di Dm i j w h hij hj hs h2 o2 c1 (hDm h2) hbl
            | false =>
              rw [show gd .val (ps s i j) = _ from val_inside true h2 hjl (b1.trans o2) (b2.trans c1) hs (fun hb => by rw [show blB (ps s (i + 1) (j - 1)) = true from (blB_iff _).2 hb] at hbl; cases hbl)]
              exact rvalue_object_bad s P Dv Di Dm i j w h hij hj hs h2 o2 c1 (hDm h2) hbl
          · rw [show gd .val (ps s i j) = -1 from val_other h2 hjl hs fun t ⟨k1, k2⟩ => by
              rw [b1, o2] at k1; rw [b2] at k2
              cases t with
              | false => exact absurd k1 (by decide)
              | true => exact c1 k2]
            exact rvalue_no2 s P Dv Di Dm i j w h hij hj hs h2 o2 c1
        · rw [show gd .val (ps s i j) = -1 from val_other h2 hjl hs fun t ⟨k1, _⟩ => by
            rw [b1] at k1
            cases t with
            | false => exact o1 k1
            | true => exact o2 k1]
          exact rvalue_no3 s P Dv Di Dm i j w h hij hj hs h2 o1 o2
end Go.Proofs.YtggahjhjapnfeaaDoor.Gr
