/- The contract of Tokens. Conditions: the tables of unicode/utf8 and the errors of strconv (what the row lists); as each theorem states. -/
import Derived.Test.YtbikbniaoceodaaDoorLexC
namespace Go.Proofs.YtbikbniaoceodaaDoor.Lx
open Go.RowKit Go.Lib Go.Proofs.YtbikbniaoceodaaDoor.Byt Go.Proofs.YtbikbniaoceodaaDoor.Quo

/-- Tokens so far, and what the rest says: the whole's answer. -/
def finT (acc : List Tk) (q : Nat × Nat × List Tk) : Nat × Nat × List Tk := if q.1 = 0 then (0, 0, acc ++ q.2.2) else q
theorem finT_nil (b : Nat) (l : List UInt8) : finT [] (tkA b l) = tkA b l := by
  unfold finT
  by_cases h : (tkA b l).1 = 0
  · rw [if_pos h]
    have : ∀ q : Nat × Nat × List Tk, q.1 = 0 → q.2.1 = 0 → (0, 0, [] ++ q.2.2) = q := by rintro ⟨a, b, c⟩ h1 h2; simp only at h1 h2; subst h1 h2; rfl
    refine this _ h ?_
    revert h
    refine tok_ind (p := fun b l => (tkA b l).1 = 0 → (tkA b l).2.1 = 0) ?_ ?_ ?_ b l
    · intro b l h h0; rw [tkA_bad b l h] at h0; exact absurd h0 h
    · intro b l h hk _; rw [tkA_end b l h hk]
    · intro b l h hk ih h0
      have h1 := tkA_step b l h hk
      by_cases hq : (tkA (b + (nx l).2.o + (nx l).2.z) (l.drop ((nx l).2.o + (nx l).2.z))).1 = 0
      · rw [if_pos hq] at h1; rw [h1]
      · rw [if_neg hq] at h1; rw [h1]; rw [h1] at h0; exact absurd h0 hq
  · rw [if_neg h]
theorem finT_bad (acc : List Tk) (b : Nat) (l : List UInt8) (h : (nx l).1 ≠ 0) : finT acc (tkA b l) = ((nx l).1, b + (nx l).2.o, []) := by
  rw [tkA_bad b l h]; unfold finT; rw [if_neg h]
theorem finT_end (acc : List Tk) (b : Nat) (l : List UInt8) (h : (nx l).1 = 0) (hk : (nx l).2.k = 0) : finT acc (tkA b l) = (0, 0, acc ++ [(nx l).2.sh b]) := by
  rw [tkA_end b l h hk]; rfl
theorem finT_step (acc : List Tk) (b : Nat) (l : List UInt8) (h : (nx l).1 = 0) (hk : (nx l).2.k ≠ 0) :
    finT acc (tkA b l) = finT (acc ++ [(nx l).2.sh b]) (tkA (b + (nx l).2.o + (nx l).2.z) (l.drop ((nx l).2.o + (nx l).2.z))) := by
  rw [tkA_step b l h hk]
  unfold finT
  by_cases hq : (tkA (b + (nx l).2.o + (nx l).2.z) (l.drop ((nx l).2.o + (nx l).2.z))).1 = 0
  · rw [if_pos hq, if_pos rfl, if_pos hq, List.append_assoc]; rfl
  · rw [if_neg hq, if_neg hq, if_neg hq]

theorem heap_new2 (w : World) (o o' : Obj) : ((w.alloc o).alloc o').heap[w.heap.size + 1]? = some o' := by
  have := heap_alloc_new (w.alloc o) o'
  simpa using this
/-- All tokens of s. -/
def tkS (s : ByteArray) : Nat × Nat × List Tk := tkA 0 s.data.toList
set_option maxRecDepth 100000 in
set_option maxHeartbeats 2000000 in
theorem tokens_any (s : ByteArray) (hs : s.size ≤ 1000000) (w : World) (hE : Env w) :
    Calls Tryd.prog 8 #[.string s] w fun e w' => ∃ v, e = .returned (.tuple #[v, .int .i64 ((tkS s).2.1 : Int), .int .i64 ((tkS s).1 : Int)]) ∧ Row w' v (tkS s).2.2 ∧ Below w.heap.size w w' := by
  have HR0 : tkS s = finT [] (tkA 0 (sf s 0)) := (finT_nil 0 _).symm
  generalize tkS s = R at *
  have HR := Lib.hid HR0
  have HE := Lib.hid hE
  clear HR0 hE
  go_enter Tryd.func8, Tryd.ntmps8
  go_wp2_with fail
  go_loopw [5, 6] (fun v x wr => ∃ (k : Nat) (acc : List Tk), x = .int .i64 (k : Int) ∧ k ≤ s.size ∧ acc.length ≤ k ∧ Own wr w.heap.size v acc ∧ Below w.heap.size w wr ∧ Hid (R = finT acc (tkA k (sf s k))))
    (fun _ x _ => s.size - (RowKit.intOf x).toNat)
  case atStart => exact ⟨0, [], by go_num, by omega, by simp, Own.nil _ _, Below.refl _ _, HR⟩
  case round =>
    obtain ⟨k, acc, rfl, hk, hal, hown, hb, hr⟩ := hrel
    have hsz := hb.size
    have HN0 := fun w hE => next_any s (k : Int) hs w hE (by omega) (by omega)
    have e1 : nxA s (k : Int) = atR k (nx (sf s k)) := by unfold nxA; rw [cl_in s k hk]
    rw [e1, show nR (atR k (nx (sf s k))) = .tuple #[.agg #[.int .i64 (((nx (sf s k)).2.sh k).k : Int), .int .i64 (((nx (sf s k)).2.sh k).o : Int), .int .i64 (((nx (sf s k)).2.sh k).z : Int), .string ⟨((nx (sf s k)).2.sh k).v.toArray⟩, .int .i64 ((nx (sf s k)).2.sh k).n], .int .i64 ((nx (sf s k)).1 : Int)] from rfl] at HN0
    have HN := Lib.hid HN0
    have HEr := Lib.hid (HE.out.next hb)
    clear HN0 e1
    by_cases he : (nx (sf s k)).1 = 0
    · have hg := nx_good (sf s k) he
      have hst := nx_step (sf s k) he
      rw [sf_len] at hst
      have hxo : ((nx (sf s k)).2.sh k).o = k + (nx (sf s k)).2.o := rfl
      have hxz : ((nx (sf s k)).2.sh k).z = (nx (sf s k)).2.z := rfl
      have hxk : ((nx (sf s k)).2.sh k).k = (nx (sf s k)).2.k := rfl
      rw [he] at HN
      by_cases hk0 : (nx (sf s k)).2.k = 0
      · have HR2 := Lib.hid (hr.out.trans (finT_end acc k _ he hk0))
        have hkb : ((((nx (sf s k)).2.sh k).k : Int) == 0) = true := by rw [hxk, hk0]; rfl
        clear hr hg hst hxo hxz he hk0 hxk
        generalize (nx (sf s k)).2.sh k = X at *
        go_wp2_with fail
        refine (HN.out _ HEr.out).mono ?_
        rintro e w1 ⟨rfl, hb1⟩
        have hb01 := hb.trans (hb1.mono hsz)
        have hown1 := hown.next hb1
        have hsz1 := hb01.size
        clear hb1
        go_wp2_with (at_builtin; refine wpList_push _ rfl _ _ rfl w.heap.size w _ _ rfl ((hown1.alloc _).alloc _) ((hb01.alloc hsz1 _).alloc (by simp; omega) _) (Nat.le_refl _) _ _ rfl X _ _ (heap_new2 _ _ _) rfl (by omega) ?_; intro v3 w3 hown3 hb3 hst; have hkX := hst w1.heap.size _ (box_old (box_new w1 _) _) (fun e => by have := (World.ownsRow.lt hown1 _ e).2; omega); have hc0 : w3.cell? ⟨w1.heap.size, 0, none⟩ = some (.int .i64 (X.k : Int)) := hkX.cell 0; have hc1 : w3.cell? ⟨w1.heap.size, 1, none⟩ = some (.int .i64 (X.o : Int)) := hkX.cell 1; have hc2 : w3.cell? ⟨w1.heap.size, 2, none⟩ = some (.int .i64 (X.z : Int)) := hkX.cell 2)
        go_ret3
        exact ⟨_, by rw [HR2.out]; rfl, by rw [HR2.out]; exact hown3.row, hb3⟩
      · have HR2 := hr.out.trans (finT_step acc k _ he hk0)
        rw [sf_drop] at HR2
        obtain ⟨st1, st2⟩ := hst hk0
        have hkb : ((((nx (sf s k)).2.sh k).k : Int) == 0) = false := by rw [hxk, beq_eq_false_iff_ne]; omega
        have hn1 : k + (nx (sf s k)).2.o + (nx (sf s k)).2.z = ((nx (sf s k)).2.sh k).o + ((nx (sf s k)).2.sh k).z := rfl
        rw [show k + ((nx (sf s k)).2.o + (nx (sf s k)).2.z) = k + (nx (sf s k)).2.o + (nx (sf s k)).2.z by omega, hn1] at HR2
        have HR3 := Lib.hid HR2
        have hx1 : ((nx (sf s k)).2.sh k).o + ((nx (sf s k)).2.sh k).z ≤ s.size := by rw [hxo, hxz]; omega
        have hx2 : k < ((nx (sf s k)).2.sh k).o + ((nx (sf s k)).2.sh k).z := by rw [hxo, hxz]; omega
        clear hr hg hxo hxz he hk0 hxk hn1 HR2 st1 st2 hst
        generalize (nx (sf s k)).2.sh k = X at *
        go_wp2_with fail
        refine (HN.out _ HEr.out).mono ?_
        rintro e w1 ⟨rfl, hb1⟩
        have hb01 := hb.trans (hb1.mono hsz)
        have hown1 := hown.next hb1
        have hsz1 := hb01.size
        clear hb1
        go_wp2_with (at_builtin; refine wpList_push _ rfl _ _ rfl w.heap.size w _ _ rfl ((hown1.alloc _).alloc _) ((hb01.alloc hsz1 _).alloc (by simp; omega) _) (Nat.le_refl _) _ _ rfl X _ _ (heap_new2 _ _ _) rfl (by omega) ?_; intro v3 w3 hown3 hb3 hst; have hkX := hst w1.heap.size _ (box_old (box_new w1 _) _) (fun e => by have := (World.ownsRow.lt hown1 _ e).2; omega); have hc0 : w3.cell? ⟨w1.heap.size, 0, none⟩ = some (.int .i64 (X.k : Int)) := hkX.cell 0; have hc1 : w3.cell? ⟨w1.heap.size, 1, none⟩ = some (.int .i64 (X.o : Int)) := hkX.cell 1; have hc2 : w3.cell? ⟨w1.heap.size, 2, none⟩ = some (.int .i64 (X.z : Int)) := hkX.cell 2)
        go_roundw
        case rel => exact ⟨X.o + X.z, acc ++ [X], by go_num, hx1, by simp; omega, hown3, hb3, HR3⟩
        case measure => simp [RowKit.intOf]; omega
    · have HR2 := Lib.hid (hr.out.trans (finT_bad acc k _ he))
      clear hr
      have he2 : (((nx (sf s k)).1 : Int) != 0) = true := by rw [bne_iff_ne]; omega
      have hxo : k + (nx (sf s k)).2.o = ((nx (sf s k)).2.sh k).o := rfl
      rw [hxo] at HR2
      generalize (nx (sf s k)).2.sh k = X at *
      clear hxo
      generalize (nx (sf s k)).1 = E at *
      go_wp2_with fail
      refine (HN.out _ HEr.out).mono ?_
      rintro e w1 ⟨rfl, hb1⟩
      have hb01 := hb.trans (hb1.mono hsz)
      have hsz1 := hb01.size
      clear hb1
      go_wp2_with fail
      go_region
      all_goals go_wp2_with fail
      all_goals go_ret3
      all_goals exact ⟨_, by rw [HR2.out]; rfl, by rw [HR2.out]; exact Row.nil _, (hb01.alloc hsz1 _).drew⟩
end Go.Proofs.YtbikbniaoceodaaDoor.Lx
