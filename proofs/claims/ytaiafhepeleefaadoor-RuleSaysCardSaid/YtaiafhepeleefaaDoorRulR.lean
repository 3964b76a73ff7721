/- Contracts of the document's Kind, KindOf, fields, texts, Check. Conditions: the texts have at most 2^47 bytes. -/
import Derived.Test.YtaiafhepeleefaaDoorRulC
import Derived.Test.YtaiafhepeleefaaDoorUtfG1
import Derived.Test.YtaiafhepeleefaaDoorSatC
import Derived.Great.Walk
namespace Go.Proofs.YtaiafhepeleefaaDoor.Rul
open Go.RowKit Go.Lib

theorem rkind_any (k : Int) (w : World) : Calls Tryd.prog 13 #[.int .i64 k] w fun e w' => e = .returned (.string (kB k)) ∧ w = w' := by
  by_cases h1 : k = 1
  · subst h1
    go_enter Tryd.func13, Tryd.ntmps13
    go_wp2
    go_ret
    exact ⟨rfl, rfl⟩
  by_cases h2 : k = 2
  · subst h2
    go_enter Tryd.func13, Tryd.ntmps13
    go_wp2
    go_ret
    exact ⟨rfl, rfl⟩
  by_cases h3 : k = 3
  · subst h3
    go_enter Tryd.func13, Tryd.ntmps13
    go_wp2
    go_ret
    exact ⟨rfl, rfl⟩
  rw [(kB_none k).2 (by omega)]
  go_enter Tryd.func13, Tryd.ntmps13
  go_wp2
  go_ret
  exact ⟨rfl, rfl⟩

theorem rkindof_any (s : ByteArray) (w : World) :
    Calls Tryd.prog 15 #[.string s] w fun e w' => e = .returned (.int .i64 (kO s)) ∧ w = w' := by
  have HN := Lib.hid fun u W => rkind_any u W
  have PI := Lib.hid fun (m : Int) (h : 0 ≤ m) (h4 : m < 4) => kO_in h h4
  have PN := Lib.hid fun (h : ∀ k : Nat, 1 ≤ k → k < 4 → kB k ≠ s) => kO_no h
  go_enter Tryd.func15, Tryd.ntmps15
  go_wp2_with fail
  go_loop [3] (fun i => ∃ m : Int, i = .int .i64 m ∧ 1 ≤ m ∧ m ≤ 4 ∧ Hid (∀ k : Nat, 1 ≤ k → (k : Int) < m → kB k ≠ s)) (fun i => 4 - (RowKit.intOf i).toNat)
  case atStart => exact ⟨1, rfl, by omega, by omega, Lib.hid fun k h h2 => absurd h (by omega)⟩
  case round =>
    obtain ⟨m, rfl, h0, h4, HK⟩ := hrel
    have HM := Lib.hid fun W => HN.out m W
    by_cases hlt : m < 4
    · have HP := Lib.hid (PI.out m (by omega) hlt)
      have HX := Lib.hid fun (h : kB m ≠ s) (k : Nat) (h1 : 1 ≤ k) (h2 : (k : Int) < m + 1) => by
        by_cases e : (k : Int) < m
        · exact HK.out k h1 e
        · have e2 : (k : Int) = m := by omega
          rw [e2]; exact h
      generalize kB m = z at *
      by_cases hz : z = s
      · subst hz
        have hq : (z.toList == z.toList) = true := beq_self_eq_true _
        go_wp2_with (go_at_call 13; (with_reducible refine (HM.out _).mono ?_); rintro e w1 ⟨rfl, rfl⟩)
        go_ret
        rw [HP.out]
        exact ⟨rfl, rfl⟩
      · have HX2 := Lib.hid (HX.out hz)
        have hq : (z.toList == s.toList) = false := str_ne hz
        clear HX hz
        go_wp2_with (go_at_call 13; (with_reducible refine (HM.out _).mono ?_); rintro e w1 ⟨rfl, rfl⟩)
        go_round
        case rel => exact ⟨m + 1, rfl, by omega, by omega, HX2⟩
        case measure => simp [RowKit.intOf]; omega
    · obtain rfl : m = 4 := by omega
      have HE := Lib.hid (PN.out fun k h1 hk => HK.out k h1 (by omega))
      go_wp2_with fail
      go_ret
      rw [HE.out]
      exact ⟨rfl, rfl⟩

/-! ### fields -/
def nm1 : ByteArray := ⟨#[114, 97, 116, 101]⟩
def nm2 : ByteArray := ⟨#[112, 101, 114]⟩
def nm3 : ByteArray := ⟨#[98, 117, 114, 115, 116]⟩
def nm4 : ByteArray := ⟨#[99, 111, 115, 116]⟩
def nm5 : ByteArray := ⟨#[109, 97, 120]⟩
def nm6 : ByteArray := ⟨#[102, 97, 105, 108, 115]⟩
def nm7 : ByteArray := ⟨#[119, 97, 105, 116]⟩
def nm8 : ByteArray := ⟨#[112, 114, 111, 98, 101, 115]⟩
def rn (m : Int) : ByteArray := if m = 0 then nm1 else if m = 1 then nm2 else if m = 2 then nm3 else if m = 3 then nm4 else if m = 4 then nm5 else if m = 5 then nm6 else if m = 6 then nm7 else nm8
theorem rn_pt (m : Int) : ⟨#[47]⟩ ++ rn m = pt m := by
  unfold rn pt
  (repeat' split) <;> decide
theorem rn_size (m : Int) : (rn m).size ≤ 8 := by
  unfold rn
  (repeat' split) <;> decide
def rfC (r : Ru) : Array Value :=
  #[.string nm1, .int .i64 r.ra, .int .i64 1, .int .i64 0, .int .i64 1000000, .string nm2, .int .i64 r.pe, .int .i64 1, .int .i64 1, .int .i64 86400000,
    .string nm3, .int .i64 r.bu, .int .i64 1, .int .i64 1, .int .i64 1000000, .string nm4, .int .i64 r.co, .int .i64 1, .int .i64 0, .int .i64 1000,
    .string nm5, .int .i64 r.mx, .int .i64 2, .int .i64 1, .int .i64 1000000, .string nm6, .int .i64 r.fa, .int .i64 3, .int .i64 1, .int .i64 1000,
    .string nm7, .int .i64 r.wa, .int .i64 3, .int .i64 1, .int .i64 86400000, .string nm8, .int .i64 r.pb, .int .i64 3, .int .i64 0, .int .i64 100]
theorem rfC_at (r : Ru) (m : Int) (h : 0 ≤ m) (h8 : m < 8) : (rfC r)[m.toNat * 5]? = some (.string (rn m)) ∧ (rfC r)[m.toNat * 5 + 1]? = some (.int .i64 (nv r m)) ∧ (rfC r)[m.toNat * 5 + 2]? = some (.int .i64 (kd m))
    ∧ (rfC r)[m.toNat * 5 + 3]? = some (.int .i64 (lw m)) ∧ (rfC r)[m.toNat * 5 + 4]? = some (.int .i64 (hh m)) := by
  obtain rfl | rfl | rfl | rfl | rfl | rfl | rfl | rfl : m = 0 ∨ m = 1 ∨ m = 2 ∨ m = 3 ∨ m = 4 ∨ m = 5 ∨ m = 6 ∨ m = 7 := by omega
  all_goals exact ⟨rfl, rfl, rfl, rfl, rfl⟩
/-- The document's row of fields in memory. -/
def Gx (w : World) (g : Nat) (cs : Array Value) : Prop := w.heap[g]? = some (.cells cs 43 (0, 0))
theorem Gx.next {w w' : World} {B g : Nat} {cs : Array Value} (h : Gx w g cs) (hb : Below B w w') (hg : g < B) : Gx w' g cs := (hb.block g hg).trans h
theorem Gx.lt {w : World} {g : Nat} {cs : Array Value} (h : Gx w g cs) : g < w.heap.size := by
  rcases Nat.lt_or_ge g w.heap.size with h' | h'
  · exact h'
  · unfold Gx at h; simp [Array.getElem?_eq_none h'] at h
theorem Gx.cell {w : World} {g : Nat} {cs : Array Value} (h : Gx w g cs) (j : Nat) : w.cell? ⟨g, j, none⟩ = cs[j]? := by
  unfold Gx at h
  simp [World.cell?, h]
theorem rbuilt (r : Ru) (a : Act) (parts : Array (Nat × Operand)) (hp : (parts.map fun (i, x) => (i, a.eval x)) = #[(0, .agg (fdC nm1 r.ra 1 0 1000000).toArray), (1, .agg (fdC nm2 r.pe 1 1 86400000).toArray), (2, .agg (fdC nm3 r.bu 1 1 1000000).toArray), (3, .agg (fdC nm4 r.co 1 0 1000).toArray),
    (4, .agg (fdC nm5 r.mx 2 1 1000000).toArray), (5, .agg (fdC nm6 r.fa 3 1 1000).toArray), (6, .agg (fdC nm7 r.wa 3 1 86400000).toArray), (7, .agg (fdC nm8 r.pb 3 0 100).toArray)]) :
    Tryd.prog.builtSlice 43 8 (parts.map fun (i, x) => (i, a.eval x)).toList = some (rfC r) := by
  rw [hp]
  kernel_rfl
set_option maxHeartbeats 4000000 in
set_option maxRecDepth 100000 in
theorem rfields_any (r : Ru) (w : World) : Calls Tryd.prog 20 #[.agg (ruC r)] w fun e w' => ∃ g, e = .returned (.slice (some ⟨g, 0, none⟩) 8 8) ∧ Gx w' g (rfC r) ∧ Below w.heap.size w w' := by
  obtain ⟨id, no, ro, pr, ki, ra, pe, bu, co, mx, fa, wa, pb⟩ := r
  unfold ruC
  go_enter Tryd.func20, Tryd.ntmps20
  go_wp2_with (refine wpList_buildSliceTo rfl 40 43 8 _ rfl (w.heap.size + 1) (by simp) _ rfl Tryd.underlying40 _ (rbuilt ⟨id, no, ro, pr, ki, ra, pe, bu, co, mx, fa, wa, pb⟩ _ _ rfl) ?_)
  go_ret
  exact ⟨_, rfl, two_new _ _ _, two_below _ _ _⟩
end Go.Proofs.YtaiafhepeleefaaDoor.Rul
