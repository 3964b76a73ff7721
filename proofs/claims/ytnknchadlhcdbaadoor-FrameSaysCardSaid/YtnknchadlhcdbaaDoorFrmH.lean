/- The statement FrameFinds as a contract over every input; the three laws. Conditions: the arguments fit their kinds; the table of effects reads as the program lays it. -/
import Derived.Test.YtnknchadlhcdbaaDoorFrmG
import Derived.Test.YtnknchadlhcdbaaDoorOpn
import Derived.StillTailTactics
namespace Go.Proofs.YtnknchadlhcdbaaDoor.Frm
open Go.RowKit Go.Lib Go.Proofs.YtnknchadlhcdbaaDoor.Byt Go.Proofs.YtnknchadlhcdbaaDoor.Oct Go.Proofs.YtnknchadlhcdbaaDoor.Crc

theorem blk_next {W W' : World} {g : Nat} {l : List UInt8} (h : Blk W g l) (hg : g < W.heap.size) (hb : Below W.heap.size W W') : Blk W' g l := fun j hj =>
  ⟨(hb.cell (p := ⟨g, j, none⟩) hg).trans (h j hj).1, (hb.frozen (p := ⟨g, j, none⟩) hg).trans (h j hj).2⟩

theorem back_put3 (b : ByteArray) (hb : b.size ≤ 2000) : fpS 3 b = ⟨(frL 3 b.data.toList).toArray⟩ ∧ fpE 3 b = 0 ∧ (fpS 3 b).size = b.size + 10 ∧ gE (fpS 3 b) = 0 ∧ gK (fpS 3 b) = 3 ∧ gB (fpS 3 b) = b :=
  back_put 3 b (by decide) (by decide) hb

set_option maxHeartbeats 2000000 in
set_option maxRecDepth 100000 in
theorem finds_walk (s : ByteArray) (at_ : Int) (x0 x1 x2 x3 : UInt8) (w : World) (hT : Tab w) :
    Calls Tryd.prog 5 #[.string s, .int .i64 at_, .agg #[.int .u8 (x0.toNat : Int), .int .u8 (x1.toNat : Int), .int .u8 (x2.toNat : Int), .int .u8 (x3.toNat : Int)]] w fun e w' => e = .returned (.bool true) ∧ Below w.heap.size w w' := by
  by_cases hs : 2000 < s.size
  · have HA := Lib.hid (fun (W : World) (h : Below w.heap.size w W) => awake_any W (tab_below hT h))
    go_enter Tryd.func5, Tryd.ntmps5
    go_wp2_with fail
    refine (HA.out _ ((Below.refl _ _).alloc (Nat.le_refl _) _)).mono ?_; rintro e w1 ⟨rfl, hb1⟩
    go_wp2_with fail
    go_ret
    exact ⟨rfl, below_next ((Below.refl _ _).alloc (Nat.le_refl _) _) (by simp) hb1⟩
  have hs' : s.size ≤ 2000 := by omega
  clear hs
  obtain ⟨e1, e2, e3, e4, e5, e6⟩ := back_put3 s hs'
  have HP : Hid (∀ W : World, Tab W → Calls Tryd.prog 7 #[.int .i64 3, .string s] W fun e w' => e = .returned (.tuple #[.string (fpS 3 s), .int .i64 0]) ∧ Below W.heap.size W w') := Lib.hid (fun W hT => by
    have := fput_any 3 s W hT
    rwa [e2] at this)
  have hfl : (fpS 3 s).data.toList = frL 3 s.data.toList := by rw [e1]
  clear e1 e2
  have hl0 : s.data.toList.length = s.size := by simp
  have hburst := fun a xs m h1 h2 h3 => burst_told s.data.toList a xs m h1 h2 h3 (by omega)
  rw [← hfl, hl0] at hburst
  have HBU := Lib.hid hburst
  have HG0 := Lib.hid (fun W hT => fget_any (fpS 3 s) W (by omega) hT)
  rw [e4, e5, e6] at HG0
  clear e4 e5 e6 hfl hl0 hburst
  generalize fpS 3 s = f at *
  by_cases hg : at_ < 6 ∨ (f.size : Int) ≤ at_
  · have hg' : at_ < 6 ∨ (¬ at_ < 6 ∧ (f.size : Int) ≤ at_) := by omega
    clear hg
    have e3' : (f.size : Int) = (s.size : Int) + 10 := by omega
    clear e3
    rcases hg' with h | ⟨h1, h⟩
    all_goals
      go_enter Tryd.func5, Tryd.ntmps5
      go_wp2_with fail
      refine (HP.out _ (tab_below hT ((Below.refl _ _).alloc (Nat.le_refl _) _))).mono ?_; rintro e w1 ⟨rfl, hb1⟩
      have h2 := below_next ((Below.refl _ w).alloc (Nat.le_refl _) _) (by simp) hb1
      have HA := Lib.hid (awake_any w1 (tab_below hT h2))
      go_wp2_with (go_at_call 6; refine HA.out.mono ?_; rintro e w3 ⟨rfl, hb3⟩)
      go_ret
      exact ⟨rfl, below_next h2 h2.size hb3⟩
  obtain ⟨a, rfl⟩ : ∃ a : Nat, at_ = (a : Int) := ⟨at_.toNat, by omega⟩
  have ha : a < f.size := by omega
  have ha6 : 6 ≤ a := by omega
  have hfz : f.size ≤ 2010 := by omega
  clear hg
  obtain ⟨cp, nx, hconv, hnx, hnxs⟩ : ∃ (cp : World → Nat) (nx : World → World), (∀ W : World, (convert 9 32 (.string f)).run Tryd.prog W = .ok (.slice (some ⟨W.heap.size, 0, none⟩) f.size (cp W)) (nx W)) ∧
      (∀ W : World, Blk (nx W) W.heap.size f.data.toList ∧ Below W.heap.size W (nx W)) ∧ ∀ W : World, W.heap.size < (nx W).heap.size :=
    ⟨_, _, fun W => run_bytes_of_string (P := Tryd.prog) W 9 32 5 f Tryd.underlying9 Tryd.underlying32 Tryd.underlying5,
      fun W => ⟨(Blk.new W f _ _).drew, (Below.refl _ _).drew.alloc (Nat.le_refl _) _⟩, fun W => by rw [World.size_alloc]; exact Nat.lt_succ_self _⟩
  obtain ⟨xs, hxs⟩ : ∃ xs, xs = [x0, x1, x2, x3] := ⟨_, rfl⟩
  have hxl : xs.length = 4 := by rw [hxs]; rfl
  have hx1 : ∀ i, i < 4 → (w.alloc (.cells #[.int .u8 (x0.toNat : Int), .int .u8 (x1.toNat : Int), .int .u8 (x2.toNat : Int), .int .u8 (x3.toNat : Int)] 31)).cell? ⟨w.heap.size, i, none⟩ = some (.int .u8 ((xs.getD i 0).toNat : Int)) := by
    intro i hi
    rw [World.cell?_alloc_mark, hxs]
    obtain rfl | rfl | rfl | rfl : i = 0 ∨ i = 1 ∨ i = 2 ∨ i = 3 := by omega
    all_goals rfl
  have hl : f.data.toList.length = f.size := by simp
  have ht0 := turn_zero f.data.toList a xs (by omega)
  have HX1 := Lib.hid hx1
  clear hx1 hxs
  have hz : (s.size : Int) + 10 = (f.size : Int) := by omega
  clear e3
  have d1 : decide ((f.size : Int) ≤ (a : Int)) = false := decide_eq_false (by omega)
  have d2 : decide (f.size ≤ a) = false := decide_eq_false (by omega)
  have d5 : decide ((a : Int) < 6) = false := decide_eq_false (by omega)
  have d6 : decide (a < 6) = false := decide_eq_false (by omega)
  have d3 : decide ((2000 : Int) < (s.size : Int)) = false := decide_eq_false (by omega)
  have d4 : decide (2000 < s.size) = false := decide_eq_false (by omega)
  go_enter Tryd.func5, Tryd.ntmps5
  go_wp2_with fail
  refine (HP.out _ (tab_below hT ((Below.refl _ _).alloc (Nat.le_refl _) _))).mono ?_; rintro e w1 ⟨rfl, hb1⟩
  have hx2 : ∀ i, i < 4 → w1.cell? ⟨w.heap.size, i, none⟩ = some (.int .u8 ((xs.getD i 0).toNat : Int)) := fun i hi => (hb1.cell (p := ⟨_, i, none⟩) (by simp)).trans (HX1.out i hi)
  have hgt : w.heap.size < w1.heap.size := by have := hb1.size; simp at this; omega
  have h2 := below_next ((Below.refl _ w).alloc (Nat.le_refl _) _) (by simp) hb1
  obtain ⟨hk2, hb2⟩ := hnx w1
  have hx3 : ∀ i, i < 4 → (nx w1).cell? ⟨w.heap.size, i, none⟩ = some (.int .u8 ((xs.getD i 0).toNat : Int)) := fun i hi => (hb2.cell (p := ⟨_, i, none⟩) hgt).trans (hx2 i hi)
  have h3 := below_next h2 h2.size hb2
  have hconv1 := hconv w1
  clear hconv hx2 HX1 hb1 hb2
  have HGL : Hid (w1.heap.size < (nx w1).heap.size) := Lib.hid (hnxs w1)
  have HK2 := Lib.hid hk2
  have HX2 := Lib.hid hx3
  have HB3 := Lib.hid h3
  clear hk2 hx3 h3 h2 hnx hnxs
  generalize nx w1 = W2 at *
  generalize cp w1 = c2 at *
  obtain ⟨g, hg⟩ : ∃ g, g = w1.heap.size := ⟨_, rfl⟩
  rw [← hg] at hconv1 hgt HK2 HGL
  clear hg
  go_wp2_with fail
  go_loopw [44, 10] (fun i j wr => ∃ m : Nat, m ≤ 4 ∧ i = .int .i64 m ∧ Blk wr g (turn f.data.toList a xs (min m (f.size - a))) ∧ (∀ i, i < 4 → wr.cell? ⟨w.heap.size, i, none⟩ = some (.int .u8 ((xs.getD i 0).toNat : Int))) ∧ g < wr.heap.size ∧ Below w.heap.size w wr)
    (fun i _ _ => 4 - (RowKit.intOf i).toNat)
  case atStart => exact ⟨0, Nat.zero_le _, rfl, by rw [Nat.zero_min, ht0]; exact HK2.out, HX2.out, HGL.out, HB3.out⟩
  case round =>
    obtain ⟨m, hm, rfl, hown, hxc, hgl, hb⟩ := hrel
    by_cases hm4 : m < 4
    · by_cases hlt : a + m < f.size
      · rw [show min m (f.size - a) = m by omega] at hown
        have HS := Lib.hid (turn_step f.data.toList a xs m (by omega) (by omega))
        have hlen := turn_len f.data.toList a xs m (by omega)
        obtain ⟨hc, hf⟩ := hown (a + m) (by omega)
        rw [turn_get f.data.toList a xs m (by omega) (by omega)] at hc
        have hx := hxc m hm4
        have hcl := hown.set_ (a + m) (by omega) (f.data.toList.getD (a + m) 0 ^^^ xs.getD m 0) _ rfl
        have hbl := below_set hb (g := g) (by omega) (a + m) (.int .u8 ((f.data.toList.getD (a + m) 0 ^^^ xs.getD m 0).toNat : Int))
        have hgs : g < (wr.setCell ⟨g, a + m, none⟩ (.int .u8 ((f.data.toList.getD (a + m) 0 ^^^ xs.getD m 0).toNat : Int))).heap.size := by rw [World.size_setCell]; exact hgl
        have hxl : ∀ i, i < 4 → (wr.setCell ⟨g, a + m, none⟩ (.int .u8 ((f.data.toList.getD (a + m) 0 ^^^ xs.getD m 0).toNat : Int))).cell? ⟨w.heap.size, i, none⟩ = some (.int .u8 ((xs.getD i 0).toNat : Int)) := by
          intro i hi
          rw [World.cell?_setCell_other (h := fun q => by injection q with q1; omega)]
          exact hxc i hi
        have hbit := byte_xor (f.data.toList.getD (a + m) 0) (xs.getD m 0)
        rw [HS.out] at hcl
        have HC := Lib.hid hcl
        have HB := Lib.hid hbl
        have HX := Lib.hid hxl
        have HG := Lib.hid hgs
        clear hcl hbl hxl hgs hxc hown HS hlen hgl hb
        generalize f.data.toList.getD (a + m) 0 ^^^ xs.getD m 0 = z at *
        generalize f.data.toList.getD (a + m) 0 = b0 at *
        generalize xs.getD m 0 = y0 at *
        have hwr : IntKind.i64.wrap ((a : Int) + (m : Int)) = ((a + m : Nat) : Int) := by rw [IntKind.wrap_i64]; omega
        have hwi : ((a + m : Nat) : Int) < (f.size : Int) := by omega
        have hmi : (m : Int) < 4 := by omega
        have hgi : (m : Int) < (f.size : Int) - (a : Int) := by omega
        have HE : Hid (a + m < f.size) := Lib.hid hlt
        generalize a + m = p at hwr hwi hlt hc hf HC HB HX HG
        go_wp2_with fail
        go_still_tail 11, (by kernel_rfl)
        change wpList _ _ _ _ _ wr.drew
        have hc2 : wr.drew.cell? ⟨g, p, none⟩ = some (.int .u8 (b0.toNat : Int)) := hc
        have hf2 : wr.drew.frozen? ⟨g, p, none⟩ = false := hf
        have HC2 : Hid (Blk (wr.drew.setCell ⟨g, p, none⟩ (.int .u8 (z.toNat : Int))) g (turn f.data.toList a xs (m + 1))) := HC
        have HX2 : Hid (∀ i, i < 4 → (wr.drew.setCell ⟨g, p, none⟩ (.int .u8 (z.toNat : Int))).cell? ⟨w.heap.size, i, none⟩ = some (.int .u8 ((xs.getD i 0).toNat : Int))) := HX
        have HB2 : Hid (Below w.heap.size w (wr.drew.setCell ⟨g, p, none⟩ (.int .u8 (z.toNat : Int)))) := Lib.hid HB.out.drew
        have HG2 : Hid (g < (wr.drew.setCell ⟨g, p, none⟩ (.int .u8 (z.toNat : Int))).heap.size) := HG
        generalize wr.drew = w4 at *
        go_wp2_with fail
        go_roundw
        case rel => exact ⟨m + 1, by omega, by go_num, by have := HE.out; rw [show min (m + 1) (f.size - a) = m + 1 by omega]; exact HC2.out, HX2.out, HG2.out, HB2.out⟩
        case measure => simp [RowKit.intOf]; omega
      · have HH := Lib.hid (And.intro hown (And.intro hxc (And.intro hgl hb)))
        clear hown hxc hgl hb
        go_wp2_with fail
        go_roundw
        case rel => exact ⟨m + 1, by omega, by go_num, by rw [show min (m + 1) (f.size - a) = min m (f.size - a) by omega]; exact HH.out.1, HH.out.2.1, HH.out.2.2.1, HH.out.2.2.2⟩
        case measure => simp [RowKit.intOf]; omega
    · obtain rfl : m = 4 := by omega
      clear hxc HX2 HB3 HK2 HGL hconv1 HP hm4 hm
      have hLl := turn_len f.data.toList a xs (min 4 (f.size - a)) (by omega)
      have hbu := HBU.out a xs (min 4 (f.size - a)) ha6 (by omega) (by omega)
      clear HBU ht0
      have T := tab_below hT hb
      generalize turn f.data.toList a xs (min 4 (f.size - a)) = L at *
      have hstr := hown.string (cap := c2)
      rw [hLl, hl] at hstr
      obtain ⟨t, ht⟩ : ∃ t, t = ByteArray.mk L.toArray := ⟨_, rfl⟩
      have htL : t.data.toList = L := by rw [ht]
      have htz : t.size = f.size := by rw [ht]; show L.toArray.size = _; rw [List.size_toArray]; omega
      rw [← ht] at hstr
      have HG1 := Lib.hid (fun W hT => fget_any t W (by omega) hT)
      have hstr2 : ∀ W, Below wr.heap.size wr W → (convert 32 9 (.slice (some ⟨g, 0, none⟩) f.size c2)).run Tryd.prog W = .ok (.string t) W := fun W hbW => by
        have := (blk_next hown hgl hbW).string (cap := c2)
        rwa [hLl, hl, ← ht] at this
      have HST := Lib.hid hstr2
      clear hstr2
      have HB := Lib.hid hb
      by_cases hts : L = f.data.toList
      · obtain rfl : t = f := by rw [ht, hts]
        clear hbu hLl ht htL htz hown hts hb HG1
        go_wp2_with fail
        refine (HG0.out _ T).mono ?_; rintro e w5 ⟨rfl, hb5⟩
        have T5 := tab_next T hb5
        have h5 := HST.out w5 hb5
        clear hstr
        go_wp2_with (go_at_call 6; refine (awake_any _ T5).mono ?_; rintro e w6 ⟨rfl, hb6⟩)
        go_ret
        have hb5' := below_next HB.out HB.out.size hb5
        exact ⟨rfl, below_next hb5' hb5'.size hb6⟩
      · obtain ⟨q1, q2⟩ := hbu hts
        have hne : t ≠ f := fun q => hts (by rw [← htL, q])
        have g1 : gE t = 9 := by unfold gE; rw [htL]; exact q1
        obtain ⟨g2, g3⟩ := g_bad (s := t) (by rw [g1]; decide)
        rw [g1, g2, g3] at HG1
        have hne2 := str_neq hne
        clear hbu hLl ht htL htz hown hts hb HG0 g1 g2 g3 q1 q2 hne
        go_wp2_with fail
        refine (HG1.out _ T).mono ?_; rintro e w5 ⟨rfl, hb5⟩
        have T5 := tab_next T hb5
        have h5 := HST.out w5 hb5
        clear hstr
        go_wp2_with (go_at_call 6; refine (awake_any _ T5).mono ?_; rintro e w6 ⟨rfl, hb6⟩)
        go_ret
        have hb5' := below_next HB.out HB.out.size hb5
        exact ⟨rfl, below_next hb5' hb5'.size hb6⟩

theorem says_law {W : World} (k : Int) (b s : ByteArray) (_wk : (Lit.int .i64 k).wf = true) (_wb : b.size ≤ maxLen) (_ws : s.size ≤ maxLen) (hT : Tab W) :
    Calls Tryd.prog 3 #[.int .i64 k, .string b, .string s] W fun e w' => e = .returned (.bool true) ∧ Below W.heap.size W w' := says_walk k b s W hT
theorem back_law {W : World} (k : Int) (b s : ByteArray) (wk : (Lit.int .u8 k).wf = true) (_wb : b.size ≤ maxLen) (_ws : s.size ≤ maxLen) (hT : Tab W) :
    Calls Tryd.prog 4 #[.int .u8 k, .string b, .string s] W fun e w' => e = .returned (.bool true) ∧ Below W.heap.size W w' := by
  obtain ⟨m, rfl, hm⟩ := Opn.u8_nat wk
  exact back_walk m b s W hm hT
theorem u8_byte {n : Int} (h : (Lit.int .u8 n).wf = true) : ∃ b : UInt8, n = (b.toNat : Int) := by
  obtain ⟨m, rfl, hm⟩ := Opn.u8_nat h
  exact ⟨UInt8.ofNat m, by rw [UInt8.toNat_ofNat']; omega⟩
theorem finds_law {W : World} (s : ByteArray) (n x0 x1 x2 x3 : Int) (_ws : s.size ≤ maxLen) (_wn : (Lit.int .i64 n).wf = true) (w0 : (Lit.int .u8 x0).wf = true) (w1 : (Lit.int .u8 x1).wf = true) (w2 : (Lit.int .u8 x2).wf = true) (w3 : (Lit.int .u8 x3).wf = true) (hT : Tab W) :
    Calls Tryd.prog 5 #[.string s, .int .i64 n, .agg #[.int .u8 x0, .int .u8 x1, .int .u8 x2, .int .u8 x3]] W fun e w' => e = .returned (.bool true) ∧ Below W.heap.size W w' := by
  obtain ⟨b0, rfl⟩ := u8_byte w0
  obtain ⟨b1, rfl⟩ := u8_byte w1
  obtain ⟨b2, rfl⟩ := u8_byte w2
  obtain ⟨b3, rfl⟩ := u8_byte w3
  exact finds_walk s n b0 b1 b2 b3 W hT
end Go.Proofs.YtnknchadlhcdbaaDoor.Frm
