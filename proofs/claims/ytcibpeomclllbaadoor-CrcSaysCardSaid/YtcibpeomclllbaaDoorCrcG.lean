/- The statement CrcFinds as a contract over every input; the three laws. Conditions: the arguments fit their kinds; the table of effects reads as the program lays it. -/
import Derived.Test.YtcibpeomclllbaaDoorCrcF
namespace Go.Proofs.YtcibpeomclllbaaDoor.Crc
open Go.RowKit Go.Lib Go.Proofs.YtcibpeomclllbaaDoor.Byt

theorem toList_data (b : ByteArray) : b.toList = b.data.toList := by
  rcases b with ⟨⟨l⟩⟩
  exact ByteArray.toList_mk l
theorem str_ne {a b : ByteArray} (h : a ≠ b) : (a.toList == b.toList) = false := by
  rw [beq_eq_false_iff_ne, toList_data, toList_data]
  exact fun q => h (ByteArray.ext (Array.toList_inj.1 q))

set_option maxHeartbeats 2000000 in
set_option maxRecDepth 100000 in
theorem finds_walk (s : ByteArray) (at_ : Int) (x0 x1 x2 x3 : UInt8) (w : World) (hT : Tab w) :
    Calls Tryd.prog 4 #[.string s, .int .i64 at_, .agg #[.int .u8 (x0.toNat : Int), .int .u8 (x1.toNat : Int), .int .u8 (x2.toNat : Int), .int .u8 (x3.toNat : Int)]] w fun e w' => e = .returned (.bool true) ∧ Below w.heap.size w w' := by
  by_cases hg : 3000 < s.size ∨ at_ < 0 ∨ (s.size : Int) ≤ at_
  · have hg' : 3000 < s.size ∨ (¬ 3000 < s.size ∧ at_ < 0) ∨ (¬ 3000 < s.size ∧ ¬ at_ < 0 ∧ (s.size : Int) ≤ at_) := by omega
    clear hg
    have HA := Lib.hid (fun (W : World) (h : Below w.heap.size w W) => awake_any W (tab_below hT h))
    rcases hg' with h | ⟨h0, h⟩ | ⟨h0, h1, h⟩
    all_goals
      go_enter Tryd.func4, Tryd.ntmps4
      go_wp2_with fail
      refine (HA.out _ ((Below.refl _ _).alloc (Nat.le_refl _) _)).mono ?_; rintro e w1 ⟨rfl, rfl⟩
      go_wp2_with fail
      go_ret
      exact ⟨rfl, ((Below.refl _ _).alloc (Nat.le_refl _) _)⟩
  obtain ⟨a, rfl⟩ : ∃ a : Nat, at_ = (a : Int) := ⟨at_.toNat, by omega⟩
  have ha : a < s.size := by omega
  have hs : s.size ≤ 3000 := by omega
  clear hg
  obtain ⟨cp, nx, hconv, hnx⟩ : ∃ (cp : World → Nat) (nx : World → World), (∀ W : World, (convert 9 29 (.string s)).run Tryd.prog W = .ok (.slice (some ⟨W.heap.size, 0, none⟩) s.size (cp W)) (nx W)) ∧
      ∀ W : World, Blk (nx W) W.heap.size s.data.toList ∧ Below W.heap.size W (nx W) :=
    ⟨_, _, fun W => run_bytes_of_string (P := Tryd.prog) W 9 29 5 s Tryd.underlying9 Tryd.underlying29 Tryd.underlying5,
      fun W => ⟨(Blk.new W s _ _).drew, (Below.refl _ _).drew.alloc (Nat.le_refl _) _⟩⟩
  obtain ⟨xs, hxs⟩ : ∃ xs, xs = [x0, x1, x2, x3] := ⟨_, rfl⟩
  have hxl : xs.length = 4 := by rw [hxs]; rfl
  have hx1 : ∀ i, i < 4 → (w.alloc (.cells #[.int .u8 (x0.toNat : Int), .int .u8 (x1.toNat : Int), .int .u8 (x2.toNat : Int), .int .u8 (x3.toNat : Int)] 28)).cell? ⟨w.heap.size, i, none⟩ = some (.int .u8 ((xs.getD i 0).toNat : Int)) := by
    intro i hi
    rw [World.cell?_alloc_mark, hxs]
    obtain rfl | rfl | rfl | rfl : i = 0 ∨ i = 1 ∨ i = 2 ∨ i = 3 := by omega
    all_goals rfl
  obtain ⟨hk2, hb2⟩ := hnx (w.alloc (.cells #[.int .u8 (x0.toNat : Int), .int .u8 (x1.toNat : Int), .int .u8 (x2.toNat : Int), .int .u8 (x3.toNat : Int)] 28))
  rw [World.size_alloc] at hk2 hb2
  have hx2 : ∀ i, i < 4 → (nx (w.alloc (.cells #[.int .u8 (x0.toNat : Int), .int .u8 (x1.toNat : Int), .int .u8 (x2.toNat : Int), .int .u8 (x3.toNat : Int)] 28))).cell? ⟨w.heap.size, i, none⟩ = some (.int .u8 ((xs.getD i 0).toNat : Int)) :=
    fun i hi => (hb2.cell (p := ⟨_, i, none⟩) (Nat.lt_succ_self _)).trans (hx1 i hi)
  have hb3 := below_next ((Below.refl _ w).alloc (Nat.le_refl _) (.cells #[.int .u8 (x0.toNat : Int), .int .u8 (x1.toNat : Int), .int .u8 (x2.toNat : Int), .int .u8 (x3.toNat : Int)] 28)) (by simp) (by rw [World.size_alloc]; exact hb2)
  have hl : s.data.toList.length = s.size := by simp
  have ht0 := turn_zero s.data.toList a xs (by omega)
  clear hnx hb2 hx1
  have HX2 := Lib.hid hx2
  have HB3 := Lib.hid hb3
  have HK2 := Lib.hid hk2
  clear hx2 hb3 hk2 hxs
  have d1 : decide ((s.size : Int) ≤ (a : Int)) = false := decide_eq_false (by omega)
  have d2 : decide (s.size ≤ a) = false := decide_eq_false (by omega)
  have d3 : decide ((3000 : Int) < (s.size : Int)) = false := decide_eq_false (by omega)
  have d4 : decide (3000 < s.size) = false := decide_eq_false (by omega)
  have d5 : decide ((a : Int) < 0) = false := decide_eq_false (by omega)
  go_enter Tryd.func4, Tryd.ntmps4
  go_wp2_with fail
  generalize nx _ = W2 at *
  generalize cp _ = c2 at *
  go_loopw [25, 8] (fun i j wr => ∃ m : Nat, m ≤ 4 ∧ i = .int .i64 m ∧ Blk wr (w.heap.size + 1) (turn s.data.toList a xs (min m (s.size - a))) ∧ (∀ i, i < 4 → wr.cell? ⟨w.heap.size, i, none⟩ = some (.int .u8 ((xs.getD i 0).toNat : Int))) ∧ Below w.heap.size w wr)
    (fun i _ _ => 4 - (RowKit.intOf i).toNat)
  case atStart => exact ⟨0, Nat.zero_le _, rfl, by rw [Nat.zero_min, ht0]; exact HK2.out, HX2.out, HB3.out⟩
  case round =>
    obtain ⟨m, hm, rfl, hown, hxc, hb⟩ := hrel
    by_cases hm4 : m < 4
    · by_cases hlt : a + m < s.size
      · rw [show min m (s.size - a) = m by omega] at hown
        have HS := Lib.hid (turn_step s.data.toList a xs m (by omega) (by omega))
        have hlen := turn_len s.data.toList a xs m (by omega)
        obtain ⟨hc, hf⟩ := hown (a + m) (by omega)
        rw [turn_get s.data.toList a xs m (by omega) (by omega)] at hc
        have hx := hxc m hm4
        have hcl := hown.set_ (a + m) (by omega) (s.data.toList.getD (a + m) 0 ^^^ xs.getD m 0) _ rfl
        have hbl := below_set hb (g := w.heap.size + 1) (by omega) (a + m) (.int .u8 ((s.data.toList.getD (a + m) 0 ^^^ xs.getD m 0).toNat : Int))
        have hxl : ∀ i, i < 4 → (wr.setCell ⟨w.heap.size + 1, a + m, none⟩ (.int .u8 ((s.data.toList.getD (a + m) 0 ^^^ xs.getD m 0).toNat : Int))).cell? ⟨w.heap.size, i, none⟩ = some (.int .u8 ((xs.getD i 0).toNat : Int)) := by
          intro i hi
          rw [World.cell?_setCell_other (h := fun q => by injection q with q1; omega)]
          exact hxc i hi
        have hbit := byte_xor (s.data.toList.getD (a + m) 0) (xs.getD m 0)
        rw [HS.out] at hcl
        have HC := Lib.hid hcl
        have HB := Lib.hid hbl
        have HX := Lib.hid hxl
        clear hcl hbl hxl hxc hown HS hlen
        generalize s.data.toList.getD (a + m) 0 ^^^ xs.getD m 0 = z at *
        generalize s.data.toList.getD (a + m) 0 = b0 at *
        generalize xs.getD m 0 = y0 at *
        have hwr : IntKind.i64.wrap ((a : Int) + (m : Int)) = ((a + m : Nat) : Int) := by rw [IntKind.wrap_i64]; omega
        have hwi : ((a + m : Nat) : Int) < (s.size : Int) := by omega
        have hmi : (m : Int) < 4 := by omega
        have hgi : (m : Int) < (s.size : Int) - (a : Int) := by omega
        have HE : Hid (a + m < s.size) := Lib.hid hlt
        generalize a + m = p at hwr hwi hlt hc hf HC HB HX
        go_wp2_with fail
        go_still_tail 11, (by kernel_rfl)
        change wpList _ _ _ _ _ wr.drew
        have hc2 : wr.drew.cell? ⟨w.heap.size + 1, p, none⟩ = some (.int .u8 (b0.toNat : Int)) := hc
        have hf2 : wr.drew.frozen? ⟨w.heap.size + 1, p, none⟩ = false := hf
        have HC2 : Hid (Blk (wr.drew.setCell ⟨w.heap.size + 1, p, none⟩ (.int .u8 (z.toNat : Int))) (w.heap.size + 1) (turn s.data.toList a xs (m + 1))) := HC
        have HX2 : Hid (∀ i, i < 4 → (wr.drew.setCell ⟨w.heap.size + 1, p, none⟩ (.int .u8 (z.toNat : Int))).cell? ⟨w.heap.size, i, none⟩ = some (.int .u8 ((xs.getD i 0).toNat : Int))) := HX
        have HB2 : Hid (Below w.heap.size w (wr.drew.setCell ⟨w.heap.size + 1, p, none⟩ (.int .u8 (z.toNat : Int)))) := Lib.hid HB.out.drew
        generalize wr.drew = w4 at *
        go_wp2_with fail
        go_roundw
        case rel => exact ⟨m + 1, by omega, by go_num, by have := HE.out; rw [show min (m + 1) (s.size - a) = m + 1 by omega]; exact HC2.out, HX2.out, HB2.out⟩
        case measure => simp [RowKit.intOf]; omega
      · go_wp2_with fail
        go_roundw
        case rel => exact ⟨m + 1, by omega, by go_num, by rw [show min (m + 1) (s.size - a) = min m (s.size - a) by omega]; exact hown, hxc, hb⟩
        case measure => simp [RowKit.intOf]; omega
    · obtain rfl : m = 4 := by omega
      clear hxc HX2 HB3 HK2 hconv hxl
      have hfi := turn_finds s.data.toList a xs (min 4 (s.size - a)) (by omega) (by omega)
      have hLl := turn_len s.data.toList a xs (min 4 (s.size - a)) (by omega)
      have T := tab_below hT hb
      generalize turn s.data.toList a xs (min 4 (s.size - a)) = L at *
      have hstr := fun n => (hown.drewN n).string (cap := c2)
      rw [hLl, hl] at hstr
      have hLz : (ByteArray.mk L.toArray).size ≤ 3000 := by show L.toArray.size ≤ 3000; rw [List.size_toArray]; omega
      have hLs : (ByteArray.mk L.toArray) = s ↔ L = s.data.toList := by
        constructor
        · intro q; rw [← q]
        · intro q; rw [q]
      obtain ⟨r0, hr0⟩ : ∃ r, mr 0 L = r := ⟨_, rfl⟩
      obtain ⟨r1, hr1⟩ : ∃ r, mr 0 s.data.toList = r := ⟨_, rfl⟩
      have H0 := Lib.hid (sum_quiet ⟨L.toArray⟩ r0 hr0 (by omega))
      have H1 := Lib.hid (sum_quiet s r1 hr1 (by omega))
      have H6 := Lib.hid awake_quiet
      rw [hr0, hr1, ← hLs] at hfi
      clear hr0 hr1 hLs hLl
      generalize ByteArray.mk L.toArray = t at *
      by_cases hts : t = s
      · subst hts
        obtain rfl := hfi.2 rfl
        go_wp2_with fail
        go_quiet (first
          | (go_at_call 7; first | (with_reducible exact H0.out _ T _) | (with_reducible exact H1.out _ T _))
          | (go_at_call 6; exact H6.out _ T _))
        go_wp2_with fail
        go_ret
        exact ⟨rfl, below_drewN hb⟩
      · have hr : r0 ≠ r1 := fun q => hts (hfi.1 q)
        have e1 : ((r0 : Int) == (r1 : Int)) = false := by rw [beq_eq_false_iff_ne]; omega
        have e2 := str_ne hts
        go_wp2_with fail
        go_quiet (first
          | (go_at_call 7; first | (with_reducible exact H0.out _ T _) | (with_reducible exact H1.out _ T _))
          | (go_at_call 6; exact H6.out _ T _))
        go_wp2_with fail
        go_ret
        exact ⟨rfl, below_drewN hb⟩

theorem says_law {W : World} (s : ByteArray) (c n : Int) (_ws : s.size ≤ maxLen) (wc : (Lit.int .u32 c).wf = true) (_wn : (Lit.int .i64 n).wf = true) (hT : Tab W) :
    Calls Tryd.prog 3 #[.string s, .int .u32 c, .int .i64 n] W fun e w' => e = .returned (.bool true) ∧ Below W.heap.size W w' := by
  obtain ⟨m, rfl, hm⟩ := Opn.u32_nat wc
  exact (says_walk s m n W hm hT).mono fun e w' ⟨h1, h2⟩ => ⟨h1, by subst h2; exact Below.refl _ _⟩
theorem linear_law {W : World} (s t u : ByteArray) (_ws : s.size ≤ maxLen) (_wt : t.size ≤ maxLen) (_wu : u.size ≤ maxLen) (hT : Tab W) :
    Calls Tryd.prog 5 #[.string s, .string t, .string u] W fun e w' => e = .returned (.bool true) ∧ Below W.heap.size W w' := linear_walk s t u W hT
theorem u8_byte {n : Int} (h : (Lit.int .u8 n).wf = true) : ∃ b : UInt8, n = (b.toNat : Int) := by
  obtain ⟨m, rfl, hm⟩ := Opn.u8_nat h
  exact ⟨UInt8.ofNat m, by rw [UInt8.toNat_ofNat']; omega⟩
theorem finds_law {W : World} (s : ByteArray) (n x0 x1 x2 x3 : Int) (_ws : s.size ≤ maxLen) (_wn : (Lit.int .i64 n).wf = true) (w0 : (Lit.int .u8 x0).wf = true) (w1 : (Lit.int .u8 x1).wf = true) (w2 : (Lit.int .u8 x2).wf = true) (w3 : (Lit.int .u8 x3).wf = true) (hT : Tab W) :
    Calls Tryd.prog 4 #[.string s, .int .i64 n, .agg #[.int .u8 x0, .int .u8 x1, .int .u8 x2, .int .u8 x3]] W fun e w' => e = .returned (.bool true) ∧ Below W.heap.size W w' := by
  obtain ⟨b0, rfl⟩ := u8_byte w0
  obtain ⟨b1, rfl⟩ := u8_byte w1
  obtain ⟨b2, rfl⟩ := u8_byte w2
  obtain ⟨b3, rfl⟩ := u8_byte w3
  exact finds_walk s n b0 b1 b2 b3 W hT
end Go.Proofs.YtcibpeomclllbaaDoor.Crc
