/- Contracts of frame's Put. Conditions: the table of effects reads as the program lays it. -/
import Derived.Test.YtnknchadlhcdbaaDoorFrmA
import Derived.Deep.RegionWith
namespace Go.Proofs.YtnknchadlhcdbaaDoor.Frm
open Go.RowKit Go.Lib Go.Proofs.YtnknchadlhcdbaaDoor.Byt Go.Proofs.YtnknchadlhcdbaaDoor.Oct Go.Proofs.YtnknchadlhcdbaaDoor.Crc

theorem below_next {w W W' : World} {B : Nat} (h : Below B w W) (hB : B ≤ W.heap.size) (hb : Below W.heap.size W W') : Below B w W' := h.trans (hb.mono hB)
theorem two_str (x : UInt8) (W : World) (g : Nat) (h0 : W.cell? ⟨g, 0, none⟩ = some (.int .u8 167)) (h1 : W.cell? ⟨g, 1, none⟩ = some (.int .u8 (x.toNat : Int))) :
    (convert 32 9 (.slice (some ⟨g, 0, none⟩) 2 2)).run Tryd.prog W = .ok (.string ⟨#[167, x]⟩) W :=
  run_convert_bytes_back W 32 9 5 ⟨g, 0, none⟩ 2 [167, x] Tryd.underlying32 Tryd.underlying5 Tryd.underlying9 (fun j hj => by
    have hj2 : j < 2 := hj
    rw [add_at]
    obtain rfl | rfl : j = 0 ∨ j = 1 := by omega
    · exact h0
    · exact h1)
theorem keep_at {W w7 : World} {g : Nat} (hb : Below W.heap.size W w7) (hg : g < W.heap.size) {j : Nat} : w7.cell? ⟨g, j, none⟩ = W.cell? ⟨g, j, none⟩ := hb.cell (p := ⟨g, j, none⟩) hg
theorem cat_list (a b : List UInt8) : (ByteArray.mk a.toArray) ++ (ByteArray.mk b.toArray) = ⟨(a ++ b).toArray⟩ := by
  apply ByteArray.ext
  apply Array.toList_inj.1
  simp [ByteArray.data_append]

theorem fput_yes (k : Nat) (b : ByteArray) (w : World) (k0 : 0 < k) (k1 : k < 256) (hb : b.size ≤ 1048576) (hT : Tab w) :
    Calls Tryd.prog 7 #[.int .i64 (k : Int), .string b] w fun e w' => e = .returned (.tuple #[.string ⟨(frL k b.data.toList).toArray⟩, .int .i64 0]) ∧ Below w.heap.size w w' := by
  obtain ⟨x, hx, hxn⟩ : ∃ x : UInt8, x = UInt8.ofNat k ∧ (x.toNat : Int) = (k : Int) := ⟨_, rfl, by rw [ofNat_toNat _ k1]⟩
  have hsx := fun W g h0 h1 => two_str x W g h0 h1
  rw [hxn] at hsx
  have HP := Lib.hid (fun w => put_any b.size 4 4 w (by omega) (by decide))
  obtain ⟨p4, hp4⟩ : ∃ p4 : ByteArray, p4 = ⟨(putL b.size 4).toArray⟩ := ⟨_, rfl⟩
  rw [← hp4] at HP
  have hz : b.data.toList.length = b.size := by simp
  have hH : ByteArray.mk #[167, x] ++ p4 = ⟨(headL k b.data.toList.length).toArray⟩ := by
    rw [hp4, show (#[167, x] : Array UInt8) = [167, x].toArray from rfl, cat_list, hx, hz]; rfl
  have HS := Lib.hid (fun w hT => sum_bytes (ByteArray.mk #[167, x] ++ p4) b w (by rw [hH]; show (List.toArray _).size ≤ _; rw [List.size_toArray, headL_length]; decide) (by omega) hT)
  have hF : ByteArray.mk #[167, x] ++ p4 ++ b ++ ⟨(sumL ((ByteArray.mk #[167, x] ++ p4).data.toList ++ b.data.toList)).toArray⟩ = ⟨(frL k b.data.toList).toArray⟩ := by
    rw [hH]
    have : b = ⟨b.data.toList.toArray⟩ := by simp
    conv => lhs; lhs; rw [this]
    rw [cat_list, cat_list]
    rfl
  rw [← hF]
  have hcs : (ByteArray.mk (sumL ((ByteArray.mk #[167, x] ++ p4).data.toList ++ b.data.toList)).toArray).size = 4 := by show (List.toArray _).size = 4; rw [List.size_toArray, sumL_length]
  generalize ByteArray.mk (sumL ((ByteArray.mk #[167, x] ++ p4).data.toList ++ b.data.toList)).toArray = c4 at *
  have hps : p4.size = 4 := by rw [hp4]; show (List.toArray _).size = 4; rw [List.size_toArray, putL_length]
  clear hF hH hp4 hz hx
  have hT2 := fun W h => tab_below (W := W) hT h
  have HT := Lib.hid hT2
  clear hT2
  have hwu : IntKind.u64.wrap (b.size : Int) = (b.size : Int) := by rw [IntKind.wrap_u64]; omega
  have hwr : IntKind.u8.wrap (k : Int) = (k : Int) := by rw [IntKind.wrap_u8]; omega
  go_enter Tryd.func7, Tryd.ntmps7
  go_wp2_with fail
  go_region_with (go_at_call 13; with_reducible refine (HP.out _).mono ?_; rintro e w7 ⟨rfl, hb7⟩; have ck := fun h j => keep_at (g := w.heap.size) hb7 h (j := j))
  all_goals
    first
      | (have hbw : Below w.heap.size w _ := below_next ((Below.refl _ w).alloc (Nat.le_refl _) _).drew (by simp) hb7)
      | (have hbw : Below w.heap.size w _ := (below_next (Below.refl _ w).drew (Nat.le_refl _) hb7).alloc hb7.size (.cells #[.int .u8 167, .int .u8 (k : Int)] 5))
    clear ck hb7
    have HB := Lib.hid hbw
    clear hbw
    go_wp2_with (go_at_call 14; with_reducible refine (HS.out _ (HT.out _ HB.out)).mono ?_; rintro e w8 ⟨rfl, hb8⟩)
    go_ret2
    exact ⟨rfl, below_next HB.out HB.out.size hb8⟩

theorem fput_kind (k : Int) (b : ByteArray) (w : World) (h : k < 1 ∨ 255 < k) :
    Calls Tryd.prog 7 #[.int .i64 k, .string b] w fun e w' => e = .returned (.tuple #[.string ⟨#[]⟩, .int .i64 15]) ∧ w = w' := by
  have h' : k < 1 ∨ (1 ≤ k ∧ 255 < k) := by omega
  clear h
  rcases h' with h | ⟨h0, h⟩
  all_goals
    go_enter Tryd.func7, Tryd.ntmps7
    go_wp2_with fail
    go_ret2
    exact ⟨rfl, rfl⟩
theorem fput_long (k : Nat) (b : ByteArray) (w : World) (k0 : 0 < k) (k1 : k < 256) (hb : 1048576 < b.size) :
    Calls Tryd.prog 7 #[.int .i64 (k : Int), .string b] w fun e w' => e = .returned (.tuple #[.string ⟨#[]⟩, .int .i64 5]) ∧ w = w' := by
  go_enter Tryd.func7, Tryd.ntmps7
  go_wp2_with fail
  go_ret2
  exact ⟨rfl, rfl⟩
/-- What Put hands back. -/
def fpS (k : Int) (b : ByteArray) : ByteArray := if k < 1 ∨ 255 < k ∨ 1048576 < b.size then ⟨#[]⟩ else ⟨(frL k.toNat b.data.toList).toArray⟩
def fpE (k : Int) (b : ByteArray) : Nat := if k < 1 ∨ 255 < k then 15 else if 1048576 < b.size then 5 else 0
theorem fput_cases (k : Int) (b : ByteArray) : ((k < 1 ∨ 255 < k) ∧ fpS k b = ⟨#[]⟩ ∧ fpE k b = 15) ∨ (∃ m : Nat, k = (m : Int) ∧ 0 < m ∧ m < 256 ∧ 1048576 < b.size ∧ fpS k b = ⟨#[]⟩ ∧ fpE k b = 5) ∨
    (∃ m : Nat, k = (m : Int) ∧ 0 < m ∧ m < 256 ∧ b.size ≤ 1048576 ∧ fpS k b = ⟨(frL m b.data.toList).toArray⟩ ∧ fpE k b = 0) := by
  by_cases h : k < 1 ∨ 255 < k
  · refine .inl ⟨h, ?_, ?_⟩
    · unfold fpS; rw [if_pos (by omega)]
    · unfold fpE; rw [if_pos h]
  · have hk : ((k.toNat : Nat) : Int) = k := by omega
    by_cases h2 : 1048576 < b.size
    · refine .inr (.inl ⟨k.toNat, by omega, by omega, by omega, h2, ?_, ?_⟩)
      · unfold fpS; rw [if_pos (by omega)]
      · unfold fpE; rw [if_neg h, if_pos h2]
    · refine .inr (.inr ⟨k.toNat, by omega, by omega, by omega, by omega, ?_, ?_⟩)
      · unfold fpS; rw [if_neg (by omega)]
      · unfold fpE; rw [if_neg h, if_neg h2]
theorem fput_any (k : Int) (b : ByteArray) (w : World) (hT : Tab w) :
    Calls Tryd.prog 7 #[.int .i64 k, .string b] w fun e w' => e = .returned (.tuple #[.string (fpS k b), .int .i64 (fpE k b : Nat)]) ∧ Below w.heap.size w w' := by
  rcases fput_cases k b with ⟨h, e1, e2⟩ | ⟨m, rfl, m0, m1, h, e1, e2⟩ | ⟨m, rfl, m0, m1, h, e1, e2⟩
  · rw [e1, e2]
    exact (fput_kind k b w h).mono fun e w' ⟨h1, h2⟩ => ⟨h1, h2 ▸ Below.refl _ _⟩
  · rw [e1, e2]
    exact (fput_long m b w m0 m1 h).mono fun e w' ⟨h1, h2⟩ => ⟨h1, h2 ▸ Below.refl _ _⟩
  · rw [e1, e2]
    exact fput_yes m b w m0 m1 h hT
end Go.Proofs.YtnknchadlhcdbaaDoor.Frm
