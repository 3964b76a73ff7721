/- Contracts of the document's turned, Size, Put and Get of frames. Conditions: none. -/
import Derived.Test.YtnknchadlhcdbaaDoorFrmD
import Derived.Test.YtnknchadlhcdbaaDoorCrcB
namespace Go.Proofs.YtnknchadlhcdbaaDoor.Frm
open Go.RowKit Go.Lib Go.Proofs.YtnknchadlhcdbaaDoor.Byt Go.Proofs.YtnknchadlhcdbaaDoor.Oct Go.Proofs.YtnknchadlhcdbaaDoor.Crc

theorem byte_one (b : UInt8) : (#[Value.int .u8 (b.toNat : Int)]).toList = byteCells [b] := rfl
theorem drop_rev (s : ByteArray) (p : Nat) (h : p < s.size) : (s.data.toList.drop (p + 1)).reverse ++ [s[p]] = (s.data.toList.drop p).reverse := by
  have h2 : p < s.data.toList.length := by simpa using h
  rw [List.drop_eq_getElem_cons h2, List.reverse_cons]
  rfl

theorem turned_any (s : ByteArray) (w : World) (hs : s.size ≤ 1000000) :
    Calls Tryd.prog 16 #[.string s] w fun e w' => e = .returned (.string ⟨s.data.toList.reverse.toArray⟩) ∧ Below w.heap.size w w' := by
  go_enter Tryd.func16, Tryd.ntmps16
  go_wp2_with fail
  go_loopw [3, 4] (fun v i wr => ∃ (q : Nat) (x : Int), q ≤ s.size ∧ i = .int .i64 x ∧ x = (q : Int) - 1 ∧ Own wr w.heap.size v (s.data.toList.drop q).reverse ∧ Below w.heap.size w wr)
    (fun _ i _ => (RowKit.intOf i + 1).toNat)
  case atStart => exact ⟨s.size, _, Nat.le_refl _, rfl, rfl, by rw [List.drop_of_length_le (by simp)]; exact Own.nil _ _, Below.refl _ _⟩
  case round =>
    obtain ⟨q, x, hq, rfl, hx, hown, hb⟩ := hrel
    by_cases h0 : 0 < q
    · obtain ⟨p, rfl⟩ : ∃ p, q = p + 1 := ⟨q - 1, by omega⟩
      obtain rfl : x = (p : Int) := by omega
      have hp : p < s.size := by omega
      have hlen : (s.data.toList.drop (p + 1)).reverse.length + 1 ≤ 140737488355328 := by simp; omega
      have hd := drop_rev s p hp
      have HD := Lib.hid hd
      clear hd hx
      generalize (s.data.toList.drop (p + 1)).reverse = l at *
      go_wp2_with (with_reducible refine wpList_push _ rfl _ _ rfl w.heap.size w _ _ rfl (hown.alloc _) (hb.alloc hb.size _) (Nat.le_refl _) _ _ _ rfl _ _ (heap_alloc_new _ _) [s[p]] rfl (byte_one _) (by omega) ?_; intro v2 w2 hown2 hb2)
      go_roundw
      case rel => exact ⟨p, _, by omega, rfl, by omega, by rw [← HD.out]; exact hown2, hb2⟩
      case measure => simp [RowKit.intOf]
    · obtain rfl : q = 0 := by omega
      obtain rfl : x = -1 := by omega
      rw [List.drop_zero] at hown
      clear hx h0
      go_wp2_with (with_reducible refine wpList_string _ rfl _ rfl _ _ _ rfl hown ?_)
      go_ret
      exact ⟨rfl, hb⟩

theorem rsize_of (n : Int) (w : World) : Calls Tryd.prog 12 #[.int .i64 n] w fun e w' => e = .returned (.int .i64 (szN n)) ∧ w = w' := by
  rcases szN_cases n with ⟨h, e⟩ | ⟨h0, h, e⟩ | ⟨h0, h, e⟩
  all_goals
    rw [e]
    clear e
    go_enter Tryd.func12, Tryd.ntmps12
    go_wp2_with fail
    go_ret
    exact ⟨rfl, rfl⟩

theorem rfput_yes (k : Nat) (b : ByteArray) (w : World) (k0 : 0 < k) (k1 : k < 256) (hb : b.size ≤ 1048576) :
    Calls Tryd.prog 8 #[.int .i64 (k : Int), .string b] w fun e w' => e = .returned (.tuple #[.string ⟨(frL k b.data.toList).toArray⟩, .int .i64 0]) ∧ Below w.heap.size w w' := by
  obtain ⟨x, hx, hxn⟩ : ∃ x : UInt8, x = UInt8.ofNat k ∧ (x.toNat : Int) = (k : Int) := ⟨_, rfl, by rw [ofNat_toNat _ k1]⟩
  have hsx := fun W g h0 h1 => two_str x W g h0 h1
  rw [hxn] at hsx
  have HP := Lib.hid (fun w => rput_any b.size 4 4 w (by omega) (by decide))
  obtain ⟨p4, hp4⟩ : ∃ p4 : ByteArray, p4 = ⟨(putL b.size 4).toArray⟩ := ⟨_, rfl⟩
  rw [← hp4] at HP
  have hz : b.data.toList.length = b.size := by simp
  obtain ⟨l, hl⟩ : ∃ l, l = headL k b.data.toList.length ++ b.data.toList := ⟨_, rfl⟩
  have hH : ByteArray.mk #[167, x] ++ p4 ++ b = ⟨l.toArray⟩ := by
    have hbb : b = ⟨b.data.toList.toArray⟩ := by simp
    rw [hp4, show (#[167, x] : Array UInt8) = [167, x].toArray from rfl, cat_list, hx]
    conv => lhs; rhs; rw [hbb]
    rw [cat_list, hl, hz]; rfl
  have hps : p4.size = 4 := by rw [hp4]; show (List.toArray _).size = 4; rw [List.size_toArray, putL_length]
  have hls : (ByteArray.mk l.toArray).size ≤ 2000000 := by show (List.toArray _).size ≤ _; rw [List.size_toArray, hl, List.length_append, headL_length]; omega
  have HS := Lib.hid (fun w => rsum_any ⟨l.toArray⟩ w (by omega))
  have hc := mr_lt 0 l
  have e0 : (ByteArray.mk l.toArray).data.toList = l := rfl
  rw [e0] at HS
  have HQ := Lib.hid (fun w => rput_any (mr 0 l) 4 4 w (by omega) (by decide))
  have HR := Lib.hid (fun w => turned_any ⟨(putL (mr 0 l) 4).toArray⟩ w (by show (List.toArray _).size ≤ _; rw [List.size_toArray, putL_length]; decide))
  have e1 : (ByteArray.mk (putL (mr 0 l) 4).toArray).data.toList.reverse = sumL l := rfl
  rw [e1] at HR
  have hF : frL k b.data.toList = l ++ sumL l := by rw [hl]; rfl
  have hF2 : ByteArray.mk l.toArray ++ ByteArray.mk (sumL l).toArray = ⟨(frL k b.data.toList).toArray⟩ := by rw [hF, cat_list]
  have hcs : (ByteArray.mk (sumL l).toArray).size = 4 := by show (List.toArray _).size = 4; rw [List.size_toArray, sumL_length]
  clear hF e0 e1 hp4 hz hl hx
  rw [← hF2]
  clear hF2
  rw [← hH] at HS hls ⊢
  generalize ByteArray.mk (sumL l).toArray = c4 at *
  generalize ByteArray.mk (putL (mr 0 l) 4).toArray = q4 at *
  generalize mr 0 l = c at *
  clear hH
  have hwu : IntKind.u64.wrap (b.size : Int) = (b.size : Int) := by rw [IntKind.wrap_u64]; omega
  have hwr : IntKind.u8.wrap (k : Int) = (k : Int) := by rw [IntKind.wrap_u8]; omega
  go_enter Tryd.func8, Tryd.ntmps8
  go_wp2_with fail
  go_region_with (go_at_call 15; with_reducible refine (HP.out _).mono ?_; rintro e w7 ⟨rfl, hb7⟩; have ck := fun h j => keep_at (g := w.heap.size) hb7 h (j := j))
  all_goals
    first
      | (have hbw : Below w.heap.size w _ := below_next ((Below.refl _ w).alloc (Nat.le_refl _) _).drew (by simp) hb7)
      | (have hbw : Below w.heap.size w _ := (below_next (Below.refl _ w).drew (Nat.le_refl _) hb7).alloc hb7.size (.cells #[.int .u8 167, .int .u8 (k : Int)] 5))
    clear ck hb7
    have HB := Lib.hid hbw
    clear hbw
    go_wp2_with (first
      | (go_at_call 17; with_reducible refine (HS.out _).mono ?_; rintro e w8 ⟨rfl, rfl⟩)
      | (go_at_call 15; with_reducible refine (HQ.out _).mono ?_; rintro e w9 ⟨rfl, hb9⟩)
      | (go_at_call 16; with_reducible refine (HR.out _).mono ?_; rintro e wa ⟨rfl, hba⟩))
    go_ret2
    have h9 := below_next HB.out HB.out.size hb9
    exact ⟨rfl, below_next h9 h9.size hba⟩
theorem rfput_kind (k : Int) (b : ByteArray) (w : World) (h : k < 1 ∨ 255 < k) :
    Calls Tryd.prog 8 #[.int .i64 k, .string b] w fun e w' => e = .returned (.tuple #[.string ⟨#[]⟩, .int .i64 15]) ∧ w = w' := by
  have h' : k < 1 ∨ (1 ≤ k ∧ 255 < k) := by omega
  clear h
  rcases h' with h | ⟨h0, h⟩
  all_goals
    go_enter Tryd.func8, Tryd.ntmps8
    go_wp2_with fail
    go_ret2
    exact ⟨rfl, rfl⟩
theorem rfput_long (k : Nat) (b : ByteArray) (w : World) (k0 : 0 < k) (k1 : k < 256) (hb : 1048576 < b.size) :
    Calls Tryd.prog 8 #[.int .i64 (k : Int), .string b] w fun e w' => e = .returned (.tuple #[.string ⟨#[]⟩, .int .i64 5]) ∧ w = w' := by
  go_enter Tryd.func8, Tryd.ntmps8
  go_wp2_with fail
  go_ret2
  exact ⟨rfl, rfl⟩
theorem rfput_any (k : Int) (b : ByteArray) (w : World) :
    Calls Tryd.prog 8 #[.int .i64 k, .string b] w fun e w' => e = .returned (.tuple #[.string (fpS k b), .int .i64 (fpE k b : Nat)]) ∧ Below w.heap.size w w' := by
  rcases fput_cases k b with ⟨h, e1, e2⟩ | ⟨m, rfl, m0, m1, h, e1, e2⟩ | ⟨m, rfl, m0, m1, h, e1, e2⟩
  · rw [e1, e2]
    exact (rfput_kind k b w h).mono fun e w' ⟨h1, h2⟩ => ⟨h1, h2 ▸ Below.refl _ _⟩
  · rw [e1, e2]
    exact (rfput_long m b w m0 m1 h).mono fun e w' ⟨h1, h2⟩ => ⟨h1, h2 ▸ Below.refl _ _⟩
  · rw [e1, e2]
    exact rfput_yes m b w m0 m1 h
end Go.Proofs.YtnknchadlhcdbaaDoor.Frm
