/- Contracts of strings.IndexRune over a text of seven letters below 128, of writeRune and of Put. Conditions: the two tables of unicode/utf8 are as its text lays them; as each theorem states. -/
import Derived.Test.YthnfbajdjkpbpaaDoorQuoB
import Derived.Test.YthnfbajdjkpbpaaDoorBldK
import Derived.Test.YthnfbajdjkpbpaaDoorOctD
import Derived.Deep.QuietTactic
import Derived.BigQuiet
import Derived.Laws.Runes
import Derived.WalkMore
namespace Go.Proofs.YthnfbajdjkpbpaaDoor.Quo
open Go.RowKit Go.Lib Go.Proofs.YthnfbajdjkpbpaaDoor.Byt Go.Proofs.YthnfbajdjkpbpaaDoor.Oct Go.Proofs.YthnfbajdjkpbpaaDoor.Utf Go.Proofs.YthnfbajdjkpbpaaDoor.Bld

def mean : ByteArray := ⟨#[34, 92, 8, 12, 10, 13, 9]⟩
theorem mean_dec : ∀ p : Fin 7, (Utf8.decode mean p.val).1 < 128 ∧ (Utf8.decode mean p.val).2 = 1 := by decide +kernel
/-- Where a letter stands in them. -/
def shI (c : Nat) : Int := if c = 34 then 0 else if c = 92 then 1 else if c = 8 then 2 else if c = 12 then 3 else if c = 10 then 4 else if c = 13 then 5 else if c = 9 then 6 else -1
theorem mean_index : ∀ n : Fin 128, Lib.indexByte [34, 92, 8, 12, 10, 13, 9] (UInt8.ofNat n.val) = shI n.val := by decide +kernel
theorem rune_low (r : Nat) (h : r < 128) (w : World) :
    Calls Tryd.prog 35 #[.string ⟨#[34, 92, 8, 12, 10, 13, 9]⟩, .int .i32 (r : Int)] w fun e w' => e = .returned (.int .i64 (shI r)) ∧ w = w' :=
  (Tryd.strings_IndexRune_ascii _ _ w (by omega) (by omega)).mono fun e w' ⟨h1, h2⟩ => ⟨by
    rw [h1, Int.toNat_natCast]
    exact congrArg (fun x => Ending.returned (.int .i64 x)) (mean_index ⟨r, h⟩), h2.symm⟩

set_option maxHeartbeats 4000000 in
set_option maxRecDepth 100000 in
theorem rune_fffd (w : World) :
    Calls Tryd.prog 35 #[.string ⟨#[34, 92, 8, 12, 10, 13, 9]⟩, .int .i32 65533] w fun e w' => e = .returned (.int .i64 (-1)) ∧ Below w.heap.size w w' := by
  have HD := Lib.hid mean_dec
  go_enter Tryd.func35, Tryd.ntmps35
  go_wp2_with fail
  go_loopw [5, 6] (fun _ _ wr => ∃ pos : Nat, pos ≤ 7 ∧ wr.heap[w.heap.size]? = some (Obj.stringIter mean pos) ∧ Below w.heap.size w wr) (fun _ _ wr => 7 - wr.iterPos w.heap.size)
  case atStart => exact ⟨0, by omega, World.iter_heap w mean 0, (Below.refl _ w).alloc (Nat.le_refl _) _⟩
  case round =>
    obtain ⟨pos, hpos, hit, hb⟩ := hrel
    by_cases hp : pos < 7
    · have hnx := fun ty => Lib.run_next_any_at (P := Tryd.prog) wr w.heap.size mean pos ty hit hp
      obtain ⟨d1, d2⟩ := HD.out ⟨pos, hp⟩
      simp only at d1 d2
      rw [d2] at hnx
      generalize (Utf8.decode mean pos).1 = R at *
      have hne : ((R : Int) == 65533) = false := by rw [beq_eq_false_iff_ne]; omega
      have hwr : IntKind.i32.wrap (R : Int) = (R : Int) := by rw [IntKind.wrap_i32]; omega
      have hit2 := Lib.iterAt_heap wr w.heap.size mean pos (pos + 1) hit
      have hb3 := Lib.below_iterAt hb (Nat.le_refl _) mean (pos + 1)
      clear hb HD
      go_wp2_with fail
      go_roundw
      case rel => exact ⟨pos + 1, by omega, hit2, hb3⟩
      case measure => simp only [World.iterPos, hit2, hit] <;> omega
    · have hnx := fun ty => Lib.run_next_end_at (P := Tryd.prog) wr w.heap.size mean pos ty hit hp
      go_wp2_with fail
      go_ret
      exact ⟨rfl, hb⟩

theorem high_index : ∀ (k : Fin 7) (n : Fin 128), Lib.indexByte ([34, 92, 8, 12, 10, 13, 9].drop (k.val + 1)) (UInt8.ofNat (n.val + 128)) = -1 := by decide +kernel
theorem high_find (k : Nat) (hk : k < 7) (c : Nat) (h : 128 ≤ c) (h2 : c < 256) (w : World) :
    Calls Tryd.prog 53 #[.string (cutB ⟨#[34, 92, 8, 12, 10, 13, 9]⟩ (k + 1) (6 - k)), .int .u8 (c : Int)] w fun e w' => e = .returned (.int .i64 (-1)) ∧ w' = w :=
  (Tryd.strings_IndexByte _ _ w).mono fun e w' ⟨h1, h2⟩ => ⟨by
    rw [h1, Int.toNat_natCast]
    have hl : (cutB ⟨#[34, 92, 8, 12, 10, 13, 9]⟩ (k + 1) (6 - k)).data.toList = [34, 92, 8, 12, 10, 13, 9].drop (k + 1) := by
      show ([34, 92, 8, 12, 10, 13, 9].drop (k + 1)).take (6 - k) = _
      rw [List.take_of_length_le (by simp)]
    have h3 := high_index ⟨k, hk⟩ ⟨c - 128, by omega⟩
    simp only at h3
    rw [show c - 128 + 128 = c by omega] at h3
    rw [hl]
    exact congrArg (fun x => Ending.returned (.int .i64 x)) h3, h2⟩
/-- A call that changes nothing, behind a drawn region, inside another one. -/
theorem still_again {f : FuncId} {args : Array Value} {w : World} {a n : Nat} {v : Value} (h : ∀ W, Calls Tryd.prog f args W fun e w' => e = .returned v ∧ w' = W) :
    Calls Tryd.prog f args (w.drewN (a + n)) fun e w'' => e = .returned v ∧ ∃ m, w'' = w.drewN (a + m) := (h _).mono fun _ _ k => ⟨k.1, ⟨n, k.2⟩⟩
set_option maxHeartbeats 4000000 in
set_option maxRecDepth 100000 in
theorem rune_enc (r : Nat) (h0 : 128 ≤ r) (h1 : r ≠ 65533) (hv : vN r) (w : World) :
    Calls Tryd.prog 35 #[.string ⟨#[34, 92, 8, 12, 10, 13, 9]⟩, .int .i32 (r : Int)] w fun e w' => e = .returned (.int .i64 (-1)) ∧ Below w.heap.size w w' := by
  have HV : Hid (∀ w, Calls Tryd.prog 50 #[.int .i32 (r : Int)] w fun e w' => e = .returned (.bool true) ∧ w = w') := Lib.hid (fun w => (Tryd.utf8_ValidRune (r : Int) w).mono fun e w' ⟨h1, h2⟩ => ⟨by
    rw [h1]
    have : Lib.validRune (r : Int) = true := by
      unfold Lib.validRune; unfold vN at hv; simp; omega
    rw [this], h2.symm⟩)
  have hne : ((r : Int) == 65533) = false := by rw [beq_eq_false_iff_ne]; omega
  have hvu : Utf8.valid (r : Int) = true := by rw [validRune_eq]; unfold vN at hv; unfold validRune; simp; omega
  obtain ⟨e1, e2, e3⟩ := encode_facts (r : Int) hvu (by omega)
  have hcv := fun w => run_convert_int_string (P := Tryd.prog) w 21 9 .i32 (r : Int) (by rw [Tryd.underlying21]; rfl) Tryd.underlying9
  generalize Utf8.encode (r : Int) = E at *
  obtain ⟨k, hk⟩ : ∃ k, E.size = k + 1 := ⟨E.size - 1, by omega⟩
  have hkz : (k : Int) + 1 = (E.size : Int) := by omega
  obtain ⟨c, hc⟩ : ∃ c, c = bt E k := ⟨_, rfl⟩
  have hix := fun (x : Int) (hx : x = (k : Int)) w => index_at E k x hx (by omega) w
  rw [← hc] at hix
  have hc128 : 128 ≤ c := by
    have e4 := e3 (by omega)
    rw [bt_at E (E.size - 1) (by omega), show E.size - 1 = k by omega, ← hc] at e4
    exact e4
  have hc256 : c < 256 := by rw [hc]; exact bt_lt E k
  have HF := fun w => high_find k (by omega) c hc128 hc256 w
  have hk3 : k = 1 ∨ k = 2 ∨ k = 3 := by omega
  clear e1 e2 e3 hvu hk hc hv
  rcases hk3 with rfl | rfl | rfl
  · have i1 := hix 1 (by omega)
    have sz : (E.size : Int) = 2 := by omega
    have hn : ((92 : Int) != (c : Int)) = true := by rw [bne_iff_ne]; omega
    have im : ∀ w, (Instr.index 9 (.string ⟨#[34, 92, 8, 12, 10, 13, 9]⟩) (.int .i64 1)).run Tryd.prog w = .ok (.int .u8 92) w := fun w => index_at ⟨#[34, 92, 8, 12, 10, 13, 9]⟩ 1 1 rfl (by decide) w
    have sl : ∀ w, (Instr.slice 9 (.string ⟨#[34, 92, 8, 12, 10, 13, 9]⟩) (some (.int .i64 2)) none none).run Tryd.prog w = .ok (.string (cutB ⟨#[34, 92, 8, 12, 10, 13, 9]⟩ 2 5)) w := fun w => sl_from ⟨#[34, 92, 8, 12, 10, 13, 9]⟩ 2 5 rfl w
    have HF2 : Hid (∀ w, Calls Tryd.prog 53 #[.string (cutB ⟨#[34, 92, 8, 12, 10, 13, 9]⟩ 2 5), .int .u8 (c : Int)] w fun e w' => e = .returned (.int .i64 (-1)) ∧ w' = w) := Lib.hid HF
    generalize cutB ⟨#[34, 92, 8, 12, 10, 13, 9]⟩ 2 5 = q at *
    clear hix HF hkz
    go_enter Tryd.func35, Tryd.ntmps35
    go_wp2_with (go_at_call 50; refine (HV.out _).mono ?_; rintro e w1 ⟨rfl, rfl⟩)
    go_step3
    go_wp2_with fail
    go_loopw [9, 10, 12] (fun i f _ wr => i = .int .i64 1 ∧ f = .int .i64 0 ∧ wr = w) (fun _ _ _ _ => 0)
    case atStart => exact ⟨rfl, rfl, rfl⟩
    case round =>
      obtain ⟨rfl, rfl, rfl⟩ := hrel
      go_wp2_with fail
      go_step3
      go_wp2_with fail
      go_quiet (fail)
      go_wp2_with fail
      go_quiet ((go_at_call 53; exact still_again HF2.out))
      go_wp2_with fail
      rw [Exit.noGoto_ret]
      go_wp2_with fail
      rw [Exit.noGoto_ret]
      go_ret
      exact ⟨rfl, below_drewN (Below.refl _ _)⟩
  · have i1 := hix 2 (by omega)
    have sz : (E.size : Int) = 3 := by omega
    have hn : ((8 : Int) != (c : Int)) = true := by rw [bne_iff_ne]; omega
    have im : ∀ w, (Instr.index 9 (.string ⟨#[34, 92, 8, 12, 10, 13, 9]⟩) (.int .i64 2)).run Tryd.prog w = .ok (.int .u8 8) w := fun w => index_at ⟨#[34, 92, 8, 12, 10, 13, 9]⟩ 2 2 rfl (by decide) w
    have sl : ∀ w, (Instr.slice 9 (.string ⟨#[34, 92, 8, 12, 10, 13, 9]⟩) (some (.int .i64 3)) none none).run Tryd.prog w = .ok (.string (cutB ⟨#[34, 92, 8, 12, 10, 13, 9]⟩ 3 4)) w := fun w => sl_from ⟨#[34, 92, 8, 12, 10, 13, 9]⟩ 3 4 rfl w
    have HF2 : Hid (∀ w, Calls Tryd.prog 53 #[.string (cutB ⟨#[34, 92, 8, 12, 10, 13, 9]⟩ 3 4), .int .u8 (c : Int)] w fun e w' => e = .returned (.int .i64 (-1)) ∧ w' = w) := Lib.hid HF
    generalize cutB ⟨#[34, 92, 8, 12, 10, 13, 9]⟩ 3 4 = q at *
    clear hix HF hkz
    go_enter Tryd.func35, Tryd.ntmps35
    go_wp2_with (go_at_call 50; refine (HV.out _).mono ?_; rintro e w1 ⟨rfl, rfl⟩)
    go_step3
    go_wp2_with fail
    go_loopw [9, 10, 12] (fun i f _ wr => i = .int .i64 2 ∧ f = .int .i64 0 ∧ wr = w) (fun _ _ _ _ => 0)
    case atStart => exact ⟨rfl, rfl, rfl⟩
    case round =>
      obtain ⟨rfl, rfl, rfl⟩ := hrel
      go_wp2_with fail
      go_step3
      go_wp2_with fail
      go_quiet (fail)
      go_wp2_with fail
      go_quiet ((go_at_call 53; exact still_again HF2.out))
      go_wp2_with fail
      rw [Exit.noGoto_ret]
      go_wp2_with fail
      rw [Exit.noGoto_ret]
      go_ret
      exact ⟨rfl, below_drewN (Below.refl _ _)⟩
  · have i1 := hix 3 (by omega)
    have sz : (E.size : Int) = 4 := by omega
    have hn : ((12 : Int) != (c : Int)) = true := by rw [bne_iff_ne]; omega
    have im : ∀ w, (Instr.index 9 (.string ⟨#[34, 92, 8, 12, 10, 13, 9]⟩) (.int .i64 3)).run Tryd.prog w = .ok (.int .u8 12) w := fun w => index_at ⟨#[34, 92, 8, 12, 10, 13, 9]⟩ 3 3 rfl (by decide) w
    have sl : ∀ w, (Instr.slice 9 (.string ⟨#[34, 92, 8, 12, 10, 13, 9]⟩) (some (.int .i64 4)) none none).run Tryd.prog w = .ok (.string (cutB ⟨#[34, 92, 8, 12, 10, 13, 9]⟩ 4 3)) w := fun w => sl_from ⟨#[34, 92, 8, 12, 10, 13, 9]⟩ 4 3 rfl w
    have HF2 : Hid (∀ w, Calls Tryd.prog 53 #[.string (cutB ⟨#[34, 92, 8, 12, 10, 13, 9]⟩ 4 3), .int .u8 (c : Int)] w fun e w' => e = .returned (.int .i64 (-1)) ∧ w' = w) := Lib.hid HF
    generalize cutB ⟨#[34, 92, 8, 12, 10, 13, 9]⟩ 4 3 = q at *
    clear hix HF hkz
    go_enter Tryd.func35, Tryd.ntmps35
    go_wp2_with (go_at_call 50; refine (HV.out _).mono ?_; rintro e w1 ⟨rfl, rfl⟩)
    go_step3
    go_wp2_with fail
    go_loopw [9, 10, 12] (fun i f _ wr => i = .int .i64 3 ∧ f = .int .i64 0 ∧ wr = w) (fun _ _ _ _ => 0)
    case atStart => exact ⟨rfl, rfl, rfl⟩
    case round =>
      obtain ⟨rfl, rfl, rfl⟩ := hrel
      go_wp2_with fail
      go_step3
      go_wp2_with fail
      go_quiet (fail)
      go_wp2_with fail
      go_quiet ((go_at_call 53; exact still_again HF2.out))
      go_wp2_with fail
      rw [Exit.noGoto_ret]
      go_wp2_with fail
      rw [Exit.noGoto_ret]
      go_ret
      exact ⟨rfl, below_drewN (Below.refl _ _)⟩
theorem rune_high (r : Nat) (h0 : 128 ≤ r) (hv : vN r) (w : World) :
    Calls Tryd.prog 35 #[.string ⟨#[34, 92, 8, 12, 10, 13, 9]⟩, .int .i32 (r : Int)] w fun e w' => e = .returned (.int .i64 (-1)) ∧ Below w.heap.size w w' := by
  by_cases h1 : r = 65533
  · subst h1; exact rune_fffd w
  · exact rune_enc r h0 h1 hv w

/-! ### what is written for a number -/
def qR (r : Nat) : List UInt8 := if r < 128 then qB (UInt8.ofNat r) else encodeRune (r : Int)
theorem qR_len (r : Nat) : (qR r).length ≤ 6 := by
  unfold qR
  split
  · exact (qB_len _).2
  · have := enc_len r; omega
theorem qR_step {l : List UInt8} (h : 0 < wL l) : qR (nL l) = qL (l.take (wL l)) := by
  unfold qR
  by_cases hc : nL l < 128
  · have he := enc_wL h
    rw [enc_low _ hc] at he
    rw [if_pos hc, ← he, qL_cons, qL_nil, List.append_nil]
  · rw [if_neg hc, (stp_high [] h (by omega)).1, enc_wL h]
theorem qL_step {l : List UInt8} (h : 0 < wL l) : qL l = qR (nL l) ++ qL (l.drop (wL l)) := by
  rw [qR_step h, ← qL_append, List.take_append_drop]
theorem shI_at : ∀ n : Fin 128, (shN n.val ≠ 0 → 0 ≤ shI n.val ∧ shI n.val < 7 ∧ ([34, 92, 98, 102, 110, 114, 116] : List UInt8).getD (shI n.val).toNat 0 = UInt8.ofNat (shN n.val)) ∧ (shN n.val = 0 → shI n.val = -1) := by decide +kernel

theorem enc_utf (r : Nat) (h : r < 128) : Utf8.encode (r : Int) = ⟨#[UInt8.ofNat r]⟩ := by
  have hv : Utf8.valid (r : Int) = true := by rw [validRune_eq]; unfold validRune; simp; omega
  unfold Utf8.encode
  simp [hv, h]
set_option maxHeartbeats 1000000 in
theorem rune_writ (B b : Nat) (l : List UInt8) (r : Nat) (hv : vN r) (w : World) (h : Holds w B b l) (hlen : l.length + 6 ≤ 140737488355328) (hBw : B ≤ w.heap.size) :
    Calls Tryd.prog 19 #[.pointer (some ⟨b, 0, none⟩), .int .i32 (r : Int)] w fun e w' => e = .returned (.tuple #[]) ∧ Holds w' B b (l ++ qR r) ∧ Below B w w' ∧ Kept w w' := by
  have H0 := Lib.hid h
  have HB := Lib.hid hBw
  unfold qR
  by_cases hlow : r < 128
  · rw [if_pos hlow]
    unfold qB
    rw [ofNat_toNat _ (by omega)]
    have HI := Lib.hid (fun w => rune_low r hlow w)
    obtain ⟨s1, s2⟩ := shI_at ⟨r, hlow⟩
    simp only at s1 s2
    by_cases hs : shN r = 0
    · rw [if_neg (by omega)]
      rw [s2 hs] at HI
      clear s1 s2 hs
      by_cases h32 : r < 32
      · rw [if_pos h32]
        have hcv : ∀ w, (convert 21 9 (.int .i32 (r : Int))).run Tryd.prog w = .ok (.string ⟨#[UInt8.ofNat r]⟩) w := fun w => by
          rw [run_convert_int_string w 21 9 .i32 (r : Int) (by rw [Tryd.underlying21]; rfl) Tryd.underlying9, enc_utf r hlow]
        have HX : Hid (∀ w, Calls Tryd.prog 16 #[.string ⟨#[UInt8.ofNat r]⟩] w fun e w' => e = .returned (.string ⟨(hexL [UInt8.ofNat r]).toArray⟩) ∧ Below w.heap.size w w') := Lib.hid (fun w => hex_any ⟨#[UInt8.ofNat r]⟩ w (by show 1 ≤ _; omega))
        have hl2 : (hexL [UInt8.ofNat r]).length = 2 := by rw [hexL_length]; rfl
        generalize hexL [UInt8.ofNat r] = hx at *
        generalize (⟨#[UInt8.ofNat r]⟩ : ByteArray) = one at *
        have hz : (⟨hx.toArray⟩ : ByteArray).size = 2 := by show hx.toArray.size = 2; simpa using hl2
        have HW1 := Lib.hid (fun w h hB => wstring B b l ⟨#[92, 117, 48, 48]⟩ w h (by show l.length + 4 ≤ _; omega) hB)
        have HW2 := Lib.hid (fun w h hB => wstring B b (l ++ [92, 117, 48, 48]) ⟨hx.toArray⟩ w h (by rw [hz]; simp; omega) hB)
        clear h hBw hl2 hz
        go_enter Tryd.func19, Tryd.ntmps19
        go_wp2_with (go_at_call 35; refine (HI.out _).mono ?_; rintro e w1 ⟨rfl, rfl⟩)
        refine (HW1.out _ H0.out HB.out).mono ?_
        rintro e w2 ⟨rfl, h2, hb2, hk2⟩
        go_wp2_with fail
        refine (HX.out _).mono ?_
        rintro e w3 ⟨rfl, hb3⟩
        have h3 := h2.next hb3
        have hB3 : B ≤ w3.heap.size := by have := hb2.size; have := hb3.size; have := HB.out; omega
        have hB2 : B ≤ w2.heap.size := by have := hb2.size; have := HB.out; omega
        have HB3 := Lib.hid hB3
        have HB2 := Lib.hid hB2
        clear hB3 hB2
        go_wp2_with fail
        refine (HW2.out _ h3 HB3.out).mono ?_
        rintro e w4 ⟨rfl, h4, hb4, hk4⟩
        go_wp2_with fail
        go_end0
        refine ⟨rfl, by simpa using h4, (hb2.trans (hb3.mono HB2.out)).trans hb4, (hk2.trans (Kept.below hb3)).trans hk4⟩
      · rw [if_neg h32]
        have HW := Lib.hid (fun w h hB => wrune B b l (r : Int) (by omega) (by omega) w h (by omega) hB)
        rw [enc_low r hlow] at HW
        clear h hBw
        go_enter Tryd.func19, Tryd.ntmps19
        go_wp2_with (first
          | (go_at_call 35; refine (HI.out _).mono ?_; rintro e w1 ⟨rfl, rfl⟩)
          | (go_at_call 36; refine (HW.out _ H0.out HB.out).mono ?_; rintro e w2 ⟨v, rfl, h2, hb2, hk2⟩))
        go_end0
        exact ⟨rfl, h2, hb2, hk2⟩
    · rw [if_pos hs]
      obtain ⟨i0, i7, ig⟩ := s1 hs
      obtain ⟨j, hj⟩ := Int.eq_ofNat_of_zero_le i0
      rw [hj] at HI ig i7
      rw [Int.toNat_natCast] at ig
      have hix : ∀ w, (Instr.index 9 (.string ⟨#[34, 92, 98, 102, 110, 114, 116]⟩) (.int .i64 (j : Int))).run Tryd.prog w = .ok (.int .u8 ((UInt8.ofNat (shN r)).toNat : Int)) w := fun w => by
        rw [index_at ⟨#[34, 92, 98, 102, 110, 114, 116]⟩ j (j : Int) rfl (by show j < 7; omega) w]
        unfold bt
        rw [ig]
      generalize UInt8.ofNat (shN r) = c at *
      have HW1 := Lib.hid (fun w h hB => wbyte B b l 92 92 rfl w h (by omega) hB)
      have HW2 := Lib.hid (fun w h hB => wbyte B b (l ++ [92]) c (c.toNat : Int) rfl w h (by simp; omega) hB)
      clear h hBw s1 s2 hs hj ig i0
      go_enter Tryd.func19, Tryd.ntmps19
      go_wp2_with (go_at_call 35; refine (HI.out _).mono ?_; rintro e w1 ⟨rfl, rfl⟩)
      refine (HW1.out _ H0.out HB.out).mono ?_
      rintro e w2 ⟨rfl, h2, hb2, hk2⟩
      have hB2 : B ≤ w2.heap.size := by have := hb2.size; have := HB.out; omega
      have HB2 := Lib.hid hB2
      clear hB2
      go_wp2_with fail
      refine (HW2.out _ h2 HB2.out).mono ?_
      rintro e w3 ⟨rfl, h3, hb3, hk3⟩
      go_wp2_with fail
      go_end0
      exact ⟨rfl, by simpa using h3, hb2.trans hb3, hk2.trans hk3⟩
  · rw [if_neg hlow]
    have HI := Lib.hid (fun w => rune_high r (by omega) hv w)
    have hr : r ≤ 1114111 := by unfold vN at hv; omega
    have HW := Lib.hid (fun w h hB => wrune B b l (r : Int) (by omega) (by omega) w h (by omega) hB)
    generalize encodeRune (r : Int) = q at *
    clear h hBw hv
    go_enter Tryd.func19, Tryd.ntmps19
    go_wp2_with (go_at_call 35; refine (HI.out _).mono ?_; rintro e w1 ⟨rfl, hb1⟩)
    have h1 := H0.out.next hb1
    have HB1 : Hid (B ≤ w1.heap.size) := Lib.hid (by have := hb1.size; have := HB.out; omega)
    refine (HW.out _ h1 HB1.out).mono ?_
    rintro e w2 ⟨v, rfl, h2, hb2, hk2⟩
    go_wp2_with fail
    go_end0
    exact ⟨rfl, h2, (hb1.mono HB.out).trans hb2, (Kept.below hb1).trans hk2⟩
end Go.Proofs.YthnfbajdjkpbpaaDoor.Quo
