/- Contracts of the document's more and twice. Conditions: as each theorem states. -/
import Derived.Test.YteinaclkpickaaaGreatDoorParR
namespace Go.Proofs.YteinaclkpickaaaGreatDoor.Par
open Go.RowKit Go.Lib Go.Proofs.YteinaclkpickaaaGreatDoor.Byt Go.Proofs.YteinaclkpickaaaGreatDoor.Lx

/-- How the document's more ends. -/
def OutM (w0 : World) (b : Nat) (s : ByteArray) (en p : Nat) (W : World) (r : Rs Tk) (e : Ending) (W' : World) : Prop :=
  Only b W W' ∧ match r with
  | .no o er => e = .returned (.bool false) ∧ Qr w0 b s p o er W' ∧ er ≠ 0
  | .ok t q => if t.k = 6 then e = .returned (.bool true) ∧ Qr w0 b s q 0 0 W' else if t.k = en then e = .returned (.bool false) ∧ Qr w0 b s q 0 0 W' else e = .returned (.bool false) ∧ Qr w0 b s q t.o (if t.k = 0 then 3 else 4) W'
theorem rmore_more (w0 : World) (b : Nat) (s : ByteArray) (p o e : Nat) (he : e ≠ 0) (W : World) (h : Qr w0 b s p o e W) (en : Nat) :
    Calls Tryz.prog 48 #[.pointer (some ⟨b, 0, none⟩), .int .i64 (en : Int)] W fun e' w' => e' = .returned (.bool false) ∧ Below W.heap.size W w' := by
  have HN := Lib.hid (fun W hw => rnext_more w0 b s p o e he W hw)
  have HW := Lib.hid (fun W hw => rwrong_more w0 b s p o e he W hw)
  have hen : ((-1 : Int) != (en : Int)) = true := by rw [bne_iff_ne]; omega
  have hbz : ((e : Int) == 0) = false := by rw [beq_eq_false_iff_ne]; omega
  clear he
  go_enter Tryz.func48, Tryz.ntmps48
  go_wp2_with fail
  refine (HN.out _ h).mono ?_
  rintro e' w1 ⟨rfl, hb1⟩
  have bt : Box (w1.alloc (.cells #[.int .i64 (-1), .int .i64 0, .int .i64 0, .string ⟨#[]⟩, .int .i64 0] 41)) w1.heap.size _ := box_new _ _
  have hb2 : Below W.heap.size W (w1.alloc (.cells #[.int .i64 (-1), .int .i64 0, .int .i64 0, .string ⟨#[]⟩, .int .i64 0] 41)) := hb1.alloc hb1.size _
  have h2 := h.next hb2
  go_wp2_with (refine Lx.wpList_fetch _ rfl _ rfl w1.heap.size _ rfl bt rfl ?_)
  refine (HW.out _ h2).mono ?_
  rintro e' w3 ⟨rfl, hb3⟩
  have h3 := h2.next hb3
  have c3 := h3.c3
  go_wp2_with fail
  go_ret
  exact ⟨rfl, hb2.trans (hb3.mono hb2.size)⟩
set_option maxRecDepth 100000 in
set_option maxHeartbeats 1000000 in
theorem rmore_at (w0 : World) (b : Nat) (s : ByteArray) (p : Nat) (W : World) (h : Qr w0 b s p 0 0 W) (hs : s.size ≤ 1000000) (hp : p ≤ s.size) (en : Nat) :
    Calls Tryz.prog 48 #[.pointer (some ⟨b, 0, none⟩), .int .i64 (en : Int)] W (OutM w0 b s en p W (nt s.data.toList p)) := by
  have HN0 := rnext_at w0 b s p W h hs hp
  have hbl := h.lt
  cases hr : nt s.data.toList p with
  | no o er =>
    rw [hr] at HN0
    have HN := Lib.hid HN0
    have h1n : ((-1 : Int) != (en : Int)) = true := by rw [bne_iff_ne]; omega
    clear HN0 hr
    go_enter Tryz.func48, Tryz.ntmps48
    go_wp2_with fail
    refine HN.out.mono ?_
    rintro e' w1 ⟨hO1, rfl, hq1, hne⟩
    have bt : Box (w1.alloc (.cells #[.int .i64 (-1), .int .i64 0, .int .i64 0, .string ⟨#[]⟩, .int .i64 0] 41)) w1.heap.size _ := box_new _ _
    have h2 := hq1.alloc (.cells #[.int .i64 (-1), .int .i64 0, .int .i64 0, .string ⟨#[]⟩, .int .i64 0] 41)
    have o2 := hO1.next ((Below.refl _ _).alloc (Nat.le_refl _) (.cells #[.int .i64 (-1), .int .i64 0, .int .i64 0, .string ⟨#[]⟩, .int .i64 0] 41))
    have HW := Lib.hid (fun W hw => rwrong_more w0 b s p o er hne W hw)
    have hbz : ((er : Int) == 0) = false := by rw [beq_eq_false_iff_ne]; omega
    have HE := Lib.hid hne
    clear hO1 hne
    go_wp2_with (refine Lx.wpList_fetch _ rfl _ rfl w1.heap.size _ rfl bt rfl ?_)
    refine (HW.out _ h2).mono ?_
    rintro e' w3 ⟨rfl, hb3⟩
    have h3 := h2.next hb3
    have c3 := h3.c3
    go_wp2_with fail
    go_ret
    exact ⟨o2.next hb3, rfl, h3, HE.out⟩
  | ok t q =>
    rw [hr] at HN0
    have HN := Lib.hid HN0
    show Calls _ _ _ _ (fun e W' => Only b W W' ∧ if t.k = 6 then e = .returned (.bool true) ∧ Qr w0 b s q 0 0 W' else if t.k = en then e = .returned (.bool false) ∧ Qr w0 b s q 0 0 W' else e = .returned (.bool false) ∧ Qr w0 b s q t.o (if t.k = 0 then 3 else 4) W')
    unfold OutN' tkV at HN
    clear HN0 hr
    by_cases h6 : t.k = 6
    · have k6 : ((t.k : Int) != 6) = false := by rw [h6]; rfl
      have k6' : ((t.k : Int) == 6) = true := by rw [h6]; rfl
      have H6 := Lib.hid h6
      clear h6
      go_enter Tryz.func48, Tryz.ntmps48
      go_wp2_with fail
      refine HN.out.mono ?_
      rintro e' w1 ⟨hO1, rfl, hq1⟩
      have bt : Box (w1.alloc (.cells #[.int .i64 (t.k : Int), .int .i64 (t.o : Int), .int .i64 (t.z : Int), .string ⟨t.v.toArray⟩, .int .i64 t.n] 41)) w1.heap.size _ := box_new _ _
      have t0 : (w1.alloc (.cells #[.int .i64 (t.k : Int), .int .i64 (t.o : Int), .int .i64 (t.z : Int), .string ⟨t.v.toArray⟩, .int .i64 t.n] 41)).cell? ⟨w1.heap.size, 0, none⟩ = some (.int .i64 (t.k : Int)) := bt.cell 0
      have h2 := hq1.alloc (.cells #[.int .i64 (t.k : Int), .int .i64 (t.o : Int), .int .i64 (t.z : Int), .string ⟨t.v.toArray⟩, .int .i64 t.n] 41)
      have o2 := hO1.next ((Below.refl _ _).alloc (Nat.le_refl _) (.cells #[.int .i64 (t.k : Int), .int .i64 (t.o : Int), .int .i64 (t.z : Int), .string ⟨t.v.toArray⟩, .int .i64 t.n] 41))
      have c3 : (w1.alloc (.cells #[.int .i64 (t.k : Int), .int .i64 (t.o : Int), .int .i64 (t.z : Int), .string ⟨t.v.toArray⟩, .int .i64 t.n] 41)).cell? ⟨b, 3, none⟩ = some (.int .i64 0) := h2.c3
      clear hO1 bt
      go_wp2_with fail
      go_ret
      have hk6 : (t.k : Int) = 6 := by have := H6.out; omega
      rw [hk6] at o2 h2
      (try rw [if_pos H6.out])
      exact ⟨o2, rfl, h2⟩
    · have k6 : ((t.k : Int) != 6) = true := by rw [bne_iff_ne]; omega
      have k6' : ((t.k : Int) == 6) = false := by rw [beq_eq_false_iff_ne]; omega
      simp only [if_neg h6]
      clear h6
      by_cases hke : t.k = en
      · have ke : ((t.k : Int) != (en : Int)) = false := by rw [hke]; simp
        simp only [if_pos hke]
        clear hke
        go_enter Tryz.func48, Tryz.ntmps48
        go_wp2_with fail
        refine HN.out.mono ?_
        rintro e' w1 ⟨hO1, rfl, hq1⟩
        have bt : Box (w1.alloc (.cells #[.int .i64 (t.k : Int), .int .i64 (t.o : Int), .int .i64 (t.z : Int), .string ⟨t.v.toArray⟩, .int .i64 t.n] 41)) w1.heap.size _ := box_new _ _
        have t0 : (w1.alloc (.cells #[.int .i64 (t.k : Int), .int .i64 (t.o : Int), .int .i64 (t.z : Int), .string ⟨t.v.toArray⟩, .int .i64 t.n] 41)).cell? ⟨w1.heap.size, 0, none⟩ = some (.int .i64 (t.k : Int)) := bt.cell 0
        have h2 := hq1.alloc (.cells #[.int .i64 (t.k : Int), .int .i64 (t.o : Int), .int .i64 (t.z : Int), .string ⟨t.v.toArray⟩, .int .i64 t.n] 41)
        have o2 := hO1.next ((Below.refl _ _).alloc (Nat.le_refl _) (.cells #[.int .i64 (t.k : Int), .int .i64 (t.o : Int), .int .i64 (t.z : Int), .string ⟨t.v.toArray⟩, .int .i64 t.n] 41))
        have c3 : (w1.alloc (.cells #[.int .i64 (t.k : Int), .int .i64 (t.o : Int), .int .i64 (t.z : Int), .string ⟨t.v.toArray⟩, .int .i64 t.n] 41)).cell? ⟨b, 3, none⟩ = some (.int .i64 0) := h2.c3
        clear hO1 bt
        go_wp2_with fail
        go_ret
        exact ⟨o2, rfl, h2⟩
      · have ke : ((t.k : Int) != (en : Int)) = true := by rw [bne_iff_ne]; omega
        simp only [if_neg hke]
        have hfe : (if t.k = 0 then 3 else 4) ≠ 0 := by split <;> omega
        have HW := Lib.hid (fun W hw => rwrong_first w0 b s q t W hw)
        unfold tkV at HW
        generalize (if t.k = 0 then 3 else 4) = er at *
        have hbz : ((er : Int) == 0) = false := by rw [beq_eq_false_iff_ne]; omega
        clear hke hfe
        go_enter Tryz.func48, Tryz.ntmps48
        go_wp2_with fail
        refine HN.out.mono ?_
        rintro e' w1 ⟨hO1, rfl, hq1⟩
        have bt : Box (w1.alloc (.cells #[.int .i64 (t.k : Int), .int .i64 (t.o : Int), .int .i64 (t.z : Int), .string ⟨t.v.toArray⟩, .int .i64 t.n] 41)) w1.heap.size _ := box_new _ _
        have h2 := hq1.alloc (.cells #[.int .i64 (t.k : Int), .int .i64 (t.o : Int), .int .i64 (t.z : Int), .string ⟨t.v.toArray⟩, .int .i64 t.n] 41)
        have o2 := hO1.next ((Below.refl _ _).alloc (Nat.le_refl _) (.cells #[.int .i64 (t.k : Int), .int .i64 (t.o : Int), .int .i64 (t.z : Int), .string ⟨t.v.toArray⟩, .int .i64 t.n] 41))
        clear hO1
        go_wp2_with (refine Lx.wpList_fetch _ rfl _ rfl w1.heap.size _ rfl bt rfl ?_)
        refine (HW.out _ h2).mono ?_
        rintro e' w3 ⟨rfl, hO3, h3⟩
        have c3 := h3.c3
        go_wp2_with fail
        go_ret
        exact ⟨o2.trans hO3, rfl, h3⟩

/-! ### twice -/
theorem isin_hit {ns : List ByteArray} {x : ByteArray} {i : Nat} (hi : i < ns.length) (h : ns.getD i ⟨#[]⟩ = x) : isin ns x = true := by
  rw [isin_iff, ← h, List.getD_eq_getElem?_getD, List.getElem?_eq_getElem hi]
  exact List.getElem_mem hi
theorem isin_miss {ns : List ByteArray} {x : ByteArray} (h : ∀ j, j < ns.length → ns.getD j ⟨#[]⟩ ≠ x) : isin ns x = false := by
  by_cases hq : isin ns x = true
  · rw [isin_iff] at hq
    obtain ⟨j, hj, e⟩ := List.mem_iff_getElem.1 hq
    exact absurd (by rw [List.getD_eq_getElem?_getD, List.getElem?_eq_getElem hj]; exact e) (h j hj)
  · simpa using hq
set_option maxRecDepth 100000 in
set_option maxHeartbeats 1000000 in
theorem rtwice_any (ns : List ByteArray) (c : Value) (x : ByteArray) (w : World) (h : Strs.Row w c ns) (hl : ns.length ≤ 1000000000) :
    Calls Tryz.prog 49 #[c, .string x] w fun e w' => e = .returned (.bool (isin ns x)) ∧ w' = w := by
  obtain ⟨a, cap, rfl, hc⟩ := h.open_
  have HC := Lib.hid hc
  obtain ⟨R, hR⟩ : ∃ R, R = isin ns x := ⟨_, rfl⟩
  rw [← hR]
  have HR := Lib.hid hR
  clear hc h hR
  go_enter Tryz.func49, Tryz.ntmps49
  go_wp2_with fail
  go_loop [8] (fun y => ∃ i : Nat, y = .int .i64 (i : Int) ∧ i ≤ ns.length ∧ Hid (∀ j, j < i → ns.getD j ⟨#[]⟩ ≠ x)) (fun y => ns.length - (RowKit.intOf y).toNat)
  case atStart => exact ⟨0, by go_num, by omega, Lib.hid fun j hj => absurd hj (Nat.not_lt_zero _)⟩
  case round =>
    obtain ⟨i, rfl, hi, hz⟩ := hrel
    by_cases hlt : i < ns.length
    · obtain ⟨b, off, rfl, f1⟩ := HC.out i hlt
      obtain ⟨A, hA⟩ : ∃ A, A = ns.getD i ⟨#[]⟩ := ⟨_, rfl⟩
      rw [← hA] at f1
      have HA := Lib.hid hA
      clear hA
      by_cases hAB : A = x
      · have e1 : (A.toList == x.toList) = true := by rw [hAB]; simp
        have HB := Lib.hid (show R = true by rw [HR.out]; exact isin_hit hlt (HA.out ▸ hAB))
        clear hAB
        go_wp2_with fail
        go_ret
        exact ⟨by rw [HB.out]; rfl, rfl⟩
      · have e1 : (A.toList == x.toList) = false := Byt.str_neq hAB
        have HB := Lib.hid hAB
        clear hAB
        go_wp2_with fail
        go_round
        case rel =>
          refine ⟨i + 1, by go_num, by omega, Lib.hid fun j hj => ?_⟩
          by_cases hji : j < i
          · exact hz.out j hji
          · obtain rfl : j = i := by omega
            rw [← HA.out]; exact HB.out
        case measure => simp [RowKit.intOf]; omega
    · obtain rfl : i = ns.length := by omega
      have HB := Lib.hid (show R = false by rw [HR.out]; exact isin_miss hz.out)
      go_wp2_with fail
      go_ret
      exact ⟨by rw [HB.out]; rfl, rfl⟩
end Go.Proofs.YteinaclkpickaaaGreatDoor.Par
