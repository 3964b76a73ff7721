/- LexAgain. Conditions: the tables of unicode/utf8 and the errors of strconv (what the row lists). -/
import Derived.Test.YtbikbniaoceodaaDoorLexI
import Derived.Deep.QuietTactic
import Derived.BigQuiet
namespace Go.Proofs.YtbikbniaoceodaaDoor.Lx
open Go.RowKit Go.Lib Go.Proofs.YtbikbniaoceodaaDoor.Byt Go.Proofs.YtbikbniaoceodaaDoor.Quo

theorem laid_len (S : List UInt8) (c : UInt8) (L : List Tk) : (laid S c L).length ≤ L.length * (S.length + 1) := by
  induction L with
  | nil => simp [laid_nil]
  | cons x L ih =>
    rw [laid_cons, List.length_append, List.length_cons, List.length_cons, Nat.add_mul, List.length_take, List.length_drop]
    omega
theorem laid_step (S : List UInt8) (c : UInt8) (L : List Tk) (i : Nat) (h : i < L.length) : laid S c (L.take (i + 1)) = laid S c (L.take i) ++ piece S c (L.getD i T0) := by
  rw [List.take_add_one, List.getElem?_eq_getElem h, Option.toList_some, laid_snoc, List.getD_eq_getElem?_getD, List.getElem?_eq_getElem h]
  rfl
theorem str_cat (a b : List UInt8) (c : UInt8) : (⟨a.toArray⟩ : ByteArray) ++ ((⟨b.toArray⟩ : ByteArray) ++ ⟨#[c]⟩) = ⟨(a ++ (b ++ [c])).toArray⟩ := by
  apply ByteArray.ext
  rw [ByteArray.data_append, ByteArray.data_append]
  simp
/-- The blank, and its cut. -/
def bk (q : Nat) : UInt8 := if q = 0 then 32 else if q = 1 then 9 else if q = 2 then 10 else 13
theorem bk_bl (q : Nat) : bl (bk q).toNat = true := by unfold bk; repeat' split
                                                       all_goals decide
theorem core_at {L M : List Tk} (h : M.map core = L.map core) (i : Nat) (hi : i < L.length) : core (M.getD i T0) = core (L.getD i T0) := by
  have hl : M.length = L.length := by have := congrArg List.length h; simpa using this
  have := congrArg (fun l => l[i]?) h
  simp only [List.getElem?_map, List.getElem?_eq_getElem hi, List.getElem?_eq_getElem (show i < M.length by omega), Option.map_some, Option.some.injEq] at this
  rw [List.getD_eq_getElem?_getD, List.getD_eq_getElem?_getD, List.getElem?_eq_getElem hi, List.getElem?_eq_getElem (show i < M.length by omega)]
  exact this

theorem below_drewN {B : Nat} {a w : World} (h : Below B a w) (n : Nat) : Below B a (w.drewN n) := ⟨h.os, h.tape, h.output, h.size, h.block⟩
theorem fl_in {S : List UInt8} : ∀ {L : List Tk} {E : Nat}, Fl S E L → ∀ i, i < L.length → (L.getD i T0).o + (L.getD i T0).z ≤ S.length ∧ True
  | [], _, _, i, hi => by simp at hi
  | x :: L, E, h, 0, _ => ⟨h.2.1, trivial⟩
  | x :: L, E, h, i + 1, hi => fl_in (L := L) h.2.2.2.2.2.2.2 i (by simpa using hi)
set_option maxRecDepth 100000 in
set_option maxHeartbeats 4000000 in
theorem again_walk (s : ByteArray) (q : Int) (w : World) (hE : Env w) (hq : 0 ≤ q) (hq' : q ≤ 255) :
    Calls Tryd.prog 5 #[.string s, .int .u8 q] w fun e w' => e = .returned (.bool true) ∧ Below w.heap.size w w' := by
  have HE := Lib.hid hE
  clear hE
  by_cases hg : 300 < s.size
  · go_enter Tryd.func5, Tryd.ntmps5
    go_wp2_with fail
    refine (awake_any _ HE.out).mono ?_; rintro e w1 ⟨rfl, hb1⟩
    go_wp2_with fail
    go_ret
    exact ⟨rfl, hb1⟩
  · have ht : s.size ≤ 300 := by omega
    clear hg
    have HT0 := fun w hE => tokens_any s (by omega) w hE
    have hl : s.data.toList.length = s.size := by simp
    by_cases he : (tkS s).1 = 0
    · obtain ⟨f1, f2, f3, f4⟩ := fills s.data.toList 0 s.data.toList (by simp) (by omega) he
      change Fl _ 0 (tkS s).2.2 at f1
      change (tkS s).2.2.length + 0 ≤ _ at f3
      obtain ⟨k, hk, hk4⟩ : ∃ k : Nat, q % 4 = (k : Int) ∧ k < 4 := ⟨(q % 4).toNat, by omega, by omega⟩
      have HK := Lib.hid hk
      have hk0 : 0 ≤ q % 4 := by omega
      have hk3 : q % 4 ≤ 3 := by omega
      obtain ⟨M, hM, hMC⟩ := again s.data.toList (bk k) (bk_bl k) 0 s.data.toList [] 0 (by simp) he (by simp)
      change tkA 0 ([] ++ laid _ _ (tkS s).2.2) = _ at hM
      change M.map core = (tkS s).2.2.map core at hMC
      rw [List.nil_append] at hM
      rw [he] at HT0
      have HT := Lib.hid HT0
      have HF := Lib.hid f1
      clear HT0 he f4 f1 f2 hk
      generalize (tkS s).2.2 = L at *
      generalize (tkS s).2.1 = B at *
      rw [hl] at f3
      have hLl : (laid s.data.toList (bk k) L).length ≤ 1000000 := by
        have h1 := laid_len s.data.toList (bk k) L
        rw [hl] at h1
        have h2 : L.length * (s.size + 1) ≤ 301 * 301 := Nat.mul_le_mul (by omega) (by omega)
        omega
      have hTB : ∀ i, (laid s.data.toList (bk k) (L.take i)).length ≤ 100000 := fun i => by
        have h1 := laid_len s.data.toList (bk k) (L.take i)
        rw [hl, List.length_take] at h1
        have h2 : min i L.length * (s.size + 1) ≤ 301 * 301 := Nat.mul_le_mul (by omega) (by omega)
        omega
      have HU0 := fun w hE => tokens_any ⟨(laid s.data.toList (bk k) L).toArray⟩ (by show (List.toArray _).size ≤ _; rw [List.size_toArray]; exact hLl) w hE
      have eT : tkS ⟨(laid s.data.toList (bk k) L).toArray⟩ = (0, 0, M) := by
        unfold tkS
        rw [show (⟨(laid s.data.toList (bk k) L).toArray⟩ : ByteArray).data.toList = laid s.data.toList (bk k) L by simp]
        exact hM
      rw [eT] at HU0
      have HU := Lib.hid HU0
      have HMC := Lib.hid hMC
      have hml : M.length = L.length := by have := congrArg List.length hMC; simpa using this
      have HTB := Lib.hid hTB
      clear HU0 eT hMC hM hLl hTB
      go_enter Tryd.func5, Tryd.ntmps5
      go_wp2_with fail
      refine (HT.out _ HE.out).mono ?_; rintro e w1 ⟨v, rfl, hr1, hb1⟩
      obtain ⟨ba, cap, rfl, hc⟩ := hr1.open_
      have HE1 := Lib.hid (HE.out.next hb1)
      have hsz1 := hb1.size
      have HC := Lib.hid hc
      clear hc hr1
      go_wp2_with fail
      go_loopw [8, 29] (fun t x wr => ∃ (i : Nat) (T : ByteArray), x = .int .i64 (i : Int) ∧ t = .string T ∧ i ≤ L.length ∧ T.size ≤ 100000 ∧ Below w1.heap.size w1 wr ∧ Hid (T = ⟨(laid s.data.toList (bk k) (L.take i)).toArray⟩))
        (fun _ x _ => L.length - (RowKit.intOf x).toNat)
      case atStart => exact ⟨0, ⟨#[]⟩, by go_num, rfl, by omega, by decide, Below.refl _ _, Lib.hid rfl⟩
      case round =>
        obtain ⟨i, T, rfl, rfl, hi, hTz, hb, hT⟩ := hrel
        have hsz := hb.size
        by_cases hlt : i < L.length
        · obtain ⟨b, rfl, r1⟩ := HC.out i hlt
          replace r1 := rangeAt_next r1 hb
          obtain ⟨g1, g2⟩ := fl_in HF.out i hlt
          rw [hl] at g1
          have hTe := laid_step s.data.toList (bk k) L i hlt
          generalize L.getD i T0 = X at *
          have p1 : wr.cell? ⟨b, i * 5 + 1, none⟩ = some (.int .i64 (X.o : Int)) := r1 1 _ rfl
          have p2 : wr.cell? ⟨b, i * 5 + 2, none⟩ = some (.int .i64 (X.z : Int)) := r1 2 _ rfl
          have HTe := Lib.hid hTe
          clear r1 hTe HF g2
          have d1 : decide ((X.o : Int) < 0) = false := by simp
          have d2 : decide ((X.z : Int) < 0) = false := by simp
          have d3 : decide ((s.size : Int) < (X.o : Int)) = false := by simp; omega
          have d4 : decide (s.size < X.o) = false := by simp; omega
          have d5 : decide ((s.size : Int) - (X.o : Int) < (X.z : Int)) = false := by simp; omega
          go_wp2_with fail
          have hsl := fun w => run_cut s (X.o : Int) ((X.o : Int) + (X.z : Int)) X.o X.z rfl rfl g1 w
          have hbk : ∀ w, (Instr.slice 9 (.string ⟨#[32, 9, 10, 13]⟩) (some (.int .u8 (q % 4))) (some (.int .u8 (q % 4 + 1))) none).run Tryd.prog w = .ok (.string ⟨#[bk k]⟩) w := fun w => by
            rw [run_slice_string w 9 _ .u8 .u8 (q % 4) (q % 4 + 1) Tryd.underlying9 (by omega) (by omega) (by show q % 4 + 1 ≤ 4; omega), HK.out]
            have k4 : k = 0 ∨ k = 1 ∨ k = 2 ∨ k = 3 := by omega
            rcases k4 with rfl | rfl | rfl | rfl <;> rfl
          have hw : IntKind.i64.wrap ((X.o : Int) + (X.z : Int)) = (X.o : Int) + (X.z : Int) := by rw [IntKind.wrap_i64]; omega
          have hw8 : IntKind.u8.wrap (q % 4 + 1) = q % 4 + 1 := by rw [IntKind.wrap_u8]; omega
          have hcz := cutB_size s X.o X.z g1
          go_quiet (fail)
          clear d1 d2 d3 d4 d5
          go_wp2_with fail
          go_quiet (fail)
          have hnew : T ++ (cutB s X.o X.z ++ ⟨#[bk k]⟩) = ⟨(laid s.data.toList (bk k) (L.take (i + 1))).toArray⟩ := by
            rw [HTe.out, hT.out]
            exact str_cat _ _ _
          have hnz : (T ++ (cutB s X.o X.z ++ ⟨#[bk k]⟩)).size ≤ 100000 := by
            rw [hnew]
            show (List.toArray _).size ≤ _
            rw [List.size_toArray]
            exact HTB.out (i + 1)
          go_wp2_with fail
          go_roundw
          case rel => exact ⟨i + 1, _, by go_num, rfl, by omega, hnz, below_drewN hb _, Lib.hid hnew⟩
          case measure => simp [RowKit.intOf]; omega
        · obtain rfl : i = L.length := by omega
          have hTT := hT.out
          rw [List.take_length] at hTT
          subst hTT
          have HEr := Lib.hid (HE1.out.next hb)
          have hb0 := next hb1 hb
          clear hT HF
          generalize (⟨(laid s.data.toList (bk k) L).toArray⟩ : ByteArray) = T at *
          go_wp2_with fail
          refine (HU.out _ HEr.out).mono ?_; rintro e w2 ⟨v2, rfl, hr2, hb2⟩
          obtain ⟨bm, capm, rfl, hcm⟩ := hr2.open_
          have HCM := Lib.hid hcm
          have HE2 := Lib.hid (HEr.out.next hb2)
          have hb02 := next hb0 hb2
          have hb12 := next hb hb2
          clear hcm hr2 hb2 hb0
          rw [hml]
          go_wp2_with fail
          go_loopw [117] (fun x wr => ∃ i : Nat, x = .int .i64 (i : Int) ∧ i ≤ L.length ∧ Below w2.heap.size w2 wr) (fun x _ => L.length - (RowKit.intOf x).toNat)
          case atStart => exact ⟨0, by go_num, by omega, Below.refl _ _⟩
          case round =>
            obtain ⟨i, rfl, hi2, hbq⟩ := hrel
            by_cases hlt2 : i < L.length
            · obtain ⟨b, rfl, r1⟩ := HC.out i hlt2
              obtain ⟨b2, rfl, r2⟩ := HCM.out i (by omega)
              replace r1 := rangeAt_next (rangeAt_next r1 hb12) hbq
              replace r2 := rangeAt_next r2 hbq
              have hco := core_at HMC.out i hlt2
              generalize L.getD i T0 = X at *
              generalize M.getD i T0 = Y at *
              unfold core at hco
              simp only [Prod.mk.injEq] at hco
              obtain ⟨c0, c1, c2, c3⟩ := hco
              have p0 : wr.cell? ⟨b, i * 5, none⟩ = some (.int .i64 (X.k : Int)) := r1 0 _ rfl
              have p2 : wr.cell? ⟨b, i * 5 + 2, none⟩ = some (.int .i64 (X.z : Int)) := r1 2 _ rfl
              have p3 : wr.cell? ⟨b, i * 5 + 3, none⟩ = some (.string ⟨X.v.toArray⟩) := r1 3 _ rfl
              have p4 : wr.cell? ⟨b, i * 5 + 4, none⟩ = some (.int .i64 X.n) := r1 4 _ rfl
              have q0 : wr.cell? ⟨b2, i * 5, none⟩ = some (.int .i64 (X.k : Int)) := by rw [← c0]; exact r2 0 _ rfl
              have q2 : wr.cell? ⟨b2, i * 5 + 2, none⟩ = some (.int .i64 (X.z : Int)) := by rw [← c1]; exact r2 2 _ rfl
              have q3 : wr.cell? ⟨b2, i * 5 + 3, none⟩ = some (.string ⟨X.v.toArray⟩) := by rw [← c2]; exact r2 3 _ rfl
              have q4 : wr.cell? ⟨b2, i * 5 + 4, none⟩ = some (.int .i64 X.n) := by rw [← c3]; exact r2 4 _ rfl
              clear c0 c1 c2 c3 r1 r2
              go_wp2_with fail
              go_quiet (fail)
              go_wp2_with fail
              go_roundw
              case rel => exact ⟨i + 1, by go_num, by omega, below_drewN hbq _⟩
              case measure => simp [RowKit.intOf]; omega
            · obtain rfl : i = L.length := by omega
              have HE3 := Lib.hid (HE2.out.next hbq)
              have hb03 := next hb02 hbq
              clear hbq hb02 hb12
              go_wp2_with fail
              refine (awake_any _ HE3.out).mono ?_; rintro e w3 ⟨rfl, hb3⟩
              go_wp2_with fail
              go_ret
              exact ⟨rfl, next hb03 hb3⟩
    · have HT := Lib.hid HT0
      have he2 : (((tkS s).1 : Int) != 0) = true := by rw [bne_iff_ne]; omega
      clear HT0 he
      generalize (tkS s).2.1 = B at *
      generalize (tkS s).1 = C at *
      go_enter Tryd.func5, Tryd.ntmps5
      go_wp2_with fail
      refine (HT.out _ HE.out).mono ?_; rintro e w1 ⟨v, rfl, hr1, hb1⟩
      have HE1 := Lib.hid (HE.out.next hb1)
      clear hr1
      go_wp2_with fail
      refine (awake_any _ HE1.out).mono ?_; rintro e w2 ⟨rfl, hb2⟩
      go_wp2_with fail
      go_ret
      exact ⟨rfl, next hb1 hb2⟩
end Go.Proofs.YtbikbniaoceodaaDoor.Lx
