/- Texts of my own, packed: JsnH. Conditions: as each theorem states. -/
import Derived.Deep.CutRange
import Derived.Test.YtehkiojohldlgaaGreatDoorK33
namespace Go.Proofs.YtehkiojohldlgaaGreatDoor.Jsn
open Go.RowKit Go.Lib
open Go.Proofs.YtehkiojohldlgaaGreatDoor.Tre (Vt V0 InV InS InS_upd OwnR Box box_new)
open Go.Proofs.YtehkiojohldlgaaGreatDoor.Rul (Ru ruC Bx kB)

set_option maxHeartbeats 8000000 in
set_option maxRecDepth 100000 in
theorem rone_any (r : Ru) (w : World) :
    Calls Tryz.prog 30 #[.agg (ruC r)] w fun e w' => ∃ cs : List Value, e = .returned (.agg cs.toArray) ∧ InS (fun b => w.heap.size ≤ b) w' (one r) cs ∧ Below w.heap.size w w' := by
  obtain ⟨id, no, ro, pr, ki, ra, pe, bu, co, mx, fa, wa, pb⟩ := r
  obtain ⟨R, hR⟩ : ∃ R, R = (⟨id, no, ro, pr, ki, ra, pe, bu, co, mx, fa, wa, pb⟩ : Ru) := ⟨_, rfl⟩
  have HT := Lib.hid fun nm s W g m c3 c4 (h : St w g R m c3 c4 W) => rtext2_any h.ob (by have := h.gl; have := h.vb.lt; omega) (by have := h.ln; omega) nm s
  have HNU := Lib.hid fun nm n W g m c3 c4 (h : St w g R m c3 c4 W) => rnumber2_any h.ob (by have := h.gl; have := h.vb.lt; omega) (by have := h.ln; omega) nm n
  have HT0 := Lib.hid (rtext2_any (Ob.nil (w.heap.size + 2) ((w.alloc (.cells #[.string id, .string no, .string ro, .int .i64 pr, .int .i64 ki, .int .i64 ra, .int .i64 pe, .int .i64 bu, .int .i64 co, .int .i64 mx, .int .i64 fa, .int .i64 wa, .int .i64 pb] 49)).alloc (.cells #[.int .i64 0, .int .i64 0, .string ⟨#[]⟩, .slice none 0 0, .slice none 0 0] 26))) (by simp) (by decide) ⟨#[105, 100]⟩ id)
  have HS0 : ∀ w1 m' d3 d4, Ob (w.heap.size + 2) w1 m' d3 d4 → Ch (own2 (.slice none 0 0) (.slice none 0 0)) ((w.alloc (.cells #[.string id, .string no, .string ro, .int .i64 pr, .int .i64 ki, .int .i64 ra, .int .i64 pe, .int .i64 bu, .int .i64 co, .int .i64 mx, .int .i64 fa, .int .i64 wa, .int .i64 pb] 49)).alloc (.cells #[.int .i64 0, .int .i64 0, .string ⟨#[]⟩, .slice none 0 0, .slice none 0 0] 26)) w1 → m'.length ≤ 40 → St w w1.heap.size R m' d3 d4 (w1.alloc (.cells #[.int .i64 5, .int .i64 0, .string ⟨#[]⟩, d3, d4] 26)) := by
    rw [hR]
    exact fun w1 m' d3 d4 h1 h2 h3 => St.start h1 h2 h3
  have HS0 := Lib.hid HS0
  have HK := Lib.hid fun W => Rul.rkind_any ki W
  have HNN := Lib.hid fun W => rnumbers2_any ki W
  have HNJ : (nums R).length = (nn ki).length ∧ ∀ j, j < (nn ki).length → ∃ i, 5 ≤ i ∧ i < 13 ∧ (nn ki).getD j ⟨#[]⟩ = nm i ∧ (nums R).getD j (⟨#[]⟩, V0) = (nm i, N (num R i)) := by
    have := nums_nn R
    rwa [show R.ki = ki by rw [hR]] at this
  have HJL := Lib.hid HNJ.1
  have HNJ := Lib.hid HNJ.2
  have HML := Lib.hid (mem0_len R)
  have HLE : (nn ki).length ≤ 4 := nn_len ki
  have HLE := Lib.hid HLE
  have HAT : ∀ i, 5 ≤ i → i < 13 → ∀ W, Calls Tryz.prog 64 #[.agg #[.string id, .string no, .string ro, .int .i64 pr, .int .i64 ki, .int .i64 ra, .int .i64 pe, .int .i64 bu, .int .i64 co, .int .i64 mx, .int .i64 fa, .int .i64 wa, .int .i64 pb], .string (nm i)] W fun e w' => e = .returned (.int .i64 (num R i)) ∧ Below W.heap.size W w' := by
    rw [hR]
    exact fun i h5 hi W => rat_any _ i h5 hi W
  have HAT := Lib.hid HAT
  have HM0 : mem0 R = (⟨#[105, 100]⟩, T id) :: ((if no = ⟨#[]⟩ then [] else [(⟨#[110, 111, 116, 101]⟩, T no)]) ++ [(⟨#[114, 111, 117, 116, 101]⟩, T ro), (⟨#[112, 114, 105, 111, 114, 105, 116, 121]⟩, N pr), (⟨#[107, 105, 110, 100]⟩, T (kB ki))]) := by rw [hR]; rfl
  have HM0 := Lib.hid HM0
  have HC : ∀ W g m c3 c4, St w g R m c3 c4 W → Bx W w.heap.size (ruC ⟨id, no, ro, pr, ki, ra, pe, bu, co, mx, fa, wa, pb⟩) := fun W g m c3 c4 h => by have := h.rb; rwa [hR] at this
  have HC := Lib.hid HC
  have HM : one ⟨id, no, ro, pr, ki, ra, pe, bu, co, mx, fa, wa, pb⟩ = obj (mem0 R ++ nums R) := by rw [← mem_is, hR]; rfl
  have HTK := Lib.hid fun j (h : j < (nums R).length) => take_num R h
  rw [HM, show ruC ⟨id, no, ro, pr, ki, ra, pe, bu, co, mx, fa, wa, pb⟩ = #[.string id, .string no, .string ro, .int .i64 pr, .int .i64 ki, .int .i64 ra, .int .i64 pe, .int .i64 bu, .int .i64 co, .int .i64 mx, .int .i64 fa, .int .i64 wa, .int .i64 pb] from rfl]
  clear HM hR
  generalize kB ki = kn at *
  obtain ⟨l, hl⟩ : ∃ l, l = nn ki := ⟨_, rfl⟩
  rw [← hl] at HNN HJL HNJ HLE
  clear hl
  go_enter Tryz.func30, Tryz.ntmps30
  go_upto_if 12 with (first
    | (go_at_call 60; (with_reducible refine HT0.out.mono ?_); rintro e v0 ⟨a13, n13, p13, a14, n14, p14, rfl, ho, hn, hc⟩; have S1 := Lib.hid (HS0.out v0 _ _ _ ho hc (by simp)); clear ho hn hc; obtain ⟨x0, x1, x2, x3, x4, -⟩ := cells13 (HC.out _ _ _ _ _ S1.out)))
  go_cut [] from 12 to 16 (fun wx => ∃ a3 n3 p3 a4 n4 p4, Hid (St w v0.heap.size R ([(⟨#[105, 100]⟩, T id)] ++ (if no = ⟨#[]⟩ then [] else [(⟨#[110, 111, 116, 101]⟩, T no)])) (.slice a3 n3 p3) (.slice a4 n4 p4) wx))
  case first =>
    by_cases hno : no = ⟨#[]⟩
    · have HNO := Lib.hid hno
      have hq : (!no.toList.isEmpty) = false := by rw [hno, Byt.toList_data]; rfl
      clear hno
      rw [hq]
      go_wp2_with fail
      go_meet
      exact ⟨_, _, _, _, _, _, Lib.hid (by rw [if_pos HNO.out, List.append_nil]; exact S1.out)⟩
    · have HNO := Lib.hid hno
      have hq : (!no.toList.isEmpty) = true := by
        cases he : no.toList with
        | nil =>
          rw [Byt.toList_data] at he
          exact absurd (ByteArray.ext (Array.toList_inj.1 he)) hno
        | cons _ _ => rfl
      clear hno
      rw [hq]
      go_wp2_with (first
        | (go_at_call 60; (with_reducible refine (HT.out ⟨#[110, 111, 116, 101]⟩ no _ _ _ _ _ S1.out).mono ?_); rintro e v1 ⟨a23, n23, p23, a24, n24, p24, rfl, ho, hn, hc⟩; have O1 := Lib.hid ho; have N1 := Lib.hid hn; have C1 := Lib.hid hc; have P1 := Lib.hid (St.called S1.out ho hn hc); clear ho hn hc)
        | (refine Tre.wpList_keep _ rfl _ _ rfl w.heap.size w P1.out.2.2.2.1 v0.heap.size (by have := S1.out.gl; omega) #[.int .i64 5, .int .i64 0, .string ⟨#[]⟩, .slice a23 n23 p23, .slice a24 n24 p24] _ rfl rfl P1.out.2.2.1 rfl rfl (by intro u hu; simp only [List.mem_cons, List.not_mem_nil, or_false] at hu; rcases hu with rfl | rfl | rfl | rfl | rfl <;> rfl) ?_; intro w2 hx hb hk hs; have S2 := Lib.hid (St.step S1.out O1.out N1.out C1.out hx hb hk (by simp)); clear hx hb hk hs; obtain ⟨x0, x1, x2, x3, x4, -⟩ := cells13 (HC.out _ _ _ _ _ S2.out))
        | (refine Tre.wpList_fetch _ rfl _ rfl _ _ rfl S1.out.vb rfl ?_))
      dsimp only [Act.put]
      go_meet
      exact ⟨_, _, _, _, _, _, Lib.hid (by rw [if_neg HNO.out]; exact S2.out)⟩
  case rest =>
    rename World => wZ
    clear x0 x1 x2 x3 x4 S1
    obtain ⟨a13, n13, p13, a14, n14, p14, S1⟩ := hcut
    have hnl : (if no = ⟨#[]⟩ then [] else [(⟨#[110, 111, 116, 101]⟩, T no)] : List (ByteArray × Vt)).length ≤ 1 := by split <;> simp
    have HNL := Lib.hid hnl
    clear hnl
    generalize (if no = ⟨#[]⟩ then [] else [(⟨#[110, 111, 116, 101]⟩, T no)] : List (ByteArray × Vt)) = M1 at *
    obtain ⟨x0, x1, x2, x3, x4, -⟩ := cells13 (HC.out _ _ _ _ _ S1.out)
    go_upto_region 6 with (first
      | (go_at_call 60; (with_reducible refine (HT.out ⟨#[114, 111, 117, 116, 101]⟩ ro _ _ _ _ _ S1.out).mono ?_); rintro e v1 ⟨a23, n23, p23, a24, n24, p24, rfl, ho, hn, hc⟩; have O1 := Lib.hid ho; have N1 := Lib.hid hn; have C1 := Lib.hid hc; have P1 := Lib.hid (St.called S1.out ho hn hc); clear ho hn hc)
      | (go_at_call 61; (with_reducible refine (HNU.out ⟨#[112, 114, 105, 111, 114, 105, 116, 121]⟩ pr _ _ _ _ _ S2.out).mono ?_); rintro e v2 ⟨a33, n33, p33, a34, n34, p34, rfl, ho, hn, hc⟩; have O2 := Lib.hid ho; have N2 := Lib.hid hn; have C2 := Lib.hid hc; have P2 := Lib.hid (St.called S2.out ho hn hc); clear ho hn hc)
      | (refine Tre.wpList_keep _ rfl _ _ rfl w.heap.size w P1.out.2.2.2.1 v0.heap.size (by have := S1.out.gl; omega) #[.int .i64 5, .int .i64 0, .string ⟨#[]⟩, .slice a23 n23 p23, .slice a24 n24 p24] _ rfl rfl P1.out.2.2.1 rfl rfl (by intro u hu; simp only [List.mem_cons, List.not_mem_nil, or_false] at hu; rcases hu with rfl | rfl | rfl | rfl | rfl <;> rfl) ?_; intro w2 hx hb hk hs; have S2 := Lib.hid (St.step S1.out O1.out N1.out C1.out hx hb hk (by have := HNL.out; simp; omega)); clear hx hb hk hs; obtain ⟨x0, x1, x2, x3, x4, -⟩ := cells13 (HC.out _ _ _ _ _ S2.out))
      | (refine Tre.wpList_keep _ rfl _ _ rfl w.heap.size w P2.out.2.2.2.1 v0.heap.size (by have := S2.out.gl; omega) #[.int .i64 5, .int .i64 0, .string ⟨#[]⟩, .slice a33 n33 p33, .slice a34 n34 p34] _ rfl rfl P2.out.2.2.1 rfl rfl (by intro u hu; simp only [List.mem_cons, List.not_mem_nil, or_false] at hu; rcases hu with rfl | rfl | rfl | rfl | rfl <;> rfl) ?_; intro w3 hx hb hk hs; have S3 := Lib.hid (St.step S2.out O2.out N2.out C2.out hx hb hk (by have := HNL.out; simp; omega)); clear hx hb hk hs; obtain ⟨x0, x1, x2, x3, x4, -⟩ := cells13 (HC.out _ _ _ _ _ S3.out))
      | (refine Tre.wpList_fetch _ rfl _ rfl _ _ rfl S2.out.vb rfl ?_)
      | (refine Tre.wpList_fetch _ rfl _ rfl _ _ rfl S1.out.vb rfl ?_))
    dsimp only [Act.put]
    go_cut [] from 25 to 29 (fun wx => ∃ a3 n3 p3 a4 n4 p4, Hid (St w v0.heap.size R (mem0 R) (.slice a3 n3 p3) (.slice a4 n4 p4) wx))
    case first =>
      have SD := Lib.hid S3.out.drew
      obtain ⟨y0, y1, y2, y3, y4⟩ := cells5 SD.out.vb
      obtain ⟨-, -, -, -, x4, -⟩ := cells13 (HC.out _ _ _ _ _ SD.out)
      go_region_law (first
        | (go_simp; go_at_call 62; (with_reducible refine (HK.out _).mono ?_); rintro e wk ⟨rfl, rfl⟩)
        | (go_simp; go_at_call 60; (with_reducible refine (HT.out ⟨#[107, 105, 110, 100]⟩ kn _ _ _ _ _ SD.out).mono ?_); rintro e vt ⟨a3, n3, p3, a4, n4, p4, rfl, ho, hn, hc⟩; have SN := Lib.hid (St.stored SD.out ho hn hc (by have := HNL.out; simp; omega)); obtain ⟨⟨k0, k1, k2, k3, k4⟩, fz, ⟨s0, s1, s2⟩, -, -⟩ := put5 (St.called SD.out ho hn hc).2.2.1 (.slice a3 n3 p3) (.slice a4 n4 p4)))
      all_goals
        go_wp2_with fail
        go_meet
        exact ⟨_, _, _, _, _, _, Lib.hid (by rw [HM0.out]; have := SN.out; simp only [List.append_assoc] at this; exact this)⟩
    case rest =>
      rename World => wA
      obtain ⟨b3, l3, q3, b4, l4, q4, SM⟩ := hcut
      clear x0 x1 x2 x3 x4
      obtain ⟨-, -, -, -, x4, -⟩ := cells13 (HC.out _ _ _ _ _ SM.out)
      go_wp2_with (first
        | (go_at_call 63; (with_reducible refine (HNN.out _).mono ?_); rintro e wB ⟨rfl, hcb, hbb, hsb⟩; have SB := Lib.hid (SM.out.next hbb); have NB := Lib.hid (Nr.new SM.out hcb hsb); clear hcb hbb hsb))
      go_loopw [35] (fun i wr => ∃ (j : Nat) (a3 : Option Addr) (n3 p3 : Nat) (a4 : Option Addr) (n4 p4 : Nat), i = .int .i64 (j : Int) ∧ j ≤ l.length ∧ Hid (St w v0.heap.size R (mem0 R ++ (nums R).take j) (.slice a3 n3 p3) (.slice a4 n4 p4) wr) ∧ Hid (Nr v0.heap.size wA.heap.size l (.slice a3 n3 p3) (.slice a4 n4 p4) wr)) (fun i _ => l.length - (RowKit.intOf i).toNat)
      case atStart => exact ⟨0, _, _, _, _, _, _, rfl, Nat.zero_le _, Lib.hid (by rw [List.take_zero, List.append_nil]; exact SB.out), NB⟩
      case round =>
        obtain ⟨j, b5, l5, q5, b6, l6, q6, rfl, hj, SR, NR⟩ := hrel
        by_cases hlt : j < l.length
        · have hb4 : l.length ≤ 4 := HLE.out
          obtain ⟨i0, h5, hi, hz, hx⟩ := HNJ.out j hlt
          have SD := Lib.hid SR.out.drew
          have ND := Lib.hid (NR.out.next (Below.refl _ _).drew)
          have zc := ND.out.cell j hlt
          rw [hz] at zc
          have HATj := Lib.hid fun W => HAT.out i0 h5 hi W
          have HXJ := Lib.hid (HTK.out j (by rw [HJL.out]; exact hlt))
          rw [hx] at HXJ
          have HLj := Lib.hid (show (mem0 R ++ (nums R).take j ++ [(nm i0, N (num R i0))]).length ≤ 40 by have := HML.out; have := HLE.out; simp; omega)
          have HZ := Lib.hid hz
          clear hz hx h5 hi
          generalize num R i0 = q at *
          generalize nm i0 = z at *
          obtain ⟨y0, y1, y2, y3, y4⟩ := cells5 SD.out.vb
          obtain ⟨x0, x1, x2, x3, x4, x5, x6, x7, x8, x9, x10, x11, x12⟩ := cells13 (HC.out _ _ _ _ _ SD.out)
          go_wp2_with fail
          go_region_law (first
            | (go_simp; go_at_call 64; (with_reducible refine (HATj.out _).mono ?_); rintro e wC ⟨rfl, hbc⟩; have SC := Lib.hid (SD.out.next hbc); have NC := Lib.hid (ND.out.next hbc); have zd := NC.out.cell j hlt; rw [HZ.out] at zd; obtain ⟨t0, t1, t2, t3, t4⟩ := cells5 SC.out.vb; clear hbc)
            | (go_simp; go_at_call 61; (with_reducible refine (HNU.out z q _ _ _ _ _ SC.out).mono ?_); rintro e vt ⟨a3, n3, p3, a4, n4, p4, rfl, ho, hn, hc⟩; have SN := Lib.hid (St.stored SC.out ho hn hc HLj.out); obtain ⟨⟨k0, k1, k2, k3, k4⟩, fz, ⟨s0, s1, s2⟩, -, hk⟩ := put5 (St.called SC.out ho hn hc).2.2.1 (.slice a3 n3 p3) (.slice a4 n4 p4); have NN := Lib.hid (NC.out.step hn hc hk); clear ho hn hc hk))
          all_goals
            go_wp2_with fail
            go_roundw
            case rel => exact ⟨j + 1, _, _, _, _, _, _, by go_num, by omega, Lib.hid (by rw [HXJ.out, ← List.append_assoc]; exact SN.out), NN⟩
            case measure => simp [RowKit.intOf]; omega
        · obtain rfl : j = l.length := by omega
          have HE := Lib.hid (show (nums R).take l.length = nums R by rw [← HJL.out, List.take_length])
          go_wp2_with (first
            | (refine Tre.wpList_fetch _ rfl _ rfl _ _ rfl SR.out.vb rfl ?_)
            | (refine Tre.wpList_keep _ rfl _ _ rfl w.heap.size w SR.out.bel (w.heap.size + 1) (Nat.le_succ _) #[.int .i64 5, .int .i64 0, .string ⟨#[]⟩, .slice b5 l5 q5, .slice b6 l6 q6] _ rfl rfl SR.out.zb rfl rfl (by intro u hu; simp only [List.mem_cons, List.not_mem_nil, or_false] at hu; rcases hu with rfl | rfl | rfl | rfl | rfl <;> rfl) ?_; intro w9 bx9 hb9 hk9 hs9; clear hs9))
          refine bodyPost_ret (Tre.results_val rfl _ _ _ _ rfl bx9 rfl) rfl ?_
          refine ⟨_, rfl, ?_, hb9⟩
          have ho := SR.out.ob
          rw [HE.out] at ho
          have h2 := (ho.keep (W' := w9) fun b q => hk9 b fun e => by have := (ho.in_ q).1; omega).made
          exact InS_upd (fun b hb _ => ⟨rfl, by omega⟩) _ _ h2
end Go.Proofs.YtehkiojohldlgaaGreatDoor.Jsn
