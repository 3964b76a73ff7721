/- The contract of the writer's putItems. Conditions: the two tables of unicode/utf8 and the table of powers are as the library's text lays them; as each theorem states. -/
import Derived.Test.YtbpofhlnnldceaaGreatDoorRenB
namespace Go.Proofs.YtbpofhlnnldceaaGreatDoor.Ren
open Go.RowKit Go.Lib Go.Proofs.YtbpofhlnnldceaaGreatDoor.Byt Go.Proofs.YtbpofhlnnldceaaGreatDoor.Utf Go.Proofs.YtbpofhlnnldceaaGreatDoor.Quo
open Go.Proofs.YtbpofhlnnldceaaGreatDoor.Lx (nL2 sL dcL dcF bl)
open Go.Proofs.YtbpofhlnnldceaaGreatDoor.Tre (Vt V0 wi wiL hdB textB nmB noneB scal dep depL cnt OkT okV InV InV_iff InV_next InV_five InS_one Box Box.lt Box.cell box_new wpList_take wpList_keep wpList_fetch range_next size_toArray mem_get)

theorem drop_step (st co : List UInt8) (l : List Vt) (ob : Bool) (ns : List ByteArray) (cm ln : List UInt8) (j : Nat) (h : j < l.length) :
    tl st co (l.drop j) ob (ns.drop j) cm ln = cm ++ ln ++ nmT co ob (ns.getD j ⟨#[]⟩) ++ tv st co (l.getD j V0) ln ++ tl st co (l.drop (j + 1)) ob (ns.drop (j + 1)) [44] ln := by
  rw [List.drop_eq_getElem_cons h, tl, List.headD_eq_head?_getD, List.head?_drop, List.tail_drop, List.getD_eq_getElem?_getD, List.getD_eq_getElem?_getD, List.getElem?_eq_getElem h]
  rfl
theorem drop_none (st co : List UInt8) (l : List Vt) (ob : Bool) (ns : List ByteArray) (cm ln : List UInt8) : tl st co (l.drop l.length) ob ns cm ln = [] := by
  rw [List.drop_length, tl]
theorem wg_part {v x : Vt} (h : x ∈ v.l) : wg x ≤ wg v := by
  cases v with
  | mk k n s l ns =>
    have := wgL_mem h
    rw [wg]
    show wg x ≤ _
    have h2 : wgL (Vt.mk k n s l ns).l = wgL l := rfl
    omega
theorem dep_part {v x : Vt} (hk : v.k = 4 ∨ v.k = 5) (h : x ∈ v.l) : dep x + 1 ≤ dep v := by
  cases v with
  | mk k n s l ns =>
    have := depL_mem h
    have hk' : k = 4 ∨ k = 5 := hk
    rw [dep, if_pos hk']
    have h2 : depL (Vt.mk k n s l ns).l = depL l := rfl
    omega
theorem line_part {v x : Vt} (hk : v.k = 4 ∨ v.k = 5) (h : x ∈ v.l) {a q : Nat} (hl : a + q * dep v ≤ 1000) : a + q + q * dep x ≤ 1000 := by
  have h1 := dep_part hk h
  have h2 : q * (dep x + 1) ≤ q * dep v := Nat.mul_le_mul_left _ h1
  rw [Nat.mul_add, Nat.mul_one] at h2
  omega
theorem cat_bytes (a b : ByteArray) : (a ++ b).data.toList = a.data.toList ++ b.data.toList := by rw [ByteArray.data_append, Array.toList_append]
/-- Behind the row of two pieces. -/
theorem two_at {w0 : World} {b : Nat} {x y z : ByteArray} {acc : List UInt8} (s t : ByteArray) (W : World) (g : Nat) (hg : g = W.heap.size) (h : Ws w0 b x y z acc W) (hlen : acc.length + s.size + t.size ≤ 100000000) :
    Calls Tryz.prog 27 #[.pointer (some ⟨b, 0, none⟩), .slice (some ⟨g, 0, none⟩) 2 2] (W.alloc (.cells #[.string s, .string t] 9)) fun e w' => e = .returned (.tuple #[]) ∧ Ws w0 b x y z (acc ++ (s.data.toList ++ t.data.toList)) w' ∧ Kp b W w' := by
  subst hg
  exact two_any s t h hlen
theorem one_at {w0 : World} {b : Nat} {x y z : ByteArray} {acc : List UInt8} (s : ByteArray) (W : World) (g : Nat) (hg : g = W.heap.size) (h : Ws w0 b x y z acc W) (hlen : acc.length + s.size ≤ 100000000) :
    Calls Tryz.prog 27 #[.pointer (some ⟨b, 0, none⟩), .slice (some ⟨g, 0, none⟩) 1 1] (W.alloc (.cells #[.string s] 9)) fun e w' => e = .returned (.tuple #[]) ∧ Ws w0 b x y z (acc ++ s.data.toList) w' ∧ Kp b W w' := by
  subst hg
  exact one_any s h hlen
set_option maxRecDepth 100000 in
set_option maxHeartbeats 2000000 in
theorem items_list (w0 : World) (n : Int) (s : ByteArray) (l : List Vt) (ns : List ByteArray) (hok : okV (.mk 4 n s l ns)) (ih : ∀ u ∈ l, PV w0 u) : PI w0 (.mk 4 n s l ns) := by
  intro b x y z ln acc cs W h
  obtain ⟨hws, hinv, hroom, hsm, hln⟩ := h
  have hlt := hws.lt
  obtain ⟨a, cap, c4, hcs, hit, _⟩ := (InV_iff w0 _ cs).1 hinv
  replace hcs : cs = [.int .i64 4, .int .i64 n, .string s, .slice a l.length cap, c4] := hcs
  subst hcs
  have hmx : l.length ≤ 9223372036854775807 := by have := hok.2.2.2.1; have h2 : (Vt.mk 4 n s l ns).l = l := rfl; rw [h2] at this; omega
  have hsmp := fun u (hu : u ∈ l) => Nat.le_trans (wg_part (v := .mk 4 n s l ns) hu) hsm
  have hlnp := fun u (hu : u ∈ l) => line_part (v := .mk 4 n s l ns) (.inl rfl) hu hln
  have hN0 : ln.size + y.size ≤ 1000 ∨ l = [] := by
    cases l with
    | nil => exact .inr rfl
    | cons u l => have := hlnp u List.mem_cons_self; exact .inl (by omega)
  have HIT := Lib.hid (show ∀ j, j < l.length → ∃ b off, a = some ⟨b, off, none⟩ ∧ ∃ ds, w0.rangeAt b (off + 5 * j) ds ∧ InV w0 (l.getD j V0) ds from hit)
  have hinn : inn y.data.toList z.data.toList (.mk 4 n s l ns) ln.data.toList = tl y.data.toList z.data.toList l false ns [] (ln.data.toList ++ y.data.toList) ++ (if l.isEmpty then [] else ln.data.toList) := rfl
  have B0 : Below W.heap.size W (W.alloc (.cells #[.int .i64 4, .int .i64 n, .string s, .slice a l.length cap, c4] 25)) := (Below.refl _ _).alloc (Nat.le_refl _) _
  have ws1 := hws.next B0
  have bx1 : Box (W.alloc (.cells #[.int .i64 4, .int .i64 n, .string s, .slice a l.length cap, c4] 25)) W.heap.size _ := box_new _ _
  have KB0 : Kp b W (W.alloc (.cells #[.int .i64 4, .int .i64 n, .string s, .slice a l.length cap, c4] 25)) := Kp.below B0
  clear hit hinv hok hws hln hsm
  by_cases h0 : l = []
  · have hin : inn y.data.toList z.data.toList (.mk 4 n s l ns) ln.data.toList = [] := by rw [hinn, h0, tl]; rfl
    rw [hin, List.append_nil]
    have hl0 : ((l.length : Int) == 0) = true := by rw [h0]; rfl
    clear hinn hin hroom HIT hN0 hsmp hlnp h0
    go_enter Tryz.func41, Tryz.ntmps41
    go_wp2_with fail
    refine bodyPost_ret (results_none rfl _ _ _) rfl ?_
    exact ⟨rfl, ws1, KB0⟩
  · have hpos := List.length_pos_iff.2 h0
    have hle : l.isEmpty = false := by simpa using h0
    rw [hle, if_neg (by decide)] at hinn
    rw [hinn] at hroom ⊢
    have hN1 : ln.size + y.size ≤ 1000 := by rcases hN0 with h | h; exact h; exact absurd h h0
    have hl0 : ((l.length : Int) == 0) = false := by rw [beq_eq_false_iff_ne]; omega
    have hst := ws1.wr.open_.2.2.2.1
    have hNl := cat_bytes ln y
    have hNs : (ln ++ y).size = ln.size + y.size := ByteArray.size_append
    obtain ⟨T, hT⟩ : ∃ T, T = tl y.data.toList z.data.toList l false ns [] (ln.data.toList ++ y.data.toList) := ⟨_, rfl⟩
    rw [← hT] at hroom ⊢
    rw [List.length_append] at hroom
    rw [← hNl] at hT
    have HT := Lib.hid hT
    have HIH := Lib.hid ih
    have HSM := Lib.hid hsmp
    have HLN := Lib.hid hlnp
    have hll : ln.data.toList.length = ln.size := by simp
    clear hinn hT ih hsmp hlnp hle hN0 hNl
    go_enter Tryz.func41, Tryz.ntmps41
    go_wp2_with fail
    have hGb : W.heap.size ≠ b := by omega
    clear hlt hst B0
    generalize W.alloc (.cells #[.int .i64 4, .int .i64 n, .string s, .slice a l.length cap, c4] 25) = W1 at *
    generalize W.heap.size = G at *
    obtain ⟨N, hNN⟩ : ∃ N, N = ln ++ y := ⟨_, rfl⟩
    rw [← hNN] at HT hNs ⊢
    have HNN := Lib.hid hNN
    have hNl : N.data.toList.length = N.size := by simp
    clear hNN
    go_loopw [7, 24] (fun c i wr => ∃ (j : Nat) (C : ByteArray) (P : List UInt8), c = .string C ∧ i = .int .i64 (j : Int) ∧ j ≤ l.length ∧ C.size ≤ 1 ∧ Ws w0 b x y z (acc ++ P) wr ∧ Kp b W1 wr ∧ Hid (T = P ++ tl y.data.toList z.data.toList (l.drop j) false (ns.drop j) C.data.toList N.data.toList))
      (fun _ i _ => l.length - (RowKit.intOf i).toNat)
    case atStart => exact ⟨0, ⟨#[]⟩, [], rfl, by go_num, Nat.zero_le _, by decide, by simpa using ws1, OthersKept.refl _ _ _, Lib.hid HT.out⟩
    case round =>
      obtain ⟨j, C, P, rfl, rfl, hj, hC, hw, hk, hP⟩ := hrel
      have bxG := box_kept bx1 hGb hk
      have hwb := hw.lt
      by_cases hlt : j < l.length
      · obtain ⟨bb, off, rfl, ds, hrg, hin⟩ := HIT.out j hlt
        have hrg2 := range_next hrg hw.bel
        rw [Nat.mul_comm 5 j] at hrg2
        have h5 := InV_five hin
        have h5' := size_toArray ds h5
        have h1 := InS_one hin
        have hP2 := hP.out
        rw [drop_step _ _ _ _ _ _ _ j hlt] at hP2
        have hrm : acc.length + P.length + C.data.toList.length + N.data.toList.length + (tv y.data.toList z.data.toList (l.getD j V0) N.data.toList).length ≤ 100000000 := by
          have := congrArg List.length hP2
          simp only [List.length_append] at this
          omega
        have hCl : C.data.toList.length = C.size := by simp
        have HV : Hid (∀ W', Ws w0 b x y z (acc ++ P ++ (C.data.toList ++ N.data.toList)) W' → Calls Tryz.prog 26 #[.pointer (some ⟨b, 0, none⟩), .agg ds.toArray, .string N] W' fun e w' => e = .returned (.tuple #[]) ∧ Ws w0 b x y z (acc ++ P ++ (C.data.toList ++ N.data.toList) ++ tv y.data.toList z.data.toList (l.getD j V0) N.data.toList) w' ∧ Kp b W' w') :=
          Lib.hid fun W' h => HIH.out _ (mem_get hlt) b x y z N _ ds W' ⟨h, hin, by simp only [List.length_append]; omega, HSM.out _ (mem_get hlt), by have := HLN.out _ (mem_get hlt); omega⟩
        have HA := Lib.hid (fun W' g (hg : g = W'.heap.size) (h : Ws w0 b x y z (acc ++ P) W') => two_at C N W' g hg h (by rw [List.length_append]; omega))
        have HP2 := Lib.hid hP2
        clear hP hP2 hrg hin HIT
        go_wp2_with (first
          | (refine wpList_take _ rfl _ rfl bb (off + j * 5) ds rfl hrg2 h5 ?_)
          | (refine wpList_keep _ rfl _ _ rfl wr.heap.size wr ((Below.refl _ wr).alloc (Nat.le_refl _) _) wr.heap.size (Nat.le_refl _) ds.toArray _ rfl rfl (box_new _ _) rfl h5' (by simpa using h1) ?_; intro w2 bx2 hb2 _ hs2; clear hs2; have ws2 := hw.next hb2)
          | (go_at_call 27; (with_reducible refine (HA.out _ _ rfl ws2).mono ?_); rintro e w3 ⟨rfl, h3, k3⟩; have bx3 := box_kept bx2 (by omega) k3; have y0 := Box.cell (box_kept (box_kept bxG hGb (Kp.below hb2)) hGb k3) 0; simp at y0)
          | (refine wpList_fetch _ rfl _ rfl wr.heap.size ds.toArray rfl bx3 h5' ?_)
          | (go_at_call 26; (with_reducible refine (HV.out _ h3).mono ?_); rintro e w4 ⟨rfl, h4, k4⟩))
        go_roundw
        case rel => exact ⟨j + 1, ⟨#[44]⟩, P ++ (C.data.toList ++ N.data.toList ++ tv y.data.toList z.data.toList (l.getD j V0) N.data.toList), rfl, by go_num, by omega, by decide, by simpa using h4, hk.trans ((Kp.below hb2).trans (k3.trans k4)), Lib.hid (by rw [HP2.out]; simp [nmT])⟩
        case measure => simp [RowKit.intOf]; omega
      · obtain rfl : j = l.length := by omega
        have hP2 := hP.out
        rw [drop_none, List.append_nil] at hP2
        subst hP2
        have HA := Lib.hid (fun W' g (hg : g = W'.heap.size) (h : Ws w0 b x y z (acc ++ T) W') => one_at ln W' g hg h (by rw [List.length_append]; omega))
        clear hP HIT
        go_wp2_with (go_at_call 27; (with_reducible refine (HA.out _ _ rfl hw).mono ?_); rintro e w3 ⟨rfl, h3, k3⟩)
        go_end0
        exact ⟨rfl, by simpa using h3, KB0.trans (hk.trans k3)⟩
end Go.Proofs.YtbpofhlnnldceaaGreatDoor.Ren
