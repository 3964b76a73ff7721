/- Contracts of the writer's putValue and putItems. Conditions: the two tables of unicode/utf8 and the table of powers are as the library's text lays them; as each theorem states. -/
import Derived.Test.YtbpofhlnnldceaaDoorRenA
import Derived.Test.YtbpofhlnnldceaaDoorRenN
import Derived.Test.YtbpofhlnnldceaaDoorTreG1
namespace Go.Proofs.YtbpofhlnnldceaaDoor.Ren
open Go.RowKit Go.Lib Go.Proofs.YtbpofhlnnldceaaDoor.Byt Go.Proofs.YtbpofhlnnldceaaDoor.Utf Go.Proofs.YtbpofhlnnldceaaDoor.Quo
open Go.Proofs.YtbpofhlnnldceaaDoor.Lx (nL2 sL dcL dcF bl)
open Go.Proofs.YtbpofhlnnldceaaDoor.Tre (Vt V0 wi wiL hdB textB nmB noneB scal dep depL cnt OkT okV InV InV_iff InV_next InV_five InS_one Box Box.lt Box.cell box_new wpList_take wpList_keep wpList_fetch range_next size_toArray mem_get)

/-- What a list or an object has between its brackets. -/
def inn (st co : List UInt8) (v : Vt) (ln : List UInt8) : List UInt8 := tl st co v.l (decide (v.k = 5)) v.ns [] (ln ++ st) ++ (if v.l.isEmpty then [] else ln)
theorem box_kept {W W' : World} {g b : Nat} {cs : Array Value} (h : Box W g cs) (hg : g ≠ b) (k : Kp b W W') : Box W' g cs :=
  k g _ h (fun e => hg (Option.some.inj e)) fun c fz e => by
    injection e with _ e2 _
    exact absurd e2 (by decide)
/-- What the writer's calls ask: the tables, a value that was there ahead of the writer, and room. -/
structure Ok (w0 : World) (b : Nat) (x y z : ByteArray) (v : Vt) (ln : ByteArray) (cs : List Value) (acc : List UInt8) (t : List UInt8) (W : World) : Prop where
  ws : Ws w0 b x y z acc W
  inv : InV w0 v cs
  room : acc.length + t.length ≤ 100000000
  small : wg v ≤ 8000000
  line : ln.size + y.size * dep v ≤ 1000
/-- The environment: what lay there ahead of the writer. -/
structure En (w0 : World) : Prop where
  tabs : Tabs w0
  pow : Pw w0
def PV (w0 : World) (v : Vt) : Prop := ∀ (b : Nat) (x y z ln : ByteArray) (acc : List UInt8) (cs : List Value) (W : World), Ok w0 b x y z v ln cs acc (tv y.data.toList z.data.toList v ln.data.toList) W →
  Calls Tryd.prog 18 #[.pointer (some ⟨b, 0, none⟩), .agg cs.toArray, .string ln] W fun e w' => e = .returned (.tuple #[]) ∧ Ws w0 b x y z (acc ++ tv y.data.toList z.data.toList v ln.data.toList) w' ∧ Kp b W w'
def PI (w0 : World) (v : Vt) : Prop := ∀ (b : Nat) (x y z ln : ByteArray) (acc : List UInt8) (cs : List Value) (W : World), Ok w0 b x y z v ln cs acc (inn y.data.toList z.data.toList v ln.data.toList) W →
  Calls Tryd.prog 31 #[.pointer (some ⟨b, 0, none⟩), .agg cs.toArray, .string ln] W fun e w' => e = .returned (.tuple #[]) ∧ Ws w0 b x y z (acc ++ inn y.data.toList z.data.toList v ln.data.toList) w' ∧ Kp b W w'
/-- One piece of text. -/
theorem one_any {w0 : World} {b : Nat} {x y z : ByteArray} {acc : List UInt8} (s : ByteArray) {W : World} (h : Ws w0 b x y z acc W) (hlen : acc.length + s.size ≤ 100000000) :
    Calls Tryd.prog 19 #[.pointer (some ⟨b, 0, none⟩), .slice (some ⟨W.heap.size, 0, none⟩) 1 1] (W.alloc (.cells #[.string s] 9)) fun e w' => e = .returned (.tuple #[]) ∧ Ws w0 b x y z (acc ++ s.data.toList) w' ∧ Kp b W w' := by
  have hc : cat [s] = s.data.toList := by simp [cat]
  have hl : s.data.toList.length = s.size := by simp
  have hlt := h.lt
  have := add_any w0 b x y z acc [s] W.heap.size (W.alloc (.cells #[.string s] 9)) (h.alloc _) (heap_alloc_new _ _) (by omega) (by rw [hc, hl]; omega) (by simp)
  rw [hc] at this
  refine this.mono ?_
  rintro e w' ⟨h1, h2, h3⟩
  exact ⟨h1, h2, (Kp.below ((Below.refl _ _).alloc (Nat.le_refl _) _)).trans h3⟩
theorem two_any {w0 : World} {b : Nat} {x y z : ByteArray} {acc : List UInt8} (s t : ByteArray) {W : World} (h : Ws w0 b x y z acc W) (hlen : acc.length + s.size + t.size ≤ 100000000) :
    Calls Tryd.prog 19 #[.pointer (some ⟨b, 0, none⟩), .slice (some ⟨W.heap.size, 0, none⟩) 2 2] (W.alloc (.cells #[.string s, .string t] 9)) fun e w' => e = .returned (.tuple #[]) ∧ Ws w0 b x y z (acc ++ (s.data.toList ++ t.data.toList)) w' ∧ Kp b W w' := by
  have hc : cat [s, t] = s.data.toList ++ t.data.toList := by simp [cat]
  have hl : s.data.toList.length = s.size := by simp
  have hl2 : t.data.toList.length = t.size := by simp
  have hlt := h.lt
  have := add_any w0 b x y z acc [s, t] W.heap.size (W.alloc (.cells #[.string s, .string t] 9)) (h.alloc _) (heap_alloc_new _ _) (by omega) (by rw [hc, List.length_append, hl, hl2]; omega) (by simp)
  rw [hc] at this
  refine this.mono ?_
  rintro e w' ⟨h1, h2, h3⟩
  exact ⟨h1, h2, (Kp.below ((Below.refl _ _).alloc (Nat.le_refl _) _)).trans h3⟩

theorem one_list {w0 : World} {b : Nat} {x y z : ByteArray} {acc : List UInt8} (l : List UInt8) (W : World) (g : Nat) (hg : g = W.heap.size) (h : Ws w0 b x y z acc W) (hlen : acc.length + l.length ≤ 100000000) :
    Calls Tryd.prog 19 #[.pointer (some ⟨b, 0, none⟩), .slice (some ⟨g, 0, none⟩) 1 1] (W.alloc (.cells #[.string ⟨l.toArray⟩] 9)) fun e w' => e = .returned (.tuple #[]) ∧ Ws w0 b x y z (acc ++ l) w' ∧ Kp b W w' := by
  subst hg
  have := one_any ⟨l.toArray⟩ h (by show acc.length + l.toArray.size ≤ _; simpa using hlen)
  simpa using this

set_option maxRecDepth 100000 in
set_option maxHeartbeats 2000000 in
theorem value_any (w0 : World) (hE : En w0) (v : Vt) (hok : okV v) (m : Int) (hw : wi v m = true) (hPI : v.k = 4 ∨ v.k = 5 → PI w0 v) : PV w0 v := by
  intro b x y z ln acc cs W h
  obtain ⟨hws, hinv, hroom, hsm, hln⟩ := h
  have hlt := hws.lt
  have HI := Lib.hid hinv
  cases v with
  | mk k n s l ns =>
    obtain ⟨a, cap, c4, hcs, _, _⟩ := (InV_iff w0 _ cs).1 hinv
    replace hcs : cs = [.int .i64 k, .int .i64 n, .string s, .slice a l.length cap, c4] := hcs
    subst hcs
    clear hinv
    have hd : hdB k n s l ns m = true := by
      rw [wi, Bool.and_eq_true] at hw
      exact hw.1
    have hnb : -9223372036854775808 ≤ n ∧ n ≤ 9223372036854775807 := hok.2.1
    have hsz : s.size ≤ 8000000 := by rw [wg] at hsm; omega
    have B0 : Below W.heap.size W (W.alloc (.cells #[.int .i64 k, .int .i64 n, .string s, .slice a l.length cap, c4] 25)) := (Below.refl _ _).alloc (Nat.le_refl _) _
    have ws1 := hws.next B0
    have bx1 : Box (W.alloc (.cells #[.int .i64 k, .int .i64 n, .string s, .slice a l.length cap, c4] 25)) W.heap.size _ := box_new _ _
    have KB0 : Kp b W (W.alloc (.cells #[.int .i64 k, .int .i64 n, .string s, .slice a l.length cap, c4] 25)) := Kp.below B0
    have HA := Lib.hid fun (acc' L : List UInt8) (W' : World) (g : Nat) (hg : g = W'.heap.size) (h' : Ws w0 b x y z acc' W') (hl : acc'.length + L.length ≤ 100000000) => one_list L W' g hg h' hl
    unfold hdB at hd
    rw [tv] at hroom ⊢
    clear hw hok hws B0
    by_cases h0 : k = 0
    · rw [if_pos h0] at hroom ⊢
      subst h0
      clear hd hPI HI
      go_enter Tryd.func18, Tryd.ntmps18
      go_wp2_with (go_at_call 19; (with_reducible refine (HA.out acc [110, 117, 108, 108] _ _ (by simp) ws1 hroom).mono ?_); rintro e w2 ⟨rfl, h2, k2⟩)
      go_end0
      exact ⟨rfl, h2, KB0.trans k2⟩
    rw [if_neg h0] at hroom hd ⊢
    have e0 : (k == 0) = false := by rw [beq_eq_false_iff_ne]; exact h0
    by_cases h1 : k = 1
    · rw [if_pos h1] at hroom hd ⊢
      have hn : n = 0 ∨ n = 1 := by
        simp only [Bool.and_eq_true, decide_eq_true_eq] at hd
        exact hd.1.1
      have HB0 : Hid (∀ W, Calls Tryd.prog 28 #[.bool false] W fun e w' => e = .returned (.string ⟨#[102, 97, 108, 115, 101]⟩) ∧ w' = W) := Lib.hid (bool_any false)
      have HB1 : Hid (∀ W, Calls Tryd.prog 28 #[.bool true] W fun e w' => e = .returned (.string ⟨#[116, 114, 117, 101]⟩) ∧ w' = W) := Lib.hid (bool_any true)
      subst h1
      clear hd hPI HI h0 hnb
      rcases hn with rfl | rfl
      · rw [if_neg (by decide)] at hroom ⊢
        go_enter Tryd.func18, Tryd.ntmps18
        go_wp2_with (first
          | (go_at_call 28; (with_reducible refine (HB0.out _).mono ?_); rintro e w2 ⟨rfl, rfl⟩)
          | (go_at_call 19; (with_reducible refine (HA.out acc [102, 97, 108, 115, 101] _ _ (by simp) ws1 hroom).mono ?_); rintro e w2 ⟨rfl, h2, k2⟩))
        go_end0
        exact ⟨rfl, h2, KB0.trans k2⟩
      · rw [if_pos rfl] at hroom ⊢
        go_enter Tryd.func18, Tryd.ntmps18
        go_wp2_with (first
          | (go_at_call 28; (with_reducible refine (HB1.out _).mono ?_); rintro e w2 ⟨rfl, rfl⟩)
          | (go_at_call 19; (with_reducible refine (HA.out acc [116, 114, 117, 101] _ _ (by simp) ws1 hroom).mono ?_); rintro e w2 ⟨rfl, h2, k2⟩))
        go_end0
        exact ⟨rfl, h2, KB0.trans k2⟩
    rw [if_neg h1] at hroom hd ⊢
    have e1 : (k == 1) = false := by rw [beq_eq_false_iff_ne]; exact h1
    by_cases h2 : k = 2
    · rw [if_pos h2] at hroom hd ⊢
      subst h2
      have HF := Lib.hid (fun W' (hP : Pw W') => format_any n hnb.1 hnb.2 W' hP)
      have P1 := hE.pow.next ws1.bel
      clear hd hPI HI h0 h1 e0 e1
      generalize nL2 n = L at *
      go_enter Tryd.func18, Tryd.ntmps18
      go_wp2_with (first
        | (go_at_call 29; (with_reducible refine (HF.out _ P1).mono ?_); rintro e w2 ⟨rfl, hb2⟩; have ws2 := ws1.next hb2; have KB2 := KB0.trans (Kp.below hb2))
        | (go_at_call 19; (with_reducible refine (HA.out acc L _ _ (by simp) ws2 hroom).mono ?_); rintro e w3 ⟨rfl, h3, k3⟩))
      go_end0
      exact ⟨rfl, h3, KB2.trans k3⟩
    rw [if_neg h2] at hroom hd ⊢
    have e2 : (k == 2) = false := by rw [beq_eq_false_iff_ne]; exact h2
    by_cases h3 : k = 3
    · rw [if_pos h3] at hroom hd ⊢
      have ht : textB s = true := by
        simp only [Bool.and_eq_true] at hd
        exact hd.1.2
      subst h3
      have HF := Lib.hid (fun W' (hP : Tabs W') => quoted_any s W' hP hsz ht)
      have P1 := hE.tabs.next ws1.bel
      clear hd hPI HI h0 h1 h2 e0 e1 e2
      generalize qQ s.data.toList = L at *
      go_enter Tryd.func18, Tryd.ntmps18
      go_wp2_with (first
        | (go_at_call 30; (with_reducible refine (HF.out _ P1).mono ?_); rintro e w2 ⟨rfl, hb2⟩; have ws2 := ws1.next hb2; have KB2 := KB0.trans (Kp.below hb2))
        | (go_at_call 19; (with_reducible refine (HA.out acc L _ _ (by simp) ws2 hroom).mono ?_); rintro e w3 ⟨rfl, h3, k3⟩))
      go_end0
      exact ⟨rfl, h3, KB2.trans k3⟩
    rw [if_neg h3] at hroom hd ⊢
    have e3 : (k == 3) = false := by rw [beq_eq_false_iff_ne]; exact h3
    have hgb : W.heap.size ≠ b := by omega
    by_cases h4 : k = 4
    · rw [if_pos h4] at hroom ⊢
      subst h4
      have hi : inn y.data.toList z.data.toList (.mk 4 n s l ns) ln.data.toList = tl y.data.toList z.data.toList l false ns [] (ln.data.toList ++ y.data.toList) ++ (if l.isEmpty then [] else ln.data.toList) := rfl
      rw [← hi] at hroom ⊢
      have hpi := hPI (.inl rfl) b x y z ln (acc ++ [91]) [.int .i64 4, .int .i64 n, .string s, .slice a l.length cap, c4]
      clear hPI hi hd
      generalize inn y.data.toList z.data.toList (.mk 4 n s l ns) ln.data.toList = I at *
      have hr2 : acc.length + I.length + 2 ≤ 100000000 := by simp at hroom; omega
      have HP := Lib.hid (fun W' (h : Ws w0 b x y z (acc ++ [91]) W') => hpi W' ⟨h, HI.out, by rw [List.length_append, List.length_singleton]; omega, hsm, hln⟩)
      clear hpi HI hroom h0 h1 h2 h3
      go_enter Tryd.func18, Tryd.ntmps18
      go_wp2_with (first
        | (go_at_call 31; (with_reducible refine (HP.out _ h2).mono ?_); rintro e w3 ⟨rfl, h3, k3⟩; have KB3 := KB2.trans k3)
        | (refine wpList_fetch _ rfl _ rfl W.heap.size _ rfl bx2 rfl ?_)
        | (go_at_call 19; (with_reducible refine (HA.out acc [91] _ _ (by simp) ws1 (by rw [List.length_singleton]; omega)).mono ?_); rintro e w2 ⟨rfl, h2, k2⟩; have bx2 := box_kept bx1 hgb k2; have KB2 := KB0.trans k2)
        | (go_at_call 19; (with_reducible refine (HA.out (acc ++ [91] ++ I) [93] _ _ (by simp) h3 (by simp; omega)).mono ?_); rintro e w4 ⟨rfl, h4, k4⟩))
      go_end0
      exact ⟨rfl, by simpa using h4, KB3.trans k4⟩
    rw [if_neg h4] at hroom hd ⊢
    have e4 : (k == 4) = false := by rw [beq_eq_false_iff_ne]; exact h4
    by_cases h5 : k = 5
    · rw [if_pos h5] at hroom ⊢
      subst h5
      have hi : inn y.data.toList z.data.toList (.mk 5 n s l ns) ln.data.toList = tl y.data.toList z.data.toList l true ns [] (ln.data.toList ++ y.data.toList) ++ (if l.isEmpty then [] else ln.data.toList) := rfl
      rw [← hi] at hroom ⊢
      have hpi := hPI (.inr rfl) b x y z ln (acc ++ [123]) [.int .i64 5, .int .i64 n, .string s, .slice a l.length cap, c4]
      clear hPI hi hd
      generalize inn y.data.toList z.data.toList (.mk 5 n s l ns) ln.data.toList = I at *
      have hr2 : acc.length + I.length + 2 ≤ 100000000 := by simp at hroom; omega
      have HP := Lib.hid (fun W' (h : Ws w0 b x y z (acc ++ [123]) W') => hpi W' ⟨h, HI.out, by rw [List.length_append, List.length_singleton]; omega, hsm, hln⟩)
      clear hpi HI hroom h0 h1 h2 h3 h4
      go_enter Tryd.func18, Tryd.ntmps18
      go_wp2_with (first
        | (go_at_call 31; (with_reducible refine (HP.out _ h2).mono ?_); rintro e w3 ⟨rfl, h3, k3⟩; have KB3 := KB2.trans k3)
        | (refine wpList_fetch _ rfl _ rfl W.heap.size _ rfl bx2 rfl ?_)
        | (go_at_call 19; (with_reducible refine (HA.out acc [123] _ _ (by simp) ws1 (by rw [List.length_singleton]; omega)).mono ?_); rintro e w2 ⟨rfl, h2, k2⟩; have bx2 := box_kept bx1 hgb k2; have KB2 := KB0.trans k2)
        | (go_at_call 19; (with_reducible refine (HA.out (acc ++ [123] ++ I) [125] _ _ (by simp) h3 (by simp; omega)).mono ?_); rintro e w4 ⟨rfl, h4, k4⟩))
      go_end0
      exact ⟨rfl, by simpa using h4, KB3.trans k4⟩
    rw [if_neg h5] at hd
    cases hd
end Go.Proofs.YtbpofhlnnldceaaDoor.Ren
