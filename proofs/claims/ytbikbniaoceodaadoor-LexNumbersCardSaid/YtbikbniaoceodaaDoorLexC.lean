/- Contracts of takeText and Next. Conditions: the tables of unicode/utf8 and the errors of strconv (what the row lists); as each theorem states. -/
import Derived.Test.YtbikbniaoceodaaDoorLexB
import Derived.Test.YtbikbniaoceodaaDoorQuoD
namespace Go.Proofs.YtbikbniaoceodaaDoor.Lx
open Go.RowKit Go.Lib Go.Proofs.YtbikbniaoceodaaDoor.Byt Go.Proofs.YtbikbniaoceodaaDoor.Quo

/-- What the listed variables give. -/
structure Env (w : World) : Prop where
  tabs : Utf.Tabs w
  syn : Syn w
  rng : Rng w
theorem Env.next {w w' : World} (h : Env w) (hb : Below w.heap.size w w') : Env w' := ⟨h.tabs.next hb, h.syn.next hb, h.rng.next hb⟩

theorem sh_sh (a b : Nat) (t : Tk) : (t.sh b).sh a = t.sh (a + b) := by unfold Tk.sh; simp only; rw [Nat.add_assoc]
theorem nR_good (i : Nat) (t : Tk) : nR (atR i (0, t)) = .tuple #[.agg #[.int .i64 (t.k : Int), .int .i64 ((i + t.o : Nat) : Int), .int .i64 (t.z : Int), .string ⟨t.v.toArray⟩, .int .i64 t.n], .int .i64 0] := rfl
theorem nR_bad (i e o : Nat) : nR (atR i (e, bad o)) = .tuple #[.agg #[.int .i64 0, .int .i64 ((i + o : Nat) : Int), .int .i64 0, .string ⟨#[]⟩, .int .i64 0], .int .i64 (e : Int)] := rfl

set_option maxRecDepth 100000 in
theorem takeText_any (s : ByteArray) (i : Nat) (x : Int) (hx : x = (i : Int)) (hi : i < s.size) (hs : s.size ≤ 1000000) (hc : by8 s i = 34) (w : World) (hE : Env w) :
    Calls Tryd.prog 15 #[.string s, .int .i64 x] w fun e w' => e = .returned (nR (atR i (txt (sf s i)))) ∧ Below w.heap.size w w' := by
  subst hx
  have ht : tQ s (i : Int) = fin [] (i + 1) (tkQ ((sf s i).drop 1)) := by
    unfold tQ
    have hb : Utf.bt s i = 34 := hc
    rw [Int.toNat_natCast, if_pos ⟨by omega, by omega, hb⟩, sf_drop]
    rfl
  have HQ := fun w hS hT => qtake_any s (i : Int) w hS hT hs
  rw [ht] at HQ
  have hS := hE.syn
  have hT := hE.tabs
  unfold txt
  have hin := (tkQ_in ((sf s i).drop 1)).1
  rw [sf_drop, sf_len, ← sf_drop] at hin
  generalize tkQ ((sf s i).drop 1) = R at *
  obtain ⟨e, n, v⟩ := R
  unfold rT fin at HQ
  simp only at HQ ⊢
  by_cases he : e = 0
  · subst he
    rw [if_pos rfl, List.nil_append] at HQ
    rw [if_pos rfl, nR_good]
    have hz : ((n + 1 : Nat) : Int) = ((i + 1 + n : Nat) : Int) - (i : Int) := by omega
    simp only
    rw [hz]
    have H := Lib.hid HQ
    clear HQ ht hz
    generalize (⟨v.toArray⟩ : ByteArray) = V at *
    have hlo : (i : Int) ≤ ((i + 1 + n : Nat) : Int) := by omega
    have hhi : i + 1 + n ≤ s.size := by simp only at hin; omega
    generalize hO : i + 1 + n = O at *
    clear hO hin
    go_enter Tryd.func15, Tryd.ntmps15
    go_wp2_with fail
    refine (H.out _ (hS.next ((Below.refl _ _).alloc (Nat.le_refl _) _)) (hT.next ((Below.refl _ _).alloc (Nat.le_refl _) _))).mono ?_
    rintro e w1 ⟨rfl, hb1⟩
    have hb0 : Below w.heap.size w w1 := ((Below.refl _ _).alloc (Nat.le_refl _) _).trans (hb1.mono (by simp))
    have hk4 : Box w1 w.heap.size _ := (box_new w _).next hb1 (by simp)
    clear hb1
    go_wp2_with (refine wpList_keep _ rfl _ _ rfl w.heap.size w hb0 w.heap.size (Nat.le_refl _) _ _ _ _ _ _ rfl rfl hk4 rfl ?_; intro w2 hk5 hb5 _)
    try simp only [Exit.inBlock, Exit.then]
    refine bodyPost_ret (results_tok rfl _ _ _ _ rfl hk5 rfl) rfl ?_
    exact ⟨rfl, hb5⟩
  · rw [if_neg he] at HQ
    rw [if_neg he, nR_bad, show i + (n + 1) = i + 1 + n by omega]
    have he2 : ((e : Int) != 0) = true := by rw [bne_iff_ne]; omega
    have H := Lib.hid HQ
    clear HQ ht he
    generalize hO : i + 1 + n = O at *
    clear hO
    go_enter Tryd.func15, Tryd.ntmps15
    go_wp2_with fail
    refine (H.out _ (hS.next ((Below.refl _ _).alloc (Nat.le_refl _) _)) (hT.next ((Below.refl _ _).alloc (Nat.le_refl _) _))).mono ?_
    rintro e w1 ⟨rfl, hb1⟩
    have hb0 : Below w.heap.size w w1 := ((Below.refl _ _).alloc (Nat.le_refl _) _).trans (hb1.mono (by simp))
    have hk4 : Box w1 w.heap.size _ := (box_new w _).next hb1 (by simp)
    clear hb1
    go_wp2_with (refine wpList_keep _ rfl _ _ rfl w.heap.size w hb0 w.heap.size (Nat.le_refl _) _ _ _ _ _ _ rfl rfl hk4 rfl ?_; intro w2 hk5 hb5 _)
    try simp only [Exit.inBlock, Exit.then]
    refine bodyPost_ret (results_tok rfl _ _ _ _ rfl hk5 rfl) rfl ?_
    exact ⟨rfl, hb5⟩

/-! ### Next -/
def sgI (c : Nat) : Int := (sg c : Int) - 1
theorem sign_dig : ∀ n : Fin 256, Lib.indexByte [123, 125, 91, 93, 58, 44] (UInt8.ofNat n.val) = sgI n.val := by decide +kernel
theorem sign_find (c : Nat) (hc : c < 256) (w : World) :
    Calls Tryd.prog 14 #[.string ⟨#[123, 125, 91, 93, 58, 44]⟩, .int .u8 (c : Int)] w fun e w' => e = .returned (.int .i64 ((sg c : Int) - 1)) ∧ w = w' :=
  (Tryd.strings_IndexByte _ _ w).mono fun e w' ⟨h1, h2⟩ => ⟨by
    rw [h1, Int.toNat_natCast]
    exact congrArg (fun x => Ending.returned (.int .i64 x)) (sign_dig ⟨c, hc⟩), h2.symm⟩
theorem nR_all (j : Nat) (r : Nat × Tk) : nR (atR j r) = .tuple #[.agg #[.int .i64 (r.2.k : Int), .int .i64 ((j + r.2.o : Nat) : Int), .int .i64 (r.2.z : Int), .string ⟨r.2.v.toArray⟩, .int .i64 r.2.n], .int .i64 (r.1 : Int)] := rfl
/-- The place where Next begins to look. -/
def cl (s : ByteArray) (a : Int) : Nat := (max (min a (s.size : Int)) 0).toNat
theorem cl_le (s : ByteArray) (a : Int) : cl s a ≤ s.size := by unfold cl; omega
theorem cl_in (s : ByteArray) (k : Nat) (h : k ≤ s.size) : cl s (k : Int) = k := by unfold cl; omega
/-- What Next hands back. -/
def nxA (s : ByteArray) (a : Int) : Nat × Tk := atR (cl s a) (nx (sf s (cl s a)))
theorem nxA_tok (s : ByteArray) (a : Int) : nxA s a = atR (cl s a + skp (sf s (cl s a))) (tok (sf s (cl s a + skp (sf s (cl s a))))) := by
  unfold nxA nx atR
  rw [sf_drop]
  simp only [sh_sh]
theorem tok_cases (s : ByteArray) (j : Nat) (h : j ≤ s.size) :
    (j = s.size ∧ tok (sf s j) = (0, bad 0)) ∨ (j < s.size ∧ 0 < sg (by8 s j) ∧ tok (sf s j) = (0, ⟨sg (by8 s j), 0, 1, [], 0⟩)) ∨
    (j < s.size ∧ sg (by8 s j) = 0 ∧ ((by8 s j = 34 ∧ tok (sf s j) = txt (sf s j)) ∨ (by8 s j ≠ 34 ∧ by8 s j = 45 ∧ tok (sf s j) = num (sf s j)) ∨
      (by8 s j ≠ 34 ∧ by8 s j ≠ 45 ∧ dg (by8 s j) = true ∧ tok (sf s j) = num (sf s j)) ∨ (by8 s j ≠ 34 ∧ by8 s j ≠ 45 ∧ dg (by8 s j) = false ∧ tok (sf s j) = wrd (sf s j)))) := by
  by_cases hj : j < s.size
  · right
    have hne : sf s j ≠ [] := fun e => by have := congrArg List.length e; rw [sf_len] at this; simp at this; omega
    unfold tok
    rw [if_neg hne, sf_hd]
    by_cases h1 : sg (by8 s j) = 0
    · right
      refine ⟨hj, h1, ?_⟩
      rw [if_neg (by omega)]
      by_cases h2 : by8 s j = 34
      · left; exact ⟨h2, if_pos h2⟩
      · right
        rw [if_neg h2]
        by_cases h3 : by8 s j = 45
        · left; exact ⟨h2, h3, if_pos (.inl h3)⟩
        · right
          cases h4 : dg (by8 s j) with
          | true => left; exact ⟨h2, h3, rfl, if_pos (.inr rfl)⟩
          | false => right; exact ⟨h2, h3, rfl, if_neg (by simp [h3])⟩
    · left
      exact ⟨hj, by omega, if_pos (by omega)⟩
  · left
    obtain rfl : j = s.size := by omega
    refine ⟨rfl, ?_⟩
    rw [sf_nil s _ (Nat.le_refl _)]; rfl

set_option maxRecDepth 100000 in
set_option maxHeartbeats 2000000 in
theorem next_any (s : ByteArray) (a : Int) (hs : s.size ≤ 1000000) (w : World) (hE : Env w) (hi : -9223372036854775808 ≤ a) (hi' : a ≤ 9223372036854775807) :
    Calls Tryd.prog 10 #[.string s, .int .i64 a] w fun e w' => e = .returned (nR (nxA s a)) ∧ Below w.heap.size w w' := by
  rw [nxA_tok]
  have hcl := cl_le s a
  have hcla : max (min a (s.size : Int)) 0 = (cl s a : Int) := by unfold cl; omega
  have HB := Lib.hid (fun w => skipBlanks_any s (cl s a) _ rfl hcl (by omega) w)
  have hj : cl s a + skp (sf s (cl s a)) ≤ s.size := by
    have := skp_le (sf s (cl s a))
    rw [sf_len] at this
    omega
  generalize hJ : cl s a + skp (sf s (cl s a)) = j at *
  clear hJ
  generalize cl s a = i at *
  have HE := Lib.hid hE
  have hEa : ∀ o, Env (w.alloc o) := fun o => hE.next ((Below.refl _ _).alloc (Nat.le_refl _) _)
  have HEa := Lib.hid hEa
  clear hE hEa
  rcases tok_cases s j hj with ⟨rfl, ht⟩ | ⟨hlt, hsg, ht⟩ | ⟨hlt, hsg, hrest⟩
  · rw [ht, nR_bad]
    clear ht
    go_enter Tryd.func10, Tryd.ntmps10
    go_wp2_with (go_at_call 13; refine (HB.out _).mono ?_; rintro e w1 ⟨rfl, rfl⟩)
    go_returns
    exact ⟨rfl, (Below.refl _ _).alloc (Nat.le_refl _) _⟩
  · rw [ht, nR_good]
    have hix := fun w => index_of s j (j : Int) rfl hlt w
    have hb := by8_lt s j
    have HS := Lib.hid (fun w => sign_find (by8 s j) hb w)
    have h6 := sg_le (by8 s j)
    clear ht
    generalize sg (by8 s j) = g at *
    generalize by8 s j = c at *
    go_enter Tryd.func10, Tryd.ntmps10
    go_wp2_with (first
      | (go_at_call 13; refine (HB.out _).mono ?_; rintro e w1 ⟨rfl, rfl⟩)
      | (go_at_call 14; refine (HS.out _).mono ?_; rintro e w1 ⟨rfl, rfl⟩))
    go_returns
    exact ⟨by simp only [Nat.add_zero]; congr 1 <;> congr <;> omega, (Below.refl _ _).alloc (Nat.le_refl _) _⟩
  · have hix := fun w => index_of s j (j : Int) rfl hlt w
    have hb := by8_lt s j
    have HS : Hid (∀ w, Calls Tryd.prog 14 #[.string ⟨#[123, 125, 91, 93, 58, 44]⟩, .int .u8 (by8 s j : Int)] w fun e w' => e = .returned (.int .i64 (-1)) ∧ w = w') := Lib.hid fun w => by
      have := sign_find (by8 s j) hb w
      rw [hsg] at this
      exact this
    have HD := Lib.hid (fun w => isDigit_any s j (j : Int) rfl w)
    clear hsg
    rcases hrest with ⟨h34, ht⟩ | ⟨h34, h45, ht⟩ | ⟨h34, h45, hd, ht⟩ | ⟨h34, h45, hd, ht⟩
    · have HT0 := fun w hE => takeText_any s j (j : Int) rfl hlt hs h34 w hE
      rw [ht, nR_all]
      rw [nR_all] at HT0
      have HT := Lib.hid HT0
      clear HT0 ht
      generalize (txt (sf s j)).1 = E at *
      generalize (txt (sf s j)).2.k = K at *
      generalize j + (txt (sf s j)).2.o = O at *
      generalize (txt (sf s j)).2.z = Z at *
      generalize (⟨(txt (sf s j)).2.v.toArray⟩ : ByteArray) = V at *
      generalize (txt (sf s j)).2.n = M at *
      rw [h34] at hix
      have HS2 : Hid (∀ w, Calls Tryd.prog 14 #[.string ⟨#[123, 125, 91, 93, 58, 44]⟩, .int .u8 34] w fun e w' => e = .returned (.int .i64 (-1)) ∧ w = w') := Lib.hid fun w => by
        have := HS.out w
        rw [h34] at this
        exact this
      clear HS
      have HS := HS2
      clear HS2
      clear h34 hb HD
      go_enter Tryd.func10, Tryd.ntmps10
      go_wp2_with (first
        | (go_at_call 13; (with_reducible refine (HB.out _).mono ?_); rintro e w1 ⟨rfl, rfl⟩)
        | (go_at_call 14; (with_reducible refine (HS.out _).mono ?_); rintro e w1 ⟨rfl, rfl⟩))
      refine (HT.out _ (HEa.out _)).mono ?_
      rintro e w1 ⟨rfl, hb1⟩
      have hb0 : Below w.heap.size w w1 := ((Below.refl _ _).alloc (Nat.le_refl _) _).trans (hb1.mono (by simp))
      have hk4 : Box w1 w.heap.size _ := (box_new w _).next hb1 (by simp)
      clear hb1
      go_wp2_with (refine wpList_keep _ rfl _ _ rfl w.heap.size w hb0 w.heap.size (Nat.le_refl _) _ _ _ _ _ _ rfl rfl hk4 rfl ?_; intro w2 hk5 hb5 _)
      try simp only [Exit.inBlock, Exit.then]
      refine bodyPost_ret (results_tok rfl _ _ _ _ rfl hk5 rfl) rfl ?_
      exact ⟨rfl, hb5⟩
    · have HT0 := fun w (hE : Env w) => takeNumber_any s j (j : Int) rfl hlt (by omega) (.inl h45) w hE.rng
      rw [ht, nR_all]
      rw [nR_all] at HT0
      have HT := Lib.hid HT0
      clear HT0 ht
      generalize (num (sf s j)).1 = E at *
      generalize (num (sf s j)).2.k = K at *
      generalize j + (num (sf s j)).2.o = O at *
      generalize (num (sf s j)).2.z = Z at *
      generalize (⟨(num (sf s j)).2.v.toArray⟩ : ByteArray) = V at *
      generalize (num (sf s j)).2.n = M at *
      rw [h45] at hix
      have HS2 : Hid (∀ w, Calls Tryd.prog 14 #[.string ⟨#[123, 125, 91, 93, 58, 44]⟩, .int .u8 45] w fun e w' => e = .returned (.int .i64 (-1)) ∧ w = w') := Lib.hid fun w => by
        have := HS.out w
        rw [h45] at this
        exact this
      clear HS
      have HS := HS2
      clear HS2
      clear h34 h45 hb HD
      go_enter Tryd.func10, Tryd.ntmps10
      go_wp2_with (first
        | (go_at_call 13; (with_reducible refine (HB.out _).mono ?_); rintro e w1 ⟨rfl, rfl⟩)
        | (go_at_call 14; (with_reducible refine (HS.out _).mono ?_); rintro e w1 ⟨rfl, rfl⟩))
      refine (HT.out _ (HEa.out _)).mono ?_
      rintro e w1 ⟨rfl, hb1⟩
      have hb0 : Below w.heap.size w w1 := ((Below.refl _ _).alloc (Nat.le_refl _) _).trans (hb1.mono (by simp))
      have hk4 : Box w1 w.heap.size _ := (box_new w _).next hb1 (by simp)
      clear hb1
      go_wp2_with (refine wpList_keep _ rfl _ _ rfl w.heap.size w hb0 w.heap.size (Nat.le_refl _) _ _ _ _ _ _ rfl rfl hk4 rfl ?_; intro w2 hk5 hb5 _)
      try simp only [Exit.inBlock, Exit.then]
      refine bodyPost_ret (results_tok rfl _ _ _ _ rfl hk5 rfl) rfl ?_
      exact ⟨rfl, hb5⟩
    · have HT0 := fun w (hE : Env w) => takeNumber_any s j (j : Int) rfl hlt (by omega) (.inr hd) w hE.rng
      rw [ht, nR_all]
      rw [nR_all] at HT0
      have HT := Lib.hid HT0
      clear HT0 ht
      generalize (num (sf s j)).1 = E at *
      generalize (num (sf s j)).2.k = K at *
      generalize j + (num (sf s j)).2.o = O at *
      generalize (num (sf s j)).2.z = Z at *
      generalize (⟨(num (sf s j)).2.v.toArray⟩ : ByteArray) = V at *
      generalize (num (sf s j)).2.n = M at *
      rw [hd] at HD
      clear hd
      have h34b : ((by8 s j : Int) == 34) = false := by rw [beq_eq_false_iff_ne]; omega
      have h45b : ((by8 s j : Int) == 45) = false := by rw [beq_eq_false_iff_ne]; omega
      generalize by8 s j = c at *
      clear h34 h45 hb
      go_enter Tryd.func10, Tryd.ntmps10
      go_wp2_with (first
        | (go_at_call 13; (with_reducible refine (HB.out _).mono ?_); rintro e w1 ⟨rfl, rfl⟩)
        | (go_at_call 14; (with_reducible refine (HS.out _).mono ?_); rintro e w1 ⟨rfl, rfl⟩)
        | (go_at_call 16; (with_reducible refine (HD.out _).mono ?_); rintro e w1 ⟨rfl, rfl⟩))
      refine (HT.out _ (HEa.out _)).mono ?_
      rintro e w1 ⟨rfl, hb1⟩
      have hb0 : Below w.heap.size w w1 := ((Below.refl _ _).alloc (Nat.le_refl _) _).trans (hb1.mono (by simp))
      have hk4 : Box w1 w.heap.size _ := (box_new w _).next hb1 (by simp)
      clear hb1
      go_wp2_with (refine wpList_keep _ rfl _ _ rfl w.heap.size w hb0 w.heap.size (Nat.le_refl _) _ _ _ _ _ _ rfl rfl hk4 rfl ?_; intro w2 hk5 hb5 _)
      try simp only [Exit.inBlock, Exit.then]
      refine bodyPost_ret (results_tok rfl _ _ _ _ rfl hk5 rfl) rfl ?_
      exact ⟨rfl, hb5⟩
    · have HT0 := fun w (hE : Env w) => takeWord_any s j (j : Int) rfl hj w
      rw [ht, nR_all]
      rw [nR_all] at HT0
      have HT := Lib.hid HT0
      clear HT0 ht
      generalize (wrd (sf s j)).1 = E at *
      generalize (wrd (sf s j)).2.k = K at *
      generalize j + (wrd (sf s j)).2.o = O at *
      generalize (wrd (sf s j)).2.z = Z at *
      generalize (⟨(wrd (sf s j)).2.v.toArray⟩ : ByteArray) = V at *
      generalize (wrd (sf s j)).2.n = M at *
      rw [hd] at HD
      clear hd
      have h34b : ((by8 s j : Int) == 34) = false := by rw [beq_eq_false_iff_ne]; omega
      have h45b : ((by8 s j : Int) == 45) = false := by rw [beq_eq_false_iff_ne]; omega
      generalize by8 s j = c at *
      clear h34 h45 hb
      go_enter Tryd.func10, Tryd.ntmps10
      go_wp2_with (first
        | (go_at_call 13; (with_reducible refine (HB.out _).mono ?_); rintro e w1 ⟨rfl, rfl⟩)
        | (go_at_call 14; (with_reducible refine (HS.out _).mono ?_); rintro e w1 ⟨rfl, rfl⟩)
        | (go_at_call 16; (with_reducible refine (HD.out _).mono ?_); rintro e w1 ⟨rfl, rfl⟩))
      refine (HT.out _ (HEa.out _)).mono ?_
      rintro e w1 ⟨rfl, hb1⟩
      have hb0 : Below w.heap.size w w1 := ((Below.refl _ _).alloc (Nat.le_refl _) _).trans (hb1.mono (by simp))
      have hk4 : Box w1 w.heap.size _ := (box_new w _).next hb1 (by simp)
      clear hb1
      go_wp2_with (refine wpList_keep _ rfl _ _ rfl w.heap.size w hb0 w.heap.size (Nat.le_refl _) _ _ _ _ _ _ rfl rfl hk4 rfl ?_; intro w2 hk5 hb5 _)
      try simp only [Exit.inBlock, Exit.then]
      refine bodyPost_ret (results_tok rfl _ _ _ _ rfl hk5 rfl) rfl ?_
      exact ⟨rfl, hb5⟩
end Go.Proofs.YtbikbniaoceodaaDoor.Lx
