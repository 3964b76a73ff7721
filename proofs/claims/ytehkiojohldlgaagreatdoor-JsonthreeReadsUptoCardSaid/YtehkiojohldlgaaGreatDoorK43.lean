/- Texts of my own, packed: JsnN. Conditions: as each theorem states. -/
import Derived.Test.YtehkiojohldlgaaGreatDoorK37
import Derived.Test.YtehkiojohldlgaaGreatDoorK42
namespace Go.Proofs.YtehkiojohldlgaaGreatDoor.Jsn
open Go.RowKit Go.Lib
open Go.Proofs.YtehkiojohldlgaaGreatDoor.Tre (Vt V0 find OkT OkT_iff okV InV InV_iff InS InS_in InS_one InV_next InV_shp Box box_new cnt wr64 rcount rsame sm_self)
open Go.Proofs.YtehkiojohldlgaaGreatDoor.Rul (Ru ruC Row Rt kB can)
open Go.Proofs.YtehkiojohldlgaaGreatDoor.Thr (sck scn Rs Mod Ev ga isC IsP SmP)

/-- What a law's walk carries of a value and a row of names. -/
structure Jb (K : World → Prop) (w : World) (X : Vt) (cs : List Value) (nv : Value) (names : List ByteArray) (W : World) : Prop where
  inv : InV W X cs
  row : Strs.Row W nv names
  env : Ev W
  kk : K W
  box : Box W w.heap.size cs.toArray
  bel : Below w.heap.size w W
theorem Jb.next {K : World → Prop} (hK : ∀ a b, K a → Below a.heap.size a b → K b) {w W W' : World} {X : Vt} {cs : List Value} {nv : Value} {names : List ByteArray} (h : Jb K w X cs nv names W) (hb : Below W.heap.size W W') : Jb K w X cs nv names W' :=
  ⟨InV_next hb _ _ h.inv, h.row.next hb, h.env.next hb, hK _ _ h.kk hb, h.box.next hb h.box.lt, h.bel.trans (hb.mono h.bel.size)⟩
theorem Jb.start {K : World → Prop} (hK : ∀ a b, K a → Below a.heap.size a b → K b) {w : World} {X : Vt} {cs : List Value} {nv : Value} {names : List ByteArray} (hi : InV w X cs) (hr : Strs.Row w nv names) (hE : Ev w) (hk : K w) : Jb K w X cs nv names (w.alloc (.cells cs.toArray 26)) := by
  have hb : Below w.heap.size w (w.alloc (.cells cs.toArray 26)) := (Below.refl _ _).alloc (Nat.le_refl _) _
  exact ⟨InV_next hb _ _ hi, hr.next hb, hE.next hb, hK _ _ hk hb, box_new _ _, hb⟩

set_option maxHeartbeats 8000000 in
set_option maxRecDepth 100000 in
theorem members_of {K : World → Prop} (hK : ∀ a b, K a → Below a.heap.size a b → K b) (HTX : TxP) (HNU : NuP) (HKN : KnP) (HAW : AwP K) (X : Vt) (hX : OkT X) (s : ByteArray) (names : List ByteArray) (nv : Value) (cs : List Value) (w : World) (hi : InV w X cs) (hr : Strs.Row w nv names)
    (hl : names.length ≤ 9223372036854775807) (hnz : ∀ n ∈ names, n.size ≤ maxLen) (hE : Ev w) (hk : K w) :
    Calls Tryz.prog 4 #[.agg cs.toArray, .string s, nv] w fun e w' => e = .returned (.bool true) ∧ Below w.heap.size w w' := by
  have HC := Lib.hid fun W (h : InV W X cs) => rcount X hX cs W h
  have HAWh := Lib.hid fun W (k : Ev W) (q : K W) => HAW W k q
  have HJ0 := Lib.hid (Jb.start hK hi hr hE hk)
  have HKK := Lib.hid hK
  have hxl : X.ns.length ≤ 9223372036854775807 := by have := ((OkT_iff X).1 hX).1.2.2.2.2.1; omega
  have H1 := Lib.hid fun W (h : InV W X cs) => HTX X hX s cs W h
  have H2 := Lib.hid fun W (h : InV W X cs) => rtext_any X hX s cs W h
  have H3 := Lib.hid fun W (h : InV W X cs) => HNU X hX s cs W h
  have H4 := Lib.hid fun W (h : InV W X cs) => rnumber_any X hX s cs W h
  have H5 := Lib.hid fun W (h : InV W X cs) (k : Strs.Row W nv names) => HKN X hX names cs nv W h k hl hnz
  have H6 := Lib.hid fun W (h : InV W X cs) (k : Strs.Row W nv names) => rknown_any X cs names nv W h k hxl hl
  clear hnz
  obtain ⟨a, cap, c4, rfl, -, hsr⟩ := (InV_iff w X cs).1 hi
  obtain ⟨a2, cap2, rfl, -⟩ := hsr.open_
  obtain ⟨ra, rc, rfl, -⟩ := hr.open_
  by_cases hc : 300 < wr64 (cnt X : Int)
  · have g1 : decide ((300 : Int) < wr64 (cnt X : Int)) = true := decide_eq_true hc
    clear hr hE HAW hi hX hk hsr hK hc HTX HNU HKN hxl H1 H2 H3 H4 H5 H6 hl
    generalize wr64 (cnt X : Int) = cn at *
    generalize X.k = k1 at *
    generalize X.n = m1 at *
    generalize X.s = s1 at *
    generalize X.l.length = l1 at *
    generalize X.ns.length = n1 at *
    generalize names.length = ll at *
    go_enter Tryz.func4, Tryz.ntmps4
    go_wp2_with (first
      | (refine Tre.wpList_fetch _ rfl _ rfl w.heap.size _ rfl HJ0.out.box rfl ?_)
      | (go_at_call 8; (with_reducible refine (HC.out _ HJ0.out.inv).mono ?_); rintro e w2 ⟨rfl, hb2⟩; have J2 := Lib.hid (HJ0.out.next HKK.out hb2); clear hb2)
      | (go_at_call 9; (with_reducible refine (HAWh.out _ J2.out.env J2.out.kk).mono ?_); rintro e w1 ⟨rfl, hb1⟩))
    go_ret
    exact ⟨rfl, J2.out.bel.trans (hb1.mono J2.out.bel.size)⟩
  have g1 : decide ((300 : Int) < wr64 (cnt X : Int)) = false := decide_eq_false hc
  by_cases hn : 50 < names.length
  · have g2 : decide ((50 : Int) < (names.length : Int)) = true := decide_eq_true (by omega)
    have g3 : decide (50 < names.length) = true := decide_eq_true hn
    clear hr hE HAW hi hX hk hsr hK hc HTX HNU HKN hxl H1 H2 H3 H4 H5 H6 hn
    generalize wr64 (cnt X : Int) = cn at *
    generalize X.k = k1 at *
    generalize X.n = m1 at *
    generalize X.s = s1 at *
    generalize X.l.length = l1 at *
    generalize X.ns.length = n1 at *
    generalize names.length = ll at *
    go_enter Tryz.func4, Tryz.ntmps4
    go_wp2_with (first
      | (refine Tre.wpList_fetch _ rfl _ rfl w.heap.size _ rfl HJ0.out.box rfl ?_)
      | (go_at_call 8; (with_reducible refine (HC.out _ HJ0.out.inv).mono ?_); rintro e w2 ⟨rfl, hb2⟩; have J2 := Lib.hid (HJ0.out.next HKK.out hb2); clear hb2)
      | (go_at_call 9; (with_reducible refine (HAWh.out _ J2.out.env J2.out.kk).mono ?_); rintro e w1 ⟨rfl, hb1⟩))
    go_ret
    exact ⟨rfl, J2.out.bel.trans (hb1.mono J2.out.bel.size)⟩
  have g2 : decide ((50 : Int) < (names.length : Int)) = false := decide_eq_false (by omega)
  have g3 : decide (50 < names.length) = false := decide_eq_false hn
  clear hr hE HAW hi hX hk hsr hK hc HTX HNU HKN hxl hn
  generalize tx X s = x at *
  obtain ⟨p, E⟩ := x
  generalize nu X s = y at *
  obtain ⟨n, F⟩ := y
  dsimp only at H1 H2 H3 H4
  generalize (unk X.ns names).getD ⟨#[]⟩ = u at *
  generalize (unk X.ns names).isNone = b at *
  generalize wr64 (cnt X : Int) = cn at *
  generalize X.k = k1 at *
  generalize X.n = m1 at *
  generalize X.s = s1 at *
  generalize X.l.length = l1 at *
  generalize X.ns.length = n1 at *
  generalize names.length = ll at *
  have q1 : (p.toList == p.toList) = true := beq_self_eq_true _
  have q2 : (E == E) = true := beq_self_eq_true _
  have q3 : (n == n) = true := beq_self_eq_true _
  have q4 : (F == F) = true := beq_self_eq_true _
  have q5 : (u.toList == u.toList) = true := beq_self_eq_true _
  have q6 : (b == b) = true := beq_self_eq_true _
  go_enter Tryz.func4, Tryz.ntmps4
  go_wp2_with (first
    | (refine Tre.wpList_fetch _ rfl _ rfl w.heap.size _ rfl HJ0.out.box rfl ?_)
    | (go_at_call 8; (with_reducible refine (HC.out _ HJ0.out.inv).mono ?_); rintro e w2 ⟨rfl, hb2⟩; have J2 := Lib.hid (HJ0.out.next HKK.out hb2); clear hb2)
    | (refine Tre.wpList_fetch _ rfl _ rfl w.heap.size _ rfl J2.out.box rfl ?_)
    | (go_at_call 16; (with_reducible refine (H1.out _ J2.out.inv).mono ?_); rintro e w3 ⟨rfl, hb3⟩; have J3 := Lib.hid (J2.out.next HKK.out hb3); clear hb3)
    | (refine Tre.wpList_fetch _ rfl _ rfl w.heap.size _ rfl J3.out.box rfl ?_)
    | (go_at_call 17; (with_reducible refine (H2.out _ J3.out.inv).mono ?_); rintro e w4 ⟨rfl, hb4⟩; have J4 := Lib.hid (J3.out.next HKK.out hb4); clear hb4)
    | (refine Tre.wpList_fetch _ rfl _ rfl w.heap.size _ rfl J4.out.box rfl ?_)
    | (go_at_call 18; (with_reducible refine (H3.out _ J4.out.inv).mono ?_); rintro e w5 ⟨rfl, hb5⟩; have J5 := Lib.hid (J4.out.next HKK.out hb5); clear hb5)
    | (refine Tre.wpList_fetch _ rfl _ rfl w.heap.size _ rfl J5.out.box rfl ?_)
    | (go_at_call 19; (with_reducible refine (H4.out _ J5.out.inv).mono ?_); rintro e w6 ⟨rfl, hb6⟩; have J6 := Lib.hid (J5.out.next HKK.out hb6); clear hb6)
    | (refine Tre.wpList_fetch _ rfl _ rfl w.heap.size _ rfl J6.out.box rfl ?_)
    | (go_at_call 20; (with_reducible refine (H5.out _ J6.out.inv J6.out.row).mono ?_); rintro e w7 ⟨rfl, hb7⟩; have J7 := Lib.hid (J6.out.next HKK.out hb7); clear hb7)
    | (refine Tre.wpList_fetch _ rfl _ rfl w.heap.size _ rfl J7.out.box rfl ?_)
    | (go_at_call 21; (with_reducible refine (H6.out _ J7.out.inv J7.out.row).mono ?_); rintro e w8 ⟨rfl, hb8⟩; have J8 := Lib.hid (J7.out.next HKK.out hb8); clear hb8)
    | (go_at_call 9; (with_reducible refine (HAWh.out _ J8.out.env J8.out.kk).mono ?_); rintro e w9 ⟨rfl, hb9⟩))
  go_ret
  exact ⟨by simp, J8.out.bel.trans (hb9.mono J8.out.bel.size)⟩

/-! ### what is read, put and read again -/
theorem Nz_put {B : Nat} (h8 : 8 ≤ B) (L : List Ru) : Nz B (putO L) := by
  intro x hx n hn
  unfold putO at hx
  split at hx
  · obtain ⟨r, -, rfl⟩ := List.mem_map.1 (show x ∈ (scn L).map one from hx)
    have hu := in_mem r
    unfold unk at hu
    rw [List.find?_eq_none] at hu
    have := hu n hn
    have hq : isin all n = true := by simpa using this
    unfold isin at hq
    rw [List.any_eq_true] at hq
    obtain ⟨m, hm, he⟩ := hq
    rw [← of_decide_eq_true he]
    have key : ∀ n ∈ all, n.size ≤ 8 := by decide
    exact Nat.le_trans (key m hm) h8
  · cases hx
theorem Mod_scn {L : List Ru} (h : Rs L) (hm : Mod L) : Mod (scn L) := fun r hr => by
  obtain ⟨q, hq, rfl⟩ := List.mem_map.1 ((Thr.scn_perm h).mem_iff.1 hr)
  have := Rul.can_keeps (h.rt q hq)
  have := hm q hq
  rw [(Rul.can_keeps (h.rt q hq)).1, (Rul.can_keeps (h.rt q hq)).2.1, (Rul.can_keeps (h.rt q hq)).2.2.1]
  exact this
theorem ofR_facts {X : Vt} (hX : OkT X) (h : (ofE X).2 = 0) : Mod (ofR X) ∧ (∀ r ∈ ofR X, r.ro.size ≤ 140737488351232) ∧ (ofR X).length ≤ 5000 := by
  obtain ⟨-, hs, he⟩ := of_zero h
  rw [he]
  refine ⟨Mod_scn hs fun r hr => ?_, fun r hr => ?_, ?_⟩
  · obtain ⟨x, hx, rfl⟩ := List.mem_map.1 hr
    exact rdR_size (((OkT_iff X).1 hX).2 x hx)
  · obtain ⟨q, hq, e⟩ := scn_ro hs hr
    obtain ⟨x, hx, rfl⟩ := List.mem_map.1 hq
    rw [e]
    exact tx_size (((OkT_iff X).1 hX).2 x hx) _
  · rw [Thr.scn_len hs]
    have := hs.len
    omega

set_option maxHeartbeats 8000000 in
set_option maxRecDepth 100000 in
theorem reads_of {B : Nat} (h8 : 8 ≤ B) {K : World → Prop} (hK : ∀ a b, K a → Below a.heap.size a b → K b) (HPU : PuP) (HOF : OfP B K) (HIS : IsP) (HSM : SmP) (HAW : AwP K) (X : Vt) (hX : OkT X) (hN : Nz B X) (cs : List Value) (w : World) (hi : InV w X cs) (hE : Ev w) (hk : K w) :
    Calls Tryz.prog 6 #[.agg cs.toArray] w fun e w' => e = .returned (.bool true) ∧ Below w.heap.size w w' := by
  have HC := Lib.hid fun W (h : InV W X cs) => rcount X hX cs W h
  have HAWh := Lib.hid fun W (k : Ev W) (q : K W) => HAW W k q
  have HJ0 := Lib.hid (Ja.start (v := .slice none 0 0) (L := []) hK hi (Row.nil _) hE hk)
  have HKK := Lib.hid hK
  have H1 := Lib.hid fun W (h : InV W X cs) (k : Ev W) (q : K W) => HOF X hX hN cs W h k q
  obtain ⟨a, cap, c4, rfl, -, hsr⟩ := (InV_iff w X cs).1 hi
  obtain ⟨a2, cap2, rfl, -⟩ := hsr.open_
  by_cases hc : 500 < wr64 (cnt X : Int)
  · have g1 : decide ((500 : Int) < wr64 (cnt X : Int)) = true := decide_eq_true hc
    clear hE HAW hi hX hk hsr hK hc HPU HOF HIS HSM hN H1
    generalize wr64 (cnt X : Int) = cn at *
    generalize X.k = k1 at *
    generalize X.n = m1 at *
    generalize X.s = s1 at *
    generalize X.l.length = l1 at *
    generalize X.ns.length = n1 at *
    go_enter Tryz.func6, Tryz.ntmps6
    go_wp2_with (first
      | (refine Tre.wpList_fetch _ rfl _ rfl w.heap.size _ rfl HJ0.out.box rfl ?_)
      | (go_at_call 8; (with_reducible refine (HC.out _ HJ0.out.inv).mono ?_); rintro e w2 ⟨rfl, hb2⟩; have J2 := Lib.hid (HJ0.out.next HKK.out hb2); clear hb2)
      | (go_at_call 9; (with_reducible refine (HAWh.out _ J2.out.env J2.out.kk).mono ?_); rintro e w1 ⟨rfl, hb1⟩))
    go_ret
    exact ⟨rfl, J2.out.bel.trans (hb1.mono J2.out.bel.size)⟩
  have g1 : decide ((500 : Int) < wr64 (cnt X : Int)) = false := decide_eq_false hc
  by_cases hz : (ofE X).2 = 0
  · obtain ⟨hm, hro, h5⟩ := ofR_facts hX hz
    obtain ⟨hs, hss, he2, hr2⟩ := of_again hz
    obtain ⟨hez, -, -⟩ := of_zero hz
    have hsc := Thr.sck_ok hs
    have hpo : putO (ofR X) = putV (ofR X) := by unfold putO; rw [hsc, if_pos rfl, hss]
    have hok : OkT (putO (ofR X)) := OkT_putO hro
    have hnz := Nz_put h8 (ofR X)
    have H2 := Lib.hid fun u W (h : Row W u (ofR X)) (k : Ev W) => HPU (ofR X) u W h h5 hm k
    have H3 := Lib.hid fun ds W (h : InV W (putO (ofR X)) ds) (k : Ev W) (q : K W) => HOF (putO (ofR X)) hok hnz ds W h k q
    have H4 := Lib.hid fun u W (h : Row W u (ofR X)) (k : Ev W) => HIS (ofR X) u W h h5 hm k
    have H5 := Lib.hid fun u1 u2 W (h : Row W u1 (ofR X)) (k : Row W u2 (ofR X)) => HSM (ofR X) (ofR X) u1 u2 W h k (by omega) (by omega)
    have his : isC (ofR X) = true := by rw [Thr.isC_ok hs, hss]; exact Thr.sm_self _
    rw [his] at H4
    rw [Thr.sm_self] at H5
    rw [hsc] at H2
    rw [hpo, he2, hr2] at H3
    rw [hpo] at H2
    rw [hez] at H1
    clear hE HAW hi hX hk hsr hK hc HPU HOF HIS HSM hN hm hro h5 hs hss he2 hr2 hez hsc hpo hok hnz his hz
    generalize putV (ofR X) = P at *
    generalize ofR X = R at *
    generalize wr64 (cnt X : Int) = cn at *
    generalize X.k = k1 at *
    generalize X.n = m1 at *
    generalize X.s = s1 at *
    generalize X.l.length = l1 at *
    generalize X.ns.length = n1 at *
    go_enter Tryz.func6, Tryz.ntmps6
    go_wp2_with (first
      | (refine Tre.wpList_fetch _ rfl _ rfl w.heap.size _ rfl HJ0.out.box rfl ?_)
      | (go_at_call 8; (with_reducible refine (HC.out _ HJ0.out.inv).mono ?_); rintro e w2 ⟨rfl, hb2⟩; have J2 := Lib.hid (HJ0.out.next HKK.out hb2); clear hb2)
      | (refine Tre.wpList_fetch _ rfl _ rfl w.heap.size _ rfl J2.out.box rfl ?_)
      | (go_at_call 12; (with_reducible refine (H1.out _ J2.out.inv J2.out.env J2.out.kk).mono ?_); rintro e w3 ⟨u3, rfl, hr3, hb3⟩; have R3 := Lib.hid hr3; have J3 := Lib.hid (J2.out.next HKK.out hb3); clear hb3 hr3)
      | (go_at_call 10; (with_reducible refine (H2.out _ _ R3.out J3.out.env).mono ?_); rintro e w4 ⟨es, rfl, hS, hb4⟩; have i4 := InS_in _ _ hS; obtain ⟨fz1, fz2, fz3, fz4, fz5, fz6, fz7, fz8, fz9, hes⟩ := InV_shp i4; subst hes; have U4 := Lib.hid (Va.new i4); have R4 := Lib.hid fun o => (R3.out.next hb4).next ((Below.refl w4.heap.size w4).alloc (Nat.le_refl _) o); have J4 := Lib.hid fun o => (J3.out.next HKK.out hb4).alloc HKK.out o; clear hb4 hS i4)
      | (refine Tre.wpList_fetch _ rfl _ rfl w4.heap.size _ rfl U4.out.bx rfl ?_)
      | (go_at_call 12; (with_reducible refine (H3.out _ _ U4.out.iv (J4.out _).env (J4.out _).kk).mono ?_); rintro e w5 ⟨u5, rfl, hr5, hb5⟩; have R5 := Lib.hid hr5; have Q5 := Lib.hid ((R4.out _).next hb5); have J5 := Lib.hid ((J4.out _).next HKK.out hb5); clear hb5 hr5)
      | (go_at_call 27; (with_reducible refine (H4.out _ _ Q5.out J5.out.env).mono ?_); rintro e w6 ⟨rfl, hb6⟩; have R6 := Lib.hid (R5.out.next hb6); have Q6 := Lib.hid (Q5.out.next hb6); have J6 := Lib.hid (J5.out.next HKK.out hb6); clear hb6)
      | (go_at_call 26; (with_reducible refine (H5.out _ _ _ Q6.out R6.out).mono ?_); rintro e w7 ⟨rfl, hb7⟩; have J7 := Lib.hid (J6.out.next HKK.out hb7); clear hb7)
      | (go_at_call 9; (with_reducible refine (HAWh.out _ J7.out.env J7.out.kk).mono ?_); rintro e w9 ⟨rfl, hb9⟩))
    go_ret
    exact ⟨by simp, J7.out.bel.trans (hb9.mono J7.out.bel.size)⟩
  · have hb := of_bad hz
    rw [hb] at H1
    have b1 : ((ofE X).2 != 0) = true := by simpa using hz
    clear hE HAW hi hX hk hsr hK hc HPU HOF HIS HSM hN hb hz
    generalize ofE X = y at *
    obtain ⟨p, E⟩ := y
    dsimp only at b1 H1
    generalize wr64 (cnt X : Int) = cn at *
    generalize X.k = k1 at *
    generalize X.n = m1 at *
    generalize X.s = s1 at *
    generalize X.l.length = l1 at *
    generalize X.ns.length = n1 at *
    go_enter Tryz.func6, Tryz.ntmps6
    go_wp2_with (first
      | (refine Tre.wpList_fetch _ rfl _ rfl w.heap.size _ rfl HJ0.out.box rfl ?_)
      | (go_at_call 8; (with_reducible refine (HC.out _ HJ0.out.inv).mono ?_); rintro e w2 ⟨rfl, hb2⟩; have J2 := Lib.hid (HJ0.out.next HKK.out hb2); clear hb2)
      | (refine Tre.wpList_fetch _ rfl _ rfl w.heap.size _ rfl J2.out.box rfl ?_)
      | (go_at_call 12; (with_reducible refine (H1.out _ J2.out.inv J2.out.env J2.out.kk).mono ?_); rintro e w3 ⟨u3, rfl, hr3, hb3⟩; obtain ⟨za, zc, hz3, -, -⟩ := hr3.open_; subst hz3; have J3 := Lib.hid (J2.out.next HKK.out hb3); clear hb3 hr3)
      | (go_at_call 9; (with_reducible refine (HAWh.out _ J3.out.env J3.out.kk).mono ?_); rintro e w9 ⟨rfl, hb9⟩))
    go_ret
    exact ⟨by simp, J3.out.bel.trans (hb9.mono J3.out.bel.size)⟩
end Go.Proofs.YtehkiojohldlgaaGreatDoor.Jsn
