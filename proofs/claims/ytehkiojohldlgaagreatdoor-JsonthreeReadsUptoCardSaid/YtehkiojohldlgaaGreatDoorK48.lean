/- Texts of my own, packed: JsnT, JsnZa, JsnZb. Conditions: as each theorem states. -/
import Derived.Deep.RegionLaw
import Derived.Deep.CutRange
import Derived.Test.YtehkiojohldlgaaGreatDoorK09
import Derived.Test.YtehkiojohldlgaaGreatDoorK33
import Derived.Test.YtehkiojohldlgaaGreatDoorK37
import Derived.Test.YtehkiojohldlgaaGreatDoorK41
import Derived.Test.YtehkiojohldlgaaGreatDoorK44
import Derived.Test.YtehkiojohldlgaaGreatDoorK45
import Derived.Test.YtehkiojohldlgaaGreatDoorK46
import Derived.Test.YtehkiojohldlgaaGreatDoorK47
namespace Go.Proofs.YtehkiojohldlgaaGreatDoor.Jsn
open Go.RowKit Go.Lib
open Go.Proofs.YtehkiojohldlgaaGreatDoor.Tre (Vt V0 OkT InV)
open Go.Proofs.YtehkiojohldlgaaGreatDoor.Rul (Ru Row Fits)
open Go.Proofs.YtehkiojohldlgaaGreatDoor.Thr (Ev Fit CnP IsP SmP)
open Go.Proofs.YtehkiojohldlgaaGreatDoor.Ren (wg wgL cw)

theorem wgL_in : ∀ {l : List Vt} {x : Vt}, x ∈ l → wg x ≤ wgL l
  | y :: l, x, h => by
    rw [wgL]
    rcases List.mem_cons.1 h with rfl | h
    · omega
    · have := wgL_in h; omega
theorem wg_name {x : Vt} {n : ByteArray} (h : n ∈ x.ns) : n.size ≤ wg x := by
  have key : ∀ ns : List ByteArray, n ∈ ns → n.size ≤ (ns.map ByteArray.size).sum := by
    intro ns
    induction ns with
    | nil => intro q; cases q
    | cons m ns ih =>
      intro q
      rw [List.map_cons, List.sum_cons]
      rcases List.mem_cons.1 q with rfl | q
      · omega
      · have := ih q; omega
  cases x with
  | mk k n' s l ns =>
    rw [wg]
    have := key ns h
    omega
theorem nz_of {v : Vt} (h : cw v ≤ 1048576) : Nz 4000000 v := by
  intro x hx n hn
  have h1 := wg_name hn
  have h2 := wgL_in hx
  unfold cw at h
  cases v with
  | mk k n' s l ns =>
    have h3 : wg (.mk k n' s l ns) = s.size + (ns.map ByteArray.size).sum + wgL l := by rw [wg]
    have h4 : wg x ≤ wgL l := h2
    omega
theorem mx_next : ∀ a b : World, Ptr.Mx a → Below a.heap.size a b → Ptr.Mx b := fun _ _ h hb => h.next hb
theorem aw_up (HPU : PuP) (HOF : OfP 4000000 Ptr.Mx) (HNU : NuP) : AwP Ptr.Mx := awake_of (by decide) mx_next HPU HOF HNU
theorem says_up (HPU : PuP) (HOF : OfP 4000000 Ptr.Mx) (HNU : NuP) (L : List Ru) (X : Vt) (cs : List Value) {v : Value} {W : World} (hr : Row W v L) (hl : L.length ≤ 9223372036854775807) (hs : ∀ x ∈ L, Fits x) (hi : InV W X cs) (hX : OkT X) (hb : cw X ≤ 1048576) (hE : Ev W ∧ Ptr.Mx W) :
    Calls Tryz.prog 3 #[v, .agg cs.toArray] W fun e w' => e = .returned (.bool true) ∧ Below W.heap.size W w' :=
  says_of mx_next HPU HOF (aw_up HPU HOF HNU) L v X hX (nz_of hb) cs W hr hl (Thr.fit_of hs) hi hE.1 hE.2
theorem members_up (HPU : PuP) (HOF : OfP 4000000 Ptr.Mx) (HTX : TxP) (HNU : NuP) (HKN : KnP) (X : Vt) (cs : List Value) (s : ByteArray) (names : List ByteArray) {nv : Value} {W : World} (hi : InV W X cs) (hX : OkT X) (hr : Strs.Row W nv names) (hl : names.length ≤ 9223372036854775807) (hnz : ∀ n ∈ names, n.size ≤ maxLen) (hE : Ev W ∧ Ptr.Mx W) :
    Calls Tryz.prog 4 #[.agg cs.toArray, .string s, nv] W fun e w' => e = .returned (.bool true) ∧ Below W.heap.size W w' :=
  members_of mx_next HTX HNU HKN (aw_up HPU HOF HNU) X hX s names nv cs W hi hr hl hnz hE.1 hE.2
theorem back_up (HPU : PuP) (HOF : OfP 4000000 Ptr.Mx) (HNU : NuP) (HCN : CnP) (HSM : SmP) (L : List Ru) {v : Value} {W : World} (hr : Row W v L) (hl : L.length ≤ 9223372036854775807) (hs : ∀ x ∈ L, Fits x) (hE : Ev W ∧ Ptr.Mx W) :
    Calls Tryz.prog 5 #[v] W fun e w' => e = .returned (.bool true) ∧ Below W.heap.size W w' :=
  back_of (by decide) mx_next HCN HPU HOF HSM (aw_up HPU HOF HNU) L v W hr hl (Thr.fit_of hs) hE.1 hE.2
theorem reads_up (HPU : PuP) (HOF : OfP 4000000 Ptr.Mx) (HNU : NuP) (HIS : IsP) (HSM : SmP) (X : Vt) (cs : List Value) {W : World} (hi : InV W X cs) (hX : OkT X) (hb : cw X ≤ 1048576) (hE : Ev W ∧ Ptr.Mx W) :
    Calls Tryz.prog 6 #[.agg cs.toArray] W fun e w' => e = .returned (.bool true) ∧ Below W.heap.size W w' :=
  reads_of (by decide) mx_next HPU HOF HIS HSM (aw_up HPU HOF HNU) X hX (nz_of hb) cs W hi hE.1 hE.2
theorem mx_of {W : World} (hs : W.ShapedOpen Tryz.prog) : Ptr.Mx W := Tryz.laysM138.s1_3 W hs
theorem w_first {H : Type} {ts : List TypeId} {ds : List (DataW H)} (h : (DataW.weightsEach Tryz.prog ts ds).all (· ≤ reachBytes) = true) {t : TypeId} {d : DataW H} (ht : ts[0]? = some t) (hd : ds[0]? = some d) : Tre.Light t d := Tre.w_arg h ht hd
theorem w_second {H : Type} {ts : List TypeId} {ds : List (DataW H)} (h : (DataW.weightsEach Tryz.prog ts ds).all (· ≤ reachBytes) = true) {t : TypeId} {d : DataW H} (ht : ts[1]? = some t) (hd : ds[1]? = some d) : Tre.Light t d := Tre.w_arg h ht hd
end Go.Proofs.YtehkiojohldlgaaGreatDoor.Jsn

namespace Go.Proofs.YtehkiojohldlgaaGreatDoor.Jsn
open Go.RowKit Go.Lib
open Go.Proofs.YtehkiojohldlgaaGreatDoor.Tre (Vt V0 InV InS InS_upd InS_iff OwnR Box box_new box_set box_set4 set_other own_in own_apart)
open Go.Proofs.YtehkiojohldlgaaGreatDoor.Rul (Ru ruC Bx kB)

section
variable {N g : Nat} {w : World} {m : List (ByteArray × Vt)} {c3 c4 : Value}
/-- Behind a call that put a member on. -/
def More (N g : Nat) (w : World) (m' : List (ByteArray × Vt)) (c3 c4 : Value) (w' : World) : Prop :=
  ∃ a3 n3 p3 a4 n4 p4, Oj N g m' (.slice a3 n3 p3) (.slice a4 n4 p4) w' ∧ (∀ b, own2 (.slice a3 n3 p3) (.slice a4 n4 p4) b → own2 c3 c4 b ∨ w.heap.size ≤ b) ∧ Ch (fun b => b = g ∨ own2 c3 c4 b) w w'
set_option maxHeartbeats 4000000 in
theorem puttext_any (h : Oj N g m c3 c4 w) (hN : N ≤ w.heap.size) (hm : m.length ≤ 50) (nm s : ByteArray) :
    Calls Tryz.prog 53 #[.pointer (some ⟨g, 0, none⟩), .string nm, .string s] w fun e w' => e = .returned (.tuple #[]) ∧ More N g w (m ++ [(nm, T s)]) c3 c4 w' := by
  have HP := Lib.hid (put_any1 h hN hm nm (T s) 3 0 s (fun W => leaf_T W s))
  clear h hN hm
  go_enter Tryz.func53, Tryz.ntmps53
  go_wp2_with (go_at_call 94; (with_reducible refine HP.out.mono ?_); rintro e w1 ⟨rfl, hm1⟩)
  go_end0
  exact ⟨rfl, hm1⟩
set_option maxHeartbeats 4000000 in
theorem putnumber_any (h : Oj N g m c3 c4 w) (hN : N ≤ w.heap.size) (hm : m.length ≤ 50) (nm : ByteArray) (n : Int) :
    Calls Tryz.prog 54 #[.pointer (some ⟨g, 0, none⟩), .string nm, .int .i64 n] w fun e w' => e = .returned (.tuple #[]) ∧ More N g w (m ++ [(nm, Jsn.N n)]) c3 c4 w' := by
  have HP := Lib.hid (put_any1 h hN hm nm (Jsn.N n) 2 n ⟨#[]⟩ (fun W => leaf_N W n))
  clear h hN hm
  go_enter Tryz.func54, Tryz.ntmps54
  go_wp2_with (go_at_call 94; (with_reducible refine HP.out.mono ?_); rintro e w1 ⟨rfl, hm1⟩)
  go_end0
  exact ⟨rfl, hm1⟩
end

/-! ### a rule's object -/
/-- The call's three variables: the rule, the result's, the object's; and the object's rows. -/
structure Ot (w : World) (r : Ru) (m : List (ByteArray × Vt)) (c3 c4 : Value) (W : World) : Prop where
  rb : Bx W w.heap.size (ruC r)
  zb : Box W (w.heap.size + 1) Tre.zeroC.toArray
  oj : Oj (w.heap.size + 3) (w.heap.size + 2) m c3 c4 W
  bel : Below w.heap.size w W
theorem Ot.next {w W W' : World} {r : Ru} {m : List (ByteArray × Vt)} {c3 c4 : Value} (h : Ot w r m c3 c4 W) (hb : Below W.heap.size W W') : Ot w r m c3 c4 W' :=
  ⟨h.rb.next hb h.rb.lt, h.zb.next hb h.zb.lt, h.oj.next hb, h.bel.trans (hb.mono h.bel.size)⟩
theorem Ot.big {w W : World} {r : Ru} {m : List (ByteArray × Vt)} {c3 c4 : Value} (h : Ot w r m c3 c4 W) : w.heap.size + 3 ≤ W.heap.size := h.oj.vb.lt
theorem Ot.called {w W w2 : World} {r : Ru} {m m' : List (ByteArray × Vt)} {c3 c4 : Value} (h : Ot w r m c3 c4 W) (k : More (w.heap.size + 3) (w.heap.size + 2) W m' c3 c4 w2) : ∃ a3 n3 p3 a4 n4 p4, Ot w r m' (.slice a3 n3 p3) (.slice a4 n4 p4) w2 := by
  obtain ⟨a3, n3, p3, a4, n4, p4, ho, -, hc⟩ := k
  have off : ∀ b, b < w.heap.size + 2 → ¬ (b = w.heap.size + 2 ∨ own2 c3 c4 b) := fun b hb q => by
    rcases q with q | q
    · omega
    · have := (h.oj.ob.in_ q).1; omega
  have hl := h.big
  refine ⟨a3, n3, p3, a4, n4, p4, (hc.block _ h.rb.lt (off _ (by omega))).trans h.rb, (hc.block _ h.zb.lt (off _ (by omega))).trans h.zb, ho, h.bel.trans ?_⟩
  exact (hc.below (N := w.heap.size + 2) (fun b q => by
    rcases q with q | q
    · omega
    · have := (h.oj.ob.in_ q).1; omega) (by omega)).mono (by omega)
theorem Ot.start {w W3 w3 : World} {r : Ru} (h0 : Bx W3 w.heap.size (ruC r)) (h1 : Box W3 (w.heap.size + 1) Tre.zeroC.toArray) (hx : Box w3 (w.heap.size + 2) #[.int .i64 5, .int .i64 0, .string ⟨#[]⟩, .slice none 0 0, .slice none 0 0]) (hb : Below w.heap.size w w3) (ho : ∀ k, k ≠ w.heap.size + 2 → w3.heap[k]? = W3.heap[k]?) :
    Ot w r [] (.slice none 0 0) (.slice none 0 0) w3 :=
  ⟨(ho _ (by omega)).trans h0, (ho _ (by omega)).trans h1, ⟨hx, Ob.nil _ _, fun q => by rcases q with q | q <;> cases q⟩, hb⟩
theorem new_three (w : World) (a b c : Obj) : Below w.heap.size w (((w.alloc a).alloc b).alloc c) := (((Below.refl _ _).alloc (Nat.le_refl _) a).alloc (by simp) b).alloc (by simp; omega) c
theorem first_three (w : World) (r : Ru) (b c : Obj) : Bx (((w.alloc (.cells (ruC r) 49)).alloc b).alloc c) w.heap.size (ruC r) := by
  have h0 := Rul.bx_new w (ruC r)
  exact h0.next ((((Below.refl _ _).alloc (Nat.le_refl _) b)).alloc (by simp) c) h0.lt
theorem second_three (w : World) (a c : Obj) (cs : Array Value) : Box (((w.alloc a).alloc (.cells cs 26)).alloc c) (w.heap.size + 1) cs := by
  have h0 := two_zero w a cs
  exact h0.next ((Below.refl _ _).alloc (Nat.le_refl _) c) h0.lt
theorem third_three (w : World) (a b : Obj) (cs : Array Value) : Box (((w.alloc a).alloc b).alloc (.cells cs 26)) (w.heap.size + 2) cs := by
  have h0 := box_new ((w.alloc a).alloc b) cs
  rw [World.size_alloc, World.size_alloc] at h0
  exact h0
/-- A number of a rule, in its cell. -/
theorem ru_num (r : Ru) {j : Nat} (h : j < 8) : (ruC r)[5 + j]? = some (.int .i64 (num r (5 + j))) := by
  obtain rfl | rfl | rfl | rfl | rfl | rfl | rfl | rfl : j = 0 ∨ j = 1 ∨ j = 2 ∨ j = 3 ∨ j = 4 ∨ j = 5 ∨ j = 6 ∨ j = 7 := by omega
  all_goals rfl

theorem mem_head (r : Ru) : mem0 r = ([(nm 0, T r.id)] ++ (if r.no = ⟨#[]⟩ then [] else [(nm 1, T r.no)])) ++ [(nm 2, T r.ro)] ++ [(nm 3, N r.pr)] ++ [(nm 4, T (kB r.ki))] := by
  unfold mem0 note
  split <;> rfl
theorem head_len (r : Ru) : ([(nm 0, T r.id)] ++ (if r.no = ⟨#[]⟩ then [] else [(nm 1, T r.no)])).length ≤ 2 := by split <;> simp
set_option maxHeartbeats 16000000 in
set_option maxRecDepth 100000 in
theorem objectof_any (r : Ru) (hki : r.ki = 1 ∨ r.ki = 2 ∨ r.ki = 3) (w : World) (hT : Rul.Tab w) :
    Calls Tryz.prog 28 #[.agg (ruC r)] w fun e w' => ∃ cs : List Value, e = .returned (.agg cs.toArray) ∧ InS (fun b => w.heap.size ≤ b) w' (one r) cs ∧ Below w.heap.size w w' := by
  have HME := Lib.hid (mem_head r)
  have HHL := Lib.hid (head_len r)
  have HALL := Lib.hid (show one r = obj (mem0 r ++ nt r 8) by rw [nt_all hki, ← mem_is]; rfl)
  have HM0 := Lib.hid (mem0_len r)
  obtain ⟨id, no, ro, pr, ki, ra, pe, bu, co, mx, fa, wa, pb⟩ := r
  obtain ⟨R, hR⟩ : ∃ R, R = (⟨id, no, ro, pr, ki, ra, pe, bu, co, mx, fa, wa, pb⟩ : Ru) := ⟨_, rfl⟩
  have HPT := Lib.hid fun nm s m c3 c4 W (h : Ot w R m c3 c4 W) (hm : m.length ≤ 40) => puttext_any h.oj h.big (by omega) nm s
  have HPN := Lib.hid fun nm n m c3 c4 W (h : Ot w R m c3 c4 W) (hm : m.length ≤ 40) => putnumber_any h.oj h.big (by omega) nm n
  have HC : ∀ W m c3 c4, Ot w R m c3 c4 W → Bx W w.heap.size (ruC ⟨id, no, ro, pr, ki, ra, pe, bu, co, mx, fa, wa, pb⟩) := fun W m c3 c4 h => by have := h.rb; rwa [hR] at this
  have HC := Lib.hid HC
  have HS0 : ∀ w3, Box w3 (w.heap.size + 2) #[.int .i64 5, .int .i64 0, .string ⟨#[]⟩, .slice none 0 0, .slice none 0 0] → Below w.heap.size w w3 →
      (∀ k, k ≠ w.heap.size + 2 → w3.heap[k]? = (((w.alloc (.cells (ruC ⟨id, no, ro, pr, ki, ra, pe, bu, co, mx, fa, wa, pb⟩) 49)).alloc (.cells Tre.zeroC.toArray 26)).alloc (.cells Tre.zeroC.toArray 26)).heap[k]?) → Ot w R [] (.slice none 0 0) (.slice none 0 0) w3 := fun w3 hx hb ho => by
    rw [hR]
    exact Ot.start (first_three w _ _ _) (second_three w _ _ _) hx hb ho
  have HS0 := Lib.hid HS0
  have HB3 := Lib.hid fun a b c => new_three w a b c
  have HX3 := Lib.hid fun a b cs => third_three w a b cs
  have HKI := Lib.hid fun W (hb : Below w.heap.size w W) => Rul.kind_any ki W (hT.next hb)
  have HTB := Lib.hid fun W => table_any w.heap.size W
  have HFT := Lib.hid fun W (j : Nat) (h : j < 8) => ft_at w.heap.size W j h
  have HNU : ∀ W m c3 c4, Ot w R m c3 c4 W → ∀ j : Nat, j < 8 → W.cell? ⟨w.heap.size, 5 + j, none⟩ = some (.int .i64 (num R (5 + j))) := fun W m c3 c4 h j hj => by rw [h.rb.cell, ru_num R hj]
  have HNU := Lib.hid HNU
  have HNY := Lib.hid fun j => @nt_yes R j
  have HNN := Lib.hid fun j => @nt_not R j
  have HNL := Lib.hid (nt_len R)
  have HKR : R.ki = ki := by rw [hR]
  rw [HKR] at HNY HNN
  rw [← hR] at HME HHL HALL HM0 ⊢
  have HME : Hid (mem0 R = ([(nm 0, T id)] ++ (if no = ⟨#[]⟩ then [] else [(nm 1, T no)])) ++ [(nm 2, T ro)] ++ [(nm 3, N pr)] ++ [(nm 4, T (kB ki))]) := Lib.hid (by rw [HME.out, hR])
  have HHL : Hid (([(nm 0, T id)] ++ (if no = ⟨#[]⟩ then [] else [(nm 1, T no)])).length ≤ 2) := Lib.hid (by have := HHL.out; rw [hR] at this; exact this)
  rw [show ruC R = #[.string id, .string no, .string ro, .int .i64 pr, .int .i64 ki, .int .i64 ra, .int .i64 pe, .int .i64 bu, .int .i64 co, .int .i64 mx, .int .i64 fa, .int .i64 wa, .int .i64 pb] by rw [hR]; rfl]
  dsimp only [ruC, Tre.zeroC] at HS0
  clear hR hT hki HKR
  go_enter Tryz.func28, Tryz.ntmps28
  go_upto_if 12 with (first
    | (refine Tre.wpList_keep _ rfl _ _ rfl w.heap.size w (HB3.out _ _ _) (w.heap.size + 2) (by omega) #[.int .i64 5, .int .i64 0, .string ⟨#[]⟩, .slice none 0 0, .slice none 0 0] _ rfl rfl (HX3.out _ _ _) rfl rfl (by intro u hu; simp only [List.mem_cons, List.not_mem_nil, or_false] at hu; rcases hu with rfl | rfl | rfl | rfl | rfl <;> rfl) ?_; intro w3 hx hb hk hs; have S0 := Lib.hid (HS0.out w3 hx hb hk); have x0 : w3.cell? ⟨w.heap.size, 0, none⟩ = some (.string id) := (HC.out _ _ _ _ S0.out).cell 0; clear hx hb hk hs)
    | (go_at_call 53; (with_reducible refine (HPT.out ⟨#[105, 100]⟩ id _ _ _ _ S0.out (by simp)).mono ?_); rintro e v0 ⟨rfl, hm⟩; obtain ⟨a13, n13, p13, a14, n14, p14, hm⟩ := S0.out.called hm; have S1 := Lib.hid hm; have x1 : v0.cell? ⟨w.heap.size, 1, none⟩ = some (.string no) := (HC.out _ _ _ _ S1.out).cell 1; clear hm))
  go_cut [] from 12 to 15 (fun wx => ∃ a3 n3 p3 a4 n4 p4, Hid (Ot w R ([(⟨#[105, 100]⟩, T id)] ++ (if no = ⟨#[]⟩ then [] else [(⟨#[110, 111, 116, 101]⟩, T no)])) (.slice a3 n3 p3) (.slice a4 n4 p4) wx))
  case first =>
    by_cases hno : no = ⟨#[]⟩
    · have HNO := Lib.hid hno
      have hq : (!no.toList.isEmpty) = false := by rw [hno, Byt.toList_data]; rfl
      clear hno
      rw [hq]
      go_wp2_with fail
      go_meet
      exact ⟨_, _, _, _, _, _, Lib.hid (by rw [if_pos HNO.out, List.append_nil]; exact S1.out)⟩
    · have HNO := Lib.hid hno
      have hq : (!no.toList.isEmpty) = true := by
        cases he : no.toList with
        | nil =>
          rw [Byt.toList_data] at he
          exact absurd (ByteArray.ext (Array.toList_inj.1 he)) hno
        | cons _ _ => rfl
      clear hno
      rw [hq]
      go_wp2_with (go_at_call 53; (with_reducible refine (HPT.out ⟨#[110, 111, 116, 101]⟩ no _ _ _ _ S1.out (by simp)).mono ?_); rintro e v1 ⟨rfl, hm⟩; obtain ⟨a23, n23, p23, a24, n24, p24, hm⟩ := S1.out.called hm; have S2 := Lib.hid hm; clear hm)
      (try dsimp only [Act.put])
      go_meet
      exact ⟨_, _, _, _, _, _, Lib.hid (by rw [if_neg HNO.out]; exact S2.out)⟩
  case rest =>
    rename World => W4
    obtain ⟨a3, n3, p3, a4, n4, p4, S2⟩ := hcut
    obtain ⟨M, hM⟩ : ∃ M, ([(⟨#[105, 100]⟩, T id)] ++ (if no = ⟨#[]⟩ then [] else [(⟨#[110, 111, 116, 101]⟩, T no)]) : List (ByteArray × Vt)) = M := ⟨_, rfl⟩
    have HME : Hid (mem0 R = M ++ [(⟨#[114, 111, 117, 116, 101]⟩, T ro)] ++ [(⟨#[112, 114, 105, 111, 114, 105, 116, 121]⟩, N pr)] ++ [(⟨#[107, 105, 110, 100]⟩, T (kB ki))]) := Lib.hid (by rw [HME.out, ← hM]; rfl)
    have HHL : M.length ≤ 2 := by rw [← hM]; exact HHL.out
    rw [hM] at S2
    clear hM
    have x2 : W4.cell? ⟨w.heap.size, 2, none⟩ = some (.string ro) := (HC.out _ _ _ _ S2.out).cell 2
    generalize kB ki = kn at *
    go_wp2_with (first
      | (go_at_call 53; (with_reducible refine (HPT.out ⟨#[114, 111, 117, 116, 101]⟩ ro _ _ _ _ S2.out (by omega)).mono ?_); rintro e v3 ⟨rfl, hm⟩; obtain ⟨a33, n33, p33, a34, n34, p34, hm⟩ := S2.out.called hm; have S3 := Lib.hid hm; have x3 : v3.cell? ⟨w.heap.size, 3, none⟩ = some (.int .i64 pr) := (HC.out _ _ _ _ S3.out).cell 3; clear hm)
      | (go_at_call 54; (with_reducible refine (HPN.out ⟨#[112, 114, 105, 111, 114, 105, 116, 121]⟩ pr _ _ _ _ S3.out (by simp; omega)).mono ?_); rintro e v4 ⟨rfl, hm⟩; obtain ⟨a43, n43, p43, a44, n44, p44, hm⟩ := S3.out.called hm; have S4 := Lib.hid hm; have x4 : v4.cell? ⟨w.heap.size, 4, none⟩ = some (.int .i64 ki) := (HC.out _ _ _ _ S4.out).cell 4; clear hm)
      | (go_at_call 55; (with_reducible refine (HKI.out _ S4.out.bel).mono ?_); rintro e v5 ⟨rfl, rfl⟩)
      | (go_at_call 53; (with_reducible refine (HPT.out ⟨#[107, 105, 110, 100]⟩ kn _ _ _ _ S4.out (by simp; omega)).mono ?_); rintro e v6 ⟨rfl, hm⟩; obtain ⟨a53, n53, p53, a54, n54, p54, hm⟩ := S4.out.called hm; have S5 := Lib.hid hm; clear hm)
      | (go_at_call 56; (with_reducible refine (HTB.out _).mono ?_); rintro e v7 ⟨rfl, hb7⟩; have S6 := Lib.hid (S5.out.next hb7); clear hb7))
    clear S2 S3 S4 S5 HPT HKI HTB HX3 HB3 HS0 x0 x1 x2 x3 x4
    rw [← HME.out] at S6
    go_loopw [27] (fun i wr => ∃ (j : Nat) (a3 : Option Addr) (n3 p3 : Nat) (a4 : Option Addr) (n4 p4 : Nat), i = .int .i64 (j : Int) ∧ j ≤ 8 ∧ Hid (Ot w R (mem0 R ++ nt R j) (.slice a3 n3 p3) (.slice a4 n4 p4) wr)) (fun i _ => 8 - (RowKit.intOf i).toNat)
    case atStart => exact ⟨0, _, _, _, _, _, _, rfl, by omega, Lib.hid (by rw [show nt R 0 = [] from rfl, List.append_nil]; exact S6.out)⟩
    case round =>
      clear S6
      obtain ⟨j, b5, l5, q5, b6, l6, q6, rfl, hj, SR⟩ := hrel
      by_cases hlt : j < 8
      · have hidx := HFT.out wr j hlt
        have HNYj := Lib.hid (HNY.out j)
        have HNNj := Lib.hid (HNN.out j)
        have HLj := HNL.out j
        have HM0' := HM0.out
        have SA := Lib.hid fun W (hb : Below wr.heap.size wr W) => SR.out.next hb
        have NUj := Lib.hid fun W (h : Ot w R (mem0 R ++ nt R j) (.slice b5 l5 q5) (.slice b6 l6 q6) W) => HNU.out W _ _ _ h j hlt
        by_cases hkk : kdj j = ki
        · have bk : (kdj j == ki) = true := by simpa using hkk
          have EN := Lib.hid (HNYj.out hkk)
          clear hkk HNYj HNNj
          generalize kdj j = kd at *
          generalize msj j = mj at *
          generalize num R (5 + j) = q at *
          generalize nm (5 + j) = z at *
          go_wp2_with (first
            | (refine wpList_line _ rfl _ _ rfl wr.heap.size wr ((Below.refl _ _).alloc (Nat.le_refl _) _) wr.heap.size (Nat.le_refl _) z _ kd mj _ rfl rfl (fb_new _ _) rfl ?_; intro wf hf hbf; have SF := Lib.hid (SA.out _ hbf); have FF := Lib.hid hf; have f0 : wf.cell? ⟨wr.heap.size, 0, none⟩ = some (.string z) := hf.cell 0; have f1 : wf.cell? ⟨wr.heap.size, 1, none⟩ = some (.pointer (some ⟨w.heap.size, 5 + j, none⟩)) := hf.cell 1; have f2 : wf.cell? ⟨wr.heap.size, 2, none⟩ = some (.int .i64 kd) := hf.cell 2; have xk : wf.cell? ⟨w.heap.size, 4, none⟩ = some (.int .i64 ki) := (HC.out _ _ _ _ SF.out).cell 4; have xn := NUj.out _ SF.out; clear hf hbf))
          have g0 : wf.drew.cell? ⟨wr.heap.size, 0, none⟩ = some (.string z) := f0
          have g1 : wf.drew.cell? ⟨wr.heap.size, 1, none⟩ = some (.pointer (some ⟨w.heap.size, 5 + j, none⟩)) := f1
          have gn : wf.drew.cell? ⟨w.heap.size, 5 + j, none⟩ = some (.int .i64 q) := xn
          have SD := Lib.hid (SF.out.next (Below.refl _ _).drew)
          go_region_law (first
            | (go_simp; go_at_call 54; (with_reducible refine (HPN.out z q _ _ _ _ SD.out (by rw [List.length_append]; omega)).mono ?_); rintro e v8 ⟨rfl, hm⟩; obtain ⟨a83, n83, p83, a84, n84, p84, hm⟩ := SD.out.called hm; have S8 := Lib.hid hm; clear hm))
          all_goals
            go_wp2_with fail
            go_roundw
            case rel => exact ⟨j + 1, _, _, _, _, _, _, by go_num, by omega, Lib.hid (by rw [EN.out, ← List.append_assoc]; exact S8.out)⟩
            case measure => simp [RowKit.intOf]; omega
        · have bk : (kdj j == ki) = false := by simpa using hkk
          have EN := Lib.hid (HNNj.out hkk)
          clear hkk HNYj HNNj
          generalize kdj j = kd at *
          generalize msj j = mj at *
          generalize num R (5 + j) = q at *
          generalize nm (5 + j) = z at *
          go_wp2_with (first
            | (refine wpList_line _ rfl _ _ rfl wr.heap.size wr ((Below.refl _ _).alloc (Nat.le_refl _) _) wr.heap.size (Nat.le_refl _) z _ kd mj _ rfl rfl (fb_new _ _) rfl ?_; intro wf hf hbf; have SF := Lib.hid (SA.out _ hbf); have FF := Lib.hid hf; have f0 : wf.cell? ⟨wr.heap.size, 0, none⟩ = some (.string z) := hf.cell 0; have f1 : wf.cell? ⟨wr.heap.size, 1, none⟩ = some (.pointer (some ⟨w.heap.size, 5 + j, none⟩)) := hf.cell 1; have f2 : wf.cell? ⟨wr.heap.size, 2, none⟩ = some (.int .i64 kd) := hf.cell 2; have xk : wf.cell? ⟨w.heap.size, 4, none⟩ = some (.int .i64 ki) := (HC.out _ _ _ _ SF.out).cell 4; have xn := NUj.out _ SF.out; clear hf hbf))
          go_roundw
          case rel => exact ⟨j + 1, _, _, _, _, _, _, by go_num, by omega, Lib.hid (by rw [EN.out]; exact SF.out)⟩
          case measure => simp [RowKit.intOf]; omega
      · obtain rfl : j = 8 := by omega
        go_wp2_with (first
          | (refine Tre.wpList_fetch _ rfl _ rfl _ _ rfl SR.out.oj.vb rfl ?_)
          | (refine Tre.wpList_keep _ rfl _ _ rfl w.heap.size w SR.out.bel (w.heap.size + 1) (Nat.le_succ _) #[.int .i64 5, .int .i64 0, .string ⟨#[]⟩, .slice b5 l5 q5, .slice b6 l6 q6] _ rfl rfl SR.out.zb rfl rfl (by intro u hu; simp only [List.mem_cons, List.not_mem_nil, or_false] at hu; rcases hu with rfl | rfl | rfl | rfl | rfl <;> rfl) ?_; intro w9 bx9 hb9 hk9 hs9; clear hs9))
        refine bodyPost_ret (Tre.results_val rfl _ _ _ _ rfl bx9 rfl) rfl ?_
        refine ⟨_, rfl, ?_, hb9⟩
        have ho := SR.out.oj.ob
        rw [HALL.out]
        have h2 := (ho.keep (W' := w9) fun b q => hk9 b fun e => by have := (ho.in_ q).1; omega).made
        exact InS_upd (fun b hb _ => ⟨rfl, by omega⟩) _ _ h2
end Go.Proofs.YtehkiojohldlgaaGreatDoor.Jsn

namespace Go.Proofs.YtehkiojohldlgaaGreatDoor.Jsn
open Go.RowKit Go.Lib
open Go.Proofs.YtehkiojohldlgaaGreatDoor.Tre (Vt V0 InV InS InS_upd InS_in InS_one InV_five InV_cells OwnR Box box_new box_set set_other own_in step_vpush)
open Go.Proofs.YtehkiojohldlgaaGreatDoor.Rul (Ru ruC ruL Row rga range_cells rangeAt_next Bx)
open Go.Proofs.YtehkiojohldlgaaGreatDoor.Thr (sck scn ga Mod rga_ga Ev)

theorem Pt.next {w1 W W' : World} {C : List Ru} {i : Nat} {c3 : Value} {D : List (List Value)} (h : Pt w1 C W i c3 D) (hb : Below W.heap.size W W') : Pt w1 C W' i c3 D :=
  ⟨h.r3.next hb, h.len, fun j hj => InS_upd (fun b hb' hl => ⟨hb.block b hl, hb'⟩) _ _ (h.it j hj), h.bx.next hb h.bx.lt, h.bel.trans (hb.mono h.bel.size), Nat.le_trans h.sz hb.size⟩
theorem kinds_of {L : List Ru} (h : (sck L).2 = 0) {k : Nat} (hk : k < (scn L).length) : (ga (scn L) k).ki = 1 ∨ (ga (scn L) k).ki = 2 ∨ (ga (scn L) k).ki = 3 := by
  have hrs := (Thr.sck_zero L).1 h
  have := ((Thr.scn_right hrs).rt _ (Thr.ga_mem hk)).ki
  rcases this with ⟨q, _⟩ | ⟨q, _⟩ | ⟨q, _⟩ <;> omega
set_option maxHeartbeats 8000000 in
set_option maxRecDepth 100000 in
theorem put_any : PuP := by
  intro L v w hr hl hs hE
  have hA := Lib.hid fun o => (Below.refl w.heap.size w).alloc (Nat.le_refl _) o
  have HCN := Lib.hid fun o => Thr.canon_any L v (w.alloc o) (hr.next (hA.out o)) hl hs (hE.next (hA.out o))
  have HTB := Lib.hid fun W (hb : Below w.heap.size w W) => (hE.next hb).tab
  have HKI := Lib.hid fun (h : (sck L).2 = 0) k (hk : k < (scn L).length) => kinds_of h hk
  have hbn : (scn L).length ≤ 4096 := by
    by_cases hz : (sck L).2 = 0
    · have hrs := (Thr.sck_zero L).1 hz
      have := Thr.scn_len hrs
      have := hrs.len
      omega
    · rw [Thr.scn_no hz]; exact Nat.zero_le _
  have hp0 : (sck L).2 = 0 → (sck L).1 = ⟨#[]⟩ := fun h => by rw [Thr.sck_ok ((Thr.sck_zero L).1 h)]
  unfold putO
  generalize scn L = C at *
  generalize sck L = x at *
  obtain ⟨p, E⟩ := x
  dsimp only at HCN hp0 HKI ⊢
  clear hr hl hs hE
  by_cases hz : E = 0
  · subst hz
    obtain rfl := hp0 rfl
    have HKJ := Lib.hid (HKI.out rfl)
    clear hp0 HKI
    rw [if_pos rfl]
    go_enter Tryz.func10, Tryz.ntmps10
    go_wp2_with (first
      | (go_at_call 22; (with_reducible refine (HCN.out _).mono ?_); rintro e w1 ⟨u1, rfl, hr1, hb1⟩; obtain ⟨a1, cap1, rfl, -, hc1⟩ := hr1.open_; have HC := Lib.hid hc1; obtain ⟨hz1, hw1⟩ := Tre.box_after hb1; have Z1 := Lib.hid (show Box w1 w.heap.size Tre.zeroC.toArray from hz1); have B1 := Lib.hid hw1; have P0 := Lib.hid (Pt.start w1 C); clear hr1 hb1 hc1 hz1 hw1))
    go_loopw [25] (fun i wr => ∃ (k : Nat) (a3 : Option Addr) (n3 p3 : Nat) (D : List (List Value)), i = .int .i64 (k : Int) ∧ k ≤ C.length ∧ Hid (Pt w1 C wr k (.slice a3 n3 p3) D)) (fun i _ => C.length - (RowKit.intOf i).toNat)
    case atStart => exact ⟨0, _, _, _, _, rfl, Nat.zero_le _, P0⟩
    case round =>
      clear P0
      obtain ⟨k, a3, n3, p3, D, rfl, hk, HP0⟩ := hrel
      by_cases hlt : k < C.length
      · obtain ⟨b, off, rfl, hcl⟩ := HC.out k hlt
        rw [rga_ga] at hcl
        have HCM := Lib.hid (rangeAt_next hcl HP0.out.bel)
        have HPX := Lib.hid fun W (hb : Below wr.heap.size wr W) => HP0.out.next hb
        have hkx := HKJ.out k hlt
        obtain ⟨X, hX⟩ : ∃ X, X = ga C k := ⟨_, rfl⟩
        rw [← hX] at HCM hkx
        have HON2 := Lib.hid fun W (hT : Rul.Tab W) => objectof_any X hkx W hT
        obtain ⟨Y, hY⟩ : ∃ Y, Y = one X := ⟨_, rfl⟩
        rw [← hY] at HON2
        have HY := Lib.hid (show Y = one (ga C k) by rw [hY, hX])
        clear hcl hY hX hkx
        obtain ⟨id, no, ro, pr, ki, ra, pe, bu, co, mx, fa, wa, pb⟩ := X
        dsimp only [ruC] at HON2
        go_wp2_with (first
          | (refine Rul.wpList_take _ rfl _ rfl b (off + k * 13) ⟨id, no, ro, pr, ki, ra, pe, bu, co, mx, fa, wa, pb⟩ rfl HCM.out ?_)
          | (refine Rul.wpList_keep _ rfl _ _ rfl wr.heap.size wr ((Below.refl _ _).alloc (Nat.le_refl _) _) _ (Nat.le_refl _) ⟨id, no, ro, pr, ki, ra, pe, bu, co, mx, fa, wa, pb⟩ _ rfl rfl (Rul.bx_new _ _) rfl ?_; intro wq hkq hbq hoq; have PQ := Lib.hid (HPX.out _ hbq); have KQ := Lib.hid hkq; have WQ := Lib.hid hbq; clear hkq hbq hoq))
        have hdq : Below wq.heap.size wq wq.drew := (Below.refl _ _).drew
        have HP := Lib.hid (PQ.out.next hdq)
        have TBQ := Lib.hid (HTB.out _ (B1.out.trans (HP.out.bel.mono B1.out.size)))
        obtain ⟨x0, x1, x2, x3, x4, x5, x6, x7, x8, x9, x10, x11, x12⟩ := cells13 (KQ.out.next hdq KQ.out.lt)
        have y3 : wq.drew.cell? ⟨w1.heap.size, 3, none⟩ = some (.slice a3 n3 p3) := HP.out.bx.cell 3
        have hlim : (D.length + 1) * 80 ≤ 140737488355328 := by have := HP.out.len; omega
        have O1 := Lib.hid HP.out.r3
        have hsz := HP.out.sz
        go_region_law (first
          | (refine step_vpush _ (by rfl) (.tmp 30) (.tmp 33) (by rfl) (w1.heap.size + 1) (.slice a3 n3 p3) D (by rfl) (own2.alloc _) (by simp; omega) _ _ (by rfl) _ (by exact box_new _ _) e5 e1 hlim ?_; intro v' w4 hv4 hg4 hk4; obtain ⟨a9, n9, p9, e9⟩ := slc3 hv4; subst e9; have X4 := Pt.step HP.out hb3 (HY.out ▸ hS2.out) hv4 hg4 hk4; have bx4 := X4.1; have S4 := Lib.hid X4.2; have f3 : w4.cell? ⟨w1.heap.size, 3, none⟩ = some (.slice a3 n3 p3) := bx4.cell 3; have ff : ∀ j, w4.frozen? ⟨w1.heap.size, j, none⟩ = false := fun j => bx4.free j; clear X4)
          | (go_simp; go_at_call 28; (with_reducible refine (HON2.out _ TBQ.out).mono ?_); rintro e w2 ⟨es, rfl, hS, hb2⟩; have hb3 : Below wq.drew.heap.size wq.drew w2 := hb2; have hS2 := Lib.hid (show InS (fun b => wq.drew.heap.size ≤ b) w2 Y es from hS); have q3 : w2.cell? ⟨w1.heap.size, 3, none⟩ = some (.slice a3 n3 p3) := (hb3.cell (p := ⟨w1.heap.size, 3, none⟩) HP.out.bx.lt).trans (HP.out.bx.cell 3); have qa : ∀ o, (w2.alloc o).cell? ⟨w1.heap.size, 3, none⟩ = some (.slice a3 n3 p3) := fun o => (((Below.refl w2.heap.size w2).alloc (Nat.le_refl _) o).cell (p := ⟨w1.heap.size, 3, none⟩) (Nat.lt_of_lt_of_le HP.out.bx.lt hb3.size)).trans q3; have own2 := O1.out.next hb3; have i2 := InS_in _ _ hS; have e5 := InV_five i2; have e1 := InS_one i2; obtain ⟨ez1, ez2, ez3, ez4, ez5, ez6, ez7, ez8, ez9, hes⟩ := Tre.InV_shp i2; subst hes; have hsz5 : w1.heap.size + 1 ≤ w2.heap.size := Nat.le_trans hsz hb3.size))
        all_goals
          go_wp2_with fail
          go_roundw
          case rel => exact ⟨k + 1, _, _, _, _, by go_num, by omega, S4⟩
          case measure => simp [RowKit.intOf]; omega
      · obtain rfl : k = C.length := by omega
        have HPM := Lib.hid HP0.out.made
        have hzx : Box wr w.heap.size Tre.zeroC.toArray := Z1.out.next HP0.out.bel Z1.out.lt
        have hbw : Below w.heap.size w wr := B1.out.trans (HP0.out.bel.mono B1.out.size)
        have ho5 := Lib.hid (InS_one (InS_in _ _ HPM.out))
        have hlw : w.heap.size < w1.heap.size := Z1.out.lt
        go_wp2_with (first
          | (refine Tre.wpList_fetch _ rfl _ rfl _ _ rfl HP0.out.bx rfl ?_)
          | (refine Tre.wpList_keep _ rfl _ _ rfl w.heap.size w hbw w.heap.size (Nat.le_refl _) #[.int .i64 4, .int .i64 0, .string ⟨#[]⟩, .slice a3 n3 p3, .slice none 0 0] _ rfl rfl hzx rfl rfl ho5.out ?_; intro w9 bx9 hb9 hk9 hs9; clear hs9))
        refine bodyPost_ret (results_valn rfl _ _ _ _ rfl bx9 rfl) rfl ?_
        exact ⟨[.int .i64 4, .int .i64 0, .string ⟨#[]⟩, .slice a3 n3 p3, .slice none 0 0], rfl, InS_upd (fun b hb _ => ⟨hk9 b (by omega), by omega⟩) _ _ HPM.out, hb9⟩
  · rw [if_neg hz]
    have b1 : (E != 0) = true := by simpa using hz
    clear hz hp0 HKI
    go_enter Tryz.func10, Tryz.ntmps10
    go_wp2_with (first
      | (go_at_call 22; (with_reducible refine (HCN.out _).mono ?_); rintro e w1 ⟨u1, rfl, hr1, hb1⟩; obtain ⟨hz1, hw1⟩ := Tre.box_after hb1; have Z1 := Lib.hid (show Box w1 w.heap.size Tre.zeroC.toArray from hz1); have B1 := Lib.hid hw1; clear hr1 hb1 hz1 hw1)
      | (refine Tre.wpList_keep _ rfl _ _ rfl w.heap.size w B1.out w.heap.size (Nat.le_refl _) Tre.zeroC.toArray _ rfl rfl Z1.out rfl rfl (by intro u hu; simp only [Tre.zeroC, List.mem_cons, List.not_mem_nil, or_false] at hu; rcases hu with rfl | rfl | rfl | rfl | rfl <;> rfl) ?_; intro w9 bx9 hb9 hk9 hs9; clear hs9))
    refine bodyPost_ret (results_valn rfl _ _ _ _ rfl bx9 rfl) rfl ?_
    exact ⟨_, rfl, zero_in _ _, hb9⟩
end Go.Proofs.YtehkiojohldlgaaGreatDoor.Jsn
