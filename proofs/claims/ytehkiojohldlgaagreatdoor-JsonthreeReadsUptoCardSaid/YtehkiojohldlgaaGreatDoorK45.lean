/- Texts of my own, packed: JsnP. Conditions: as each theorem states. -/
import Derived.Test.YtehkiojohldlgaaGreatDoorK43
namespace Go.Proofs.YtehkiojohldlgaaGreatDoor.Jsn
open Go.RowKit Go.Lib
open Go.Proofs.YtehkiojohldlgaaGreatDoor.Tre (Vt V0 find OkT OkT_iff okV InV InV_iff InS InS_in InS_one InV_next InV_shp Box box_new)
open Go.Proofs.YtehkiojohldlgaaGreatDoor.Rul (Ru ruC Row Rt kB can chk)
open Go.Proofs.YtehkiojohldlgaaGreatDoor.Thr (sck scn Rs Mod Ev ga)

/-! ### awake's sets and values -/
def r7 : Ru := ⟨⟨#[97]⟩, ⟨#[]⟩, ⟨#[47]⟩, 0, 2, 0, 0, 0, 0, 7, 0, 0, 0⟩
theorem chk_7 : chk r7 = (⟨#[]⟩, 0) := by decide +kernel
theorem rt_7 : Rt r7 := (Rul.chk_zero _).1 (by rw [chk_7])
theorem rs_7 : Rs [r7] := ⟨by decide, fun r hr => by rw [List.mem_singleton.1 hr]; exact rt_7, by simp⟩
theorem scn_7 : scn [r7] = [r7] := by
  rw [Thr.scn_ok rs_7]
  show Thr.srt [can r7] = [r7]
  rw [show can r7 = r7 from Rul.can_two rfl]
  rfl
theorem put_7 : putO [r7] = putV [r7] := by unfold putO; rw [Thr.sck_ok rs_7, if_pos rfl, scn_7]
def vZ : Vt := .mk 4 0 ⟨#[]⟩ [.mk 5 0 ⟨#[]⟩ [] []] []
def vY : Vt := .mk 5 0 ⟨#[]⟩ [N 5] [⟨#[120]⟩]
theorem of_Z : ofE vZ = (⟨#[47, 48, 47, 105, 100]⟩, 16) := by decide +kernel
theorem nu_Y : nu vY ⟨#[120]⟩ = (5, 0) := by decide +kernel
theorem OkT_Z : OkT vZ := OkT_of (by decide) (by decide) (by decide) (by decide) (by decide) no_names fun x hx => by
  rw [List.mem_singleton.1 hx]
  exact OkT_of (by decide) (by decide) (by decide) (by decide) (by decide) no_names no_items
theorem OkT_Y : OkT vY := OkT_of (by decide) (by decide) (by decide) (by decide) (by decide) (by decide) fun x hx => by
  rw [List.mem_singleton.1 hx]
  exact OkT_N (by decide) (by decide)
theorem inv_one {W : World} {g : Nat} {x : Vt} {ds : List Value} {c4 : Value} {ns : List ByteArray} (h : Box W g ds.toArray) (hi : InV W x ds) (k n : Int) (s : ByteArray) (hr : Strs.Row W c4 ns) :
    InV W (.mk k n s [x] ns) [.int .i64 k, .int .i64 n, .string s, .slice (some ⟨g, 0, none⟩) 1 1, c4] := by
  refine (InV_iff W _ _).2 ⟨_, 1, c4, rfl, fun j hj => ?_, hr⟩
  obtain rfl : j = 0 := by have : j < 1 := hj; omega
  refine ⟨g, 0, rfl, ds, fun i u hu => ?_, hi⟩
  have := h.cell i
  rw [show (⟨g, 0 + 5 * 0 + i, none⟩ : Addr) = ⟨g, i, none⟩ by congr 1; omega, this]
  simpa using hu
theorem inv_Z (W : World) : InV (W.alloc (.cells #[.int .i64 5, .int .i64 0, .string ⟨#[]⟩, .slice none 0 0, .slice none 0 0] 26)) vZ [.int .i64 4, .int .i64 0, .string ⟨#[]⟩, .slice (some ⟨W.heap.size, 0, none⟩) 1 1, .slice none 0 0] :=
  inv_one (ds := [.int .i64 5, .int .i64 0, .string ⟨#[]⟩, .slice none 0 0, .slice none 0 0]) (box_new _ _) ((InV_iff _ _ _).2 ⟨none, 0, _, rfl, fun _ hj => absurd hj (Nat.not_lt_zero _), Strs.Row.nil _⟩) 4 0 ⟨#[]⟩ (Strs.Row.nil _)
theorem inv_Y (W : World) : InV ((W.alloc (.cells #[.int .i64 2, .int .i64 5, .string ⟨#[]⟩, .slice none 0 0, .slice none 0 0] 26)).alloc (.cells #[.string ⟨#[120]⟩] 9)) vY
    [.int .i64 5, .int .i64 0, .string ⟨#[]⟩, .slice (some ⟨W.heap.size, 0, none⟩) 1 1, .slice (some ⟨W.heap.size + 1, 0, none⟩) 1 1] := by
  have b0 := box_new W #[.int .i64 2, .int .i64 5, .string ⟨#[]⟩, .slice none 0 0, .slice none 0 0]
  have hr := lit_row (W.alloc (.cells #[.int .i64 2, .int .i64 5, .string ⟨#[]⟩, .slice none 0 0, .slice none 0 0] 26)) [⟨#[120]⟩] #[.string ⟨#[120]⟩] 1 rfl rfl
  rw [World.size_alloc] at hr
  exact inv_one (ds := [.int .i64 2, .int .i64 5, .string ⟨#[]⟩, .slice none 0 0, .slice none 0 0]) (b0.next ((Below.refl _ _).alloc (Nat.le_refl _) _) b0.lt) (InS_in _ _ (leaf_N _ 5)) 5 0 ⟨#[]⟩ hr
theorem put_facts {W : World} {es : List Value} (h : InV W (putV [r7]) es) : ∃ b off cap a4 n4 p4, es = [.int .i64 4, .int .i64 0, .string ⟨#[]⟩, .slice (some ⟨b, off, none⟩) 1 cap, .slice a4 n4 p4] ∧ ∃ a2 p2, W.cell? ⟨b, off + 4, none⟩ = some (.slice a2 5 p2) := by
  obtain ⟨a, cap, c4, rfl, hit, hr⟩ := (InV_iff _ _ _).1 h
  obtain ⟨a4, p4, rfl, -⟩ := hr.open_
  obtain ⟨b, off, rfl, ds, hrg, hin⟩ := hit 0 (by decide)
  obtain ⟨xa, xc, x4, rfl, -, hxr⟩ := (InV_iff _ _ _).1 hin
  obtain ⟨a2, p2, rfl, -⟩ := hxr.open_
  refine ⟨b, off, cap, a4, _, p4, rfl, a2, p2, ?_⟩
  have := hrg 4 _ rfl
  rw [show (⟨b, off + 5 * 0 + 4, none⟩ : Addr) = ⟨b, off + 4, none⟩ by congr 1] at this
  exact this
theorem row_facts {W : World} {u : Value} (h : Row W u [r7]) : ∃ b off cap, u = .slice (some ⟨b, off, none⟩) 1 cap ∧ W.cell? ⟨b, off + 9, none⟩ = some (.int .i64 7) := by
  obtain ⟨a, cap, rfl, -, hc⟩ := h.open_
  obtain ⟨b, off, rfl, hrg⟩ := hc 0 (by decide)
  refine ⟨b, off, cap, rfl, ?_⟩
  have := hrg 9 _ rfl
  rw [show (⟨b, off + 0 * 13 + 9, none⟩ : Addr) = ⟨b, off + 9, none⟩ by simp] at this
  exact this

set_option maxHeartbeats 8000000 in
set_option maxRecDepth 100000 in
theorem awake_of {B : Nat} (h8 : 8 ≤ B) {K : World → Prop} (hK : ∀ a b, K a → Below a.heap.size a b → K b) (HPU : PuP) (HOF : OfP B K) (HNU : NuP) : AwP K := by
  intro w hE hk
  have HR0 := Lib.hid (show Row (w.alloc (.cells #[.string ⟨#[97]⟩, .string ⟨#[]⟩, .string ⟨#[47]⟩, .int .i64 0, .int .i64 2, .int .i64 0, .int .i64 0, .int .i64 0, .int .i64 0, .int .i64 7, .int .i64 0, .int .i64 0, .int .i64 0] 49)) (.slice (some ⟨w.heap.size, 0, none⟩) 1 1) [r7] from Rul.row_one w r7)
  have hA := Lib.hid fun o => (Below.refl w.heap.size w).alloc (Nat.le_refl _) o
  have HE := Lib.hid hE
  have HKK := Lib.hid hK
  have HK := Lib.hid hk
  have hmod : Mod [r7] := fun r hr => by rw [List.mem_singleton.1 hr]; decide
  have hok : OkT (putV [r7]) := put_7 ▸ OkT_putO (fun r hr => by rw [List.mem_singleton.1 hr]; decide)
  have hnz : Nz B (putV [r7]) := put_7 ▸ Nz_put h8 [r7]
  have H1 := Lib.hid fun u W (h : Row W u [r7]) (k : Ev W) => HPU [r7] u W h (by decide) hmod k
  rw [Thr.sck_ok rs_7, put_7] at H1
  have H2 := Lib.hid fun ds W (h : InV W (putV [r7]) ds) (k : Ev W) (q : K W) => HOF (putV [r7]) hok hnz ds W h k q
  rw [(of_put rs_7).1, (of_put rs_7).2, scn_7] at H2
  have H3 := Lib.hid fun ds W (h : InV W vZ ds) (k : Ev W) (q : K W) => HOF vZ OkT_Z (fun x hx n hn => by rw [List.mem_singleton.1 (show x ∈ [(.mk 5 0 ⟨#[]⟩ [] [] : Vt)] from hx)] at hn; cases hn) ds W h k q
  rw [of_Z] at H3
  have H4 := Lib.hid fun ds W (h : InV W vY ds) => HNU vY OkT_Y ⟨#[120]⟩ ds W h
  rw [nu_Y] at H4
  clear hE hK hk hmod hok hnz HPU HOF HNU
  go_enter Tryz.func9, Tryz.ntmps9
  go_wp2_with (first
    | (go_at_call 10; (with_reducible refine (H1.out _ _ HR0.out (HE.out.next (hA.out _))).mono ?_); rintro e w1 ⟨es, rfl, hS, hb1⟩; have i1 := InS_in _ _ hS; obtain ⟨b1, f1, c1, a4, n4, p4, rfl, a2, p2, hc1⟩ := put_facts i1; have V1 := Lib.hid (Va.new i1); have B1 := Lib.hid fun o => ((hA.out _).trans (hb1.mono (hA.out _).size)).alloc ((hA.out _).trans (hb1.mono (hA.out _).size)).size o; have N1 := Lib.hid hc1; clear hb1 hS i1 hc1)
    | (refine Tre.wpList_fetch _ rfl _ rfl w1.heap.size _ rfl V1.out.bx rfl ?_)
    | (go_at_call 12; first
      | ((with_reducible refine (H2.out _ _ V1.out.iv (HE.out.next (B1.out _)) (HKK.out _ _ HK.out (B1.out _))).mono ?_); rintro e w2 ⟨u2, rfl, hr2, hb2⟩; obtain ⟨b2, f2, c2, rfl, hm2⟩ := row_facts hr2; have V2 := Lib.hid (V1.out.next hb2); have B2 := Lib.hid fun o => ((B1.out _).trans (hb2.mono (B1.out _).size)).alloc ((B1.out _).trans (hb2.mono (B1.out _).size)).size o; have BB2 := Lib.hid hb2; have M2 := Lib.hid hm2; clear hr2 hb2 hm2)
      | ((with_reducible refine (H3.out _ _ (inv_Z _) (HE.out.next (B2.out _)) (HKK.out _ _ HK.out (B2.out _))).mono ?_); rintro e w3 ⟨u3, rfl, -, hb3⟩; have BB3 := Lib.hid (((Below.refl w2.heap.size w2).alloc (Nat.le_refl _) _).trans (hb3.mono (by simp))); have B3 := Lib.hid ((B2.out _).trans (hb3.mono (B2.out _).size)); clear hb3))
    | (go_at_call 18; (with_reducible refine (H4.out _ _ (inv_Y _)).mono ?_); rintro e w4 ⟨rfl, hb4⟩; have h34 := ((((Below.refl w3.heap.size w3).alloc (Nat.le_refl _) _).alloc (by simp) _).trans (hb4.mono (by simp; omega))); have B4 := Lib.hid (B3.out.trans (h34.mono B3.out.size)); have V4 := ((V2.out.next BB3.out).next h34); have y3 : w4.cell? ⟨w1.heap.size, 3, none⟩ = some (.slice (some ⟨b1, f1, none⟩) 1 c1) := V4.bx.cell 3; have hb14 := ((((Below.refl w1.heap.size w1).alloc (Nat.le_refl _) _).trans (BB2.out.mono (by simp))).trans (BB3.out.mono (Nat.le_trans (by simp) BB2.out.size))).trans (h34.mono (Nat.le_trans (Nat.le_trans (by simp) BB2.out.size) BB3.out.size)); have y4 := (hb14.cell (lt_of_cell N1.out)).trans N1.out; have hb24 := BB3.out.trans (h34.mono BB3.out.size); have y5 := (hb24.cell (lt_of_cell M2.out)).trans M2.out; clear hb4 h34 V4 hb14 hb24))
  go_ret
  exact ⟨by simp, B4.out⟩
end Go.Proofs.YtehkiojohldlgaaGreatDoor.Jsn
