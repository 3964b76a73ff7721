/- The statements' example of paths. Conditions: strconv's two errors are there, the table of powers is as the library's text lays it, MaxLen holds some number (Env); as each theorem states. -/
import Derived.Test.YtfefbfohenmajaaDoorPtrE
import Derived.Test.YtfefbfohenmajaaDoorPtrB
namespace Go.Proofs.YtfefbfohenmajaaDoor.Ptr
open Go.RowKit Go.Lib Go.Proofs.YtfefbfohenmajaaDoor.Byt
open Go.Proofs.YtfefbfohenmajaaDoor.Tre (Vt V0 find cnt OkT okV OkT_iff InV InV_iff InV_next InV_five InV_zero InS InS_in InS_five InS_one InS_upd InS_zero Box box_new OwnR wpList_keep wpList_fetch wpList_take zeroC results_val results_val2 size_toArray two_boxes box_after TB run_vpush own_in)

def awS : ByteArray := ⟨#[47, 97, 126, 49, 98, 47, 126, 48]⟩
def awL : List ByteArray := [⟨#[97, 47, 98]⟩, ⟨#[126]⟩]
def awN : Vt := .mk 2 7 ⟨#[]⟩ [] []
def awV : Vt := .mk 4 0 ⟨#[]⟩ [awN] []
theorem aw_take : tkA awS = some awL := by rfl
theorem aw_no : tkA ⟨#[97]⟩ = none := by rfl
theorem aw_put : pB awL = [47, 97, 126, 49, 98, 47, 126, 48] := by decide
theorem aw_join : jB ⟨#[47, 120]⟩ ⟨#[]⟩ = ⟨#[47, 120, 47]⟩ := by decide
theorem aw_find : fdP awV [⟨#[48]⟩] = some awN := by rfl
theorem aw_okN : OkT awN := (OkT_iff _).2 ⟨by unfold okV awN; decide, fun x hx => by cases hx⟩
theorem aw_ok : OkT awV := (OkT_iff _).2 ⟨by unfold okV awV awN; decide, fun x hx => by
  have : x = awN := by simpa [awV, Vt.l] using hx
  rw [this]; exact aw_okN⟩
theorem aw_in (W : World) (g : Nat) (h : W.heap[g]? = some (.cells #[.int .i64 2, .int .i64 7, .string ⟨#[]⟩, .slice none 0 0, .slice none 0 0] 25 (0, 0))) :
    InV W awV [.int .i64 4, .int .i64 0, .string ⟨#[]⟩, .slice (some ⟨g, 0, none⟩) 1 1, .slice none 0 0] := by
  refine (InV_iff W _ _).2 ⟨_, _, _, rfl, fun j hj => ?_, Strs.Row.nil W⟩
  have : j = 0 := by simpa [awV, Vt.l] using hj
  subst this
  refine ⟨g, 0, rfl, [.int .i64 2, .int .i64 7, .string ⟨#[]⟩, .slice none 0 0, .slice none 0 0], fun i u hu => ?_, (InV_iff W awN _).2 ⟨none, 0, .slice none 0 0, rfl, fun j hj => absurd hj (Nat.not_lt_zero _), Strs.Row.nil W⟩⟩
  rw [Nat.mul_zero, Nat.add_zero, Nat.zero_add, Lib.cell_of_heap h]
  simpa using hu
theorem aw_cells {W : World} {ds : List Value} (h : InV W awN ds) : ∃ a p a2 p2, ds = [.int .i64 2, .int .i64 7, .string ⟨#[]⟩, .slice a 0 p, .slice a2 0 p2] := by
  obtain ⟨a, p, c4, rfl, _, hr⟩ := (InV_iff W awN ds).1 h
  obtain ⟨a2, p2, rfl, _⟩ := hr.open_
  exact ⟨a, p, a2, p2, rfl⟩
theorem lit1_row (w : World) (s : ByteArray) : Strs.Row (w.alloc (.cells #[.string s] 9)) (.slice (some ⟨w.heap.size, 0, none⟩) 1 1) [s] := .inr ⟨w.heap.size, 0, 1, rfl, fun j hj => by
  have : j = 0 := by simpa using hj
  subst this
  rw [Lib.cell_of_heap (heap_alloc_new w _)]
  rfl⟩
theorem lit2_row (w : World) (s t : ByteArray) : Strs.Row (w.alloc (.cells #[.string s, .string t] 9)) (.slice (some ⟨w.heap.size, 0, none⟩) 2 2) [s, t] := .inr ⟨w.heap.size, 0, 2, rfl, fun j hj => by
  rw [Lib.cell_of_heap (heap_alloc_new w _)]
  match j, hj with
  | 0, _ => rfl
  | 1, _ => rfl⟩
theorem aw1 (W : World) (h : Mx W) : Calls Tryd.prog 9 #[.string ⟨#[47, 97, 126, 49, 98, 47, 126, 48]⟩] W fun e w' => ∃ b off cap, e = .returned (.tuple #[.slice (some ⟨b, off, none⟩) 2 cap, .bool true]) ∧ b < w'.heap.size ∧ w'.cell? ⟨b, off, none⟩ = some (.string ⟨#[97, 47, 98]⟩) ∧ w'.cell? ⟨b, off + 1, none⟩ = some (.string ⟨#[126]⟩) ∧ Below W.heap.size W w' := by
  have := ptake_any awS W (by decide) h
  rw [aw_take] at this
  refine this.mono ?_
  rintro e w' ⟨v, rfl, hr, hb⟩
  obtain ⟨a, cap, rfl, hc⟩ := hr.open_
  obtain ⟨b, off, rfl, hc0⟩ := hc 0 (by decide)
  obtain ⟨b2, off2, heq, hc1⟩ := hc 1 (by decide)
  injection heq with heq
  injection heq with e1 e2 _
  subst e1 e2
  exact ⟨b, off, cap, rfl, Strs.cell_lt hc0, hc0, hc1, hb⟩
theorem aw2 (W : World) (h : Mx W) : Calls Tryd.prog 9 #[.string ⟨#[97]⟩] W fun e w' => ∃ v, e = .returned (.tuple #[v, .bool false]) ∧ Below W.heap.size W w' := by
  have := ptake_any ⟨#[97]⟩ W (by decide) h
  rw [aw_no] at this
  refine this.mono ?_
  rintro e w' ⟨v, rfl, _, hb⟩
  exact ⟨v, rfl, hb⟩
theorem aw3 (W : World) (hE : Env W) : Calls Tryd.prog 11 #[.agg #[.int .i64 4, .int .i64 0, .string ⟨#[]⟩, .slice (some ⟨W.heap.size, 0, none⟩) 1 1, .slice none 0 0], .slice (some ⟨W.heap.size + 1, 0, none⟩) 1 1] ((W.alloc (.cells #[.int .i64 2, .int .i64 7, .string ⟨#[]⟩, .slice none 0 0, .slice none 0 0] 25)).alloc (.cells #[.string ⟨#[48]⟩] 9))
    fun e w' => ∃ a p a2 p2, e = .returned (.tuple #[.agg #[.int .i64 2, .int .i64 7, .string ⟨#[]⟩, .slice a 0 p, .slice a2 0 p2], .bool true]) ∧ Below W.heap.size W w' := by
  have hb1 : Below W.heap.size W (W.alloc (.cells #[.int .i64 2, .int .i64 7, .string ⟨#[]⟩, .slice none 0 0, .slice none 0 0] 25)) := (Below.refl _ _).alloc (Nat.le_refl _) _
  have hs1 : (W.alloc (.cells #[.int .i64 2, .int .i64 7, .string ⟨#[]⟩, .slice none 0 0, .slice none 0 0] 25)).heap.size = W.heap.size + 1 := by simp
  have hn1 := heap_alloc_new W (.cells #[.int .i64 2, .int .i64 7, .string ⟨#[]⟩, .slice none 0 0, .slice none 0 0] 25)
  generalize W.alloc (.cells #[.int .i64 2, .int .i64 7, .string ⟨#[]⟩, .slice none 0 0, .slice none 0 0] 25) = W1 at *
  have hb2 : Below W.heap.size W (W1.alloc (.cells #[.string ⟨#[48]⟩] 9)) := hb1.alloc (by omega) _
  have hr := lit1_row W1 ⟨#[48]⟩
  rw [hs1] at hr
  have hin := aw_in (W1.alloc (.cells #[.string ⟨#[48]⟩] 9)) W.heap.size ((Below.heap_alloc _ _ _ (by omega)).trans hn1)
  have key := pfindp awV aw_ok [⟨#[48]⟩] _ _ _ hin hr (hE.next hb2) (by intro x hx; rw [List.mem_singleton.1 hx]; decide) (by decide)
  rw [aw_find] at key
  refine key.mono ?_
  rintro e w' ⟨ds, rfl, hS, hb⟩
  obtain ⟨a, p, a2, p2, rfl⟩ := aw_cells (InS_in _ _ hS)
  exact ⟨a, p, a2, p2, rfl, hb2.trans (hb.mono hb2.size)⟩
theorem aw4 (W : World) (g : Nat) (hg : g = W.heap.size) (hE : Env W) : Calls Tryd.prog 13 #[.slice (some ⟨g, 0, none⟩) 2 2] (W.alloc (.cells #[.string ⟨#[97, 47, 98]⟩, .string ⟨#[126]⟩] 9))
    fun e w' => e = .returned (.string ⟨#[47, 97, 126, 49, 98, 47, 126, 48]⟩) ∧ Below W.heap.size W w' := by
  subst hg
  have hb : Below W.heap.size W (W.alloc (.cells #[.string ⟨#[97, 47, 98]⟩, .string ⟨#[126]⟩] 9)) := (Below.refl _ _).alloc (Nat.le_refl _) _
  have key := pput_any _ awL _ (lit2_row W ⟨#[97, 47, 98]⟩ ⟨#[126]⟩) (hE.mx.next hb) (by intro x hx; simp only [awL, List.mem_cons, List.not_mem_nil, or_false] at hx; rcases hx with rfl | rfl <;> decide) (by decide)
  rw [aw_put] at key
  refine key.mono ?_
  rintro e w' ⟨rfl, hb2⟩
  exact ⟨rfl, hb.trans (hb2.mono hb.size)⟩
theorem aw5 (W : World) (hE : Env W) : Calls Tryd.prog 15 #[.string ⟨#[47, 120]⟩, .string ⟨#[]⟩] W fun e w' => e = .returned (.string ⟨#[47, 120, 47]⟩) ∧ Below W.heap.size W w' := by
  have key := pjoin_any ⟨#[47, 120]⟩ ⟨#[]⟩ W hE.mx (by decide) (by decide)
  rw [aw_join] at key
  exact key
set_option maxHeartbeats 4000000 in
set_option maxRecDepth 100000 in
theorem awake_any (w : World) (hE : Env w) : Calls Tryd.prog 8 #[] w fun e w' => e = .returned (.bool true) ∧ Below w.heap.size w w' := by
  have H1 := Lib.hid aw1
  have H2 := Lib.hid aw2
  have H3 := Lib.hid aw3
  have H4 := Lib.hid aw4
  have H5 := Lib.hid aw5
  go_enter Tryd.func8, Tryd.ntmps8
  go_wp2_with (first
    | (go_at_call 9; (with_reducible refine (H1.out _ hE.mx).mono ?_); rintro e w1 ⟨b, off, cap, rfl, hlt, c0, c1, hb1⟩; have hE1 := hE.next hb1)
    | (go_at_call 9; (with_reducible refine (H2.out _ hE1.mx).mono ?_); rintro e w2 ⟨v2, rfl, hb2⟩; have hE2 := hE1.next hb2; have c2 := (hb2.cell (p := ⟨b, off, none⟩) hlt).trans c0; have c3 := (hb2.cell (p := ⟨b, off + 1, none⟩) hlt).trans c1; have hB2 := hb1.trans (hb2.mono hb1.size); have hl2 := Nat.lt_of_lt_of_le hlt hb2.size; clear hb1 hb2 c0 c1 hlt)
    | (go_at_call 11; (with_reducible refine (H3.out _ hE2).mono ?_); rintro e w3 ⟨a3, p3, a4, p4, rfl, hb3⟩; have hB3 := hB2.trans (hb3.mono hB2.size); have hE3 := hE2.next hb3; have c4 := (hb3.cell (p := ⟨b, off, none⟩) hl2).trans c2; have c5 := (hb3.cell (p := ⟨b, off + 1, none⟩) hl2).trans c3; have hl3 := Nat.lt_of_lt_of_le hl2 hb3.size; clear hb3 hB2 c2 c3 hl2)
    | (go_at_call 13; (with_reducible refine (H4.out _ _ (by simp) (hE3.next ((Below.refl _ _).alloc (Nat.le_refl _) _))).mono ?_); rintro e w5 ⟨rfl, hb5⟩; have hE5 := (hE3.next ((Below.refl _ _).alloc (Nat.le_refl _) _)).next hb5; obtain ⟨bx, hb7⟩ := box_after hb5; have cN := Box.cell bx 1; have c6 := (hb7.cell (p := ⟨b, off, none⟩) hl3).trans c4; have c7 := (hb7.cell (p := ⟨b, off + 1, none⟩) hl3).trans c5; have hB5 := hB3.trans (hb7.mono hB3.size); clear hb5 hb7 bx c4 c5 hB3)
    | (go_at_call 15; (with_reducible refine (H5.out _ hE5).mono ?_); rintro e w9 ⟨rfl, hb9⟩))
  go_ret
  exact ⟨rfl, hB5.trans (hb9.mono hB5.size)⟩
end Go.Proofs.YtfefbfohenmajaaDoor.Ptr
