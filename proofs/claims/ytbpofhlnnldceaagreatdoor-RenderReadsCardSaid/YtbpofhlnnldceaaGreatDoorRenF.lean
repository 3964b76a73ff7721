/- Contracts of Put and Pretty; the laws' own examples. Conditions: the two tables of unicode/utf8 and the table of powers are as the library's text lays them; as each theorem states. -/
import Derived.Test.YtbpofhlnnldceaaGreatDoorRenE
namespace Go.Proofs.YtbpofhlnnldceaaGreatDoor.Ren
open Go.RowKit Go.Lib Go.Proofs.YtbpofhlnnldceaaGreatDoor.Byt Go.Proofs.YtbpofhlnnldceaaGreatDoor.Utf Go.Proofs.YtbpofhlnnldceaaGreatDoor.Quo
open Go.Proofs.YtbpofhlnnldceaaGreatDoor.Lx (nL2 sL dcL dcF bl)
open Go.Proofs.YtbpofhlnnldceaaGreatDoor.Tre (Vt V0 wi dep cnt OkT okV InV InV_iff InV_next Box Box.lt Box.cell Box.next box_new wpList_fetch wpList_keep)

def putL (v : Vt) : List UInt8 := tv [] [58] v [] ++ []
def preL (v : Vt) : List UInt8 := tv [32, 32] [58, 32] v [10] ++ [10]
/-- A value of such a size is written. -/
structure Small (v : Vt) : Prop where
  ok : OkT v
  wg : wg v ≤ 1100000
  cnt : cnt v ≤ 2000
theorem bl_two : ∀ c ∈ ([32, 32] : List UInt8), bl c.toNat = true := by decide
theorem bl_one : ∀ c ∈ ([32] : List UInt8), bl c.toNat = true := by decide
theorem bl_line : ∀ c ∈ ([10] : List UInt8), bl c.toNat = true := by decide
theorem put_len {v : Vt} (h : Small v) : (putL v).length ≤ 7000000 := by
  have h1 := tv_len [] [58] 0 31 (by decide) v [] (by simp)
  have h2 := h.wg
  have h3 := h.cnt
  unfold putL
  rw [List.append_nil]
  omega
theorem pre_len {v : Vt} (h : Small v) (hw : wi v 64 = true) : (preL v).length ≤ 7990000 := by
  have hd := Ren.wi_dep v 64 (by omega) hw
  have h1 := tv_len [32, 32] [58, 32] 129 290 (by decide) v [10] (by simp; omega)
  have h2 := h.wg
  have h3 := h.cnt
  unfold preL
  rw [List.length_append, List.length_singleton]
  omega
section
variable (v : Vt) (h : Small v) (cs : List Value) (W : World) (hE : En W) (hi : InV W v cs)
include h hE hi
theorem wput : Calls Tryz.prog 15 #[.agg cs.toArray, .agg #[.string ⟨#[]⟩, .string ⟨#[]⟩, .string ⟨#[58]⟩]] W fun e w' => e = .returned (if wi v 64 = true then .tuple #[.string ⟨(putL v).toArray⟩, .int .i64 0] else .tuple #[.string ⟨#[]⟩, .int .i64 1]) ∧ Below W.heap.size W w' :=
  write_any v h.ok ⟨#[]⟩ ⟨#[]⟩ ⟨#[58]⟩ cs W hE hi (by have := h.wg; omega) fun _ => ⟨by show 0 + 0 * dep v ≤ 1000; omega, by
    have := put_len h
    unfold putL at this
    rw [List.append_nil] at this
    show (tv [] [58] v []).length + 0 ≤ _
    omega⟩
set_option maxRecDepth 100000 in
theorem put_any (q : Bool) (hq : wi v 64 = q) (r : Value) (hr : (if q = true then Value.tuple #[.string ⟨(putL v).toArray⟩, .int .i64 0] else .tuple #[.string ⟨#[]⟩, .int .i64 1]) = r) (hr2 : ∃ s n, r = .tuple #[.string s, .int .i64 n]) :
    Calls Tryz.prog 8 #[.agg cs.toArray] W fun e w' => e = .returned r ∧ Below W.heap.size W w' := by
  have HW := Lib.hid fun (W' : World) (hb : Below W.heap.size W W') => wput v h cs W' ⟨hE.tabs.next hb, hE.pow.next hb⟩ (InV_next hb v cs hi)
  rw [hq, hr] at HW
  obtain ⟨a, cap, c4, rfl, _, _⟩ := (InV_iff W v cs).1 hi
  obtain ⟨s, n, rfl⟩ := hr2
  have B0 := Lib.hid fun (o : Obj) => (Below.refl W.heap.size W).alloc (Nat.le_refl _) o
  clear h hE hi hq hr
  generalize v.k = k at *
  generalize v.n = m at *
  generalize v.s = u at *
  generalize v.l.length = l at *
  go_enter Tryz.func8, Tryz.ntmps8
  go_wp2_with (first
    | (refine wpList_fetch _ rfl _ rfl W.heap.size _ rfl (box_new _ _) rfl ?_)
    | (go_at_call 15; (with_reducible refine (HW.out _ (B0.out _)).mono ?_); rintro e w2 ⟨rfl, hb2⟩; have hb3 := (B0.out (.cells #[.int .i64 k, .int .i64 m, .string u, .slice a l cap, c4] 25)).trans (hb2.mono (by simp))))
  go_ret2
  exact ⟨rfl, hb3⟩
theorem wpre : Calls Tryz.prog 15 #[.agg cs.toArray, .agg #[.string ⟨#[10]⟩, .string ⟨#[32, 32]⟩, .string ⟨#[58, 32]⟩]] W fun e w' => e = .returned (if wi v 64 = true then .tuple #[.string ⟨(preL v).toArray⟩, .int .i64 0] else .tuple #[.string ⟨#[]⟩, .int .i64 1]) ∧ Below W.heap.size W w' :=
  write_any v h.ok ⟨#[10]⟩ ⟨#[32, 32]⟩ ⟨#[58, 32]⟩ cs W hE hi (by have := h.wg; omega) fun hw => by
    have h1 := pre_len h hw
    have h2 := Ren.wi_dep v 64 (by omega) hw
    unfold preL at h1
    rw [List.length_append, List.length_singleton] at h1
    exact ⟨by show 1 + 2 * dep v ≤ 1000; omega, by show (tv [32, 32] [58, 32] v [10]).length + 1 ≤ _; omega⟩
set_option maxRecDepth 100000 in
theorem pre_any (q : Bool) (hq : wi v 64 = q) (r : Value) (hr : (if q = true then Value.tuple #[.string ⟨(preL v).toArray⟩, .int .i64 0] else .tuple #[.string ⟨#[]⟩, .int .i64 1]) = r) (hr2 : ∃ s n, r = .tuple #[.string s, .int .i64 n]) :
    Calls Tryz.prog 9 #[.agg cs.toArray] W fun e w' => e = .returned r ∧ Below W.heap.size W w' := by
  have HW := Lib.hid fun (W' : World) (hb : Below W.heap.size W W') => wpre v h cs W' ⟨hE.tabs.next hb, hE.pow.next hb⟩ (InV_next hb v cs hi)
  rw [hq, hr] at HW
  obtain ⟨a, cap, c4, rfl, _, _⟩ := (InV_iff W v cs).1 hi
  obtain ⟨s, n, rfl⟩ := hr2
  have B0 := Lib.hid fun (o : Obj) => (Below.refl W.heap.size W).alloc (Nat.le_refl _) o
  clear h hE hi hq hr
  generalize v.k = k at *
  generalize v.n = m at *
  generalize v.s = u at *
  generalize v.l.length = l at *
  go_enter Tryz.func9, Tryz.ntmps9
  go_wp2_with (first
    | (refine wpList_fetch _ rfl _ rfl W.heap.size _ rfl (box_new _ _) rfl ?_)
    | (go_at_call 15; (with_reducible refine (HW.out _ (B0.out _)).mono ?_); rintro e w2 ⟨rfl, hb2⟩; have hb3 := (B0.out (.cells #[.int .i64 k, .int .i64 m, .string u, .slice a l cap, c4] 25)).trans (hb2.mono (by simp))))
  go_ret2
  exact ⟨rfl, hb3⟩
end
/-! ### what the laws use -/
section
variable (v : Vt) (h : Small v) (cs : List Value) (W : World) (hE : En W) (hi : InV W v cs)
include h hE hi
theorem put_yes (hw : wi v 64 = true) : Calls Tryz.prog 8 #[.agg cs.toArray] W fun e w' => e = .returned (.tuple #[.string ⟨(putL v).toArray⟩, .int .i64 0]) ∧ Below W.heap.size W w' :=
  put_any v h cs W hE hi true hw _ (if_pos rfl) ⟨_, _, rfl⟩
theorem put_no (hw : wi v 64 = false) : Calls Tryz.prog 8 #[.agg cs.toArray] W fun e w' => e = .returned (.tuple #[.string ⟨#[]⟩, .int .i64 1]) ∧ Below W.heap.size W w' :=
  put_any v h cs W hE hi false hw _ (if_neg (by decide)) ⟨_, _, rfl⟩
theorem pre_yes (hw : wi v 64 = true) : Calls Tryz.prog 9 #[.agg cs.toArray] W fun e w' => e = .returned (.tuple #[.string ⟨(preL v).toArray⟩, .int .i64 0]) ∧ Below W.heap.size W w' :=
  pre_any v h cs W hE hi true hw _ (if_pos rfl) ⟨_, _, rfl⟩
theorem pre_no (hw : wi v 64 = false) : Calls Tryz.prog 9 #[.agg cs.toArray] W fun e w' => e = .returned (.tuple #[.string ⟨#[]⟩, .int .i64 1]) ∧ Below W.heap.size W w' :=
  pre_any v h cs W hE hi false hw _ (if_neg (by decide)) ⟨_, _, rfl⟩
end
theorem put_same {v w : Vt} (hv : OkT v) (hw : OkT w) (h1 : wi v 64 = true) (h2 : wi w 64 = true) (he : putL v = putL w) : v = w := by
  have a := prs_back (st := []) (co := [58]) (cb := []) (ln := []) (fun c hc => by cases hc) rfl (fun c hc => by cases hc) (fun c hc => by cases hc) v hv h1 (cnt v + cnt w) (by omega)
  have b := prs_back (st := []) (co := [58]) (cb := []) (ln := []) (fun c hc => by cases hc) rfl (fun c hc => by cases hc) (fun c hc => by cases hc) w hw h2 (cnt v + cnt w) (by omega)
  unfold putL at he
  rw [he] at a
  rw [a] at b
  injection b
theorem pre_same {v w : Vt} (hv : OkT v) (hw : OkT w) (h1 : wi v 64 = true) (h2 : wi w 64 = true) (he : preL v = preL w) : v = w := by
  have a := prs_back bl_two rfl bl_one bl_line v hv h1 (cnt v + cnt w) (by omega)
  have b := prs_back bl_two rfl bl_one bl_line w hw h2 (cnt v + cnt w) (by omega)
  unfold preL at he
  rw [he] at a
  rw [a] at b
  injection b
end Go.Proofs.YtbpofhlnnldceaaGreatDoor.Ren
