/- Contracts of Put and Pretty. Conditions: the two tables of unicode/utf8 and the table of powers are as the library's text lays them; as each theorem states. -/
import Derived.Test.YtbpofhlnnldceaaGreatDoorRenD
import Derived.Test.YtbpofhlnnldceaaGreatDoorRenBk
import Derived.Test.YtbpofhlnnldceaaGreatDoorTreG3
namespace Go.Proofs.YtbpofhlnnldceaaGreatDoor.Ren
open Go.RowKit Go.Lib Go.Proofs.YtbpofhlnnldceaaGreatDoor.Byt Go.Proofs.YtbpofhlnnldceaaGreatDoor.Utf Go.Proofs.YtbpofhlnnldceaaGreatDoor.Quo
open Go.Proofs.YtbpofhlnnldceaaGreatDoor.Lx (nL2 sL dcL dcF bl)
open Go.Proofs.YtbpofhlnnldceaaGreatDoor.Tre (Vt V0 wi wiL hdB textB nmB noneB scal dep depL depL_le cnt cntL OkT okV InV InV_iff InV_next Box Box.lt Box.cell box_new wpList_fetch vt_ind)

theorem names_of {n : Int} {s : ByteArray} {l : List Vt} {ns : List ByteArray} {m : Int} (h : hdB 5 n s l ns m = true) : ns.length = l.length ∧ ∀ u ∈ ns, textB u = true := by
  unfold hdB at h
  have h2 : (((ns.length = l.length ∧ (∀ x ∈ ns, textB x = true) ∧ ns.Nodup) ∧ n = 0) ∧ s = ⟨#[]⟩) ∧ 1 ≤ m := by simpa [nmB, noneB] using h
  exact ⟨h2.1.1.1.1, h2.1.1.1.2.1⟩
theorem value_all (w0 : World) (hE : En w0) (v : Vt) : OkT v → ∀ m : Int, wi v m = true → PV w0 v := by
  refine vt_ind (p := fun v => OkT v → ∀ m : Int, wi v m = true → PV w0 v) ?_ v
  intro v ih hv m hw
  obtain ⟨_, h1, h2⟩ := hv
  refine value_any w0 hE v h1 m hw fun hk => ?_
  cases v with
  | mk k n s l ns =>
    obtain ⟨hd, hl⟩ := co_wi hw
    have ihl : ∀ u ∈ l, PV w0 u := fun u hu => ih u hu (h2 u hu) (m - 1) (hl u hu)
    have hk' : k = 4 ∨ k = 5 := hk
    rcases hk' with rfl | rfl
    · exact items_list w0 n s l ns h1 ihl
    · obtain ⟨hns, htx⟩ := names_of hd
      exact items_obj w0 hE n s l ns h1 hns htx ihl
theorem wi_dep (v : Vt) : ∀ m : Int, 0 ≤ m → wi v m = true → (dep v : Int) ≤ m := by
  refine vt_ind (p := fun v => ∀ m : Int, 0 ≤ m → wi v m = true → (dep v : Int) ≤ m) ?_ v
  intro v ih m hm hw
  cases v with
  | mk k n s l ns =>
    obtain ⟨hd, hl⟩ := co_wi hw
    rw [dep]
    by_cases hk : k = 4 ∨ k = 5
    · rw [if_pos hk]
      have h1 : 1 ≤ m := by
        unfold hdB at hd
        rcases hk with rfl | rfl
        · have : ((ns.isEmpty = true ∧ n = 0) ∧ noneB s = true) ∧ 1 ≤ m := by simpa using hd
          exact this.2
        · have : (((ns.length = l.length ∧ nmB ns = true) ∧ n = 0) ∧ noneB s = true) ∧ 1 ≤ m := by simpa using hd
          exact this.2
      have h2 : depL l ≤ (m - 1).toNat := depL_le.2 fun x hx => by
        have := ih x hx (m - 1) (by omega) (hl x hx)
        omega
      omega
    · rw [if_neg hk]; omega
theorem tv_ne {st co ln : List UInt8} {v : Vt} {m : Int} (h : wi v m = true) : tv st co v ln ≠ [] := by
  cases v with
  | mk k n s l ns =>
    have hd := (co_wi h).1
    unfold hdB at hd
    rw [tv]
    split
    · simp
    split
    · split <;> simp
    split
    · unfold nL2 sL
      intro e
      rw [List.append_eq_nil_iff] at e
      have h2 := congrArg List.length e.2
      unfold dcL at h2
      rw [dcF] at h2
      split at h2 <;> simp at h2
    split
    · unfold qQ; simp
    split
    · simp
    split
    · simp
    · simp_all
section
variable {ops : Array Oper} {rest : List Oper} {o : Oper} {a : Act} {Q : Exit → Act → World → Prop}
theorem infoL : (Tryz.prog.info? 39).map (·.size) = some 3 := by kernel_rfl
def BoxL (w : World) (g : Nat) (x y z : ByteArray) : Prop := w.heap[g]? = some (.cells #[.string x, .string y, .string z] 39 (0, 0))
theorem wpList_fetchL (W : World) (hgd : o.guard = none) (p : Operand) (ho : o.op = .load 39 p) (g : Nat) (x y z : ByteArray)
    (hx : a.eval p = .pointer (some ⟨g, 0, none⟩)) (hk : BoxL W g x y z)
    (h : wpList Tryz.prog ops Q rest (a.put o.dst (.agg #[.string x, .string y, .string z])) W) : wpList Tryz.prog ops Q (o :: rest) a W :=
  wpList_load_row hgd _ p ho g hx _ _ _ _ hk Tryz.underlying39 rfl infoL h
end
/-- What is written. -/
def full (y z : ByteArray) (v : Vt) (x : ByteArray) : List UInt8 := tv y.data.toList z.data.toList v x.data.toList ++ x.data.toList
set_option maxRecDepth 100000 in
set_option maxHeartbeats 2000000 in
theorem write_any (v : Vt) (hv : OkT v) (x y z : ByteArray) (cs : List Value) (W : World) (hE : En W) (h : InV W v cs) (hsm : wg v ≤ 8000000) (hlr : wi v 64 = true → x.size + y.size * dep v ≤ 1000 ∧ (tv y.data.toList z.data.toList v x.data.toList).length + x.size ≤ 100000000) :
    Calls Tryz.prog 15 #[.agg cs.toArray, .agg #[.string x, .string y, .string z]] W fun e w' => e = .returned (if wi v 64 = true then .tuple #[.string ⟨(full y z v x).toArray⟩, .int .i64 0] else .tuple #[.string ⟨#[]⟩, .int .i64 1]) ∧ Below W.heap.size W w' := by
  have HR := Lib.hid fun (W' : World) (hb : Below W.heap.size W W') => Tre.pright v hv cs W' (InV_next hb v cs h) (hE.tabs.next hb)
  have HI := Lib.hid h
  obtain ⟨a, cap, c4, hcs, _, _⟩ := (InV_iff W v cs).1 h
  cases v with
  | mk k n s l ns =>
  replace hcs : cs = [.int .i64 k, .int .i64 n, .string s, .slice a l.length cap, c4] := hcs
  subst hcs
  have hbox : ∀ o, Box ((W.alloc (.cells #[.int .i64 k, .int .i64 n, .string s, .slice a l.length cap, c4] 25)).alloc o) W.heap.size #[.int .i64 k, .int .i64 n, .string s, .slice a l.length cap, c4] := fun o => (Below.heap_alloc _ o _ (by simp)).trans (box_new _ _)
  have hlay : ∀ (o p : Obj), ((W.alloc o).alloc p).heap[W.heap.size + 1]? = some p := fun o p => by
    have := heap_alloc_new (W.alloc o) p
    rwa [show (W.alloc o).heap.size = W.heap.size + 1 by simp] at this
  have B0 := Lib.hid fun (o p : Obj) => ((Below.refl W.heap.size W).alloc (Nat.le_refl _) o).alloc (by simp) p
  clear h
  cases hw : wi (.mk k n s l ns) 64 with
  | false =>
    rw [hw] at HR
    rw [if_neg (by decide)]
    clear hsm hlr HI hw
    go_enter Tryz.func15, Tryz.ntmps15
    go_wp2_with (first
      | (refine wpList_fetch _ rfl _ rfl W.heap.size _ rfl (hbox _) rfl ?_)
      | (go_at_call 25; (with_reducible refine (HR.out _ (B0.out _ _)).mono ?_); rintro e w2 ⟨rfl, hb2⟩; have hb3 := (B0.out (.cells #[.int .i64 k, .int .i64 n, .string s, .slice a l.length cap, c4] 25) (.cells #[.string x, .string y, .string z] 39)).trans (hb2.mono (by simp; omega))))
    go_ret2
    exact ⟨rfl, hb3⟩
  | true =>
    obtain ⟨hln, hroom⟩ := hlr hw
    clear hlr
    rw [hw] at HR
    rw [if_pos rfl]
    have hPV := value_all W hE _ hv 64 hw
    have hne := tv_ne (st := y.data.toList) (co := z.data.toList) (ln := x.data.toList) hw
    have hfu : full y z (.mk k n s l ns) x = tv y.data.toList z.data.toList (.mk k n s l ns) x.data.toList ++ x.data.toList := rfl
    rw [hfu]
    generalize hTT : tv y.data.toList z.data.toList (.mk k n s l ns) x.data.toList = T at *
    have hPV2 := fun (b : Nat) (W' : World) (h' : Ws W b x y z [] W') => hPV b x y z x [] [.int .i64 k, .int .i64 n, .string s, .slice a l.length cap, c4] W' ⟨h', HI.out, by rw [hTT]; simpa using (show T.length ≤ 100000000 by omega), hsm, hln⟩
    rw [hTT] at hPV2
    simp only [List.nil_append] at hPV2
    have HP := Lib.hid hPV2
    have hroom2 : T.length + x.size ≤ 100000000 := hroom
    have HNE := Lib.hid (show T ++ x.data.toList ≠ [] by simp [hne])
    have HA := Lib.hid fun (b : Nat) (W' : World) (g : Nat) (hg : g = W'.heap.size) (h' : Ws W b x y z T W') => one_at x W' g hg h' (by omega)
    have HS := Lib.hid fun (b : Nat) (W' : World) (h' : Ws W b x y z (T ++ x.data.toList) W') => wr_string W.heap.size b x y z _ W' h'.wr HNE.out
    clear hPV hPV2 hsm hln hroom HI hw hne hTT hfu
    go_enter Tryz.func15, Tryz.ntmps15
    go_wp2_with (first
      | (refine wpList_fetch _ rfl _ rfl W.heap.size _ rfl (hbox _) rfl ?_)
      | (go_at_call 25; (with_reducible refine (HR.out _ (B0.out _ _)).mono ?_); rintro e w2 ⟨rfl, hb2⟩; have hb3 := (B0.out (.cells #[.int .i64 k, .int .i64 n, .string s, .slice a l.length cap, c4] 25) (.cells #[.string x, .string y, .string z] 39)).trans (hb2.mono (by simp; omega)); have bx2 := Box.next (hbox (.cells #[.string x, .string y, .string z] 39)) hb2 (by simp; omega); have bl2 : BoxL w2 (W.heap.size + 1) x y z := (hb2.block _ (by simp)).trans (hlay _ _); have ws3 : Ws W w2.heap.size x y z [] (w2.alloc (.cells #[.string x, .string y, .string z, .pointer none, .slice none 0 0] 57)) := ⟨wr_new w2 W.heap.size x y z hb3.size, hb3.alloc hb3.size _⟩; have bx3 : Box (w2.alloc (.cells #[.string x, .string y, .string z, .pointer none, .slice none 0 0] 57)) W.heap.size _ := (Below.heap_alloc _ _ _ (Box.lt bx2)).trans bx2; have c3 := ws3.wr.open_.2.2.1)
      | (refine wpList_fetchL _ rfl _ rfl (W.heap.size + 1) x y z rfl bl2 ?_)
      | (refine wpList_fetch _ rfl _ rfl W.heap.size _ rfl bx3 rfl ?_)
      | (go_at_call 26; (with_reducible refine (HP.out _ _ ws3).mono ?_); rintro e w4 ⟨rfl, h4, k4⟩; have c4 := h4.wr.open_.2.2.1; clear k4)
      | (go_at_call 27; (with_reducible refine (HA.out _ _ _ rfl h4).mono ?_); rintro e w5 ⟨rfl, h5, k5⟩; clear k5)
      | (go_at_call 28; (with_reducible refine (HS.out _ _ h5).mono ?_); rintro e w6 ⟨rfl, hb6⟩))
    go_ret2
    exact ⟨rfl, h5.bel.trans hb6⟩
end Go.Proofs.YtbpofhlnnldceaaGreatDoor.Ren
