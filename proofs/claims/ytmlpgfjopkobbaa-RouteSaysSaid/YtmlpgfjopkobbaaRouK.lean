/- Contracts of route's Join and of the document's. Conditions: as each theorem states. -/
import Derived.Test.YtmlpgfjopkobbaaRouJ
namespace Go.Proofs.Ytmlpgfjopkobbaa.Rou
open Go.RowKit Go.Lib Go.Proofs.Ytmlpgfjopkobbaa.Byt

theorem ljoin_any (l : List ByteArray) (v : Value) (w : World) (hr : Strs.Row w v l) (hcp : Cp v) (hlim : (sj (dts l)).length ≤ 8000000) :
    Calls Try.prog 26 #[v, .string ⟨#[47]⟩] w fun e w' => e = .returned (.string (sjB l)) ∧ Below w.heap.size w w' := by
  match l, hr, hlim with
  | [], hr, _ =>
    obtain ⟨a, c, rfl, _⟩ := hr.open_
    exact ljoin_none [] a c w rfl
  | [x], hr, _ =>
    obtain ⟨a, c, rfl, _⟩ := hr.open_
    exact ljoin_one [x] a c w x rfl hr
  | x0 :: x1 :: r, hr, hlim =>
    obtain ⟨a, c, rfl, hc⟩ := hr.open_
    obtain ⟨b, off, rfl, _⟩ := hc 0 (by simp)
    refine ljoin_many x0 x1 r b off c w (fun j hj => ?_) ?_ hlim
    · obtain ⟨b', off', e, h⟩ := hc j hj
      injection e with e
      injection e with e1 e2
      subst e1 e2
      exact h
    · obtain ⟨a', n, c', e, h⟩ := hcp
      injection e with e1 e2 e3
      simp only [List.length_cons] at e2
      omega
theorem app_data (a b : ByteArray) : (a ++ b).data.toList = a.data.toList ++ b.data.toList := by simp
theorem ext_data {a b : ByteArray} (h : a.data.toList = b.data.toList) : a = b := ByteArray.ext (Array.toList_inj.1 h)
theorem add_run (a b c : ByteArray) (h : a ++ b = c) (hs : c.size ≤ 8388608) : ∀ W, (Op.stringOp .add a b).run Try.prog W = .ok (.string c) W := by
  intro W
  subst h
  rw [ByteArray.size_append] at hs
  exact run_string_add W a b (by omega) (by omega)
/-- The row of the parts l. -/
def joB (l : List ByteArray) : ByteArray := mk (jP (dts l))
theorem joB_is (l : List ByteArray) : ⟨#[47]⟩ ++ sjB l = joB l := by
  refine ext_data ?_
  rw [app_data]
  unfold sjB joB
  rw [dt_mk, dt_mk, jP_sj]; rfl
theorem joB_size (l : List ByteArray) : (joB l).size = (sj (dts l)).length + 1 := by
  unfold joB
  rw [sz_mk, jP_sj]; rfl
theorem join_any (l : List ByteArray) (v : Value) (w : World) (hr : Strs.Row w v l) (hcp : Cp v) (hlim : (joB l).size ≤ 8000000) :
    Calls Try.prog 14 #[v] w fun e w' => e = .returned (.string (joB l)) ∧ Below w.heap.size w w' := by
  have hq := joB_is l
  have hz := joB_size l
  have HJ := Lib.hid fun W h => ljoin_any l v W h hcp (by omega)
  have hs1 : (sjB l).size ≤ 8000000 := by unfold sjB; rw [sz_mk]; omega
  have r1 := add_run _ _ _ hq (by omega)
  clear hq hz hlim hcp
  generalize joB l = R at *
  generalize sjB l = S at *
  go_enter Try.func14, Try.ntmps14
  go_wp2_with (go_at_call 26; (with_reducible refine (HJ.out _ hr).mono ?_); rintro e w1 ⟨rfl, hb1⟩)
  go_ret
  exact ⟨rfl, hb1⟩

/-! ### the document's -/
theorem jn_snoc {l : List (List UInt8)} {k : Nat} {y : List UInt8} (h : l[k]? = some y) : jn (l.take (k + 1)) = jn (l.take k) ++ (47 :: y) := by
  rw [List.take_add_one, h, jn_app]
  congr 1
  rw [Option.toList_some, jn_cons]
  simp [jn]
theorem jn_take_le (l : List (List UInt8)) (k : Nat) : (jn (l.take k)).length ≤ (jn l).length := by
  have := congrArg List.length (jn_app (l.take k) (l.drop k))
  rw [List.take_append_drop, List.length_append] at this
  omega
theorem jP_ne {l : List (List UInt8)} (h : l ≠ []) : jP l = jn l := by unfold jP; rw [if_neg h]
set_option maxHeartbeats 2000000 in
set_option maxRecDepth 100000 in
theorem rjoin_any (l : List ByteArray) (v : Value) (w : World) (hr : Strs.Row w v l) (hl : l.length ≤ 140737488355328) (hlim : (joB l).size ≤ 8000000) :
    Calls Try.prog 15 #[v] w fun e w' => e = .returned (.string (joB l)) ∧ w = w' := by
  obtain ⟨a, cap, rfl, hc⟩ := hr.open_
  by_cases h0 : l = []
  · subst h0
    have hq : joB [] = ⟨#[47]⟩ := rfl
    rw [hq]
    clear hc hr hlim hq
    go_enter Try.func15, Try.ntmps15
    go_wp2_with fail
    go_ret
    exact ⟨rfl, rfl⟩
  · have hq : joB l = mk (jn ((dts l).take l.length)) := by
      unfold joB
      rw [jP_ne (l := dts l) (fun e => h0 (List.map_eq_nil_iff.1 e)), List.take_of_length_le (by rw [dts_len]; exact Nat.le_refl _)]
    have hle : ∀ k, (mk (jn ((dts l).take k))).size ≤ 8000000 := fun k => by
      have := jn_take_le (dts l) k
      rw [hq, sz_mk, List.take_of_length_le (by rw [dts_len]; exact Nat.le_refl _)] at hlim
      rw [sz_mk]; omega
    have hst : ∀ k, k < l.length → mk (jn ((dts l).take k)) ++ (⟨#[47]⟩ ++ l.getD k ⟨#[]⟩) = mk (jn ((dts l).take (k + 1))) := fun k hk => by
      refine ext_data ?_
      rw [app_data, app_data, dt_mk, dt_mk, jn_snoc (k := k) (y := (l.getD k ⟨#[]⟩).data.toList) (by unfold dts; rw [List.getElem?_map, List.getD_eq_getElem?_getD, List.getElem?_eq_getElem hk]; rfl)]
      rfl
    have HC := Lib.hid hc
    have HL := Lib.hid hle
    have HS := Lib.hid hst
    have hne : 0 < l.length := List.length_pos_iff.2 h0
    have z0 : ((l.length : Int) == 0) = false := beq_eq_false_iff_ne.2 (by omega)
    rw [hq]
    have e0 : mk (jn ((dts l).take 0)) = ⟨#[]⟩ := rfl
    have HE := Lib.hid e0
    clear hc hr hlim hq hle hst h0 e0
    go_enter Try.func15, Try.ntmps15
    go_wp2_with fail
    go_loop [3, 10] (fun s i => ∃ k : Nat, k ≤ l.length ∧ i = .int .i64 (k : Int) ∧ s = .string (mk (jn ((dts l).take k)))) (fun _ i => l.length - (RowKit.intOf i).toNat)
    case atStart => exact ⟨0, Nat.zero_le _, rfl, by rw [HE.out]⟩
    case round =>
      obtain ⟨k, hk, rfl, rfl⟩ := hrel
      by_cases hlt : k < l.length
      · obtain ⟨b, off, rfl, hcl⟩ := HC.out k hlt
        have h1 := HS.out k hlt
        have z1 := HL.out k
        have z2 := HL.out (k + 1)
        generalize hO : mk (jn ((dts l).take (k + 1))) = o2 at *
        generalize mk (jn ((dts l).take k)) = o1 at *
        generalize l.getD k ⟨#[]⟩ = x at *
        have h3 : (o1 ++ (⟨#[47]⟩ ++ x)).size ≤ 8000000 := by rw [h1]; exact z2
        rw [ByteArray.size_append] at h3
        have r1 := add_run ⟨#[47]⟩ x _ rfl (by omega)
        generalize (⟨#[47]⟩ ++ x : ByteArray) = y at *
        have r2 := add_run o1 y o2 h1 (by omega)
        have HO := Lib.hid hO
        clear h1 h3 z1 z2 hO
        go_wp2_with fail
        go_round
        case rel => exact ⟨k + 1, by omega, by go_num, by rw [HO.out]⟩
        case measure => simp [RowKit.intOf]; omega
      · obtain rfl : k = l.length := by omega
        generalize hO : mk (jn ((dts l).take l.length)) = o at *
        have HO := Lib.hid (ret_s hO.symm)
        clear hO
        go_wp2_with fail
        go_ret
        exact ⟨HO.out, rfl⟩
end Go.Proofs.Ytmlpgfjopkobbaa.Rou
