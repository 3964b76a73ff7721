/- The statement OctetHex as a contract over every input. Conditions: none. -/
import Derived.Test.YtgofeakhkpnibaaOctG
namespace Go.Proofs.Ytgofeakhkpnibaa.Oct
open Go.RowKit Go.Lib Go.Proofs.Ytgofeakhkpnibaa.Byt

theorem hex_walk (s t : ByteArray) (w : World) :
    Calls Try.prog 5 #[.string s, .string t] w fun e w' => e = .returned (.bool true) ∧ Below w.heap.size w w' := by
  by_cases hs : 500 < s.size
  · go_enter Try.func5, Try.ntmps5
    go_wp2_with fail
    refine (awake_any _).mono ?_; rintro e w1 ⟨rfl, hb1⟩
    go_wp2_with fail
    go_ret
    exact ⟨rfl, hb1⟩
  by_cases ht : 500 < t.size
  · go_enter Try.func5, Try.ntmps5
    go_wp2_with fail
    refine (awake_any _).mono ?_; rintro e w1 ⟨rfl, hb1⟩
    go_wp2_with fail
    go_ret
    exact ⟨rfl, hb1⟩
  obtain ⟨h, hh⟩ : ∃ h : ByteArray, h = ⟨(hexL s.data.toList).toArray⟩ := ⟨_, rfl⟩
  have H1 : ∀ w, Calls Try.prog 15 #[.string s] w fun e w' => e = .returned (.string h) ∧ Below w.heap.size w w' := fun w => by rw [hh]; exact hex_any s w (by omega)
  have hz : h.size = 2 * s.size := by
    rw [hh]; show (List.toArray _).size = _
    rw [List.size_toArray, hexL_length]; simp
  have h2 : unL h.data.toList = some s.data.toList := by rw [hh]; exact unL_hexL _
  have H2 : ∀ w, Calls Try.prog 11 #[.string h] w fun e w' => e = .returned (.tuple #[.string s, .bool true]) ∧ Below w.heap.size w w' := fun w => by
    have := unhex_any h w (by omega)
    rwa [(unS_some h2).1, (unS_some h2).2] at this
  have hzi : (h.size : Int) = 2 * (s.size : Int) := by omega
  have hz' : h.size ≤ 1000 := by omega
  have H1' := Lib.hid H1
  have H2' := Lib.hid H2
  clear H1 H2 hh h2 hz
  cases hu : unL t.data.toList with
  | none =>
    have H3 : ∀ w, Calls Try.prog 11 #[.string t] w fun e w' => e = .returned (.tuple #[.string ⟨#[]⟩, .bool false]) ∧ Below w.heap.size w w' := fun w => by
      have := unhex_any t w (by omega)
      rwa [(unS_none hu).1, (unS_none hu).2] at this
    have H3' := Lib.hid H3
    clear H3 hu
    go_enter Try.func5, Try.ntmps5
    go_wp2_with fail
    refine (H1'.out _).mono ?_; rintro e w1 ⟨rfl, hb1⟩
    go_wp2_with fail
    refine (H2'.out _).mono ?_; rintro e w2 ⟨rfl, hb2⟩
    go_wp2_with fail
    refine (H3'.out _).mono ?_; rintro e w3 ⟨rfl, hb3⟩
    go_wp2_with fail
    refine (awake_any _).mono ?_; rintro e w4 ⟨rfl, hb4⟩
    go_wp2_with fail
    go_ret
    have h2 := below_next hb1 hb1.size hb2
    have h3 := below_next h2 h2.size hb3
    exact ⟨rfl, below_next h3 h3.size hb4⟩
  | some v =>
    obtain ⟨u, hu'⟩ : ∃ u : ByteArray, u = ⟨v.toArray⟩ := ⟨_, rfl⟩
    have hv := unL_length _ _ hu
    have hus : u.size ≤ 500 := by rw [hu']; show (List.toArray _).size ≤ _; rw [List.size_toArray]; simp at hv; omega
    have H3 : ∀ w, Calls Try.prog 11 #[.string t] w fun e w' => e = .returned (.tuple #[.string u, .bool true]) ∧ Below w.heap.size w w' := fun w => by
      have := unhex_any t w (by omega)
      rwa [(unS_some hu).1, (unS_some hu).2, ← hu'] at this
    have H4 : ∀ w, Calls Try.prog 15 #[.string u] w fun e w' => e = .returned (.string t) ∧ Below w.heap.size w w' := fun w => by
      have := hex_any u w (by omega)
      rwa [show u.data.toList = v by rw [hu'], hexL_unL _ _ hu] at this
    have H3' := Lib.hid H3
    have H4' := Lib.hid H4
    clear H3 H4 hu hu' hv
    go_enter Try.func5, Try.ntmps5
    go_wp2_with fail
    refine (H1'.out _).mono ?_; rintro e w1 ⟨rfl, hb1⟩
    go_wp2_with fail
    refine (H2'.out _).mono ?_; rintro e w2 ⟨rfl, hb2⟩
    go_wp2_with fail
    refine (H3'.out _).mono ?_; rintro e w3 ⟨rfl, hb3⟩
    go_wp2_with fail
    refine (H4'.out _).mono ?_; rintro e w4 ⟨rfl, hb4⟩
    go_wp2_with fail
    refine (awake_any _).mono ?_; rintro e w5 ⟨rfl, hb5⟩
    go_wp2_with fail
    go_ret
    have h2 := below_next hb1 hb1.size hb2
    have h3 := below_next h2 h2.size hb3
    have h4 := below_next h3 h3.size hb4
    exact ⟨rfl, below_next h4 h4.size hb5⟩
end Go.Proofs.Ytgofeakhkpnibaa.Oct
