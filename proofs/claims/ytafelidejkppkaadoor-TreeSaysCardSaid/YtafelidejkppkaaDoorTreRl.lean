/- The contract of the document's least. Conditions: as each theorem states. -/
import Derived.Test.YtafelidejkppkaaDoorTreRs
import Derived.Test.YtafelidejkppkaaDoorTreL
import Derived.Test.YtafelidejkppkaaDoorTreO
namespace Go.Proofs.YtafelidejkppkaaDoor.Tre
open Go.RowKit Go.Lib Go.Proofs.YtafelidejkppkaaDoor.Byt

set_option maxHeartbeats 2000000 in
set_option maxRecDepth 100000 in
theorem rleast (ns : List ByteArray) (c : Value) (a : Nat) (w : World) (hr : Strs.Row w c ns) (ha : a < ns.length) (hl : ns.length * 16 ≤ 140737488351232) :
    Calls Tryd.prog 32 #[c, .int .i64 (a : Int)] w fun e w' => e = .returned (.int .i64 (lst (nm ns) a ns.length : Int)) ∧ Below w.heap.size w w' := by
  obtain ⟨ad, cap, rfl, hc⟩ := hr.open_
  have HC := Lib.hid hc
  clear hc hr
  have hmx : ns.length ≤ 9223372036854775807 := by omega
  obtain ⟨z, hz⟩ : ∃ z, z = lst (nm ns) a ns.length := ⟨_, rfl⟩
  rw [← hz]
  have HZ := Lib.hid (show z = lstG (nm ns) a (a + 1) (ns.length - (a + 1)) from hz)
  clear hz
  go_enter Tryd.func32, Tryd.ntmps32
  go_wp2_with fail
  go_loopw [5, 6] (fun y x wr => ∃ (b i : Nat), x = .int .i64 (i : Int) ∧ y = .int .i64 (b : Int) ∧ b < ns.length ∧ i ≤ ns.length ∧ Below w.heap.size w wr ∧ Hid (z = lstG (nm ns) b i (ns.length - i)))
    (fun _ x _ => ns.length - (RowKit.intOf x).toNat)
  case atStart => exact ⟨a, a + 1, by go_num, rfl, ha, by omega, Below.refl _ _, HZ⟩
  case round =>
    clear HZ
    obtain ⟨b, i, rfl, rfl, hbn, hi, hb, hz⟩ := hrel
    by_cases hlt : i < ns.length
    · obtain ⟨g, off, rfl, f1⟩ := HC.out i hlt
      obtain ⟨g', off', eb, f2⟩ := HC.out b hbn
      injection eb with eb
      injection eb with eb1 eb2
      subst eb1 eb2
      have k1 := (hb.cell (Strs.cell_lt f1)).trans f1
      have k2 := (hb.cell (Strs.cell_lt f2)).trans f2
      have hst : z = if ltB (nm ns i) (nm ns b) = true then lstG (nm ns) i (i + 1) (ns.length - (i + 1)) else lstG (nm ns) b (i + 1) (ns.length - (i + 1)) := by
        rw [hz.out, show ns.length - i = (ns.length - (i + 1)) + 1 by omega, lstG]
      have hls := less_is (nm ns i) (nm ns b)
      unfold nm at hls hst
      generalize ns.getD i ⟨#[]⟩ = A at *
      generalize ns.getD b ⟨#[]⟩ = B at *
      have HST := Lib.hid hst
      clear f1 f2 hst hz
      cases hq : ltB A B with
      | true =>
        rw [hq] at hls
        have HQ := Lib.hid hq
        clear hq
        go_wp2_with fail
        go_region
        all_goals
          go_wp2_with fail
          go_roundw
          case rel => exact ⟨i, i + 1, by go_num, rfl, hlt, by omega, hb.drew, Lib.hid (by have := HST.out; rw [if_pos HQ.out] at this; exact this)⟩
          case measure => simp [RowKit.intOf]; omega
      | false =>
        rw [hq] at hls
        have HQ := Lib.hid hq
        clear hq
        go_wp2_with fail
        go_region
        all_goals
          go_wp2_with fail
          go_roundw
          case rel => exact ⟨b, i + 1, by go_num, rfl, hbn, by omega, hb.drew, Lib.hid (by have := HST.out; rw [if_neg (by rw [HQ.out]; simp)] at this; exact this)⟩
          case measure => simp [RowKit.intOf]; omega
    · obtain rfl : i = ns.length := by omega
      have HE := Lib.hid (show z = b by rw [hz.out, Nat.sub_self, lstG])
      clear hz
      go_wp2_with fail
      go_ret
      exact ⟨by rw [HE.out]; rfl, hb⟩
end Go.Proofs.YtafelidejkppkaaDoor.Tre
