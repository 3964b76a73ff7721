/- How arguments are opened: arrays of numbers and of strings. Conditions: as each theorem states. -/
import Derived.Test.YtjkdhgjicajboaaRows
import Derived.WideKeyPair
import Derived.ChangeMaps5
import Derived.OpenShut
import Derived.ProofKit
namespace Go.Proofs.Ytjkdhgjicajboaa.Opn
open Go.ChangeShapes Go.WideShapes Go.ChangeAt Go.RowKit Go.WideMaps

section
variable {H : Type} {enc : TypeId × Value → H} {P : Program} {W : World} {base : Nat} {sp : Nat → Bool} {held : Bool}

theorem mapM_all {α β : Type} (f : α → Option β) : ∀ (L : List α) (xs : List β), L.mapM f = some xs → ∀ i ∈ L, ∃ y, f i = some y
  | [], _, _, i, hi => by cases hi
  | a :: L, xs, h, i, hi => by
    rw [List.mapM_cons] at h
    simp only [bind, Option.bind_eq_some_iff, pure, Option.some.injEq] at h
    obtain ⟨y, hy, ys, hys, rfl⟩ := h
    rcases List.mem_cons.1 hi with rfl | h1
    · exact ⟨y, hy⟩
    · exact mapM_all f L ys hys i h1

theorem open_array {k e : TypeId} {n : Nat} (hu : P.underlying k = some (.array n e)) (one : P.cellsOf e = 1) (size : P.cellsOf k = n) {r : Reach} {b0 : Nat} {v : Value} {d : DataW H} {ps : List MemPlace}
    (hval : Value.okWide P W r b0 k v) (hd : DataW.Trod enc P W base sp held k v d ps) :
    ∃ cs : List Value, v = .agg cs.toArray ∧ cs.length = n ∧ ∃ fuel : Nat, ∀ (i : Nat) (u : Value), cs[i]? = some u → ∃ x, DataW.trod enc P W base sp held fuel e [u] = some x := by
  simp only [Value.okWide, hu] at hval
  obtain ⟨⟨cs⟩, rfl, h2, _⟩ := hval
  rw [size] at h2
  refine ⟨cs, rfl, by simpa using h2, ?_⟩
  obtain ⟨fuel, hf⟩ := hd
  cases fuel with
  | zero => simp [DataW.trod] at hf
  | succ m =>
    rw [DataW.trod_step] at hf
    unfold DataW.trodStep at hf
    simp only [hu, Value.cells] at hf
    rw [if_pos (by rw [size]; simpa using h2)] at hf
    simp only [Option.map_eq_some_iff] at hf
    obtain ⟨ys, hy, _⟩ := hf
    refine ⟨m, fun i u hiu => ?_⟩
    have hlt : i < n := by
      have := (List.getElem?_eq_some_iff.1 hiu).1
      simp at h2; omega
    obtain ⟨y, hy2⟩ := mapM_all _ _ _ hy i (List.mem_range.2 hlt)
    rw [one, Nat.mul_one] at hy2
    have e2 : (cs.drop i).take 1 = [u] := by
      obtain ⟨h3, h4⟩ := List.getElem?_eq_some_iff.1 hiu
      rw [List.drop_eq_getElem_cons h3, h4]
      rfl
    rw [e2] at hy2
    exact ⟨y, hy2⟩

theorem open_int3 {k e : TypeId} {q : IntKind} (hu : P.underlying k = some (.array 3 e)) (one : P.cellsOf e = 1) (size : P.cellsOf k = 3) (he : P.underlying e = some (.int q)) {r : Reach} {b0 : Nat} {v : Value} {d : DataW H} {ps : List MemPlace}
    (hval : Value.okWide P W r b0 k v) (hd : DataW.Trod enc P W base sp held k v d ps) :
    ∃ a b c : Int, v = .agg #[.int q a, .int q b, .int q c] ∧ (Lit.int q a).wf = true ∧ (Lit.int q b).wf = true ∧ (Lit.int q c).wf = true := by
  obtain ⟨cs, rfl, hn, fuel, h⟩ := open_array hu one size hval hd
  match cs, hn with
  | [x, y, z], _ =>
    obtain ⟨⟨_, _⟩, h0⟩ := h 0 x rfl
    obtain ⟨⟨_, _⟩, h1⟩ := h 1 y rfl
    obtain ⟨⟨_, _⟩, h2⟩ := h 2 z rfl
    obtain ⟨a, ea, _, wa⟩ := DataW.trod_int he h0
    obtain ⟨b, eb, _, wb⟩ := DataW.trod_int he h1
    obtain ⟨c, ec, _, wc⟩ := DataW.trod_int he h2
    simp at ea eb ec
    subst ea; subst eb; subst ec
    exact ⟨a, b, c, rfl, wa, wb, wc⟩

theorem open_int2 {k e : TypeId} {q : IntKind} (hu : P.underlying k = some (.array 2 e)) (one : P.cellsOf e = 1) (size : P.cellsOf k = 2) (he : P.underlying e = some (.int q)) {r : Reach} {b0 : Nat} {v : Value} {d : DataW H} {ps : List MemPlace}
    (hval : Value.okWide P W r b0 k v) (hd : DataW.Trod enc P W base sp held k v d ps) :
    ∃ a b : Int, v = .agg #[.int q a, .int q b] ∧ (Lit.int q a).wf = true ∧ (Lit.int q b).wf = true := by
  obtain ⟨cs, rfl, hn, fuel, h⟩ := open_array hu one size hval hd
  match cs, hn with
  | [x, y], _ =>
    obtain ⟨⟨_, _⟩, h0⟩ := h 0 x rfl
    obtain ⟨⟨_, _⟩, h1⟩ := h 1 y rfl
    obtain ⟨a, ea, _, wa⟩ := DataW.trod_int he h0
    obtain ⟨b, eb, _, wb⟩ := DataW.trod_int he h1
    simp at ea eb
    subst ea; subst eb
    exact ⟨a, b, rfl, wa, wb⟩

theorem open_str2 {k e : TypeId} (hu : P.underlying k = some (.array 2 e)) (one : P.cellsOf e = 1) (size : P.cellsOf k = 2) (he : P.underlying e = some .string) {r : Reach} {b0 : Nat} {v : Value} {d : DataW H} {ps : List MemPlace}
    (hval : Value.okWide P W r b0 k v) (hd : DataW.Trod enc P W base sp held k v d ps) :
    ∃ a b : ByteArray, v = .agg #[.string a, .string b] ∧ a.size ≤ maxLen ∧ b.size ≤ maxLen := by
  obtain ⟨cs, rfl, hn, fuel, h⟩ := open_array hu one size hval hd
  match cs, hn with
  | [x, y], _ =>
    obtain ⟨⟨_, _⟩, h0⟩ := h 0 x rfl
    obtain ⟨⟨_, _⟩, h1⟩ := h 1 y rfl
    obtain ⟨a, ea, _, wa⟩ := DataW.trod_string he h0
    obtain ⟨b, eb, _, wb⟩ := DataW.trod_string he h1
    simp at ea eb
    subst ea; subst eb
    exact ⟨a, b, rfl, wa, wb⟩
end
section
variable {H : Type} {enc : TypeId × Value → H} {P : Program} {W : World} {base : Nat} {sp : Nat → Bool} {held : Bool}
theorem open_int4 {k e : TypeId} {q : IntKind} (hu : P.underlying k = some (.array 4 e)) (one : P.cellsOf e = 1) (size : P.cellsOf k = 4) (he : P.underlying e = some (.int q)) {r : Reach} {b0 : Nat} {v : Value} {d : DataW H} {ps : List MemPlace}
    (hval : Value.okWide P W r b0 k v) (hd : DataW.Trod enc P W base sp held k v d ps) :
    ∃ a b c f : Int, v = .agg #[.int q a, .int q b, .int q c, .int q f] ∧ (Lit.int q a).wf = true ∧ (Lit.int q b).wf = true ∧ (Lit.int q c).wf = true ∧ (Lit.int q f).wf = true := by
  obtain ⟨cs, rfl, hn, fuel, h⟩ := open_array hu one size hval hd
  match cs, hn with
  | [x, y, z, u], _ =>
    obtain ⟨⟨_, _⟩, h0⟩ := h 0 x rfl
    obtain ⟨⟨_, _⟩, h1⟩ := h 1 y rfl
    obtain ⟨⟨_, _⟩, h2⟩ := h 2 z rfl
    obtain ⟨⟨_, _⟩, h3⟩ := h 3 u rfl
    obtain ⟨a, ea, _, wa⟩ := DataW.trod_int he h0
    obtain ⟨b, eb, _, wb⟩ := DataW.trod_int he h1
    obtain ⟨c, ec, _, wc⟩ := DataW.trod_int he h2
    obtain ⟨f, ef, _, wf⟩ := DataW.trod_int he h3
    simp at ea eb ec ef
    subst ea; subst eb; subst ec; subst ef
    exact ⟨a, b, c, f, rfl, wa, wb, wc, wf⟩
end
theorem i64_bd {n : Int} (h : (Lit.int .i64 n).wf = true) : -9223372036854775808 ≤ n ∧ n ≤ 9223372036854775807 := bounds_i64 h
theorem u64_nat {n : Int} (h : (Lit.int .u64 n).wf = true) : ∃ m : Nat, n = (m : Int) ∧ m < 18446744073709551616 := by
  simp only [Lit.wf, IntKind.min, IntKind.max, IntKind.signed, IntKind.bits, Bool.and_eq_true] at h
  exact ⟨n.toNat, by simp at h; omega, by simp at h; omega⟩
theorem u32_nat {n : Int} (h : (Lit.int .u32 n).wf = true) : ∃ m : Nat, n = (m : Int) ∧ m < 4294967296 := by
  simp only [Lit.wf, IntKind.min, IntKind.max, IntKind.signed, IntKind.bits, Bool.and_eq_true] at h
  exact ⟨n.toNat, by simp at h; omega, by simp at h; omega⟩
theorem u16_nat {n : Int} (h : (Lit.int .u16 n).wf = true) : ∃ m : Nat, n = (m : Int) ∧ m < 65536 := by
  simp only [Lit.wf, IntKind.min, IntKind.max, IntKind.signed, IntKind.bits, Bool.and_eq_true] at h
  exact ⟨n.toNat, by simp at h; omega, by simp at h; omega⟩
theorem u8_nat {n : Int} (h : (Lit.int .u8 n).wf = true) : ∃ m : Nat, n = (m : Int) ∧ m < 256 := by
  simp only [Lit.wf, IntKind.min, IntKind.max, IntKind.signed, IntKind.bits, Bool.and_eq_true] at h
  exact ⟨n.toNat, by simp at h; omega, by simp at h; omega⟩
end Go.Proofs.Ytjkdhgjicajboaa.Opn
