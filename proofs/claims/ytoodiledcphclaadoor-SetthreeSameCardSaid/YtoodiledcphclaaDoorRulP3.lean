/- Contracts of the document's Kind, KindOf, fields, texts, Check. Conditions: the texts have at most 2^47 bytes. · Contracts of the document's texts and Check. Conditions: the texts have at most 2^47 bytes. · Contract of the document's Canon. Conditions: the texts have at most 2^47 bytes. -/
import Derived.Test.YtoodiledcphclaaDoorRulP2
import Derived.Test.YtoodiledcphclaaDoorUtfG1
import Derived.Test.YtoodiledcphclaaDoorSatC
import Derived.Great.Walk
namespace Go.Proofs.YtoodiledcphclaaDoor.Rul
open Go.RowKit Go.Lib

/-! ### fields -/
def nm1 : ByteArray := ⟨#[114, 97, 116, 101]⟩
def nm2 : ByteArray := ⟨#[112, 101, 114]⟩
def nm3 : ByteArray := ⟨#[98, 117, 114, 115, 116]⟩
def nm4 : ByteArray := ⟨#[99, 111, 115, 116]⟩
def nm5 : ByteArray := ⟨#[109, 97, 120]⟩
def nm6 : ByteArray := ⟨#[102, 97, 105, 108, 115]⟩
def nm7 : ByteArray := ⟨#[119, 97, 105, 116]⟩
def nm8 : ByteArray := ⟨#[112, 114, 111, 98, 101, 115]⟩
def rn (m : Int) : ByteArray := if m = 0 then nm1 else if m = 1 then nm2 else if m = 2 then nm3 else if m = 3 then nm4 else if m = 4 then nm5 else if m = 5 then nm6 else if m = 6 then nm7 else nm8
theorem rn_pt (m : Int) : ⟨#[47]⟩ ++ rn m = pt m := by
  unfold rn pt
  (repeat' split) <;> decide
theorem rn_size (m : Int) : (rn m).size ≤ 8 := by
  unfold rn
  (repeat' split) <;> decide
def rfC (r : Ru) : Array Value :=
  #[.string nm1, .int .i64 r.ra, .int .i64 1, .int .i64 0, .int .i64 1000000, .string nm2, .int .i64 r.pe, .int .i64 1, .int .i64 1, .int .i64 86400000,
    .string nm3, .int .i64 r.bu, .int .i64 1, .int .i64 1, .int .i64 1000000, .string nm4, .int .i64 r.co, .int .i64 1, .int .i64 0, .int .i64 1000,
    .string nm5, .int .i64 r.mx, .int .i64 2, .int .i64 1, .int .i64 1000000, .string nm6, .int .i64 r.fa, .int .i64 3, .int .i64 1, .int .i64 1000,
    .string nm7, .int .i64 r.wa, .int .i64 3, .int .i64 1, .int .i64 86400000, .string nm8, .int .i64 r.pb, .int .i64 3, .int .i64 0, .int .i64 100]
theorem rfC_at (r : Ru) (m : Int) (h : 0 ≤ m) (h8 : m < 8) : (rfC r)[m.toNat * 5]? = some (.string (rn m)) ∧ (rfC r)[m.toNat * 5 + 1]? = some (.int .i64 (nv r m)) ∧ (rfC r)[m.toNat * 5 + 2]? = some (.int .i64 (kd m))
    ∧ (rfC r)[m.toNat * 5 + 3]? = some (.int .i64 (lw m)) ∧ (rfC r)[m.toNat * 5 + 4]? = some (.int .i64 (hh m)) := by
  obtain rfl | rfl | rfl | rfl | rfl | rfl | rfl | rfl : m = 0 ∨ m = 1 ∨ m = 2 ∨ m = 3 ∨ m = 4 ∨ m = 5 ∨ m = 6 ∨ m = 7 := by omega
  all_goals exact ⟨rfl, rfl, rfl, rfl, rfl⟩
end Go.Proofs.YtoodiledcphclaaDoor.Rul

namespace Go.Proofs.YtoodiledcphclaaDoor.Rul
open Go.RowKit Go.Lib

theorem fd_un {k ki n lo hi : Int} (h1 : k ≠ ki) (h2 : n ≠ 0) : fd k ki n lo hi = 17 := by unfold fd; rw [if_pos ⟨h1, h2⟩]
theorem fd_out {k ki n lo hi : Int} (h1 : k = ki) (h2 : n < lo ∨ hi < n) : fd k ki n lo hi = 2 := by unfold fd; rw [if_neg (fun h => h.1 h1), if_pos ⟨h1, h2⟩]
theorem fd_in {k ki n lo hi : Int} (h1 : k = ki) (h2 : ¬ n < lo) (h3 : ¬ hi < n) : fd k ki n lo hi = 0 := by unfold fd; rw [if_neg (fun h => h.1 h1), if_neg (fun h => h.2.elim h2 h3)]
theorem fd_nil {k ki n lo hi : Int} (h1 : k ≠ ki) (h2 : n = 0) : fd k ki n lo hi = 0 := by unfold fd; rw [if_neg (fun h => h.2 h2), if_neg (fun h => h1 h.1)]

end Go.Proofs.YtoodiledcphclaaDoor.Rul

namespace Go.Proofs.YtoodiledcphclaaDoor.Rul
open Go.RowKit Go.Lib

end Go.Proofs.YtoodiledcphclaaDoor.Rul
