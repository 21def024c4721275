/-
  '==' OF TERMS AND OF TRIPLES.
-/
import Derived.Test.YtlamdhklfibjmaaDoorTermD
import Derived.Test.YtlamdhklfibjmaaDoorOrderMath
import Derived.ChangeKeysEq
namespace Go.Proofs.YtlamdhklfibjmaaDoor
open Go.RowKit
open Utf Term
set_option linter.unusedVariables false
set_option linter.unusedSimpArgs false
set_option maxRecDepth 100000

theorem bytes_toList {s t : ByteArray} : s.toList = t.toList ↔ s = t := by
  constructor
  · intro h
    rw [ByteArray.toList_eq, ByteArray.toList_eq] at h
    exact ByteArray.ext (Array.toList_inj.1 h)
  · rintro rfl; rfl

theorem term_eqIn (a b : TermD) (w : World) : (Op.equalIn 9999 34 (termD a) (termD b)).run Tryd.prog w = .ok (decide (a = b)) w := by
  obtain ⟨k, t, x⟩ := a
  obtain ⟨k', t', x'⟩ := b
  go_simp
  simp only [bytes_toList, Prod.mk.injEq]
  by_cases h1 : k = k' <;> by_cases h2 : t = t' <;> by_cases h3 : x = x' <;> simp [h1, h2, h3]

theorem term_eql (a b : TermD) (w : World) : (binOp .eql 34 (.agg #[.int .i64 a.1, .string a.2.1, .string a.2.2]) (.agg #[.int .i64 b.1, .string b.2.1, .string b.2.2])).run Tryd.prog w = .ok (.bool (decide (a = b))) w := by
  obtain ⟨k, t, x⟩ := a
  obtain ⟨k', t', x'⟩ := b
  go_simp
  simp only [bytes_toList]
  by_cases h1 : k = k' <;> by_cases h2 : t = t' <;> by_cases h3 : x = x' <;> simp [h1, h2, h3]

theorem part0 (a b c : TermD) (w : World) : (part 34 #[.int .i64 a.1, .string a.2.1, .string a.2.2, .int .i64 b.1, .string b.2.1, .string b.2.2, .int .i64 c.1, .string c.2.1, .string c.2.2] 0).run Tryd.prog w = .ok (termD a) w := by kernel_rfl
theorem part1 (a b c : TermD) (w : World) : (part 34 #[.int .i64 a.1, .string a.2.1, .string a.2.2, .int .i64 b.1, .string b.2.1, .string b.2.2, .int .i64 c.1, .string c.2.1, .string c.2.2] 3).run Tryd.prog w = .ok (termD b) w := by kernel_rfl
theorem part2 (a b c : TermD) (w : World) : (part 34 #[.int .i64 a.1, .string a.2.1, .string a.2.2, .int .i64 b.1, .string b.2.1, .string b.2.2, .int .i64 c.1, .string c.2.1, .string c.2.2] 6).run Tryd.prog w = .ok (termD c) w := by kernel_rfl

end Go.Proofs.YtlamdhklfibjmaaDoor
