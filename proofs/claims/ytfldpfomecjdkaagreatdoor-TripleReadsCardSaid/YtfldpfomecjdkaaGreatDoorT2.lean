/-
  WHAT THE PROOF STANDS ON, a part of it: Eq.
-/
import Derived.Test.YtfldpfomecjdkaaGreatDoorS6
import Derived.Test.YtfldpfomecjdkaaGreatDoorT1
import Derived.ChangeKeysEq
/-
  '==' OF TERMS AND OF TRIPLES.
-/

namespace Go.Proofs.YtfldpfomecjdkaaGreatDoor
open Go.RowKit
open Utf Term
set_option linter.unusedVariables false
set_option linter.unusedSimpArgs false
set_option maxRecDepth 100000

theorem bytes_toList {s t : ByteArray} : s.toList = t.toList ↔ s = t := by
  constructor
  · intro h
    rw [ByteArray.toList_eq, ByteArray.toList_eq] at h
    exact ByteArray.ext (Array.toList_inj.1 h)
  · rintro rfl; rfl

theorem term_eqIn (a b : TermD) (w : World) : (Op.equalIn 9999 31 (termD a) (termD b)).run Tryz.prog w = .ok (decide (a = b)) w := by
  obtain ⟨k, t, x⟩ := a
  obtain ⟨k', t', x'⟩ := b
  go_simp
  simp only [bytes_toList, Prod.mk.injEq]
  by_cases h1 : k = k' <;> by_cases h2 : t = t' <;> by_cases h3 : x = x' <;> simp [h1, h2, h3]

theorem term_eql (a b : TermD) (w : World) : (binOp .eql 31 (.agg #[.int .i64 a.1, .string a.2.1, .string a.2.2]) (.agg #[.int .i64 b.1, .string b.2.1, .string b.2.2])).run Tryz.prog w = .ok (.bool (decide (a = b))) w := by
  obtain ⟨k, t, x⟩ := a
  obtain ⟨k', t', x'⟩ := b
  go_simp
  simp only [bytes_toList]
  by_cases h1 : k = k' <;> by_cases h2 : t = t' <;> by_cases h3 : x = x' <;> simp [h1, h2, h3]

theorem part0 (a b c : TermD) (w : World) : (part 31 #[.int .i64 a.1, .string a.2.1, .string a.2.2, .int .i64 b.1, .string b.2.1, .string b.2.2, .int .i64 c.1, .string c.2.1, .string c.2.2] 0).run Tryz.prog w = .ok (termD a) w := by kernel_rfl
theorem part1 (a b c : TermD) (w : World) : (part 31 #[.int .i64 a.1, .string a.2.1, .string a.2.2, .int .i64 b.1, .string b.2.1, .string b.2.2, .int .i64 c.1, .string c.2.1, .string c.2.2] 3).run Tryz.prog w = .ok (termD b) w := by kernel_rfl
theorem part2 (a b c : TermD) (w : World) : (part 31 #[.int .i64 a.1, .string a.2.1, .string a.2.2, .int .i64 b.1, .string b.2.1, .string b.2.2, .int .i64 c.1, .string c.2.1, .string c.2.2] 6).run Tryz.prog w = .ok (termD c) w := by kernel_rfl

theorem triple_eql (a b c a' b' c' : TermD) (w : World) :
    (binOp .eql 51 (.agg #[.int .i64 a.1, .string a.2.1, .string a.2.2, .int .i64 b.1, .string b.2.1, .string b.2.2, .int .i64 c.1, .string c.2.1, .string c.2.2]) (.agg #[.int .i64 a'.1, .string a'.2.1, .string a'.2.2, .int .i64 b'.1, .string b'.2.1, .string b'.2.2, .int .i64 c'.1, .string c'.2.1, .string c'.2.2])).run Tryz.prog w
      = .ok (.bool (decide (a = a' ∧ b = b' ∧ c = c'))) w := by
  obtain ⟨i, hi⟩ : ∃ i, Tryz.prog.info? 31 = some i := Option.isSome_iff_exists.1 (by kernel_rfl)
  have hc : Tryz.prog.cellsOf 31 = 3 := by kernel_rfl
  have hr : List.range 3 = [0, 1, 2] := rfl
  rw [run_eql_struct, run_equalIn_array (w := w) 9999 _ _ Tryz.underlying51 hi, hc, hr]
  simp only [Op.eqItems, Sem.run_bind, Nat.zero_mul, Nat.one_mul, Nat.reduceMul, part0, part1, part2, Result.andThen_ok, term_eqIn]
  by_cases h1 : a = a'
  · by_cases h2 : b = b'
    · by_cases h3 : c = c'
      · simp [h1, h2, h3, part1, part2, term_eqIn]
      · simp [h1, h2, h3, part1, part2, term_eqIn]
    · simp [h1, h2, part1, part2, term_eqIn]
  · simp [h1]
end Go.Proofs.YtfldpfomecjdkaaGreatDoor
