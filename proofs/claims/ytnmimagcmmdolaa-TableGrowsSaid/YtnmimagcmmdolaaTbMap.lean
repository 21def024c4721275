/-
  A MAP FROM ROWS OF THREE NUMBERS TO NUMBERS: look-ups, a new key.
-/
import Derived.Test.YtnmimagcmmdolaaOn
import Derived.Test.YtnmimagcmmdolaaProg
import Derived.Below
import Derived.MapKept
import Derived.WideKeyArr
import Derived.WideMake
import Derived.Laws.OwnMore
import Derived.Great.Walk
namespace Go.Proofs.Ytnmimagcmmdolaa
open Go.RowKit
open Go.WideMaps
set_option linter.unusedVariables false
set_option linter.unusedSimpArgs false

abbrev RowN := Nat × Nat × Nat
abbrev rowC (r : RowN) : Array Value := #[.int .u32 (r.1 : Int), .int .u32 (r.2.1 : Int), .int .u32 (r.2.2 : Int)]
abbrev rowV (r : RowN) : Value := .agg (rowC r)
def okN (r : RowN) : Prop := r.1 < 4294967296 ∧ r.2.1 < 4294967296 ∧ r.2.2 < 4294967296
theorem rowV_inj {r s : RowN} (h : rowV r = rowV s) : r = s := by
  simp only [Value.agg.injEq, Array.mk.injEq, List.cons.injEq, Value.int.injEq, true_and, and_true] at h
  obtain ⟨a, b, c⟩ := r
  obtain ⟨x, y, z⟩ := s
  simp only [Prod.mk.injEq]
  simp only at h
  omega
theorem row_arr : ArrKey Try.prog 34 32 3 := ⟨Try.underlying34, by kernel_rfl, by kernel_rfl, by kernel_rfl⟩
theorem row_key {r : RowN} (h : okN r) : ∃ l, keyOf Try.prog 34 (rowV r) = some l := by
  have hk : Try.prog.keyType 34 = true := by kernel_rfl
  have hs : ∃ n, Try.prog.types.size + 1 = n + 2 := ⟨Try.prog.types.size - 1, by kernel_rfl⟩
  obtain ⟨n, hn⟩ := hs
  have hc : Try.prog.cellsOf 34 = 3 := by kernel_rfl
  have hc1 : Try.prog.cellsOf 32 = 1 := by kernel_rfl
  have hu := Try.underlying34
  have hu1 := Try.underlying32
  obtain ⟨h1, h2, h3⟩ := h
  have e : ∀ x : Nat, x < 4294967296 → Try.prog.keyLits (n + 1) 32 [.int .u32 (x : Int)] = some [.int .u32 (x : Int)] := fun x hx => by
    unfold Program.keyLits
    rw [hu1]
    simp only [true_and]
    rw [if_pos]
    simp [Lit.wf, IntKind.min, IntKind.max]
    have a : IntKind.u32.bits = 32 := rfl
    have b : IntKind.u32.signed = false := rfl
    simp [IntKind.min, IntKind.max, a, b] <;> omega
  have hf : (rowV r).formed Try.prog 34 = true := by
    unfold Value.formed
    simp only [hu, hc]
    rfl
  unfold keyOf
  rw [hu]
  simp only [hk, hf, Bool.and_self, if_true]
  rw [hn]
  unfold Program.keyLits
  rw [hu]
  simp only [Value.cells, hc, hc1]
  simp [List.range, List.range.loop, e _ h1, e _ h2, e _ h3]

/-- A block is a map from rows to numbers that tells what f tells. -/
def MapRow (W : World) (b : Nat) (f : RowN → Option Nat) : Prop :=
  ∃ es clock, W.heap[b]? = some (.map es clock) ∧ (∀ x ∈ es.toList, ∃ r n, okN r ∧ x.key = rowV r ∧ x.val = .int .i64 ((n : Nat) : Int) ∧ f r = some n) ∧ ∀ r n, okN r → f r = some n → ∃ x ∈ es.toList, x.key = rowV r
section
variable {W U : World} {b : Nat} {f : RowN → Option Nat}
theorem MapRow.lt (h : MapRow W b f) : b < W.heap.size := by
  obtain ⟨es, c, h1, _⟩ := h
  exact (Array.getElem?_eq_some_iff.1 h1).1
theorem MapRow.kept (h : MapRow W b f) (k : U.heap[b]? = W.heap[b]?) : MapRow U b f := by
  obtain ⟨es, c, h1, h2, h3⟩ := h
  exact ⟨es, c, by rw [k]; exact h1, h2, h3⟩
theorem MapRow.ext {g : RowN → Option Nat} (h : MapRow W b f) (he : ∀ r, okN r → f r = g r) : MapRow W b g := by
  obtain ⟨es, c, h1, h2, h3⟩ := h
  refine ⟨es, c, h1, fun x hx => ?_, fun r n hr hn => h3 r n hr (by rw [he r hr]; exact hn)⟩
  obtain ⟨r, n, h4, h5, h6, h7⟩ := h2 x hx
  exact ⟨r, n, h4, h5, h6, by rw [← he r h4]; exact h7⟩
theorem MapRow.new (W : World) : MapRow (W.alloc (.map #[] 0)) W.heap.size (fun _ => none) :=
  ⟨#[], 0, heap_alloc_new W _, by simp, fun r n _ h => by cases h⟩
/-- What is found of a key. -/
theorem MapRow.find (h : MapRow W b f) {r : RowN} (hr : okN r) : ∃ es c, W.heap[b]? = some (.map es c) ∧ match f r with
    | none => (Instr.findKey 34 (rowV r) es.toList).run Try.prog W = .ok none W
    | some n => ∃ j, (Instr.findKey 34 (rowV r) es.toList).run Try.prog W = .ok (some (j, .int .i64 (n : Int))) W := by
  obtain ⟨es, c, h1, h2, h3⟩ := h
  refine ⟨es, c, h1, ?_⟩
  obtain ⟨l, hl⟩ := row_key hr
  rcases row_arr.law.find W hl es.toList (fun x hx => by obtain ⟨q, n, hq, hk, _⟩ := h2 x hx; obtain ⟨l', hl'⟩ := row_key hq; exact ⟨l', by rw [hk]; exact hl'⟩) with ⟨h4, h5⟩ | ⟨j, e, h4, h5, h6⟩
  · cases hf : f r with
    | none => exact h4
    | some n =>
      obtain ⟨x, hx, hk⟩ := h3 r n hr hf
      exact absurd hk (h5 x hx)
  · obtain ⟨q, n, hq, hk, hv, hfq⟩ := h2 e (List.mem_of_getElem? h5)
    obtain rfl : q = r := rowV_inj (hk.symm.trans h6)
    rw [hfq]
    exact ⟨j, by rw [hv] at h4; exact h4⟩
theorem MapRow.look (h : MapRow W b f) {r : RowN} (hr : okN r) : (Instr.lookup 56 (.map (some b)) (rowV r) true).run Try.prog W = .ok (.tuple #[.int .i64 (((f r).getD 0 : Nat) : Int), .bool (f r).isSome]) W := by
  obtain ⟨es, c, h1, h2⟩ := h.find hr
  obtain ⟨l, hl⟩ := row_key hr
  have hc : ∀ em, (Instr.checkKey em 10000 34 (rowV r)).run Try.prog W = .ok () W := fun em => row_arr.law.check W em hl
  have hz : (zeroValue 3).run Try.prog W = .ok (.int .i64 0) W := by kernel_rfl
  cases hf : f r with
  | none =>
    rw [hf] at h2
    simp [Instr.lookup, run_underlying Try.underlying56, MapKept.run_getObj_map h1, hc, h2, hz, Result.andThen]
  | some n =>
    rw [hf] at h2
    obtain ⟨j, hj⟩ := h2
    simp [Instr.lookup, run_underlying Try.underlying56, MapKept.run_getObj_map h1, hc, hj, Result.andThen]
theorem MapRow.look1 (h : MapRow W b f) {r : RowN} (hr : okN r) : (Instr.lookup 56 (.map (some b)) (rowV r) false).run Try.prog W = .ok (.int .i64 (((f r).getD 0 : Nat) : Int)) W := by
  obtain ⟨es, c, h1, h2⟩ := h.find hr
  obtain ⟨l, hl⟩ := row_key hr
  have hc : ∀ em, (Instr.checkKey em 10000 34 (rowV r)).run Try.prog W = .ok () W := fun em => row_arr.law.check W em hl
  have hz : (zeroValue 3).run Try.prog W = .ok (.int .i64 0) W := by kernel_rfl
  cases hf : f r with
  | none =>
    rw [hf] at h2
    simp [Instr.lookup, run_underlying Try.underlying56, MapKept.run_getObj_map h1, hc, h2, hz, Result.andThen]
  | some n =>
    rw [hf] at h2
    obtain ⟨j, hj⟩ := h2
    simp [Instr.lookup, run_underlying Try.underlying56, MapKept.run_getObj_map h1, hc, hj, Result.andThen]
/-- A new key. -/
theorem MapRow.put (h : MapRow W b f) {r : RowN} (hr : okN r) (hf : f r = none) (n : Nat) :
    ∃ ob, (∀ U : World, U.heap = W.heap → (Instr.mapUpdate 56 (.map (some b)) (rowV r) (.int .i64 (n : Int))).run Try.prog U = .ok () { U with heap := U.heap.setIfInBounds b ob }) ∧
      ∀ U : World, U.heap[b]? = some ob → MapRow U b (fun q => if r = q then some n else f q) := by
  obtain ⟨l, hl⟩ := row_key hr
  have hfd : ∀ U : World, U.heap = W.heap → ∃ es c, U.heap[b]? = some (.map es c) ∧ (Instr.findKey 34 (rowV r) es.toList).run Try.prog U = .ok none U := fun U hU => by
    obtain ⟨es, c, h1, h2⟩ := (h.kept (U := U) (by rw [hU])).find hr
    rw [hf] at h2
    exact ⟨es, c, h1, h2⟩
  obtain ⟨es, c, h1, h2, h3⟩ := h
  refine ⟨.map (es.push { key := rowV r, val := .int .i64 (n : Int), born := c }) (c + 1), fun U hU => ?_, fun U hU => ⟨_, _, hU, ?_, ?_⟩⟩
  · have hc : (Instr.checkKey false 10000 34 (rowV r)).run Try.prog U = .ok () U := row_arr.law.check U false hl
    obtain ⟨es', c', h1', h2'⟩ := hfd U hU
    have e : some (Obj.map es' c') = some (Obj.map es c) := by rw [← h1', ← h1, hU]
    injection e with e
    injection e with e1 e2
    subst e1 e2
    simp [Instr.mapUpdate, run_underlying Try.underlying56, MapKept.run_getObj_map h1', hc, h2', MapKept.run_setObj_map _ h1', Result.andThen]
  · intro x hx
    simp only [Array.toList_push, List.mem_append, List.mem_singleton] at hx
    rcases hx with hx | rfl
    · obtain ⟨q, m, h4, h5, h6, h7⟩ := h2 x hx
      refine ⟨q, m, h4, h5, h6, ?_⟩
      show (if r = q then some n else f q) = some m
      rw [if_neg (fun e => by rw [← e, hf] at h7; cases h7)]
      exact h7
    · exact ⟨r, n, hr, rfl, rfl, if_pos rfl⟩
  · intro q m hq hm
    simp only [Array.toList_push, List.mem_append, List.mem_singleton]
    by_cases e : r = q
    · subst e
      exact ⟨_, .inr rfl, rfl⟩
    · replace hm : (if r = q then some n else f q) = some m := hm
      rw [if_neg e] at hm
      obtain ⟨x, hx, hk⟩ := h3 q m hq hm
      exact ⟨x, .inl hx, hk⟩
end
end Go.Proofs.Ytnmimagcmmdolaa
