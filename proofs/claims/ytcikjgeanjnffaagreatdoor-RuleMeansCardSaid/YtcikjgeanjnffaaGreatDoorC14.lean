/-
  WHAT THE PROOF STANDS ON, a part of it: TermArg, SliceArg.
-/
import Derived.Test.YtcikjgeanjnffaaGreatDoorC7
import Derived.Test.YtcikjgeanjnffaaGreatDoorC6
import Derived.Test.YtcikjgeanjnffaaGreatDoorC9
import Derived.Deep.Slices
import Derived.ChangeOld
/-
  ARGUMENTS THAT ARE TERMS OR TRIPLES: opened to their cells, and shut again.
-/

namespace Go.Proofs.YtcikjgeanjnffaaGreatDoor
open Go.ChangeShapes Go.WideShapes Go.ChangeAt Go.RowKit
set_option linter.unusedVariables false
set_option linter.constructorNameAsVariable false
set_option maxRecDepth 100000

section
variable {H : Type} {enc : TypeId × Value → H} {w : World} {base : Nat} {spare : Nat → Bool} {held : Bool} {fuel : Nat}

def termLit (a : TermD) : DataW H := .agg [.lit (.int .i64 a.1), .lit (.string a.2.1.data.toList), .lit (.string a.2.2.data.toList)]
def wfTerm (a : TermD) : Prop := (Lit.int .i64 a.1).wf = true ∧ a.2.1.size ≤ maxLen ∧ a.2.2.size ≤ maxLen
theorem cells_int : Tryz.prog.cellsOf 22 = 1 := by kernel_rfl
theorem cells_str : Tryz.prog.cellsOf 9 = 1 := by kernel_rfl
theorem cells_term : Tryz.prog.cellsOf 24 = 3 := by kernel_rfl
set_option maxRecDepth 100000 in
theorem trod_term {cs : List Value} {x : DataW H × List MemPlace} (h : DataW.trod enc Tryz.prog w base spare held fuel 24 cs = some x) :
    ∃ a : TermD, cs = [.int .i64 a.1, .string a.2.1, .string a.2.2] ∧ x = (termLit a, []) ∧ wfTerm a := by
  obtain ⟨xs, n, _, hx, hl, hlen, hf⟩ := DataW.trod_struct Tryz.underlying24 h
  rw [cells_term] at hl
  match cs, hl with
  | [v0, v1, v2], _ =>
    match xs, hlen with
    | [y0, y1, y2], _ =>
      have h0 := hf 0 { name := "Kind", type := 22, offset := 0, embedded := false, tag := "", pkgPath := "", byteOffset := 0 } rfl
      have h1 := hf 1 { name := "Text", type := 9, offset := 1, embedded := false, tag := "", pkgPath := "", byteOffset := 8 } rfl
      have h2 := hf 2 { name := "Extra", type := 9, offset := 2, embedded := false, tag := "", pkgPath := "", byteOffset := 24 } rfl
      dsimp only at h0 h1 h2
      rw [cells_int] at h0
      rw [cells_str] at h1 h2
      obtain ⟨k, e0, rfl, w0⟩ := DataW.trod_int Tryz.underlying22 h0
      obtain ⟨t, e1, rfl, w1⟩ := DataW.trod_string Tryz.underlying9 h1
      obtain ⟨s, e2, rfl, w2⟩ := DataW.trod_string Tryz.underlying9 h2
      simp at e0 e1 e2
      subst e0 e1 e2
      refine ⟨(k, t, s), rfl, ?_, w0, w1, w2⟩
      rw [hx]
      rfl

end

end Go.Proofs.YtcikjgeanjnffaaGreatDoor

/-
  AN ARGUMENT THAT IS A SLICE OF TRIPLES: opened.
-/

namespace Go.Proofs.YtcikjgeanjnffaaGreatDoor
open Go.ChangeShapes Go.WideShapes Go.ChangeAt Go.RowKit Go.Deep
set_option linter.unusedVariables false
set_option maxRecDepth 100000

theorem list_of {α : Type} {p : Nat → α → Prop} : ∀ n : Nat, (∀ i, i < n → ∃ x, p i x) → ∃ l : List α, l.length = n ∧ ∀ i x, l[i]? = some x → p i x
  | 0, _ => ⟨[], rfl, fun i x h => by simp at h⟩
  | n + 1, h => by
    obtain ⟨l, hl, hp⟩ := list_of n (fun i hi => h i (by omega))
    obtain ⟨x, hx⟩ := h n (by omega)
    refine ⟨l ++ [x], by simp [hl], fun i y hy => ?_⟩
    by_cases hi : i < n
    · rw [List.getElem?_append_left (by omega)] at hy
      exact hp i y hy
    · have hi' : i < (l ++ [x]).length := (List.getElem?_eq_some_iff.1 hy).1
      have : i = n := by simp [hl] at hi'; omega
      subst this
      rw [List.getElem?_append_right (by omega), hl, Nat.sub_self] at hy
      simp at hy
      exact hy ▸ hx

theorem laidOut : laidOutB Tryz.prog = true := by kernel_rfl
end Go.Proofs.YtcikjgeanjnffaaGreatDoor

