/-
  WHAT THE PROOF STANDS ON, a part of it: SliceArg, RuPartsArg.
-/
import Derived.Test.YtbcoklbfebmpoaaGreatDoorV6
import Derived.Test.YtbcoklbfebmpoaaGreatDoorV5
import Derived.Test.YtbcoklbfebmpoaaGreatDoorV8
import Derived.Deep.Slices
import Derived.ChangeOld
import Derived.Test.YtbcoklbfebmpoaaGreatDoorV30
/-
  AN ARGUMENT THAT IS A SLICE OF TRIPLES: opened.
-/

namespace Go.Proofs.YtbcoklbfebmpoaaGreatDoor
open Go.ChangeShapes Go.WideShapes Go.ChangeAt Go.RowKit Go.Deep
set_option linter.unusedVariables false
set_option maxRecDepth 100000

theorem laidOut : laidOutB Tryz.prog = true := by kernel_rfl
end Go.Proofs.YtbcoklbfebmpoaaGreatDoor

/-
  AN ARGUMENT THAT IS A PREFIX: opened to its two texts.
-/

namespace Go.Proofs.YtbcoklbfebmpoaaGreatDoor
open Go.ChangeShapes Go.WideShapes Go.ChangeAt Go.RowKit
set_option linter.unusedVariables false
set_option maxRecDepth 100000

theorem cells_pstrP : Tryz.prog.cellsOf 9 = 1 := by kernel_rfl
theorem cells_prefixP : Tryz.prog.cellsOf 23 = 2 := by kernel_rfl
theorem trod_prefixP {H : Type} {enc : TypeId × Value → H} {w : World} {base : Nat} {spare : Nat → Bool} {held : Bool} {fuel : Nat} {cs : List Value} {x : DataW H × List MemPlace} (h : DataW.trod enc Tryz.prog w base spare held fuel 23 cs = some x) :
    ∃ a b : ByteArray, cs = [.string a, .string b] := by
  obtain ⟨xs, n, _, hx, hl, hlen, hf⟩ := DataW.trod_struct Tryz.underlying23 h
  rw [cells_prefixP] at hl
  match cs, hl with
  | [v0, v1], _ =>
    match xs, hlen with
    | [y0, y1], _ =>
      have h0 := hf 0 { name := "Word", type := 9, offset := 0, embedded := false, tag := "", pkgPath := "", byteOffset := 0 } rfl
      have h1 := hf 1 { name := "Begin", type := 9, offset := 1, embedded := false, tag := "", pkgPath := "", byteOffset := 16 } rfl
      dsimp only at h0 h1
      rw [cells_pstrP] at h0 h1
      obtain ⟨t, e1, rfl, w1⟩ := DataW.trod_string Tryz.underlying9 h0
      obtain ⟨s, e2, rfl, w2⟩ := DataW.trod_string Tryz.underlying9 h1
      simp at e1 e2
      subst e1 e2
      exact ⟨t, s, rfl⟩

/-- A prefix as an argument. -/
theorem open_prefix {H : Type} {enc : TypeId × Value → H} {w : World} {base : Nat} {spare : Nat → Bool} {held : Bool} {r : Reach} {b0 : Nat} {v : Value} {d : DataW H} {ps : List MemPlace}
    (hval : Value.okWide Tryz.prog w r b0 23 v) (hd : DataW.Trod enc Tryz.prog w base spare held 23 v d ps) :
    ∃ a b : ByteArray, v = .agg #[.string a, .string b] := by
  have h1 : ∃ cs, v = .agg cs := by
    simp only [Value.okWide, Tryz.underlying23] at hval
    obtain ⟨cs, h1, _⟩ := hval
    exact ⟨cs, h1⟩
  obtain ⟨cs, rfl⟩ := h1
  obtain ⟨fuel, hf⟩ := hd
  obtain ⟨a, b, e⟩ := trod_prefixP hf
  refine ⟨a, b, ?_⟩
  simp only [Value.cells] at e
  have : cs = cs.toList.toArray := by simp
  rw [this, e]
end Go.Proofs.YtbcoklbfebmpoaaGreatDoor

