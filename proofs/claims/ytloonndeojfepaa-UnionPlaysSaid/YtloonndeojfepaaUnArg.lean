/-
  ARGUMENTS: a slice of pairs, opened.
-/
import Derived.Test.YtloonndeojfepaaUnOrder
import Derived.Test.YtloonndeojfepaaSliceK
namespace Go.Proofs.Ytloonndeojfepaa
open Go.ChangeShapes Go.WideShapes Go.ChangeAt Go.RowKit Go.Deep
set_option linter.unusedVariables false
set_option maxRecDepth 100000

theorem cells_un32 : Try.prog.cellsOf 23 = 1 := by kernel_rfl
theorem cells_pair : Try.prog.cellsOf 30 = 2 := by kernel_rfl
theorem un32_wf {n : Int} (h : (Lit.int .u32 n).wf = true) : ∃ m : Nat, n = (m : Int) ∧ m < 4294967296 := by
  have a : IntKind.u32.bits = 32 := rfl
  have b : IntKind.u32.signed = false := rfl
  simp [Lit.wf, IntKind.min, IntKind.max, a, b] at h
  exact ⟨n.toNat, by omega, by omega⟩
section
variable {H : Type} {enc : TypeId × Value → H} {w : World} {base : Nat} {spare : Nat → Bool} {held : Bool} {fuel : Nat}
theorem trod_pair {cs : List Value} {x : DataW H × List MemPlace} (h : DataW.trod enc Try.prog w base spare held fuel 30 cs = some x) : ∃ r : Nat × Nat, cs = [.int .u32 (r.1 : Int), .int .u32 (r.2 : Int)] ∧ (r.1 < 4294967296 ∧ r.2 < 4294967296) := by
  obtain ⟨xs, m, _, hx, hl, hlen, hf⟩ := DataW.trod_array Try.underlying30 h
  rw [cells_pair] at hl
  rw [cells_un32] at hf
  match cs, hl with
  | [v0, v1], _ =>
    match xs, hlen with
    | [y0, y1], _ =>
      obtain ⟨a, e0, f0, wa⟩ := DataW.trod_int Try.underlying23 (hf 0 (by decide))
      obtain ⟨b, e1, f1, wb⟩ := DataW.trod_int Try.underlying23 (hf 1 (by decide))
      simp at e0 e1
      subst e0 e1
      obtain ⟨a, rfl, ha⟩ := un32_wf wa
      obtain ⟨b, rfl, hb⟩ := un32_wf wb
      exact ⟨(a, b), rfl, ha, hb⟩
theorem open_pairs {b0 : Nat} {r : Reach} {v : Value} {d : DataW H} {ps : List MemPlace}
    (hval : Value.okWide Try.prog w r b0 22 v) (hd : DataW.Trod enc Try.prog w base spare held 22 v d ps) : ∃ (ao : Option Addr) (cap : Nat) (l : List (Nat × Nat)), v = .slice ao l.length cap ∧ PairR w ao l := by
  obtain ⟨xs, hs, _⟩ := open_sliceK Try.underlying22 (by omega) cells_pair (fun r : Nat × Nat => [.int .u32 (r.1 : Int), .int .u32 (r.2 : Int)]) (fun _ => rfl) (fun r => r.1 < 4294967296 ∧ r.2 < 4294967296) (fun fuel cs x h => trod_pair h) hval hd
  rcases hs with ⟨rfl, rfl⟩ | ⟨b, off, cap, rfl, _, _, hc⟩
  · exact ⟨none, 0, [], rfl, fun h => by simp at h⟩
  · refine ⟨_, cap, xs, rfl, fun _ => ⟨b, off, rfl, fun j x hx => ⟨hc (j * 2) _ ?_, ?_⟩⟩⟩
    · have := flat_get (fun r : Nat × Nat => [Value.int .u32 (r.1 : Int), .int .u32 (r.2 : Int)]) 2 (fun _ => rfl) xs j 0 x hx (by omega)
      rw [Nat.add_zero] at this
      rw [this]
      rfl
    · have := flat_get (fun r : Nat × Nat => [Value.int .u32 (r.1 : Int), .int .u32 (r.2 : Int)]) 2 (fun _ => rfl) xs j 1 x hx (by omega)
      have h2 := hc (j * 2 + 1) (.int .u32 (x.2 : Int)) (by rw [this]; rfl)
      rw [← Nat.add_assoc] at h2
      exact h2
end
theorem laidOut11 : laidOutB Try.prog = true := by kernel_rfl
end Go.Proofs.Ytloonndeojfepaa
