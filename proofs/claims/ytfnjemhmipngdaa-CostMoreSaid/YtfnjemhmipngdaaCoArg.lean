/-
  ARGUMENTS: a look-up, a slice of bools, opened.
-/
import Derived.Test.YtfnjemhmipngdaaCoSizes
namespace Go.Proofs.Ytfnjemhmipngdaa
open Go.ChangeShapes Go.WideShapes Go.ChangeAt Go.RowKit Go.Deep
set_option linter.unusedVariables false
set_option maxRecDepth 100000

theorem cells_f64 : Try.prog.cellsOf 22 = 1 := by kernel_rfl
theorem cells_i64 : Try.prog.cellsOf 3 = 1 := by kernel_rfl
theorem cells_bool : Try.prog.cellsOf 4 = 1 := by kernel_rfl
theorem cells_ints3 : Try.prog.cellsOf 23 = 3 := by kernel_rfl
theorem cells_fs3 : Try.prog.cellsOf 24 = 3 := by kernel_rfl
theorem cells_look : Try.prog.cellsOf 26 = 7 := by kernel_rfl
section
variable {H : Type} {enc : TypeId × Value → H} {w : World} {base : Nat} {spare : Nat → Bool} {held : Bool} {fuel : Nat}
theorem trod_float_k {P : Program} {t : TypeId} {k : FloatKind} (ht : P.underlying t = some (.float k)) {cs : List Value} {x : DataW H × List MemPlace} (h : DataW.trod enc P w base spare held fuel t cs = some x) : ∃ b, cs = [.float k b] := by
  cases fuel with
  | zero => simp [DataW.trod] at h
  | succ n =>
    simp only [DataW.trod, ht] at h
    split at h <;> simp_all
theorem trod_f64 {cs : List Value} {x : DataW H × List MemPlace} (h : DataW.trod enc Try.prog w base spare held fuel 22 cs = some x) : ∃ b, cs = [fV b] := trod_float_k Try.underlying22 h
theorem trod_ints3 {cs : List Value} {x : DataW H × List MemPlace} (h : DataW.trod enc Try.prog w base spare held fuel 23 cs = some x) : ∃ a b c : Int, cs = [.int .i64 a, .int .i64 b, .int .i64 c] := by
  obtain ⟨xs, m, _, hx, hl, hlen, hf⟩ := DataW.trod_array Try.underlying23 h
  rw [cells_ints3] at hl
  rw [cells_i64] at hf
  match cs, hl with
  | [v0, v1, v2], _ =>
    match xs, hlen with
    | [y0, y1, y2], _ =>
      obtain ⟨a, e0, f0, wa⟩ := DataW.trod_int Try.underlying3 (hf 0 (by decide))
      obtain ⟨b, e1, f1, wb⟩ := DataW.trod_int Try.underlying3 (hf 1 (by decide))
      obtain ⟨c, e2, f2, wc⟩ := DataW.trod_int Try.underlying3 (hf 2 (by decide))
      simp at e0 e1 e2
      subst e0 e1 e2
      exact ⟨a, b, c, rfl⟩
theorem trod_fs3 {cs : List Value} {x : DataW H × List MemPlace} (h : DataW.trod enc Try.prog w base spare held fuel 24 cs = some x) : ∃ a b c : Nat, cs = [fV a, fV b, fV c] := by
  obtain ⟨xs, m, _, hx, hl, hlen, hf⟩ := DataW.trod_array Try.underlying24 h
  rw [cells_fs3] at hl
  rw [cells_f64] at hf
  match cs, hl with
  | [v0, v1, v2], _ =>
    match xs, hlen with
    | [y0, y1, y2], _ =>
      obtain ⟨a, e0⟩ := trod_f64 (hf 0 (by decide))
      obtain ⟨b, e1⟩ := trod_f64 (hf 1 (by decide))
      obtain ⟨c, e2⟩ := trod_f64 (hf 2 (by decide))
      simp at e0 e1 e2
      subst e0 e1 e2
      exact ⟨a, b, c, rfl⟩
theorem trod_look {cs : List Value} {x : DataW H × List MemPlace} (h : DataW.trod enc Try.prog w base spare held fuel 26 cs = some x) : ∃ l : LookD, cs = (lookC l).toList := by
  obtain ⟨xs, n, _, hx, hl, hlen, hf⟩ := DataW.trod_struct Try.underlying26 h
  rw [cells_look] at hl
  match cs, hl with
  | [v0, v1, v2, v3, v4, v5, v6], _ =>
    match xs, hlen with
    | [y0, y1, y2], _ =>
      have h0 := hf 0 { name := "Count", type := 22, offset := 0, embedded := false, tag := "", pkgPath := "", byteOffset := 0 } rfl
      have h1 := hf 1 { name := "Vars", type := 23, offset := 1, embedded := false, tag := "", pkgPath := "", byteOffset := 8 } rfl
      have h2 := hf 2 { name := "Distinct", type := 24, offset := 4, embedded := false, tag := "", pkgPath := "", byteOffset := 32 } rfl
      dsimp only at h0 h1 h2
      rw [cells_f64] at h0
      rw [cells_ints3] at h1
      rw [cells_fs3] at h2
      obtain ⟨c, e0⟩ := trod_f64 h0
      obtain ⟨a0, a1, a2, e1⟩ := trod_ints3 h1
      obtain ⟨d0, d1, d2, e2⟩ := trod_fs3 h2
      simp at e0 e1 e2
      obtain ⟨e11, e12, e13⟩ := e1
      obtain ⟨e21, e22, e23⟩ := e2
      subst e0 e11 e12 e13 e21 e22 e23
      exact ⟨⟨c, a0, a1, a2, d0, d1, d2⟩, rfl⟩
theorem open_look {r : Reach} {b0 : Nat} {v : Value} {d : DataW H} {ps : List MemPlace} (hval : Value.okWide Try.prog w r b0 26 v) (hd : DataW.Trod enc Try.prog w base spare held 26 v d ps) :
    ∃ l : LookD, v = lookV l := by
  have h1 : ∃ cs, v = .agg cs := by
    simp only [Value.okWide, Try.underlying26] at hval
    obtain ⟨cs, h1, _⟩ := hval
    exact ⟨cs, h1⟩
  obtain ⟨cs, rfl⟩ := h1
  obtain ⟨fuel, hf⟩ := hd
  obtain ⟨l, e⟩ := trod_look hf
  refine ⟨l, ?_⟩
  simp only [Value.cells] at e
  have : cs = cs.toList.toArray := by simp
  rw [this, e]
theorem open_bools {b0 : Nat} {r : Reach} {v : Value} {d : DataW H} {ps : List MemPlace}
    (hval : Value.okWide Try.prog w r b0 27 v) (hd : DataW.Trod enc Try.prog w base spare held 27 v d ps) : ∃ (ao : Option Addr) (cap : Nat) (kb : List Bool), v = .slice ao kb.length cap ∧ ElR Value.bool w ao kb := by
  obtain ⟨xs, hs, _⟩ := open_sliceK Try.underlying27 (by omega) cells_bool (fun b : Bool => [.bool b]) (fun _ => rfl) (fun _ => True) (fun fuel cs x h => by
    obtain ⟨b, h1, _⟩ := DataW.trod_bool Try.underlying4 h
    exact ⟨b, h1, trivial⟩) hval hd
  rcases hs with ⟨rfl, rfl⟩ | ⟨b, off, cap, rfl, _, _, hc⟩
  · exact ⟨none, 0, [], rfl, fun h => by simp at h⟩
  · refine ⟨_, cap, xs, rfl, fun _ => ⟨b, off, rfl, fun j x hx => hc j _ ?_⟩⟩
    have := flat_get (fun b : Bool => [Value.bool b]) 1 (fun _ => rfl) xs j 0 x hx (by omega)
    rw [Nat.mul_one, Nat.add_zero] at this
    rw [this]
    rfl
end
theorem laidOut12 : laidOutB Try.prog = true := by kernel_rfl
end Go.Proofs.Ytfnjemhmipngdaa
