/-
  AN ARGUMENT THAT IS A SLICE OF STEPS: opened.
-/
import Derived.Test.YtlamdhklfibjmaaDoorTermArg
import Derived.Test.YtlamdhklfibjmaaDoorDictCalls
import Derived.Deep.Slices
import Derived.ChangeOld
namespace Go.Proofs.YtlamdhklfibjmaaDoor
open Go.ChangeShapes Go.WideShapes Go.ChangeAt Go.RowKit Go.Deep
set_option linter.unusedVariables false
set_option maxRecDepth 100000

theorem list_ofS {α : Type} {p : Nat → α → Prop} : ∀ n : Nat, (∀ i, i < n → ∃ x, p i x) → ∃ l : List α, l.length = n ∧ ∀ i x, l[i]? = some x → p i x
  | 0, _ => ⟨[], rfl, fun i x h => by simp at h⟩
  | n + 1, h => by
    obtain ⟨l, hl, hp⟩ := list_ofS n (fun i hi => h i (by omega))
    obtain ⟨x, hx⟩ := h n (by omega)
    refine ⟨l ++ [x], by simp [hl], fun i y hy => ?_⟩
    by_cases hi : i < n
    · rw [List.getElem?_append_left (by omega)] at hy
      exact hp i y hy
    · have hi' : i < (l ++ [x]).length := (List.getElem?_eq_some_iff.1 hy).1
      have : i = n := by simp [hl] at hi'; omega
      subst this
      rw [List.getElem?_append_right (by omega), hl, Nat.sub_self] at hy
      simp at hy
      exact hy ▸ hx

theorem cells_step : Tryd.prog.cellsOf 36 = 5 := by kernel_rfl

theorem trod_step {H : Type} {enc : TypeId × Value → H} {w : World} {base : Nat} {spare : Nat → Bool} {held : Bool} {fuel : Nat} {cs : List Value} {x : DataW H × List MemPlace} (h : DataW.trod enc Tryd.prog w base spare held fuel 36 cs = some x) :
    ∃ (k n : Value) (a : TermD), cs = [k, n, .int .i64 a.1, .string a.2.1, .string a.2.2] := by
  obtain ⟨xs, n, _, hx, hl, hlen, hf⟩ := DataW.trod_struct Tryd.underlying36 h
  rw [cells_step] at hl
  match cs, hl with
  | [v0, v1, v2, v3, v4], _ =>
    match xs, hlen with
    | [y0, y1, y2], _ =>
      have h2 := hf 2 { name := "T", type := 34, offset := 2, embedded := false, tag := "", pkgPath := "", byteOffset := 16 } rfl
      dsimp only at h2
      rw [cells_term] at h2
      obtain ⟨a, e0, _, _⟩ := trod_term h2
      simp at e0
      obtain ⟨rfl, rfl, rfl⟩ := e0
      exact ⟨v0, v1, a, rfl⟩

theorem open_steps {H : Type} {enc : TypeId × Value → H} {w : World} {base b0 : Nat} {spare : Nat → Bool} {held : Bool} {r : Reach} {v : Value} {d : DataW H} {ps : List MemPlace}
    (hval : Value.okWide Tryd.prog w r b0 22 v) (hd : DataW.Trod enc Tryd.prog w base spare held 22 v d ps) : ∃ bo n cap ts, v = .slice bo n cap ∧ SliceS w bo n cap ts := by
  obtain ⟨ao, len, cap, rfl⟩ := okWide_slice Tryd.underlying22 hval
  obtain ⟨fuel, hf⟩ := hd
  rcases open_slice Tryd.underlying22 hf with ⟨hcs, _⟩ | ⟨a, len', cap', m, n, D, Pl, hcs, hb, hl, hm, hmm, hx, hi⟩
  · simp [Value.cells] at hcs
    obtain ⟨rfl, rfl, rfl⟩ := hcs
    exact ⟨none, 0, 0, [], rfl, rfl, Nat.le_refl _, by omega, fun h => absurd h (by omega)⟩
  · simp [Value.cells] at hcs
    obtain ⟨rfl, rfl, rfl⟩ := hcs
    have hspot : a.spot = none := by
      simp only [Value.okWide, Tryd.underlying22, Cell.okWide, Cell.ok] at hval
      exact hval.2.2.2.1
    obtain ⟨b, off, sp⟩ := a
    dsimp only at hspot
    subst hspot
    have hlm : len ≤ m := by rw [hmm]; split <;> omega
    have one : ∀ i, i < len → ∃ q : TermD, w.cell? ⟨b, off + i * 5 + 2, none⟩ = some (.int .i64 q.1) ∧ w.cell? ⟨b, off + i * 5 + 2 + 1, none⟩ = some (.string q.2.1) ∧ w.cell? ⟨b, off + i * 5 + 2 + 2, none⟩ = some (.string q.2.2) := fun i hil => by
      obtain ⟨cs', hc, ht⟩ := hi i (by omega)
      rw [cells_step] at hc
      obtain ⟨k, n', x, rfl⟩ := trod_step ht
      obtain ⟨_, hcl, hat⟩ := World.cells?_some hc
      have key : ∀ c u, [k, n', Value.int .i64 x.1, .string x.2.1, .string x.2.2][c]? = some u → w.cell? ⟨b, off + i * 5 + c, none⟩ = some u := fun c u hu => by
        have hc5 : c < 5 := (List.getElem?_eq_some_iff.1 hu).1
        have h1 := hat c hc5
        have e : ((⟨b, off, none⟩ : Addr).add (i * 5)).add c = ⟨b, off + i * 5 + c, none⟩ := by
          unfold Addr.add; split <;> (split <;> simp_all [Nat.add_assoc])
        rw [e] at h1
        rw [h1]
        exact hu
      exact ⟨x, key 2 _ rfl, key 3 _ rfl, key 4 _ rfl⟩
    obtain ⟨ts, htl, htp⟩ := list_ofS len one
    exact ⟨some ⟨b, off, none⟩, len, cap, ts, rfl, htl, by omega, by unfold maxLen at hm; omega, fun _ => ⟨b, off, rfl, fun p q hq => htp p q hq⟩⟩
theorem laidOutS : laidOutB Tryd.prog = true := by kernel_rfl
end Go.Proofs.YtlamdhklfibjmaaDoor
