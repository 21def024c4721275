/-
  ARGUMENTS THAT ARE TERMS OR TRIPLES: opened to their cells, and shut again.
-/
import Derived.Test.YtbheafpbamkphaaGreatDoorCard
import Derived.Test.YtbheafpbamkphaaGreatDoorTermD
namespace Go.Proofs.YtbheafpbamkphaaGreatDoor
open Go.ChangeShapes Go.WideShapes Go.ChangeAt Go.RowKit
set_option linter.unusedVariables false
set_option linter.constructorNameAsVariable false
set_option maxRecDepth 100000

section
variable {H : Type} {enc : TypeId × Value → H} {w : World} {base : Nat} {spare : Nat → Bool} {held : Bool} {fuel : Nat}

def termLit (a : TermD) : DataW H := .agg [.lit (.int .i64 a.1), .lit (.string a.2.1.data.toList), .lit (.string a.2.2.data.toList)]
def wfTerm (a : TermD) : Prop := (Lit.int .i64 a.1).wf = true ∧ a.2.1.size ≤ maxLen ∧ a.2.2.size ≤ maxLen
def tripleLit (a b c : TermD) : DataW H := .agg [termLit a, termLit b, termLit c]

theorem cells_int : Tryz.prog.cellsOf 29 = 1 := by kernel_rfl
theorem cells_str : Tryz.prog.cellsOf 9 = 1 := by kernel_rfl
theorem cells_term : Tryz.prog.cellsOf 31 = 3 := by kernel_rfl
set_option maxRecDepth 100000 in
theorem trod_term {cs : List Value} {x : DataW H × List MemPlace} (h : DataW.trod enc Tryz.prog w base spare held fuel 31 cs = some x) :
    ∃ a : TermD, cs = [.int .i64 a.1, .string a.2.1, .string a.2.2] ∧ x = (termLit a, []) ∧ wfTerm a := by
  obtain ⟨xs, n, _, hx, hl, hlen, hf⟩ := DataW.trod_struct Tryz.underlying31 h
  rw [cells_term] at hl
  match cs, hl with
  | [v0, v1, v2], _ =>
    match xs, hlen with
    | [y0, y1, y2], _ =>
      have h0 := hf 0 { name := "Kind", type := 29, offset := 0, embedded := false, tag := "", pkgPath := "", byteOffset := 0 } rfl
      have h1 := hf 1 { name := "Text", type := 9, offset := 1, embedded := false, tag := "", pkgPath := "", byteOffset := 8 } rfl
      have h2 := hf 2 { name := "Extra", type := 9, offset := 2, embedded := false, tag := "", pkgPath := "", byteOffset := 24 } rfl
      dsimp only at h0 h1 h2
      rw [cells_int] at h0
      rw [cells_str] at h1 h2
      obtain ⟨k, e0, rfl, w0⟩ := DataW.trod_int Tryz.underlying29 h0
      obtain ⟨t, e1, rfl, w1⟩ := DataW.trod_string Tryz.underlying9 h1
      obtain ⟨s, e2, rfl, w2⟩ := DataW.trod_string Tryz.underlying9 h2
      simp at e0 e1 e2
      subst e0 e1 e2
      refine ⟨(k, t, s), rfl, ?_, w0, w1, w2⟩
      rw [hx]
      rfl

set_option maxRecDepth 100000 in
theorem trod_term_mk {a : TermD} (h : wfTerm a) (n : Nat) : DataW.trod enc Tryz.prog w base spare held (n + 2) 31 [.int .i64 a.1, .string a.2.1, .string a.2.2] = some (termLit a, []) := by
  have h0 : DataW.trod enc Tryz.prog w base spare held (n + 1) 29 [.int .i64 a.1] = some (.lit (.int .i64 a.1), []) := by
    unfold DataW.trod
    rw [Tryz.underlying29]
    simp [h.1]
  have h1 : ∀ s : ByteArray, s.size ≤ maxLen → DataW.trod enc Tryz.prog w base spare held (n + 1) 9 [.string s] = some (.lit (.string s.data.toList), []) := fun s hs => by
    unfold DataW.trod
    rw [Tryz.underlying9]
    simp [hs]
  have := trod_struct_mk (enc := enc) (w := w) (base := base) (spare := spare) (held := held) (n := n + 1) (cs := [.int .i64 a.1, .string a.2.1, .string a.2.2]) (xs := [(.lit (.int .i64 a.1), []), (.lit (.string a.2.1.data.toList), []), (.lit (.string a.2.2.data.toList), [])]) Tryz.underlying31 (by rw [cells_term]; rfl) (by
    have e1 := h1 _ h.2.1
    have e2 := h1 _ h.2.2
    simp [cells_int, cells_str, h0, e1, e2])
  exact this

theorem trod_array_mk {P : Program} {t e : TypeId} {k n : Nat} {cs : List Value} {xs : List (DataW H × List MemPlace)} (ht : P.underlying t = some (.array k e)) (hl : cs.length = P.cellsOf t)
    (hp : (List.range k).mapM (fun i => DataW.trod enc P w base spare held n e ((cs.drop (i * P.cellsOf e)).take (P.cellsOf e))) = some xs) :
    DataW.trod enc P w base spare held (n + 1) t cs = some (.agg (xs.map (·.1)), xs.flatMap (·.2)) := by
  unfold DataW.trod
  rw [ht]
  split <;> simp_all

end

/-- A term as an argument. -/
theorem open_term {H : Type} {enc : TypeId × Value → H} {w : World} {base : Nat} {spare : Nat → Bool} {held : Bool} {r : Reach} {b0 : Nat} {v : Value} {d : DataW H} {ps : List MemPlace}
    (hval : Value.okWide Tryz.prog w r b0 31 v) (hd : DataW.Trod enc Tryz.prog w base spare held 31 v d ps) :
    ∃ a : TermD, v = termD a ∧ d = termLit a ∧ ps = [] ∧ wfTerm a := by
  have h1 : ∃ cs, v = .agg cs := by
    simp only [Value.okWide, Tryz.underlying31] at hval
    obtain ⟨cs, h1, _⟩ := hval
    exact ⟨cs, h1⟩
  obtain ⟨cs, rfl⟩ := h1
  obtain ⟨fuel, hf⟩ := hd
  obtain ⟨a, e, hx, wa⟩ := trod_term hf
  refine ⟨a, ?_, (Prod.mk.inj hx).1, (Prod.mk.inj hx).2, wa⟩
  simp only [Value.cells] at e
  have : cs = cs.toList.toArray := by simp
  rw [this, e]
theorem shut_term {H : Type} {enc : TypeId × Value → H} {w : World} {base : Nat} {spare : Nat → Bool} {held : Bool} {a : TermD} (ha : wfTerm a) :
    DataW.Trod enc Tryz.prog w base spare held 31 (termD a) (termLit a) [] := ⟨2, trod_term_mk ha 0⟩
end Go.Proofs.YtbheafpbamkphaaGreatDoor
