/-
  WHAT THE PROOF STANDS ON, a part of it: TermArg.
-/
import Derived.Test.YtfldpfomecjdkaaGreatDoorS7
import Derived.Test.YtfldpfomecjdkaaGreatDoorS6
/-
  ARGUMENTS THAT ARE TERMS OR TRIPLES: opened to their cells, and shut again.
-/

namespace Go.Proofs.YtfldpfomecjdkaaGreatDoor
open Go.ChangeShapes Go.WideShapes Go.ChangeAt Go.RowKit
set_option linter.unusedVariables false
set_option linter.constructorNameAsVariable false
set_option maxRecDepth 100000

section
variable {H : Type} {enc : TypeId × Value → H} {w : World} {base : Nat} {spare : Nat → Bool} {held : Bool} {fuel : Nat}

def termLit (a : TermD) : DataW H := .agg [.lit (.int .i64 a.1), .lit (.string a.2.1.data.toList), .lit (.string a.2.2.data.toList)]
def wfTerm (a : TermD) : Prop := (Lit.int .i64 a.1).wf = true ∧ a.2.1.size ≤ maxLen ∧ a.2.2.size ≤ maxLen
def tripleLit (a b c : TermD) : DataW H := .agg [termLit a, termLit b, termLit c]

theorem cells_int : Tryz.prog.cellsOf 29 = 1 := by kernel_rfl
theorem cells_str : Tryz.prog.cellsOf 9 = 1 := by kernel_rfl
theorem cells_term : Tryz.prog.cellsOf 31 = 3 := by kernel_rfl
theorem cells_triple : Tryz.prog.cellsOf 51 = 9 := by kernel_rfl

set_option maxRecDepth 100000 in
theorem trod_term {cs : List Value} {x : DataW H × List MemPlace} (h : DataW.trod enc Tryz.prog w base spare held fuel 31 cs = some x) :
    ∃ a : TermD, cs = [.int .i64 a.1, .string a.2.1, .string a.2.2] ∧ x = (termLit a, []) ∧ wfTerm a := by
  obtain ⟨xs, n, _, hx, hl, hlen, hf⟩ := DataW.trod_struct Tryz.underlying31 h
  rw [cells_term] at hl
  match cs, hl with
  | [v0, v1, v2], _ =>
    match xs, hlen with
    | [y0, y1, y2], _ =>
      have h0 := hf 0 { name := "Kind", type := 29, offset := 0, embedded := false, tag := "", pkgPath := "", byteOffset := 0 } rfl
      have h1 := hf 1 { name := "Text", type := 9, offset := 1, embedded := false, tag := "", pkgPath := "", byteOffset := 8 } rfl
      have h2 := hf 2 { name := "Extra", type := 9, offset := 2, embedded := false, tag := "", pkgPath := "", byteOffset := 24 } rfl
      dsimp only at h0 h1 h2
      rw [cells_int] at h0
      rw [cells_str] at h1 h2
      obtain ⟨k, e0, rfl, w0⟩ := DataW.trod_int Tryz.underlying29 h0
      obtain ⟨t, e1, rfl, w1⟩ := DataW.trod_string Tryz.underlying9 h1
      obtain ⟨s, e2, rfl, w2⟩ := DataW.trod_string Tryz.underlying9 h2
      simp at e0 e1 e2
      subst e0 e1 e2
      refine ⟨(k, t, s), rfl, ?_, w0, w1, w2⟩
      rw [hx]
      rfl

set_option maxRecDepth 100000 in
theorem trod_term_mk {a : TermD} (h : wfTerm a) (n : Nat) : DataW.trod enc Tryz.prog w base spare held (n + 2) 31 [.int .i64 a.1, .string a.2.1, .string a.2.2] = some (termLit a, []) := by
  have h0 : DataW.trod enc Tryz.prog w base spare held (n + 1) 29 [.int .i64 a.1] = some (.lit (.int .i64 a.1), []) := by
    unfold DataW.trod
    rw [Tryz.underlying29]
    simp [h.1]
  have h1 : ∀ s : ByteArray, s.size ≤ maxLen → DataW.trod enc Tryz.prog w base spare held (n + 1) 9 [.string s] = some (.lit (.string s.data.toList), []) := fun s hs => by
    unfold DataW.trod
    rw [Tryz.underlying9]
    simp [hs]
  have := trod_struct_mk (enc := enc) (w := w) (base := base) (spare := spare) (held := held) (n := n + 1) (cs := [.int .i64 a.1, .string a.2.1, .string a.2.2]) (xs := [(.lit (.int .i64 a.1), []), (.lit (.string a.2.1.data.toList), []), (.lit (.string a.2.2.data.toList), [])]) Tryz.underlying31 (by rw [cells_term]; rfl) (by
    have e1 := h1 _ h.2.1
    have e2 := h1 _ h.2.2
    simp [cells_int, cells_str, h0, e1, e2])
  exact this

set_option maxRecDepth 100000 in
theorem trod_triple {cs : List Value} {x : DataW H × List MemPlace} (h : DataW.trod enc Tryz.prog w base spare held fuel 51 cs = some x) :
    ∃ a b c : TermD, cs = [.int .i64 a.1, .string a.2.1, .string a.2.2, .int .i64 b.1, .string b.2.1, .string b.2.2, .int .i64 c.1, .string c.2.1, .string c.2.2] ∧ x = (tripleLit a b c, []) ∧ wfTerm a ∧ wfTerm b ∧ wfTerm c := by
  obtain ⟨xs, m, _, hx, hl, hlen, hf⟩ := DataW.trod_array Tryz.underlying51 h
  rw [cells_triple] at hl
  rw [cells_term] at hf
  match cs, hl with
  | [v0, v1, v2, v3, v4, v5, v6, v7, v8], _ =>
    match xs, hlen with
    | [y0, y1, y2], _ =>
      obtain ⟨a, e0, f0, wa⟩ := trod_term (hf 0 (by decide))
      obtain ⟨b, e1, f1, wb⟩ := trod_term (hf 1 (by decide))
      obtain ⟨c, e2, f2, wc⟩ := trod_term (hf 2 (by decide))
      simp at e0 e1 e2
      obtain ⟨rfl, rfl, rfl⟩ := e0
      obtain ⟨rfl, rfl, rfl⟩ := e1
      obtain ⟨rfl, rfl, rfl⟩ := e2
      refine ⟨a, b, c, rfl, ?_, wa, wb, wc⟩
      rw [hx, f0, f1, f2]
      rfl

theorem trod_array_mk {P : Program} {t e : TypeId} {k n : Nat} {cs : List Value} {xs : List (DataW H × List MemPlace)} (ht : P.underlying t = some (.array k e)) (hl : cs.length = P.cellsOf t)
    (hp : (List.range k).mapM (fun i => DataW.trod enc P w base spare held n e ((cs.drop (i * P.cellsOf e)).take (P.cellsOf e))) = some xs) :
    DataW.trod enc P w base spare held (n + 1) t cs = some (.agg (xs.map (·.1)), xs.flatMap (·.2)) := by
  unfold DataW.trod
  rw [ht]
  split <;> simp_all

set_option maxRecDepth 100000 in
theorem trod_triple_mk {a b c : TermD} (ha : wfTerm a) (hb : wfTerm b) (hc : wfTerm c) (n : Nat) :
    DataW.trod enc Tryz.prog w base spare held (n + 3) 51 [.int .i64 a.1, .string a.2.1, .string a.2.2, .int .i64 b.1, .string b.2.1, .string b.2.2, .int .i64 c.1, .string c.2.1, .string c.2.2] = some (tripleLit a b c, []) := by
  have e0 := trod_term_mk (enc := enc) (w := w) (base := base) (spare := spare) (held := held) ha n
  have e1 := trod_term_mk (enc := enc) (w := w) (base := base) (spare := spare) (held := held) hb n
  have e2 := trod_term_mk (enc := enc) (w := w) (base := base) (spare := spare) (held := held) hc n
  have hr : List.range 3 = [0, 1, 2] := rfl
  have := trod_array_mk (enc := enc) (w := w) (base := base) (spare := spare) (held := held) (n := n + 2) (cs := [.int .i64 a.1, .string a.2.1, .string a.2.2, .int .i64 b.1, .string b.2.1, .string b.2.2, .int .i64 c.1, .string c.2.1, .string c.2.2])
    (xs := [(termLit a, []), (termLit b, []), (termLit c, [])]) Tryz.underlying51 (by rw [cells_triple]; rfl) (by
      rw [cells_term, hr]
      simp [e0, e1, e2])
  exact this
end

/-- A triple as an argument. -/
theorem open_triple {H : Type} {enc : TypeId × Value → H} {w : World} {base : Nat} {spare : Nat → Bool} {held : Bool} {r : Reach} {b0 : Nat} {v : Value} {d : DataW H} {ps : List MemPlace}
    (hval : Value.okWide Tryz.prog w r b0 51 v) (hd : DataW.Trod enc Tryz.prog w base spare held 51 v d ps) :
    ∃ a b c : TermD, v = tripleV a b c ∧ d = tripleLit a b c ∧ ps = [] ∧ wfTerm a ∧ wfTerm b ∧ wfTerm c := by
  have h1 : ∃ cs, v = .agg cs := by
    simp only [Value.okWide, Tryz.underlying51] at hval
    obtain ⟨cs, h1, _⟩ := hval
    exact ⟨cs, h1⟩
  obtain ⟨cs, rfl⟩ := h1
  obtain ⟨fuel, hf⟩ := hd
  obtain ⟨a, b, c, e, hx, wa, wb, wc⟩ := trod_triple hf
  refine ⟨a, b, c, ?_, (Prod.mk.inj hx).1, (Prod.mk.inj hx).2, wa, wb, wc⟩
  simp only [Value.cells] at e
  have : cs = cs.toList.toArray := by simp
  rw [this, e]
theorem shut_triple {H : Type} {enc : TypeId × Value → H} {w : World} {base : Nat} {spare : Nat → Bool} {held : Bool} {a b c : TermD} (ha : wfTerm a) (hb : wfTerm b) (hc : wfTerm c) :
    DataW.Trod enc Tryz.prog w base spare held 51 (tripleV a b c) (tripleLit a b c) [] := ⟨3, trod_triple_mk ha hb hc 0⟩

/-- A term as an argument. -/
theorem open_term {H : Type} {enc : TypeId × Value → H} {w : World} {base : Nat} {spare : Nat → Bool} {held : Bool} {r : Reach} {b0 : Nat} {v : Value} {d : DataW H} {ps : List MemPlace}
    (hval : Value.okWide Tryz.prog w r b0 31 v) (hd : DataW.Trod enc Tryz.prog w base spare held 31 v d ps) :
    ∃ a : TermD, v = termD a ∧ d = termLit a ∧ ps = [] ∧ wfTerm a := by
  have h1 : ∃ cs, v = .agg cs := by
    simp only [Value.okWide, Tryz.underlying31] at hval
    obtain ⟨cs, h1, _⟩ := hval
    exact ⟨cs, h1⟩
  obtain ⟨cs, rfl⟩ := h1
  obtain ⟨fuel, hf⟩ := hd
  obtain ⟨a, e, hx, wa⟩ := trod_term hf
  refine ⟨a, ?_, (Prod.mk.inj hx).1, (Prod.mk.inj hx).2, wa⟩
  simp only [Value.cells] at e
  have : cs = cs.toList.toArray := by simp
  rw [this, e]
theorem shut_term {H : Type} {enc : TypeId × Value → H} {w : World} {base : Nat} {spare : Nat → Bool} {held : Bool} {a : TermD} (ha : wfTerm a) :
    DataW.Trod enc Tryz.prog w base spare held 31 (termD a) (termLit a) [] := ⟨2, trod_term_mk ha 0⟩
end Go.Proofs.YtfldpfomecjdkaaGreatDoor
