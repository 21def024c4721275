/-
  WHAT THE PROOF STANDS ON, a part of it: LexCard.
-/
import Derived.Test.YtbcoklbfebmpoaaGreatDoorU6
import Derived.Test.YtbcoklbfebmpoaaGreatDoorU26
import Derived.Lib.LaidU8
/-
  WHAT THE CARDS OF LAYER 4 SHARE: what the listed variables hold, out of the row's condition and the world's shape.
-/

namespace Go.Proofs.YtbcoklbfebmpoaaGreatDoor
open Go.ChangeShapes Go.WideShapes Go.ChangeAt Go.RowKit
open Utf Term Lex
set_option linter.unusedVariables false

theorem string_of_trod {H : Type} {enc : TypeId × Value → H} {P : Program} {w : World} {base : Nat} {sp : Nat → Bool} {held : Bool} {fuel : Nat} {t : TypeId} {v : Value} {bytes : List UInt8} {q : List MemPlace} (ht : P.underlying t = some .string)
    (h : DataW.trod enc P w base sp held fuel t [v] = some (.lit (.string bytes), q)) : v = .string ⟨bytes.toArray⟩ := by
  cases fuel with
  | zero => simp [DataW.trod] at h
  | succ fuel =>
    cases v with
    | string s =>
      simp only [DataW.trod, ht] at h
      split at h
      · simp only [Option.some.injEq, Prod.mk.injEq, DataW.lit.injEq, Lit.string.injEq] at h
        rw [← h.1]
      · cases h
    | _ => simp [DataW.trod, ht] at h

set_option maxRecDepth 100000 in
/-- The marks, read as the row lists them. -/
theorem marks_reads {W : World} (hs : W.ShapedOpen Tryz.prog) {l : List (String × DataW Unit)} (hl : laidMet Tryz.prog l W) (hm : ("rhizome/lex.marks", Rows.laid_rhizome_lex_marks) ∈ l) : MarksAt W := by
  obtain ⟨cs, hh, hsz, _⟩ := hs.1 0 #[.string ⟨#[]⟩, .string ⟨#[]⟩, .string ⟨#[]⟩, .string ⟨#[]⟩, .string ⟨#[]⟩, .string ⟨#[]⟩, .string ⟨#[]⟩, .string ⟨#[]⟩, .string ⟨#[]⟩, .string ⟨#[]⟩] 171 (of_decide_eq_true (by kernel_rfl)) (by kernel_rfl)
  obtain ⟨g, t, cs', fuel, p, h1, h2, h3, h4⟩ := Lib.laidMet.reads hl hm
  obtain rfl : g = 0 := Option.some.inj (h1.symm.trans (by kernel_rfl))
  obtain rfl : t = 171 := Option.some.inj (h2.symm.trans (by kernel_rfl))
  have hcs : cs' = cs := by
    unfold World.var? at h3
    rw [show Tryz.prog.globalNamed "rhizome/lex.marks" = some 0 by kernel_rfl] at h3
    simpa [hh] using h3.symm
  subst hcs
  have hel : ∀ i, i < 10 → cs'[i]? = some (.string (markS i)) := by
    intro i hi
    obtain ⟨fuel', d, q, hd, ht⟩ := Lib.array_elem Tryz.underlying171 h4 i hi
    rw [show Tryz.prog.cellsOf 9 = 1 by kernel_rfl, Nat.mul_one] at ht
    have hlen : i < cs'.toList.length := by rw [Array.length_toList, hsz]; exact hi
    rw [List.drop_eq_getElem_cons hlen, List.take_succ_cons, List.take_zero] at ht
    have hb : d = .lit (.string (markS i).data.toList) := by
      have : ∀ k, k < 10 → (([.lit (.string [94, 94]), .lit (.string [58, 45]), .lit (.string [33, 61]), .lit (.string [61]), .lit (.string [46]), .lit (.string [44]), .lit (.string [40]), .lit (.string [41]), .lit (.string [123]), .lit (.string [125])] : List (DataW Unit)))[k]? = some (.lit (.string (markS k).data.toList)) :=
        below10 ⟨rfl, rfl, rfl, rfl, rfl, rfl, rfl, rfl, rfl, rfl⟩
      exact Option.some.inj (hd.symm.trans (this i hi))
    rw [hb] at ht
    have := string_of_trod Tryz.underlying9 ht
    rw [Array.getElem?_eq_getElem (by rw [hsz]; exact hi), ← Array.getElem_toList, this]
  have hfin : cs' = marksC := by
    apply Array.ext'
    apply List.ext_getElem?
    intro i
    by_cases hi : i < 10
    · have h := hel i hi
      rw [← Array.getElem?_toList] at h
      rw [h]
      have : ∀ k, k < 10 → some (Value.string (markS k)) = marksC.toList[k]? := below10 ⟨rfl, rfl, rfl, rfl, rfl, rfl, rfl, rfl, rfl, rfl⟩
      exact this i hi
    · rw [List.getElem?_eq_none (by rw [Array.length_toList, hsz]; show 10 ≤ i; omega), List.getElem?_eq_none (by show 10 ≤ i; omega)]
  subst hfin
  exact ⟨_, _, hh⟩

set_option maxRecDepth 100000 in
/-- The library's variable ErrSyntax holds an error. -/
theorem errVar_reads {W : World} (hs : W.ShapedOpen Tryz.prog) {l : List (String × DataW Unit)} (hl : laidMet Tryz.prog l W) (hm : ("strconv.ErrSyntax", Rows.laid_strconv_ErrSyntax) ∈ l) : ErrVar W := by
  obtain ⟨cs, hh, hsz, _⟩ := hs.1 4 #[.nilIface] 109 (of_decide_eq_true (by kernel_rfl)) (by kernel_rfl)
  obtain ⟨g, t, cs', fuel, p, h1, h2, h3, h4⟩ := Lib.laidMet.reads hl hm
  obtain rfl : g = 4 := Option.some.inj (h1.symm.trans (by kernel_rfl))
  obtain rfl : t = 109 := Option.some.inj (h2.symm.trans (by kernel_rfl))
  have hcs : cs' = cs := by
    unfold World.var? at h3
    rw [show Tryz.prog.globalNamed "strconv.ErrSyntax" = some 4 by kernel_rfl] at h3
    simpa [hh] using h3.symm
  subst hcs
  have hs1 : cs'.size = 1 := hsz
  obtain ⟨v, hv⟩ : ∃ v, cs' = #[v] := by
    refine ⟨cs'[0]'(by omega), ?_⟩
    apply Array.ext
    · simpa using hs1
    · intro i h1 h2
      obtain rfl : i = 0 := by simp at h2; exact h2
      rfl
  subst hv
  refine ⟨v, by simp [World.cell?, hh], ?_⟩
  cases fuel with
  | zero => simp [DataW.trod] at h4
  | succ fuel =>
    cases v with
    | nilIface => exact .inl rfl
    | iface tp q => exact .inr ⟨_, _, rfl⟩
    | _ => simp [DataW.trod, Tryz.underlying109] at h4

set_option maxRecDepth 100000 in
/-- From the contract, given what the listed variables hold, to the form's word. -/
theorem lift_lex {H : Type} {enc : TypeId × Value → H} {os : Os} {f : FuncId} {fn : Func} {s : ChangeSpec} {laid : List (String × DataW Unit)}
    (hm : ("rhizome/lex.marks", Rows.laid_rhizome_lex_marks) ∈ laid) (hme : ("strconv.ErrSyntax", Rows.laid_strconv_ErrSyntax) ∈ laid) (hplain : ∀ w, laidMetH Tryz.prog laid w → laidMet Tryz.prog laid w)
    (started : os.Started) (noInit : Tryz.checked.prog.inits.idxOf? f = none) (hfn : Tryz.checked.prog.funcs[f]? = some fn)
    (witness : ∃ (w : World) (tape : Tape) (i : Input), w.os = os ∧ (w.forCall tape i).Shaped Tryz.checked.prog ∧ i.vars = [] ∧ Input.okWide Tryz.checked.prog (w.forCall tape i) .any w.heap.size f i ∧
      ((s.pre enc Tryz.checked.prog fn [] false (w.forCall tape i).memory i.args ∧ laidMetH Tryz.prog laid (w.forCall tape i).memory) ∧ sizedMet enc Tryz.checked.prog fn (OpenSpec.ofChange s) false (w.forCall tape i).memory i.args) ∧ ({} : Assume).holds Tryz.checked.prog (lone (Frame.enter Tryz.checked.prog f i.args .normal) [] (w.forCall tape i)))
    (contract : ∀ (W : World) (base : Nat) (args : Array Value) (ds gs : List (DataW H)) (before : List MemPlace),
      (∀ (j : Nat) t v, fn.params[j]? = some t → args[j]? = some v → Value.okWide Tryz.checked.prog W .any base t v) →
      DataW.Whole enc Tryz.checked.prog fn.params.toList s.vars false W args.toList ds gs before → LexEnv W → (0 < W.heap.size ∧ 1 < W.heap.size ∧ 4 < W.heap.size) →
      Calls Tryz.checked.prog f args W fun e W' => ∃ v, e = .returned v ∧ s.post enc Tryz.checked.prog fn false true false false W args v W') :
    ReturnsInHanded {} Tryz.checked os f .any (fun w args => (s.pre enc Tryz.checked.prog fn [] false w args ∧ laidMetH Tryz.prog laid w) ∧ sizedMet enc Tryz.checked.prog fn (OpenSpec.ofChange s) false w args) (s.post enc Tryz.checked.prog fn false true false false) := by
  refine returnsInHanded_of_calls own started noInit witness ?_
  intro w tape i _ hsh _ hok hpre _
  obtain ⟨_, _, _, fn', hfn', _, _, _, _, hval⟩ := hok
  obtain rfl : fn' = fn := Option.some.inj (hfn'.symm.trans hfn)
  obtain ⟨⟨⟨ds, gs, before, hw, _⟩, hx⟩, _⟩ := hpre
  have hsh2 : (w.forCall tape i).memory.ShapedOpen Tryz.prog := hsh.of_heap (by rfl)
  have hmk := marks_reads hsh2 (hplain _ hx) hm
  have herr : ErrVar (w.forCall tape i).memory := errVar_reads hsh2 (hplain _ hx) hme
  have henv : LexEnv (w.forCall tape i) := ⟨maxLen_cell hsh, herr, hmk⟩
  have hsz : 0 < (w.forCall tape i).heap.size ∧ 1 < (w.forCall tape i).heap.size ∧ 4 < (w.forCall tape i).heap.size := by
    obtain ⟨m, h1⟩ := henv.len
    obtain ⟨ev, h2, _⟩ := henv.err
    obtain ⟨tt, fr, h3⟩ := henv.marks
    exact ⟨(Array.getElem?_eq_some_iff.1 h3).1, World.block_lt_of_cell? _ _ h1, World.block_lt_of_cell? _ _ h2⟩
  refine (contract (w.forCall tape i) w.heap.size i.args ds gs before hval (DataW.Whole.of_heap (w' := w.forCall tape i) (by rfl) hw) henv hsz).mono fun e W' ⟨v, he, hp⟩ => ?_
  subst he
  exact ChangeSpec.post_blind hp
end Go.Proofs.YtbcoklbfebmpoaaGreatDoor

