/-
  WHAT THE PROOF STANDS ON, a part of it: SeqT.
-/
import Derived.Test.YtlkiigoblkfkpaaGreatDoorC3
import Derived.RangeFuncNested
import Derived.RangeFuncBound
import Derived.RangeFuncCalls
import Derived.RangeFuncLeaves
/-
  A RANGE OVER A FUNCTION THAT GOES OVER WHAT THE BODY MAY CHANGE: a state that both sides know (T), its blocks (S), what may come next (Nx).
-/

namespace Go.Proofs.YtlkiigoblkfkpaaGreatDoor
open Go.RowKit
set_option linter.unusedVariables false

variable {F : Fence} {n : Nat} {P : Program}
/-- What abides news, and turns of what is no cells from B on. -/
def OwnS {β : Type} (B : Nat) (J : β → (Nat → Prop) → World → Prop) : Prop :=
  ∀ st S W W' row, J st S W → W.grownBy W' row → (∀ r, row = some r → B ≤ r ∧ ∃ o : Obj, W.heap[r]? = some o ∧ o.isCells = false) → J st S W'
theorem OwnS.alloc {β : Type} {B : Nat} {J : β → (Nat → Prop) → World → Prop} (h : OwnS B J) {st : β} {S : Nat → Prop} {W : World} (o : Obj) (hj : J st S W) : J st S (W.alloc o) := h st S W _ none hj (World.grownBy_alloc W o none) (fun r e => by cases e)
theorem OwnS.putObj {β : Type} {B : Nat} {J : β → (Nat → Prop) → World → Prop} (h : OwnS B J) {st : β} {S : Nat → Prop} {W : World} {l : Nat} {o : Obj} (o' : Obj) (hj : J st S W) (hB : B ≤ l) (hl : W.heap[l]? = some o) (ho : o.isCells = false) : J st S (W.putObj l o') :=
  h st S W _ (some l) hj (grownBy_putObj' W l o') (fun r e => by cases e; exact ⟨hB, o, hl, ho⟩)

/-- Blocks in which a round may write. -/
abbrev bothS (S Loc : Nat → Prop) : Nat → Prop := fun j => S j ∨ Loc j
/-- Of the blocks from B on, all but those of S are as they were. -/
structure TurnedX (B : Nat) (S : Nat → Prop) (w w' : World) : Prop where
  size : w.heap.size ≤ w'.heap.size
  block : ∀ k, B ≤ k → k < w.heap.size → ¬ S k → w'.heap[k]? = w.heap[k]?
theorem Turned.x {B : Nat} {S : Nat → Prop} {w w' : World} (h : Turned S w w') : TurnedX B S w w' := ⟨h.size, fun k _ hk hn => h.block k hk hn⟩
theorem TurnedX.trans {B : Nat} {S : Nat → Prop} {u v w : World} (h : TurnedX B S u v) (k : TurnedX B S v w) : TurnedX B S u w := ⟨Nat.le_trans h.size k.size, fun i hb hi hn => (k.block i hb (Nat.lt_of_lt_of_le hi h.size) hn).trans (h.block i hb hi hn)⟩
theorem TurnedX.mono {B B' : Nat} {S : Nat → Prop} {w w' : World} (h : TurnedX B S w w') (hB : B ≤ B') : TurnedX B' S w w' := ⟨h.size, fun k hb hk hn => h.block k (Nat.le_trans hB hb) hk hn⟩
/-- An iterator: each element at its turn, as the state is then; the body may change the state, as T and S tell. -/
def SeqT {α β γ : Type} (F : Fence) (n : Nat) (P : Program) (gf : Nat) (lb : Array Value) (encs : α → Array Value) (T : γ → β → (Nat → Prop) → World → Prop) (Nx : β → α → β → Prop) (Dn : β → Prop) (g0 : γ) (st0 : β) (S0 Loc : Nat → Prop) (w : World) : Prop :=
  ∀ (l : Nat) (J : β → (Nat → Prop) → World → Prop) (Jx : World → Prop) (W : World), Below w.heap.size w W → OwnS W.heap.size J → OwnS W.heap.size (fun (_ : Unit) _ W => Jx W) →
    (∀ g st x st' S W1, J st S W1 → T g st S W1 → Nx st x st' → YieldAt F (n - 1) P l (encs x) W1 fun e W' =>
      (e = .returned (.bool true) ∧ ∃ S', J st' S' W' ∧ T g st' S' W' ∧ Turned (bothS S Loc) W1 W' ∧ ∀ j, S' j → S j ∨ W1.heap.size ≤ j) ∨ (e = .returned (.bool false) ∧ Jx W' ∧ TurnedX W.heap.size (bothS S Loc) W1 W')) →
    J st0 S0 W → T g0 st0 S0 W →
    CallsIn F n P gf (#[.func (.yield l) #[] #[]] ++ lb) W fun e W' => (∃ v, e = .returned v) ∧ ((∃ st S', Dn st ∧ J st S' W' ∧ T g0 st S' W') ∨ Jx W')

/-- How a body may be left. -/
def GoesT {β γ : Type} (T : γ → β → (Nat → Prop) → World → Prop) (I : β → (Nat → Prop) → World → Prop) (Ix : Code → World → Prop) (Loc : Nat → Prop) (B : Nat) (g : γ) (st' : β) (S : Nat → Prop) (W : World) : Exit → Act → World → Prop
  | .normal, _, W' => Turned (bothS S Loc) W W' ∧ ∃ S', I st' S' W' ∧ T g st' S' W' ∧ ∀ j, S' j → S j ∨ W.heap.size ≤ j
  | .ret, _, W' => TurnedX B (bothS S Loc) W W' ∧ Ix .ret W'
  | .exit id, _, W' => TurnedX B (bothS S Loc) W W' ∧ Ix (.exit id) W'
  | .goto t, _, W' => TurnedX B (bothS S Loc) W W' ∧ Ix (.goto t) W'
  | .panic _, _, _ => False
  | .outgrown, _, _ => False

theorem wpIn_rangeT {α β γ : Type} {g : Operand} {ps : Array Tmp} {assign body : Code} {Q : Exit → Act → World → Prop} {a : Act} {w : World}
    (hro : F.round = none) (h1 : 1 ≤ n) {gf : Nat} {lb : Array Value} (hg : a.eval g = .func (.func gf) #[] lb) (hFg : F.fn gf) (eg : ∀ args w, (callFunc gf args).run P w = .ok (.enter gf args) w)
    {encs : α → Array Value} {T : γ → β → (Nat → Prop) → World → Prop} {Nx : β → α → β → Prop} {Dn : β → Prop} {g0 : γ} {st0 : β} {S0 Loc : Nat → Prop} {w0 : World} (hseq : SeqT F (n - 1) P gf lb encs T Nx Dn g0 st0 S0 Loc w0) (hb0 : Below w0.heap.size w0 w) (hps : ∀ x, (encs x).size = ps.size)
    (hT : ∀ g, OwnS w.heap.size (T g)) (I : β → (Nat → Prop) → World → Prop) (hI : OwnS w.heap.size I) (Ix : Code → World → Prop) (hIx : ∀ c, OwnS w.heap.size (fun (_ : Unit) _ W => Ix c W))
    (hLoc : ∀ j, Loc j → j < w.heap.size) (hS0 : ∀ j, S0 j → j < w.heap.size) (h0 : I st0 S0 w) (hT0 : T g0 st0 S0 w)
    (Ax : α → Act → World → Prop) (hAx : ∀ x a', OwnS w.heap.size (fun (_ : Unit) _ W => Ax x a' W))
    (hassign : ∀ (l : Nat) (x : α) (W : World) (K : Act → World → Prop), w.heap.size ≤ W.heap.size → (∀ a' W', Below W.heap.size W W' → Ax x a' W' → K a' W') →
      assign.wpIn (F.inRound l) (n - 1 - 1) P (Exit.then K (fun _ _ _ => False)) { tmps := (ps.zip (encs x)).foldl (fun t (p, v) => t.setIfInBounds p v) a.tmps, defers := [] } W)
    (hbody : ∀ (l : Nat) (g : γ) (st : β) (x : α) (st' : β) (S : Nat → Prop) (a' : Act) (W : World), w.heap.size ≤ l → (∃ r, W.heap[l]? = some (.loop r)) → ¬ S l → I st S W → T g st S W → Nx st x st' → Ax x a' W →
      body.wpIn (F.inRound l) (n - 1 - 1) P (GoesT T I Ix Loc w.heap.size g st' S W) a' W)
    (hdone : ∀ (D : Nat) (st : β) (S : Nat → Prop) (W : World), w.heap.size ≤ D → Dn st → I st S W → T g0 st S W → ¬ S D → W.heap[D]? = some (.deferred (some [])) → Q .normal { a with defers := { target := .collected D, args := #[] } :: a.defers } W)
    (hstop : ∀ (D : Nat) (c : Code) (W : World), w.heap.size ≤ D → Ix c W → W.heap[D]? = some (.deferred (some [])) → c.wpIn F n P Q { a with defers := { target := .collected D, args := #[] } :: a.defers } W) :
    (Code.rangeFunc g ps assign body).wpIn F n P Q a w := by
  refine wpIn_rangeFunc fun fn hfn => ?_
  let rec' : LoopState → Option Code → Loop := fun st pe => { state := st, pending := pe, fn := fn, tmps := a.tmps, params := ps, assign := assign, body := body, defers := w.heap.size }
  let L := w.heap.size + 1
  let W1 := (w.alloc (.deferred (some []))).alloc (.loop (rec' .ready none))
  let Kept : World → Prop := fun W => W.heap[L]? = some (.loop (rec' .ready none)) ∧ W.heap[w.heap.size]? = some (.deferred (some []))
  have k1 : Kept W1 := ⟨by have := World.alloc_heap_new (w.alloc (.deferred (some []))) (.loop (rec' .ready none)); rwa [World.size_alloc] at this,
    (Below.heap_alloc _ _ _ (by simp)).trans (World.alloc_heap_new w _)⟩
  have s1 : W1.heap.size = w.heap.size + 1 + 1 := by show ((w.alloc _).alloc _).heap.size = _; simp
  have hLr : ¬ W1.heap.size ≤ L := by rw [s1]; show ¬ w.heap.size + 1 + 1 ≤ w.heap.size + 1; omega
  have hb1 : Below w.heap.size w W1 := ((Below.refl _ w).alloc (Nat.le_refl _) _).alloc (by simp) _
  refine ⟨L, [{ target := .collected w.heap.size, args := #[] }], W1, { target := .fn (.func gf) lb, args := #[.func (.yield L) #[] #[]] }, W1, gf, #[.func (.yield L) #[] #[]] ++ lb, W1, ?_, ?_, ?_, ?_, fun _ => h1, ?_⟩
  · rw [hro]; exact run_enterLoop_outer _ _ _ _ _
  · simp only [resolve, hg]
    simp [go_sem]
  · intro f' e
    simp [Target.leads] at e
    subst e
    exact hFg
  · simp [invoke, go_sem, eg]
  refine (hseq L (fun st S W => I st S W ∧ Kept W ∧ w.heap.size + 1 + 1 ≤ W.heap.size ∧ ∀ j, S j ∨ Loc j → j ≠ w.heap.size ∧ j ≠ L) (fun W => ∃ c, Ix c W ∧ W.heap[L]? = some (.loop (rec' .done (some c))) ∧ W.heap[w.heap.size]? = some (.deferred (some []))) W1 (hb0.trans (hb1.mono hb0.size)) ?_ ?_ ?_
    ⟨hI.alloc _ (hI.alloc _ h0), k1, by omega, fun j hj => by
      have : j < w.heap.size := hj.elim (hS0 j) (hLoc j)
      constructor
      · omega
      · show j ≠ w.heap.size + 1
        omega⟩ ((hT g0).alloc _ ((hT g0).alloc _ hT0))).mono ?_
  · rintro st S A B row ⟨hi, ⟨hl, hd⟩, hs, hn⟩ hgr hr
    have hr' : ∀ r, row = some r → w.heap.size ≤ r ∧ ∃ o : Obj, A.heap[r]? = some o ∧ o.isCells = false := fun r e => by
      obtain ⟨hB, ho⟩ := hr r e
      exact ⟨by omega, ho⟩
    refine ⟨hI st S A B row hi hgr hr', ⟨?_, ?_⟩, Nat.le_trans hs hgr.size, hn⟩
    · rw [hgr.block L (Array.getElem?_eq_some_iff.1 hl).1 (fun e => hLr (hr _ e.symm).1)]
      exact hl
    · rw [hgr.block _ (Array.getElem?_eq_some_iff.1 hd).1 (fun e => by have := (hr _ e.symm).1; omega)]
      exact hd
  · rintro st S A B row ⟨c, hi, hl, hd⟩ hgr hr
    have hr' : ∀ r, row = some r → w.heap.size ≤ r ∧ ∃ o : Obj, A.heap[r]? = some o ∧ o.isCells = false := fun r e => by
      obtain ⟨hB, ho⟩ := hr r e
      exact ⟨by omega, ho⟩
    refine ⟨c, hIx c () (fun _ => True) A B row hi hgr hr', ?_, ?_⟩
    · rw [hgr.block L (Array.getElem?_eq_some_iff.1 hl).1 (fun e => hLr (hr _ e.symm).1)]
      exact hl
    · rw [hgr.block _ (Array.getElem?_eq_some_iff.1 hd).1 (fun e => by have := (hr _ e.symm).1; omega)]
      exact hd
  · -- one round
    intro g st x st' S W ⟨hi, ⟨hl, hd⟩, hsz, hne⟩ ht hnx
    refine ⟨fn, _, assign, body, run_yield (P := P) (args := encs x) hl (hps x), roundIn_of_wpIn hfn (hassign _ x W _ (by omega) ?_)⟩
    intro a' Wa hba hax
    have hla : Wa.heap[L]? = some (.loop (rec' .ready none)) := (hba.block L (Array.getElem?_eq_some_iff.1 hl).1).trans hl
    have hda : Wa.heap[w.heap.size]? = some (.deferred (some [])) := (hba.block _ (Array.getElem?_eq_some_iff.1 hd).1).trans hd
    have hgb : W.grownBy Wa none := ⟨hba.os, hba.tape, hba.output, hba.size, fun k hk _ => hba.block k hk⟩
    have hia := hI st S W Wa none hi hgb (fun r e => by cases e)
    have hta := (hT g) st S W Wa none ht hgb (fun r e => by cases e)
    have hlt : L < Wa.heap.size := (Array.getElem?_eq_some_iff.1 hla).1
    refine ⟨_, run_beginRound hla rfl, ?_⟩
    let Wb := Wa.putObj L (.loop (rec' .busy none))
    have hlb : Wb.heap[L]? = some (.loop (rec' .busy none)) := World.putObj_heap_same hlt
    have hL : w.heap.size ≤ L := by show w.heap.size ≤ w.heap.size + 1; omega
    have hdb : Wb.heap[w.heap.size]? = some (.deferred (some [])) := (World.putObj_heap_other (by show w.heap.size ≠ w.heap.size + 1; omega)).trans hda
    refine wpIn_mono (hbody L g st x st' S a' Wb hL ⟨_, hlb⟩ (fun h => (hne L (.inl h)).2 rfl) (hI.putObj _ hia hL hla rfl) ((hT g).putObj _ hta hL hla rfl) hnx ((hAx x a').putObj (st := ()) (S := fun _ => True) _ hax hL hla rfl)) ?_
    have hbs : Wb.heap.size = Wa.heap.size := by show (Wa.putObj _ _).heap.size = _; simp
    have key : ∀ (W3 : World) (pe : Option Code), TurnedX w.heap.size (bothS S Loc) Wb W3 → W3.heap[L]? = some (.loop (rec' .busy none)) ∧ W3.heap[w.heap.size]? = some (.deferred (some [])) := fun W3 pe h3 =>
      ⟨(h3.block L hL (Array.getElem?_eq_some_iff.1 hlb).1 (fun h => (hne L h).2 rfl)).trans hlb, (h3.block _ (Nat.le_refl _) (Array.getElem?_eq_some_iff.1 hdb).1 (fun h => (hne _ h).1 rfl)).trans hdb⟩
    have leave : ∀ (c : Code) (W3 : World), TurnedX w.heap.size (bothS S Loc) Wb W3 → Ix c W3 → ∃ v w', (Instr.endRound L (some c)).run P W3 = .ok v w' ∧ ((Ending.returned v = .returned (.bool true) ∧ ∃ S', (I st' S' w' ∧ Kept w' ∧ w.heap.size + 1 + 1 ≤ w'.heap.size ∧ ∀ j, S' j ∨ Loc j → j ≠ w.heap.size ∧ j ≠ L) ∧ T g st' S' w' ∧ Turned (bothS S Loc) W w' ∧ ∀ j, S' j → S j ∨ W.heap.size ≤ j) ∨
        (Ending.returned v = .returned (.bool false) ∧ (∃ c, Ix c w' ∧ w'.heap[L]? = some (.loop (rec' .done (some c))) ∧ w'.heap[w.heap.size]? = some (.deferred (some []))) ∧ TurnedX W1.heap.size (bothS S Loc) W w')) := fun c W3 h3 hx => by
      obtain ⟨hl3, hd3⟩ := key W3 (some c) h3
      refine ⟨_, _, run_endRound (P := P) (some c) hl3, .inr ⟨rfl, ⟨c, (hIx c).putObj (st := ()) (S := fun _ => True) _ hx hL hl3 rfl, ?_, ?_⟩, ?_, ?_⟩⟩
      · exact World.putObj_heap_same (Array.getElem?_eq_some_iff.1 hl3).1
      · exact (World.putObj_heap_other (by show w.heap.size ≠ w.heap.size + 1; omega)).trans hd3
      · have := hba.size
        have := h3.size
        have e : (W3.putObj L (.loop { rec' .busy none with state := .done, pending := some c })).heap.size = W3.heap.size := by simp
        show W.heap.size ≤ (W3.putObj L (.loop { rec' .busy none with state := .done, pending := some c })).heap.size
        omega
      · intro k hk1 hk hn
        have hkL : k ≠ L := fun e => hLr (e ▸ hk1)
        exact ((World.putObj_heap_other hkL).trans (h3.block k (by omega) (by have := hba.size; omega) hn)).trans ((World.putObj_heap_other hkL).trans (hba.block k hk))
    intro e a3 W3 hp
    cases e with
    | normal =>
      obtain ⟨h3, S', hi3, ht3, hS'⟩ := hp
      obtain ⟨hl3, hd3⟩ := key W3 none h3.x
      have hsz3 : w.heap.size + 1 + 1 ≤ W3.heap.size := by have := h3.size; have := hba.size; omega
      refine ⟨_, _, run_endRound (P := P) none hl3, .inl ⟨rfl, S', ⟨hI.putObj _ hi3 hL hl3 rfl, ⟨?_, ?_⟩, by simpa using hsz3, fun j hj => ?_⟩, (hT g).putObj _ ht3 hL hl3 rfl, ?_, fun j hj => ?_⟩⟩
      · exact World.putObj_heap_same (Array.getElem?_eq_some_iff.1 hl3).1
      · exact (World.putObj_heap_other (by show w.heap.size ≠ w.heap.size + 1; omega)).trans hd3
      · rcases hj with hj | hj
        · rcases hS' j hj with h4 | h4
          · exact hne j (.inl h4)
          · have := hba.size
            constructor
            · omega
            · show j ≠ w.heap.size + 1
              omega
        · exact hne j (.inr hj)
      · -- what a round has turned, its book-keeping being as it was
        have hback : ∀ k, k < W.heap.size → ¬ bothS S Loc k → (W3.putObj L (.loop { rec' .busy none with state := .ready, pending := none })).heap[k]? = W.heap[k]? := fun k hk hn => by
          by_cases e : k = L
          · subst e
            rw [hl]
            exact World.putObj_heap_same (Array.getElem?_eq_some_iff.1 hl3).1
          · rw [World.putObj_heap_other e, h3.block k (by have := hba.size; omega) hn, World.putObj_heap_other e]
            exact hba.block k hk
        refine ⟨?_, ?_, ?_, ?_, hback⟩
        · exact h3.os.trans hba.os
        · exact h3.tape.trans hba.tape
        · exact h3.output.trans hba.output
        · have := hba.size
          have := h3.size
          have e : (W3.putObj L (.loop { rec' .busy none with state := .ready, pending := none })).heap.size = W3.heap.size := by simp
          show W.heap.size ≤ (W3.putObj L (.loop { rec' .busy none with state := .ready, pending := none })).heap.size
          omega
      · rcases hS' j hj with h4 | h4
        · exact .inl h4
        · right
          have := hba.size
          omega
    | ret => exact leave _ _ hp.1 hp.2
    | exit id => exact leave _ _ hp.1 hp.2
    | goto t => exact leave _ _ hp.1 hp.2
    | panic ch => exact hp.elim
    | outgrown => exact hp.elim
  · -- behind the iterator
    rintro e W2 ⟨⟨v, rfl⟩, (⟨st, S, hD, ⟨hi, ⟨hl, hd⟩, hsz, hne⟩, ht⟩ | ⟨c, hx, hl, hd⟩)⟩
    · have hL : w.heap.size ≤ L := by show w.heap.size ≤ w.heap.size + 1; omega
      exact ⟨none, _, run_endLoop (P := P) hl (by intro h; cases h), hdone _ st S _ (Nat.le_refl _) hD (hI.putObj _ hi hL hl rfl) ((hT g0).putObj _ ht hL hl rfl) (fun h => (hne _ (.inl h)).1 rfl) ((World.putObj_heap_other (by show w.heap.size ≠ w.heap.size + 1; omega)).trans hd)⟩
    · have hL : w.heap.size ≤ L := by show w.heap.size ≤ w.heap.size + 1; omega
      exact ⟨some c, _, run_endLoop (P := P) hl (by intro h; cases h), hstop _ c _ (Nat.le_refl _) ((hIx c).putObj (st := ()) (S := fun _ => True) _ hx hL hl rfl) ((World.putObj_heap_other (by show w.heap.size ≠ w.heap.size + 1; omega)).trans hd)⟩
end Go.Proofs.YtlkiigoblkfkpaaGreatDoor

