/-
  WHAT THE PROOF STANDS ON, a part of it: UnAllS.
-/
import Derived.Test.YtjbfjglomonanaaU4
import Derived.Test.YtjbfjglomonanaaU30
import Derived.Sort.CutIn
import Derived.Stop.RegionWithIn
/-
  WHAT All ANSWERS, as an iterator: each clique's representative and its numbers, in new memory.
-/

namespace Go.Proofs.Ytjbfjglomonanaa
open Go.RowKit
set_option linter.unusedVariables false

variable {F : Fence} {n : Nat} {P : Program}
/-- An iterator whose elements are told in the world of the round (Nx). -/
def SeqW {α β γ : Type} (F : Fence) (n : Nat) (P : Program) (gf : Nat) (lb : Array Value) (encs : α → Array Value) (T : γ → β → (Nat → Prop) → World → Prop) (Nx : World → β → α → β → Prop) (Dn : β → Prop) (g0 : γ) (st0 : β) (S0 Loc : Nat → Prop) (w : World) : Prop :=
  ∀ (l : Nat) (J : β → (Nat → Prop) → World → Prop) (Jx : World → Prop) (W : World), Below w.heap.size w W → OwnS W.heap.size J → OwnS W.heap.size (fun (_ : Unit) _ W => Jx W) →
    (∀ g st x st' S W1, J st S W1 → T g st S W1 → Nx W1 st x st' → YieldAt F (n - 1) P l (encs x) W1 fun e W' =>
      (e = .returned (.bool true) ∧ ∃ S', J st' S' W' ∧ T g st' S' W' ∧ Turned (bothS S Loc) W1 W' ∧ ∀ j, S' j → S j ∨ W1.heap.size ≤ j) ∨ (e = .returned (.bool false) ∧ Jx W' ∧ TurnedX W.heap.size (bothS S Loc) W1 W')) →
    J st0 S0 W → T g0 st0 S0 W →
    CallsIn F n P gf (#[.func (.yield l) #[] #[]] ++ lb) W fun e W' => (∃ v, e = .returned v) ∧ ((∃ st S', Dn st ∧ J st S' W' ∧ T g0 st S' W') ∨ Jx W')

theorem wpIn_rangeW {α β γ : Type} {g : Operand} {ps : Array Tmp} {assign body : Code} {Q : Exit → Act → World → Prop} {a : Act} {w : World}
    (hro : F.round = none) (h1 : 1 ≤ n) {gf : Nat} {lb : Array Value} (hg : a.eval g = .func (.func gf) #[] lb) (hFg : F.fn gf) (eg : ∀ args w, (callFunc gf args).run P w = .ok (.enter gf args) w)
    {encs : α → Array Value} {T : γ → β → (Nat → Prop) → World → Prop} {Nx : World → β → α → β → Prop} {Dn : β → Prop} {g0 : γ} {st0 : β} {S0 Loc : Nat → Prop} {w0 : World} (hseq : SeqW F (n - 1) P gf lb encs T Nx Dn g0 st0 S0 Loc w0) (hb0 : Below w0.heap.size w0 w) (hps : ∀ x, (encs x).size = ps.size)
    (hT : ∀ g, OwnS w.heap.size (T g)) (hNx : ∀ st x st', OwnS w.heap.size (fun (_ : Unit) _ W => Nx W st x st')) (I : β → (Nat → Prop) → World → Prop) (hI : OwnS w.heap.size I) (Ix : Code → World → Prop) (hIx : ∀ c, OwnS w.heap.size (fun (_ : Unit) _ W => Ix c W))
    (hLoc : ∀ j, Loc j → j < w.heap.size) (hS0 : ∀ j, S0 j → j < w.heap.size) (h0 : I st0 S0 w) (hT0 : T g0 st0 S0 w)
    (Ax : α → Act → World → Prop) (hAx : ∀ x a', OwnS w.heap.size (fun (_ : Unit) _ W => Ax x a' W))
    (hassign : ∀ (l : Nat) (x : α) (W : World) (K : Act → World → Prop), w.heap.size ≤ W.heap.size → (∀ a' W', Below W.heap.size W W' → Ax x a' W' → K a' W') →
      assign.wpIn (F.inRound l) (n - 1 - 1) P (Exit.then K (fun _ _ _ => False)) { tmps := (ps.zip (encs x)).foldl (fun t (p, v) => t.setIfInBounds p v) a.tmps, defers := [] } W)
    (hbody : ∀ (l : Nat) (g : γ) (st : β) (x : α) (st' : β) (S : Nat → Prop) (a' : Act) (W : World), w.heap.size ≤ l → (∃ r, W.heap[l]? = some (.loop r)) → ¬ S l → I st S W → T g st S W → Nx W st x st' → Ax x a' W →
      body.wpIn (F.inRound l) (n - 1 - 1) P (GoesT T I Ix Loc w.heap.size g st' S W) a' W)
    (hdone : ∀ (D : Nat) (st : β) (S : Nat → Prop) (W : World), w.heap.size ≤ D → Dn st → I st S W → T g0 st S W → ¬ S D → W.heap[D]? = some (.deferred (some [])) → Q .normal { a with defers := { target := .collected D, args := #[] } :: a.defers } W)
    (hstop : ∀ (D : Nat) (c : Code) (W : World), w.heap.size ≤ D → Ix c W → W.heap[D]? = some (.deferred (some [])) → c.wpIn F n P Q { a with defers := { target := .collected D, args := #[] } :: a.defers } W) :
    (Code.rangeFunc g ps assign body).wpIn F n P Q a w := by
  refine wpIn_rangeFunc fun fn hfn => ?_
  let rec' : LoopState → Option Code → Loop := fun st pe => { state := st, pending := pe, fn := fn, tmps := a.tmps, params := ps, assign := assign, body := body, defers := w.heap.size }
  let L := w.heap.size + 1
  let W1 := (w.alloc (.deferred (some []))).alloc (.loop (rec' .ready none))
  let Kept : World → Prop := fun W => W.heap[L]? = some (.loop (rec' .ready none)) ∧ W.heap[w.heap.size]? = some (.deferred (some []))
  have k1 : Kept W1 := ⟨by have := World.alloc_heap_new (w.alloc (.deferred (some []))) (.loop (rec' .ready none)); rwa [World.size_alloc] at this,
    (Below.heap_alloc _ _ _ (by simp)).trans (World.alloc_heap_new w _)⟩
  have s1 : W1.heap.size = w.heap.size + 1 + 1 := by show ((w.alloc _).alloc _).heap.size = _; simp
  have hLr : ¬ W1.heap.size ≤ L := by rw [s1]; show ¬ w.heap.size + 1 + 1 ≤ w.heap.size + 1; omega
  have hb1 : Below w.heap.size w W1 := ((Below.refl _ w).alloc (Nat.le_refl _) _).alloc (by simp) _
  refine ⟨L, [{ target := .collected w.heap.size, args := #[] }], W1, { target := .fn (.func gf) lb, args := #[.func (.yield L) #[] #[]] }, W1, gf, #[.func (.yield L) #[] #[]] ++ lb, W1, ?_, ?_, ?_, ?_, fun _ => h1, ?_⟩
  · rw [hro]; exact run_enterLoop_outer _ _ _ _ _
  · simp only [resolve, hg]
    simp [go_sem]
  · intro f' e
    simp [Target.leads] at e
    subst e
    exact hFg
  · simp [invoke, go_sem, eg]
  refine (hseq L (fun st S W => I st S W ∧ Kept W ∧ w.heap.size + 1 + 1 ≤ W.heap.size ∧ ∀ j, S j ∨ Loc j → j ≠ w.heap.size ∧ j ≠ L) (fun W => ∃ c, Ix c W ∧ W.heap[L]? = some (.loop (rec' .done (some c))) ∧ W.heap[w.heap.size]? = some (.deferred (some []))) W1 (hb0.trans (hb1.mono hb0.size)) ?_ ?_ ?_
    ⟨hI.alloc _ (hI.alloc _ h0), k1, by omega, fun j hj => by
      have : j < w.heap.size := hj.elim (hS0 j) (hLoc j)
      constructor
      · omega
      · show j ≠ w.heap.size + 1
        omega⟩ ((hT g0).alloc _ ((hT g0).alloc _ hT0))).mono ?_
  · rintro st S A B row ⟨hi, ⟨hl, hd⟩, hs, hn⟩ hgr hr
    have hr' : ∀ r, row = some r → w.heap.size ≤ r ∧ ∃ o : Obj, A.heap[r]? = some o ∧ o.isCells = false := fun r e => by
      obtain ⟨hB, ho⟩ := hr r e
      exact ⟨by omega, ho⟩
    refine ⟨hI st S A B row hi hgr hr', ⟨?_, ?_⟩, Nat.le_trans hs hgr.size, hn⟩
    · rw [hgr.block L (Array.getElem?_eq_some_iff.1 hl).1 (fun e => hLr (hr _ e.symm).1)]
      exact hl
    · rw [hgr.block _ (Array.getElem?_eq_some_iff.1 hd).1 (fun e => by have := (hr _ e.symm).1; omega)]
      exact hd
  · rintro st S A B row ⟨c, hi, hl, hd⟩ hgr hr
    have hr' : ∀ r, row = some r → w.heap.size ≤ r ∧ ∃ o : Obj, A.heap[r]? = some o ∧ o.isCells = false := fun r e => by
      obtain ⟨hB, ho⟩ := hr r e
      exact ⟨by omega, ho⟩
    refine ⟨c, hIx c () (fun _ => True) A B row hi hgr hr', ?_, ?_⟩
    · rw [hgr.block L (Array.getElem?_eq_some_iff.1 hl).1 (fun e => hLr (hr _ e.symm).1)]
      exact hl
    · rw [hgr.block _ (Array.getElem?_eq_some_iff.1 hd).1 (fun e => by have := (hr _ e.symm).1; omega)]
      exact hd
  · -- one round
    intro g st x st' S W ⟨hi, ⟨hl, hd⟩, hsz, hne⟩ ht hnx
    refine ⟨fn, _, assign, body, run_yield (P := P) (args := encs x) hl (hps x), roundIn_of_wpIn hfn (hassign _ x W _ (by omega) ?_)⟩
    intro a' Wa hba hax
    have hla : Wa.heap[L]? = some (.loop (rec' .ready none)) := (hba.block L (Array.getElem?_eq_some_iff.1 hl).1).trans hl
    have hda : Wa.heap[w.heap.size]? = some (.deferred (some [])) := (hba.block _ (Array.getElem?_eq_some_iff.1 hd).1).trans hd
    have hgb : W.grownBy Wa none := ⟨hba.os, hba.tape, hba.output, hba.size, fun k hk _ => hba.block k hk⟩
    have hia := hI st S W Wa none hi hgb (fun r e => by cases e)
    have hta := (hT g) st S W Wa none ht hgb (fun r e => by cases e)
    have hlt : L < Wa.heap.size := (Array.getElem?_eq_some_iff.1 hla).1
    refine ⟨_, run_beginRound hla rfl, ?_⟩
    let Wb := Wa.putObj L (.loop (rec' .busy none))
    have hlb : Wb.heap[L]? = some (.loop (rec' .busy none)) := World.putObj_heap_same hlt
    have hL : w.heap.size ≤ L := by show w.heap.size ≤ w.heap.size + 1; omega
    have hdb : Wb.heap[w.heap.size]? = some (.deferred (some [])) := (World.putObj_heap_other (by show w.heap.size ≠ w.heap.size + 1; omega)).trans hda
    refine wpIn_mono (hbody L g st x st' S a' Wb hL ⟨_, hlb⟩ (fun h => (hne L (.inl h)).2 rfl) (hI.putObj _ hia hL hla rfl) ((hT g).putObj _ hta hL hla rfl) ((hNx st x st').putObj (st := ()) (S := fun _ => True) _ (hNx st x st' () (fun _ => True) W Wa none hnx hgb (fun r e => by cases e)) hL hla rfl) ((hAx x a').putObj (st := ()) (S := fun _ => True) _ hax hL hla rfl)) ?_
    have hbs : Wb.heap.size = Wa.heap.size := by show (Wa.putObj _ _).heap.size = _; simp
    have key : ∀ (W3 : World) (pe : Option Code), TurnedX w.heap.size (bothS S Loc) Wb W3 → W3.heap[L]? = some (.loop (rec' .busy none)) ∧ W3.heap[w.heap.size]? = some (.deferred (some [])) := fun W3 pe h3 =>
      ⟨(h3.block L hL (Array.getElem?_eq_some_iff.1 hlb).1 (fun h => (hne L h).2 rfl)).trans hlb, (h3.block _ (Nat.le_refl _) (Array.getElem?_eq_some_iff.1 hdb).1 (fun h => (hne _ h).1 rfl)).trans hdb⟩
    have leave : ∀ (c : Code) (W3 : World), TurnedX w.heap.size (bothS S Loc) Wb W3 → Ix c W3 → ∃ v w', (Instr.endRound L (some c)).run P W3 = .ok v w' ∧ ((Ending.returned v = .returned (.bool true) ∧ ∃ S', (I st' S' w' ∧ Kept w' ∧ w.heap.size + 1 + 1 ≤ w'.heap.size ∧ ∀ j, S' j ∨ Loc j → j ≠ w.heap.size ∧ j ≠ L) ∧ T g st' S' w' ∧ Turned (bothS S Loc) W w' ∧ ∀ j, S' j → S j ∨ W.heap.size ≤ j) ∨
        (Ending.returned v = .returned (.bool false) ∧ (∃ c, Ix c w' ∧ w'.heap[L]? = some (.loop (rec' .done (some c))) ∧ w'.heap[w.heap.size]? = some (.deferred (some []))) ∧ TurnedX W1.heap.size (bothS S Loc) W w')) := fun c W3 h3 hx => by
      obtain ⟨hl3, hd3⟩ := key W3 (some c) h3
      refine ⟨_, _, run_endRound (P := P) (some c) hl3, .inr ⟨rfl, ⟨c, (hIx c).putObj (st := ()) (S := fun _ => True) _ hx hL hl3 rfl, ?_, ?_⟩, ?_, ?_⟩⟩
      · exact World.putObj_heap_same (Array.getElem?_eq_some_iff.1 hl3).1
      · exact (World.putObj_heap_other (by show w.heap.size ≠ w.heap.size + 1; omega)).trans hd3
      · have := hba.size
        have := h3.size
        have e : (W3.putObj L (.loop { rec' .busy none with state := .done, pending := some c })).heap.size = W3.heap.size := by simp
        show W.heap.size ≤ (W3.putObj L (.loop { rec' .busy none with state := .done, pending := some c })).heap.size
        omega
      · intro k hk1 hk hn
        have hkL : k ≠ L := fun e => hLr (e ▸ hk1)
        exact ((World.putObj_heap_other hkL).trans (h3.block k (by omega) (by have := hba.size; omega) hn)).trans ((World.putObj_heap_other hkL).trans (hba.block k hk))
    intro e a3 W3 hp
    cases e with
    | normal =>
      obtain ⟨h3, S', hi3, ht3, hS'⟩ := hp
      obtain ⟨hl3, hd3⟩ := key W3 none h3.x
      have hsz3 : w.heap.size + 1 + 1 ≤ W3.heap.size := by have := h3.size; have := hba.size; omega
      refine ⟨_, _, run_endRound (P := P) none hl3, .inl ⟨rfl, S', ⟨hI.putObj _ hi3 hL hl3 rfl, ⟨?_, ?_⟩, by simpa using hsz3, fun j hj => ?_⟩, (hT g).putObj _ ht3 hL hl3 rfl, ?_, fun j hj => ?_⟩⟩
      · exact World.putObj_heap_same (Array.getElem?_eq_some_iff.1 hl3).1
      · exact (World.putObj_heap_other (by show w.heap.size ≠ w.heap.size + 1; omega)).trans hd3
      · rcases hj with hj | hj
        · rcases hS' j hj with h4 | h4
          · exact hne j (.inl h4)
          · have := hba.size
            constructor
            · omega
            · show j ≠ w.heap.size + 1
              omega
        · exact hne j (.inr hj)
      · -- what a round has turned, its book-keeping being as it was
        have hback : ∀ k, k < W.heap.size → ¬ bothS S Loc k → (W3.putObj L (.loop { rec' .busy none with state := .ready, pending := none })).heap[k]? = W.heap[k]? := fun k hk hn => by
          by_cases e : k = L
          · subst e
            rw [hl]
            exact World.putObj_heap_same (Array.getElem?_eq_some_iff.1 hl3).1
          · rw [World.putObj_heap_other e, h3.block k (by have := hba.size; omega) hn, World.putObj_heap_other e]
            exact hba.block k hk
        refine ⟨?_, ?_, ?_, ?_, hback⟩
        · exact h3.os.trans hba.os
        · exact h3.tape.trans hba.tape
        · exact h3.output.trans hba.output
        · have := hba.size
          have := h3.size
          have e : (W3.putObj L (.loop { rec' .busy none with state := .ready, pending := none })).heap.size = W3.heap.size := by simp
          show W.heap.size ≤ (W3.putObj L (.loop { rec' .busy none with state := .ready, pending := none })).heap.size
          omega
      · rcases hS' j hj with h4 | h4
        · exact .inl h4
        · right
          have := hba.size
          omega
    | ret => exact leave _ _ hp.1 hp.2
    | exit id => exact leave _ _ hp.1 hp.2
    | goto t => exact leave _ _ hp.1 hp.2
    | panic ch => exact hp.elim
    | outgrown => exact hp.elim
  · -- behind the iterator
    rintro e W2 ⟨⟨v, rfl⟩, (⟨st, S, hD, ⟨hi, ⟨hl, hd⟩, hsz, hne⟩, ht⟩ | ⟨c, hx, hl, hd⟩)⟩
    · have hL : w.heap.size ≤ L := by show w.heap.size ≤ w.heap.size + 1; omega
      exact ⟨none, _, run_endLoop (P := P) hl (by intro h; cases h), hdone _ st S _ (Nat.le_refl _) hD (hI.putObj _ hi hL hl rfl) ((hT g0).putObj _ ht hL hl rfl) (fun h => (hne _ (.inl h)).1 rfl) ((World.putObj_heap_other (by show w.heap.size ≠ w.heap.size + 1; omega)).trans hd)⟩
    · have hL : w.heap.size ≤ L := by show w.heap.size ≤ w.heap.size + 1; omega
      exact ⟨some c, _, run_endLoop (P := P) hl (by intro h; cases h), hstop _ c _ (Nat.le_refl _) ((hIx c).putObj (st := ()) (S := fun _ => True) _ hx hL hl rfl) ((World.putObj_heap_other (by show w.heap.size ≠ w.heap.size + 1; omega)).trans hd)⟩
end Go.Proofs.Ytjbfjglomonanaa
namespace Go.Proofs.Ytjbfjglomonanaa
open Go.RowKit Go.Shelf
set_option linter.unusedVariables false
set_option linter.unusedSimpArgs false
attribute [local go_sem] Oper.semAt_some

/-- One that is yielded: the representative, its numbers, where they lie. -/
structure AllX where
  least : Nat
  ns : List Nat
  ao : Option Addr
  cap : Nat
abbrev encA (x : AllX) : Array Value := #[.int .u32 (x.least : Int), .slice x.ao x.ns.length x.cap]
def nextA (L : List (Nat × List Nat)) (W : World) (st : Nat) (x : AllX) (st' : Nat) : Prop := st' = st + 1 ∧ L[st]? = some (x.least, x.ns) ∧ NumsR W x.ao x.ns
abbrev TAll (Q : World → Prop) : Unit → Nat → (Nat → Prop) → World → Prop := fun _ _ _ W => Q W
theorem below_grown {A C : World} (h : Below A.heap.size A C) : A.grownBy C none := ⟨h.os, h.tape, h.output, h.size, fun k hk _ => h.block k hk⟩
set_option maxRecDepth 100000 in
set_option maxHeartbeats 4000000 in
theorem all_seq (n : Nat) (hn : 1 ≤ n) (ab : Nat) (ao : Option Addr) (cap : Nat) (xs : List (ClD × List Nat)) (hl : xs.length ≤ 1000000) (S0 Loc : Nat → Prop) (w : World) (hS : ∀ j, S0 j → j < w.heap.size) (hLoc : ∀ j, Loc j → j < w.heap.size) :
    SeqW Fence.wide n Try.prog 28 #[.pointer (some ⟨ab, 0, none⟩)] encA (TAll (AllQ ab ao cap xs)) (nextA (tellL xs)) (fun st => st = xs.length) () 0 S0 Loc w := by
  intro l J Jx W hW hJ hJx hY h0 hT0
  refine callsIn_of_wp Try.func28 rfl trivial ?_ rfl
  simp only [Try.ntmps28, List.size_toArray, List.length_cons, List.length_nil, Nat.reduceAdd, Nat.reduceSub, Array.replicate_succ, Array.replicate_zero, List.push_toArray, List.append_toArray, List.nil_append, List.cons_append]
  have q1 := hT0.1
  have HY := Lib.hid hY
  have HQ := Lib.hid hT0
  obtain ⟨len, hlen⟩ : ∃ len, len = xs.length := ⟨_, rfl⟩
  rw [← hlen] at hl q1
  have HL := Lib.hid hlen
  clear hY hT0 hlen
  gi_wp2
  gi_loopw [7] (fun i wr => ∃ (k : Nat) (S : Nat → Prop), k ≤ len ∧ i = .int .i64 (k : Int) ∧ J k S wr ∧ AllQ ab ao cap xs wr)
    (fun i _ => len - (intOf i).toNat)
  case atStart => exact ⟨0, S0, Nat.zero_le _, rfl, h0, HQ.out⟩
  case round =>
    obtain ⟨k, S, hk, rfl, hJs, hq⟩ := hrel
    by_cases hlt : k < len
    · obtain ⟨⟨c, ns⟩, hx⟩ : ∃ x, xs[k]? = some x := ⟨_, List.getElem?_eq_getElem (by rw [← HL.out]; exact hlt)⟩
      obtain ⟨g, o, rfl, hc0, hc1⟩ := hq.2.1 k _ hx
      obtain ⟨hcl, hns, hN⟩ := hq.2.2 _ (List.mem_of_getElem? hx)
      dsimp only at hcl hns hN hc0 hc1
      have e1 : decide ((k : Int) < (len : Int)) = true := by simp; omega
      have i0 : (0 : Int) ≤ (k : Int) := by omega
      have i1 : (k : Int) < (len : Int) := by omega
      have i2 : (k : Int) < 1000000000000 := by omega
      obtain ⟨n1, hn1⟩ : ∃ n1, n1 = wr.heap.size := ⟨_, rfl⟩
      have hbu := (Below.refl wr.heap.size wr).alloc (Nat.le_refl _) (.cells #[.int .u32 (c.least : Int), .slice c.ao c.len c.cap] 50)
      have d2 := heap_alloc_new wr (.cells #[.int .u32 (c.least : Int), .slice c.ao c.len c.cap] 50)
      obtain ⟨U, hU⟩ : ∃ U, U = wr.alloc (.cells #[.int .u32 (c.least : Int), .slice c.ao c.len c.cap] 50) := ⟨_, rfl⟩
      rw [← hU] at d2 hbu
      rw [← hn1] at d2
      have d3 : U.drew.heap[n1]? = some (.cells #[.int .u32 (c.least : Int), .slice c.ao c.len c.cap] 50 (0, 0)) := d2
      have u0 : U.drew.cell? ⟨n1, 0, none⟩ = some (.int .u32 (c.least : Int)) := cell_in d3 rfl
      have u1 : U.drew.cell? ⟨n1, 1, none⟩ = some (.slice c.ao c.len c.cap) := cell_in d3 rfl
      have hbd := hbu.drew
      have HSo : Hid (Calls Try.prog 22 #[.agg #[.int .u32 (c.least : Int), .slice c.ao c.len c.cap]] U.drew fun e w' => ∃ ao' cap', e = .returned (.slice ao' c.len cap') ∧ w'.cell? ⟨n1, 0, none⟩ = some (.int .u32 (c.least : Int)) ∧ w'.cell? ⟨n1, 1, none⟩ = some (.slice c.ao c.len c.cap) ∧
          YieldAt Fence.wide (n - 1) Try.prog l #[.int .u32 (c.least : Int), .slice ao' c.len cap'] w' fun e W' => ∃ b : Bool, e = .returned (.bool b) ∧ Hid ((b = true → ∃ S', J (k + 1) S' W' ∧ AllQ ab (some ⟨g, o, none⟩) cap xs W') ∧ (b = false → Jx W'))) := Lib.hid (by
        have h8 := cliqueSorted_any (cap := c.cap) (l := c.least) (hN.below (hbd)) hns
        rw [← hcl] at h8
        refine h8.mono ?_
        rintro e w' ⟨ao', cap', rfl, hs, _, hb⟩
        have hB2 := hbd.trans (hb.mono hbd.size)
        have hcell : ∀ (a : Addr) (v : Value), U.drew.cell? a = some v → w'.cell? a = some v := fun a v hc => (hb.cell (p := a) (World.block_lt_of_cell? _ a hc)).trans hc
        refine ⟨ao', cap', rfl, hcell _ _ u0, hcell _ _ u1, ?_⟩
        have h9 := HY.out () k ⟨c.least, sortN ns, ao', cap'⟩ (k + 1) S w' (hJ k S wr w' none hJs (below_grown hB2) (fun r e => by cases e)) (hq.below hB2) ⟨rfl, by unfold tellL; rw [List.getElem?_map, hx]; rfl, hs⟩
        have hlen : (sortN ns).length = c.len := by rw [List.length_mergeSort, hcl]
        dsimp only [encA] at h9
        rw [hlen] at h9
        refine h9.mono ?_
        rintro e W' (⟨rfl, S', h1, h2, _⟩ | ⟨rfl, h1, _⟩)
        · exact ⟨true, rfl, Lib.hid ⟨fun _ => ⟨S', h1, h2⟩, fun h => by cases h⟩⟩
        · exact ⟨false, rfl, Lib.hid ⟨fun h => (by cases h), fun _ => h1⟩⟩)
      have hzl := zero_cl
      have HLt := Lib.hid hlt
      have HU := Lib.hid hU
      have HN1 := Lib.hid hn1
      clear hq hlt hk hx hcl hns hN hn1 d2 d3 hbu hbd hU hJs
      gi_upto_region 3 with fail
      rw [← HU.out, ← HN1.out]
      gi_region_with (first
        | (refine ⟨trivial, ?_⟩; refine (callsIn_wide.2 HSo.out).mono ?_; rintro e w2 ⟨ao', cap', rfl, y0, y1, fn, tmps, assign, body, hy, hR⟩; change (Instr.yield l #[.int .u32 (c.least : Int), .slice ao' c.len cap']).run Try.prog w2 = _ at hy; replace hR := Lib.hid hR)
        | (refine hR.out.mono ?_; rintro e w3 ⟨b, rfl, hb⟩))
      all_goals simp only [Act.put, List.setIfInBounds_toArray, List.set_cons_zero, List.set_cons_succ, List.getElem_toArray, List.getElem_cons_succ, List.getElem_cons_zero]
      all_goals refine ‹∀ (a : Act) (w : World), Code.wpIn _ _ _ (Code.cond (Operand.tmp 17) _ _) _ a w → _› _ _ ?_
      all_goals clear HY HSo hy hR u0 u1 y0 y1 hzl
      all_goals
        cases b with
        | true =>
          have HE := Lib.hid (hb.out.1 rfl)
          clear hb
          simp only [Bool.not_true, Bool.not_false]
          gi_wp2
          go_roundw
          case rel =>
            obtain ⟨S', h1, h2⟩ := HE.out
            exact ⟨k + 1, S', by have := HLt.out; omega, by simp, h1, h2⟩
          case measure =>
            have := HLt.out
            simp [intOf]
            omega
        | false =>
          have HE := Lib.hid (hb.out.2 rfl)
          clear hb
          simp only [Bool.not_true, Bool.not_false]
          gi_wp2
          refine bodyPost_ret (results_none rfl _ _ _) rfl ?_
          exact ⟨⟨_, rfl⟩, .inr HE.out⟩
    · obtain rfl : k = len := by omega
      have HQ2 := Lib.hid hq
      clear hq hlt hk
      gi_wp2
      go_end0
      exact ⟨⟨_, rfl⟩, .inl ⟨_, S, HL.out, hJs, HQ2.out⟩⟩
end Go.Proofs.Ytjbfjglomonanaa

