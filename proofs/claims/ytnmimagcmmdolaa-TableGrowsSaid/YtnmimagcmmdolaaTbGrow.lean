/-
  WHAT COMES TO A TABLE: a row, its number, a pattern with its list, a number in a list.
-/
import Derived.Test.YtnmimagcmmdolaaTbRead
import Derived.Test.YtnmimagcmmdolaaTbAppend
namespace Go.Proofs.Ytnmimagcmmdolaa
open Go.RowKit
set_option linter.unusedVariables false
set_option linter.unusedSimpArgs false

section
variable {W W1 U : World} {Gz : GzT} {S : Nat → Prop} {tb : Nat} {R : List EntN} {num : RowN → Option Nat} {pats : List RowN} {Ls : List LsD} {live d0 d1 d2 : Int} {ra : Option Addr} {rc nb pb : Nat} {la : Option Addr} {lc : Nat}
theorem grown_kept {g : Nat} (hB : Below W.heap.size W W1) (hg : W1.grownBy U (some g)) {j : Nat} (hj : j < W.heap.size) (hne : j ≠ g) : U.heap[j]? = W.heap[j]? :=
  (hg.block j (Nat.lt_of_lt_of_le hj hB.size) (fun e => hne (by injection e))).trans (hB.block j hj)
/-- A row more behind the others. -/
theorem TabM.addRow (h : TabM Gz W S tb R num pats Ls live d0 d1 d2 ra rc nb pb la lc) (r : RowN) (hr : okN r) (hf : R.length + 1 ≤ 1000000000) {g o cap : Nat} (hB : Below W.heap.size W W1) (hR : RowK U 68 4 (some ⟨g, o, none⟩) (R.length + 1) cap (flatE R ++ entC (r, 0))) (hg : W1.grownBy U (some g))
    (hor : (ra = some ⟨g, o, none⟩ ∧ R.length < rc) ∨ W1.heap.size ≤ g) :
    TabM Gz (U.setCell ⟨tb, 0, none⟩ (.slice (some ⟨g, o, none⟩) (R.length + 1) cap)) (growS S W U) tb (R ++ [(r, 0)]) num pats Ls live d0 d1 d2 (some ⟨g, o, none⟩) cap nb pb la lc ∧ Turned S W (U.setCell ⟨tb, 0, none⟩ (.slice (some ⟨g, o, none⟩) (R.length + 1) cap)) := by
  obtain ⟨n1, n2, n3, n4, n5, n6⟩ := h.nes
  have hsz : W.heap.size ≤ U.heap.size := Nat.le_trans hB.size hg.size
  have hlg : ∀ j, S j → j ≠ g ∨ ra = some ⟨g, o, none⟩ := fun j hj => by
    rcases hor with ⟨h1, _⟩ | h2
    · exact .inr h1
    · left
      have := h.lt j hj
      have := hB.size
      omega
  -- the block of the rows is none of the others'
  have ng : ∀ j, S j → (∀ a, ra = some a → a.block ≠ j) → j ≠ g := fun j hj hne => by
    rcases hlg j hj with h1 | h1
    · exact h1
    · exact fun e => hne _ h1 e.symm
  have ktb : tb ≠ g := ng tb h.sT (fun a ha => (n3 a ha).1)
  have key : ∀ j, S j → j ≠ g → j ≠ tb → (U.setCell ⟨tb, 0, none⟩ (.slice (some ⟨g, o, none⟩) (R.length + 1) cap)).heap[j]? = W.heap[j]? := fun j hj h1 h2 =>
    (Below.heap_setCell _ _ _ _ h2).trans (grown_kept hB hg (h.lt j hj) h1)
  have hgU : g < U.heap.size := hR.lt (a := ⟨g, o, none⟩) rfl
  have hgS : S g ∨ W.heap.size ≤ g := by
    rcases hor with ⟨h1, _⟩ | h2
    · exact .inl (h.sR _ h1)
    · exact .inr (Nat.le_trans hB.size h2)
  have hgrow : growS S W U g := by
    rcases hgS with h1 | h1
    · exact .inl h1
    · exact .inr ⟨h1, hgU⟩
  refine ⟨?_, ?_⟩
  · exact { h with
      blk := by
        have hb : U.heap[tb]? = _ := (grown_kept hB hg (h.lt tb h.sT) ktb).trans h.blk
        rw [List.length_append]
        exact heap_setCell_same U tb 0 _ _ _ hb
      rows := by
        rw [List.length_append]
        have e : flatE (R ++ [(r, 0)]) = flatE R ++ entC (r, 0) := by unfold flatE; rw [List.flatMap_append]; simp
        rw [e]
        exact hR.kept fun a ha => by injection ha with ha; subst ha; exact Below.heap_setCell _ _ _ _ ktb.symm
      nums := h.nums.kept (key nb h.sN (ng nb h.sN (fun a ha => (n3 a ha).2.1)) n1.symm)
      pts := h.pts.kept (key pb h.sP (ng pb h.sP (fun a ha => (n3 a ha).2.2)) n2.symm)
      lsts := h.lsts.kept fun a ha => key _ (h.sL a ha) (ng _ (h.sL a ha) (fun b hb => n5 b a hb ha)) (n4 a ha).1
      each := fun i x hx => (h.each i x hx).kept fun a ha => by
        have hm := List.mem_of_getElem? hx
        exact key _ (h.sE x hm a ha) (ng _ (h.sE x hm a ha) (fun b hb => (Ne.symm ((n6 x hm a ha).2.2.2.1 b hb)))) (n6 x hm a ha).1
      okR := fun x hx => by
        rcases List.mem_append.1 hx with hx | hx
        · exact h.okR x hx
        · rw [List.mem_singleton.1 hx]
          exact ⟨hr, by show (0 : Nat) < 256; omega⟩
      few := by rw [List.length_append]; exact hf
      sT := .inl h.sT
      sN := .inl h.sN
      sP := .inl h.sP
      sR := fun a ha => by injection ha with ha; subst ha; exact hgrow
      sL := fun a ha => .inl (h.sL a ha)
      sE := fun x hx a ha => .inl (h.sE x hx a ha)
      lt := fun j hj => by
        have : j < U.heap.size := by
          rcases hj with hj | hj
          · exact Nat.lt_of_lt_of_le (h.lt j hj) hsz
          · exact hj.2
        simpa [World.setCell] using this
      gho := h.ghoK fun g' i v hg => key _ (h.gS _ _ _ hg) (ng _ (h.gS _ _ _ hg) (fun a ha => ((h.gne hg).2.2.2.1 a ha).symm)) (h.gne hg).1
      gS := fun g' i v hg => .inl (h.gS _ _ _ hg) }
  · exact ((Turned.of_below hB).trans (Turned.mono (Turned.grown (S := fun j => S j ∨ W.heap.size ≤ j) hg (.inl hgS)) (fun j hj => hj))).trans (Turned.set (a := ⟨tb, 0, none⟩) (.inl h.sT) _) |> fun t => ⟨t.os, t.tape, t.output, t.size, fun k hk hn => t.block k hk (fun e => e.elim hn (by omega))⟩

theorem heap_put {b : Nat} {ob : Obj} (hU : U = { W with heap := W.heap.setIfInBounds b ob }) : U.heap.size = W.heap.size ∧ ∀ j, j ≠ b → U.heap[j]? = W.heap[j]? := by
  subst hU
  refine ⟨by simp, fun j hj => ?_⟩
  show (W.heap.setIfInBounds b ob)[j]? = _
  rw [Array.getElem?_setIfInBounds, if_neg (fun e => hj e.symm)]
theorem turned_put {b : Nat} {ob : Obj} (hU : U = { W with heap := W.heap.setIfInBounds b ob }) (hb : S b) : Turned S W U := by
  obtain ⟨h1, h2⟩ := heap_put hU
  subst hU
  exact ⟨rfl, rfl, rfl, by rw [h1]; exact Nat.le_refl _, fun k hk hn => h2 k (fun e => hn (e ▸ hb))⟩
/-- A row's number is noted. -/
theorem TabM.addNum (h : TabM Gz W S tb R num pats Ls live d0 d1 d2 ra rc nb pb la lc) {ob : Obj} (hU : U = { W with heap := W.heap.setIfInBounds nb ob }) {num' : RowN → Option Nat} (hm : MapRow U nb num') : TabM Gz U S tb R num' pats Ls live d0 d1 d2 ra rc nb pb la lc := by
  obtain ⟨n1, n2, n3, n4, n5, n6⟩ := h.nes
  obtain ⟨hs, hk⟩ := heap_put hU
  exact { h with
    blk := by rw [hk tb n1]; exact h.blk
    rows := h.rows.kept fun a ha => hk _ (n3 a ha).2.1
    nums := hm
    pts := h.pts.kept (hk _ h.ne.symm)
    lsts := h.lsts.kept fun a ha => hk _ (n4 a ha).2.1
    each := fun i x hx => (h.each i x hx).kept fun a ha => hk _ (n6 x (List.mem_of_getElem? hx) a ha).2.1
    lt := fun j hj => by rw [hs]; exact h.lt j hj
    gho := h.ghoK fun g i v hg => hk _ (h.gne hg).2.1 }
/-- A pattern more, and its list. -/
theorem TabM.addPat (h : TabM Gz W S tb R num pats Ls live d0 d1 d2 ra rc nb pb la lc) (q : RowN) (hq : okN q) {ob : Obj} {V V1 : World} (hV : V = { W with heap := W.heap.setIfInBounds pb ob }) (hm : MapRow V pb (patF (pats ++ [q]))) (hf : Ls.length + 1 ≤ 10000000000)
    {g o cap : Nat} (hB : Below V.heap.size V V1) (hR : RowK U 70 2 (some ⟨g, o, none⟩) (Ls.length + 1) cap (flatLs Ls ++ lsC ⟨none, 0, [], 0⟩)) (hg : V1.grownBy U (some g))
    (hor : (la = some ⟨g, o, none⟩ ∧ Ls.length < lc) ∨ V1.heap.size ≤ g) :
    TabM Gz (U.setCell ⟨tb, 3, none⟩ (.slice (some ⟨g, o, none⟩) (Ls.length + 1) cap)) (growS S W U) tb R num (pats ++ [q]) (Ls ++ [⟨none, 0, [], 0⟩]) live d0 d1 d2 ra rc nb pb (some ⟨g, o, none⟩) cap ∧ Turned S W (U.setCell ⟨tb, 3, none⟩ (.slice (some ⟨g, o, none⟩) (Ls.length + 1) cap)) := by
  obtain ⟨n1, n2, n3, n4, n5, n6⟩ := h.nes
  obtain ⟨hs, hk⟩ := heap_put hV
  have hsz : W.heap.size ≤ U.heap.size := by have := hB.size; have := hg.size; omega
  have hlg : ∀ j, S j → j ≠ g ∨ la = some ⟨g, o, none⟩ := fun j hj => by
    rcases hor with ⟨h1, _⟩ | h2
    · exact .inr h1
    · left
      have := h.lt j hj
      have := hB.size
      omega
  have ng : ∀ j, S j → (∀ a, la = some a → a.block ≠ j) → j ≠ g := fun j hj hne => by
    rcases hlg j hj with h1 | h1
    · exact h1
    · exact fun e => hne _ h1 e.symm
  have ktb : tb ≠ g := ng tb h.sT (fun a ha => (n4 a ha).1)
  have kpb : pb ≠ g := ng pb h.sP (fun a ha => (n4 a ha).2.2)
  have keyV : ∀ j, j < W.heap.size → j ≠ g → U.heap[j]? = V.heap[j]? := fun j hj h1 => grown_kept hB hg (by rw [hs]; exact hj) h1
  have key : ∀ j, S j → j ≠ g → j ≠ tb → j ≠ pb → (U.setCell ⟨tb, 3, none⟩ (.slice (some ⟨g, o, none⟩) (Ls.length + 1) cap)).heap[j]? = W.heap[j]? := fun j hj h1 h2 h3 =>
    ((Below.heap_setCell _ _ _ _ h2).trans (keyV j (h.lt j hj) h1)).trans (hk j h3)
  have hgU : g < U.heap.size := hR.lt (a := ⟨g, o, none⟩) rfl
  have hgS : S g ∨ W.heap.size ≤ g := by
    rcases hor with ⟨h1, _⟩ | h2
    · exact .inl (h.sL _ h1)
    · exact .inr (by have := hB.size; omega)
  have hgrow : growS S W U g := by
    rcases hgS with h1 | h1
    · exact .inl h1
    · exact .inr ⟨h1, hgU⟩
  refine ⟨?_, ?_⟩
  · exact { h with
      blk := by
        have hb : U.heap[tb]? = _ := ((keyV tb (h.lt tb h.sT) ktb).trans (hk tb n2)).trans h.blk
        rw [List.length_append]
        exact heap_setCell_same U tb 3 _ _ _ hb
      rows := h.rows.kept fun a ha => key _ (h.sR a ha) (ng _ (h.sR a ha) (fun b hb => (Ne.symm (n5 a b ha hb)))) (n3 a ha).1 (n3 a ha).2.2
      nums := h.nums.kept (key nb h.sN (ng nb h.sN (fun a ha => (n4 a ha).2.1)) n1.symm h.ne)
      pts := hm.kept ((Below.heap_setCell _ _ _ _ n2.symm).trans (keyV pb (h.lt pb h.sP) kpb))
      lsts := by
        rw [List.length_append]
        have e : flatLs (Ls ++ [⟨none, 0, [], 0⟩]) = flatLs Ls ++ lsC ⟨none, 0, [], 0⟩ := by unfold flatLs; rw [List.flatMap_append]; simp
        rw [e]
        exact hR.kept fun a ha => by injection ha with ha; subst ha; exact Below.heap_setCell _ _ _ _ ktb.symm
      each := fun i x hx => by
        by_cases hi : i < Ls.length
        · rw [List.getElem?_append_left hi] at hx
          have hm := List.mem_of_getElem? hx
          exact (h.each i x hx).kept fun a ha => key _ (h.sE x hm a ha) (ng _ (h.sE x hm a ha) (fun b hb => (Ne.symm ((n6 x hm a ha).2.2.2.2 b hb)))) (n6 x hm a ha).1 (n6 x hm a ha).2.2.1
        · rw [List.getElem?_append_right (by omega)] at hx
          have hx' := List.mem_of_getElem? hx
          rw [List.mem_singleton] at hx'
          subst hx'
          exact ⟨rfl, .inl ⟨rfl, rfl, rfl⟩⟩
      apart := fun i j x y hx hy hne hc a b ha hb => by
        by_cases hi : i < Ls.length
        · rw [List.getElem?_append_left hi] at hx
          by_cases hj : j < Ls.length
          · rw [List.getElem?_append_left hj] at hy
            exact h.apart i j x y hx hy hne hc a b ha hb
          · rw [List.getElem?_append_right (by omega)] at hy
            have hy' := List.mem_of_getElem? hy
            rw [List.mem_singleton] at hy'
            rw [hy'] at hb
            cases hb
        · rw [List.getElem?_append_right (by omega)] at hx
          have hx' := List.mem_of_getElem? hx
          rw [List.mem_singleton] at hx'
          rw [hx'] at ha
          cases ha
      lens := by rw [List.length_append, List.length_append, h.lens]; rfl
      okP := fun x hx => by
        rcases List.mem_append.1 hx with hx | hx
        · exact h.okP x hx
        · rw [List.mem_singleton.1 hx]; exact hq
      fewL := by rw [List.length_append]; exact hf
      fewE := fun x hx => by
        rcases List.mem_append.1 hx with hx | hx
        · exact h.fewE x hx
        · rw [List.mem_singleton.1 hx]; exact Nat.zero_le _
      sT := .inl h.sT
      sN := .inl h.sN
      sP := .inl h.sP
      sR := fun a ha => .inl (h.sR a ha)
      sL := fun a ha => by injection ha with ha; subst ha; exact hgrow
      sE := fun x hx a ha => by
        rcases List.mem_append.1 hx with hx | hx
        · exact .inl (h.sE x hx a ha)
        · rw [List.mem_singleton.1 hx] at ha; cases ha
      lt := fun j hj => by
        have : j < U.heap.size := by
          rcases hj with hj | hj
          · exact Nat.lt_of_lt_of_le (h.lt j hj) hsz
          · exact hj.2
        simpa [World.setCell] using this
      gho := fun g' i v hg => by
        obtain ⟨hc, r⟩ := h.ghoK (fun g' i v hg => key _ (h.gS _ _ _ hg) (ng _ (h.gS _ _ _ hg) (fun a ha => ((h.gne hg).2.2.2.2 a ha).symm)) (h.gne hg).1 (h.gne hg).2.2.1) g' i v hg
        refine ⟨hc, fun y hy o' ho => ?_⟩
        rcases List.mem_append.1 hy with hy | hy
        · exact r y hy o' ho
        · rw [List.mem_singleton.1 hy] at ho; cases ho
      gS := fun g' i v hg => .inl (h.gS _ _ _ hg) }
  · have t1 : Turned (fun j => S j ∨ W.heap.size ≤ j) W V := turned_put hV (.inl h.sP)
    have t2 : Turned (fun j => S j ∨ W.heap.size ≤ j) V U := (Turned.of_below hB).trans (Turned.grown hg (.inl hgS))
    exact ((t1.trans t2).trans (Turned.set (a := ⟨tb, 3, none⟩) (.inl h.sT) _)) |> fun t => ⟨t.os, t.tape, t.output, t.size, fun k hk hn => t.block k hk (fun e => e.elim hn (by omega))⟩
/-- A number more in a list. -/
theorem TabM.addIdx (h : TabM Gz W S tb R num pats Ls live d0 d1 d2 ra rc nb pb la lc) {k : Nat} {x : LsD} (hx : Ls[k]? = some x) (n : Nat) (hf : x.xs.length + 1 ≤ 1000000000) {lg lo : Nat} (hla : la = some ⟨lg, lo, none⟩)
    {g o cap : Nat} (hB : Below W.heap.size W W1) (hR : RowK U 3 1 (some ⟨g, o, none⟩) (x.xs.length + 1) cap (intsC x.xs ++ [.int .i64 (n : Int)])) (hg : W1.grownBy U (some g))
    (hor : (x.ao = some ⟨g, o, none⟩ ∧ x.xs.length < x.cap) ∨ W1.heap.size ≤ g) :
    TabM Gz (U.setCell ⟨lg, lo + k * 2, none⟩ (.slice (some ⟨g, o, none⟩) (x.xs.length + 1) cap)) (growS S W U) tb R num pats (Ls.set k ⟨some ⟨g, o, none⟩, cap, x.xs ++ [n], x.live⟩) live d0 d1 d2 ra rc nb pb la lc ∧ Turned S W (U.setCell ⟨lg, lo + k * 2, none⟩ (.slice (some ⟨g, o, none⟩) (x.xs.length + 1) cap)) := by
  obtain ⟨n1, n2, n3, n4, n5, n6⟩ := h.nes
  have hg0 := hg
  have hm := List.mem_of_getElem? hx
  have hsz : W.heap.size ≤ U.heap.size := Nat.le_trans hB.size hg.size
  have hor' : (x.ao = some ⟨g, o, none⟩ ∧ x.xs.length < x.cap) ∨ W.heap.size ≤ g := hor.imp id (fun h2 => Nat.le_trans hB.size h2)
  have ng : ∀ j, S j → ((x.ao = some ⟨g, o, none⟩ ∧ x.xs.length < x.cap) → g ≠ j) → j ≠ g := fun j hj hne => by
    rcases hor' with h1 | h2
    · exact fun e => hne h1 e.symm
    · have := h.lt j hj
      omega
  have kne : ∀ j, S j → j ≠ g → j ≠ lg → (U.setCell ⟨lg, lo + k * 2, none⟩ (.slice (some ⟨g, o, none⟩) (x.xs.length + 1) cap)).heap[j]? = W.heap[j]? := fun j hj h1 h2 =>
    (Below.heap_setCell _ _ _ _ h2).trans (grown_kept hB hg (h.lt j hj) h1)
  have hxg : (x.ao = some ⟨g, o, none⟩ ∧ x.xs.length < x.cap) → g ≠ tb ∧ g ≠ nb ∧ g ≠ pb ∧ (∀ b, ra = some b → g ≠ b.block) ∧ ∀ b, la = some b → g ≠ b.block := fun ⟨h1, _⟩ => n6 x hm _ h1
  have slg : S lg := h.sL _ hla
  have klg : lg ≠ g := ng lg slg (fun h1 => (hxg h1).2.2.2.2 _ hla)
  have hgU : g < U.heap.size := hR.lt (a := ⟨g, o, none⟩) rfl
  have hgS : S g ∨ W.heap.size ≤ g := hor'.imp (fun h1 => h.sE x hm _ h1.1) id
  have hgrow : growS S W U g := by
    rcases hgS with h1 | h1
    · exact .inl h1
    · exact .inr ⟨h1, hgU⟩
  have hget : ∀ (j : Nat) (y : LsD), (Ls.set k ⟨some ⟨g, o, none⟩, cap, x.xs ++ [n], x.live⟩)[j]? = some y → (j = k ∧ y = ⟨some ⟨g, o, none⟩, cap, x.xs ++ [n], x.live⟩) ∨ (j ≠ k ∧ Ls[j]? = some y) := fun j y hy => by
    rw [List.getElem?_set] at hy
    split at hy
    · rename_i e
      subst e
      split at hy
      · simp only [Option.some.injEq] at hy
        exact .inl ⟨rfl, hy.symm⟩
      · cases hy
    · rename_i e
      exact .inr ⟨fun e' => e e'.symm, hy⟩
  -- a list's block that is not this one's
  have nb' : ∀ (j : Nat) (y : LsD), Ls[j]? = some y → j ≠ k → ∀ a, y.ao = some a → a.block ≠ g := fun j y hy hne a ha => by
    refine ng _ (h.sE y (List.mem_of_getElem? hy) a ha) (fun h1 => ?_)
    exact h.apart k j x y hx hy hne.symm h1.2 _ _ h1.1 ha
  refine ⟨?_, ?_⟩
  · exact { h with
      blk := by
        rw [List.length_set, kne tb h.sT (ng tb h.sT (fun h1 => (hxg h1).1)) (n4 _ hla).1.symm]
        exact h.blk
      rows := h.rows.kept fun a ha => kne _ (h.sR a ha) (ng _ (h.sR a ha) (fun h1 => (hxg h1).2.2.2.1 a ha)) (n5 a _ ha hla)
      nums := h.nums.kept (kne nb h.sN (ng nb h.sN (fun h1 => (hxg h1).2.1)) (n4 _ hla).2.1.symm)
      pts := h.pts.kept (kne pb h.sP (ng pb h.sP (fun h1 => (hxg h1).2.2.1)) (n4 _ hla).2.2.symm)
      lsts := by
        rw [List.length_set]
        have hU : RowK U 70 2 la Ls.length lc (flatLs Ls) := h.lsts.kept fun a ha => by
          have e : a = ⟨lg, lo, none⟩ := by rw [hla] at ha; injection ha with ha; exact ha.symm
          subst e
          exact grown_kept hB hg (h.lt lg slg) klg
        have hs := hU.set hla (k * 2 + 0) (.slice (some ⟨g, o, none⟩) (x.xs.length + 1) cap)
        have e : flatLs (Ls.set k ⟨some ⟨g, o, none⟩, cap, x.xs ++ [n], x.live⟩) = (flatLs Ls).set (k * 2 + 0) (.slice (some ⟨g, o, none⟩) (x.xs.length + 1) cap) := flat_set lsC 2 (fun _ => rfl) Ls k 0 x _ _ hx (by omega) (by simp)
        rw [e]
        exact hs
      each := fun j y hy => by
        rcases hget j y hy with ⟨rfl, rfl⟩ | ⟨hne, hy⟩
        · have e : intsC (x.xs ++ [n]) = intsC x.xs ++ [.int .i64 (n : Int)] := by unfold intsC; simp
          show RowK _ _ _ (some ⟨g, o, none⟩) (x.xs ++ [n]).length cap (intsC (x.xs ++ [n]))
          rw [e, List.length_append]
          exact hR.kept fun a ha => by injection ha with ha; subst ha; exact Below.heap_setCell _ _ _ _ klg.symm
        · exact (h.each j y hy).kept fun a ha => kne _ (h.sE y (List.mem_of_getElem? hy) a ha) (nb' j y hy hne a ha) ((n6 y (List.mem_of_getElem? hy) a ha).2.2.2.2 _ hla)
      apart := fun i j y z hy hz hne hc a b ha hb => by
        rcases hget i y hy with ⟨e1, e2⟩ | ⟨hni, hy2⟩
        · rcases hget j z hz with ⟨e3, _⟩ | ⟨hnj, hz2⟩
          · exact absurd (e1.trans e3.symm) hne
          · subst e2
            injection ha with ha
            subst ha
            exact (nb' j z hz2 hnj b hb).symm
        · rcases hget j z hz with ⟨_, e4⟩ | ⟨hnj, hz2⟩
          · subst e4
            injection hb with hb
            subst hb
            exact nb' i y hy2 hni a ha
          · exact h.apart i j y z hy2 hz2 hne hc a b ha hb
      lens := by rw [List.length_set]; exact h.lens
      fewL := by rw [List.length_set]; exact h.fewL
      fewE := fun y hy => by
        obtain ⟨j, hj⟩ := List.getElem?_of_mem hy
        rcases hget j y hj with ⟨rfl, rfl⟩ | ⟨hne, hj⟩
        · show (x.xs ++ [n]).length ≤ _
          rw [List.length_append]
          exact hf
        · exact h.fewE y (List.mem_of_getElem? hj)
      sT := .inl h.sT
      sN := .inl h.sN
      sP := .inl h.sP
      sR := fun a ha => .inl (h.sR a ha)
      sL := fun a ha => .inl (h.sL a ha)
      sE := fun y hy a ha => by
        obtain ⟨j, hj⟩ := List.getElem?_of_mem hy
        rcases hget j y hj with ⟨rfl, rfl⟩ | ⟨hne, hj⟩
        · injection ha with ha; subst ha; exact hgrow
        · exact .inl (h.sE y (List.mem_of_getElem? hj) a ha)
      lt := fun j hj => by
        have : j < U.heap.size := by
          rcases hj with hj | hj
          · exact Nat.lt_of_lt_of_le (h.lt j hj) hsz
          · exact hj.2
        simpa [World.setCell] using this
      gho := fun g' i v hg => by
        obtain ⟨⟨cur, hc, hv⟩, r⟩ := h.gho g' i v hg
        have hS := h.gS _ _ _ hg
        have hgn := h.gne hg
        have hne' : g' ≠ lg := hgn.2.2.2.2 _ hla
        by_cases e : g' = g
        · subst e
          rcases hor' with ⟨h1, h2⟩ | h2
          · have hb := r x hm o h1 h2
            obtain ⟨g1, o1, cur1, q0, q1, q2, q3, q4, q5⟩ : ∃ g1 o1 cur1, x.ao = some ⟨g1, o1, none⟩ ∧ W.heap[g1]? = some (.cells cur1 3 (0, 0)) ∧ x.xs.length ≤ x.cap ∧ x.cap ≤ maxLen ∧ (x.xs.length < x.cap → o1 = 0 ∧ x.cap * 1 ≤ cur1.size) ∧ ∀ j u, (intsC x.xs)[j]? = some u → cur1[o1 + j]? = some u := by
              rcases (h.each k x hx).2 with ⟨h0, _⟩ | h0
              · rw [h1] at h0; cases h0
              · exact h0
            obtain ⟨rfl, rfl⟩ : g' = g1 ∧ o = o1 := by
              rw [h1] at q0
              injection q0 with q0
              injection q0 with e1 e2
              exact ⟨e1, e2⟩
            obtain ⟨rfl, _⟩ := q4 h2
            rw [hc] at q1
            injection q1 with q1
            injection q1 with q1
            subst q1
            rw [Nat.zero_add] at hb
            obtain ⟨u, hu⟩ : ∃ u, (intsC x.xs)[i]? = some u := ⟨_, List.getElem?_eq_getElem (by unfold intsC; rw [List.length_map]; exact hb)⟩
            have hu' := q5 i u hu
            rw [Nat.zero_add] at hu'
            obtain rfl : v = u := by rw [hv] at hu'; injection hu'
            obtain ⟨g2, o2, cur2, p0, p1, _, _, _, p5⟩ : ∃ g2 o2 cur2, (some ⟨g', 0, none⟩ : Option Addr) = some ⟨g2, o2, none⟩ ∧ U.heap[g2]? = some (.cells cur2 3 (0, 0)) ∧ x.xs.length + 1 ≤ cap ∧ cap ≤ maxLen ∧ (x.xs.length + 1 < cap → o2 = 0 ∧ cap * 1 ≤ cur2.size) ∧ ∀ j u, (intsC x.xs ++ [.int .i64 (n : Int)])[j]? = some u → cur2[o2 + j]? = some u := by
              rcases hR.2 with ⟨h0, _⟩ | h0
              · cases h0
              · exact h0
            obtain ⟨rfl, rfl⟩ : g' = g2 ∧ 0 = o2 := by
              injection p0 with p0
              injection p0 with e1 e2
              exact ⟨e1, e2⟩
            refine ⟨⟨cur2, (Below.heap_setCell _ _ _ _ hne').trans p1, ?_⟩, fun y hy o' ho hc' => ?_⟩
            · have := p5 i v (by rw [List.getElem?_append_left (by unfold intsC; rw [List.length_map]; exact hb)]; exact hu)
              rw [Nat.zero_add] at this
              exact this
            · obtain ⟨j, hj⟩ := List.getElem?_of_mem hy
              rcases hget j y hj with ⟨rfl, rfl⟩ | ⟨hne, hj⟩
              · injection ho with ho
                injection ho with _ ho
                subst ho
                show i < 0 + (x.xs ++ [n]).length
                rw [List.length_append]
                omega
              · exact r y (List.mem_of_getElem? hj) o' ho hc'
          · have := h.lt _ hS
            omega
        · refine ⟨⟨cur, ?_, hv⟩, fun y hy o' ho hc' => ?_⟩
          · rw [Below.heap_setCell _ _ _ _ hne', grown_kept hB hg0 (h.lt _ hS) e]
            exact hc
          · obtain ⟨j, hj⟩ := List.getElem?_of_mem hy
            rcases hget j y hj with ⟨rfl, rfl⟩ | ⟨hne, hj⟩
            · injection ho with ho
              injection ho with ho _
              exact absurd ho.symm e
            · exact r y (List.mem_of_getElem? hj) o' ho hc'
      gS := fun g' i v hg => .inl (h.gS _ _ _ hg) }
  · have t2 : Turned (fun j => S j ∨ W.heap.size ≤ j) W U := (Turned.of_below hB).trans (Turned.grown hg (.inl hgS))
    exact (t2.trans (Turned.set (a := ⟨lg, lo + k * 2, none⟩) (.inl slg) _)) |> fun t => ⟨t.os, t.tape, t.output, t.size, fun k hk hn => t.block k hk (fun e => e.elim hn (by omega))⟩

theorem TabM.wide {S' : Nat → Prop} (h : TabM Gz W S tb R num pats Ls live d0 d1 d2 ra rc nb pb la lc) (hs : ∀ j, S j → S' j) (hl : ∀ j, S' j → j < W.heap.size) : TabM Gz W S' tb R num pats Ls live d0 d1 d2 ra rc nb pb la lc :=
  { h with sT := hs _ h.sT, sN := hs _ h.sN, sP := hs _ h.sP, sR := fun a ha => hs _ (h.sR a ha), sL := fun a ha => hs _ (h.sL a ha), sE := fun x hx a ha => hs _ (h.sE x hx a ha), lt := hl, gS := fun g i v hg => hs _ (h.gS g i v hg) }
theorem growS_lt {u v : World} (h : ∀ j, S j → j < u.heap.size) (hs : u.heap.size ≤ v.heap.size) : ∀ j, growS S u v j → j < v.heap.size := fun j hj => by
  rcases hj with hj | hj
  · have := h j hj; omega
  · exact hj.2
end
end Go.Proofs.Ytnmimagcmmdolaa
