/-
  A TABLE IN MEMORY: its blocks, and what stays of it when others write.
-/
import Derived.Test.YtnmimagcmmdolaaTbMap
import Derived.Lib.Hide
import Derived.RowKit3
import Derived.Deep.MidRow
namespace Go.Proofs.Ytnmimagcmmdolaa
open Go.RowKit
set_option linter.unusedVariables false
set_option linter.unusedSimpArgs false

/-- Nil, or n elements of k cells each, in a block from some place on; where there is room behind them the block begins with them. -/
def RowK (W : World) (e : TypeId) (k : Nat) (ao : Option Addr) (n cap : Nat) (xs : List Value) : Prop :=
  xs.length = n * k ∧ ((ao = none ∧ n = 0 ∧ cap = 0) ∨
    ∃ g o cur, ao = some ⟨g, o, none⟩ ∧ W.heap[g]? = some (.cells cur e (0, 0)) ∧ n ≤ cap ∧ cap ≤ maxLen ∧ (n < cap → o = 0 ∧ cap * k ≤ cur.size) ∧ ∀ j u, xs[j]? = some u → cur[o + j]? = some u)
section
variable {W U : World} {e : TypeId} {k n cap : Nat} {ao : Option Addr} {xs : List Value}
theorem RowK.kept (h : RowK W e k ao n cap xs) (hk : ∀ a, ao = some a → U.heap[a.block]? = W.heap[a.block]?) : RowK U e k ao n cap xs := by
  refine ⟨h.1, h.2.imp id ?_⟩
  rintro ⟨g, o, cur, h0, hg, r⟩
  exact ⟨g, o, cur, h0, by rw [hk _ h0]; exact hg, r⟩
theorem RowK.lt (h : RowK W e k ao n cap xs) {a : Addr} (ha : ao = some a) : a.block < W.heap.size := by
  rcases h.2 with ⟨h0, _⟩ | ⟨g, o, cur, h0, hg, _⟩
  · rw [h0] at ha; cases ha
  · rw [h0] at ha
    cases ha
    exact (Array.getElem?_eq_some_iff.1 hg).1
theorem RowK.type (h : RowK W e k ao n cap xs) {a : Addr} (ha : ao = some a) : ∃ cur, W.heap[a.block]? = some (.cells cur e (0, 0)) := by
  rcases h.2 with ⟨h0, _⟩ | ⟨g, o, cur, h0, hg, _⟩
  · rw [h0] at ha; cases ha
  · rw [h0] at ha
    cases ha
    exact ⟨cur, hg⟩
theorem RowK.le (h : RowK W e k ao n cap xs) : n ≤ cap := by
  rcases h.2 with ⟨h0, h1, h2⟩ | ⟨g, o, cur, _, _, h3, _⟩
  · omega
  · exact h3
theorem RowK.at_ (h : RowK W e k ao n cap xs) (hn : 0 < n) : ∃ g o, ao = some ⟨g, o, none⟩ ∧ (∀ j u, xs[j]? = some u → W.cell? ⟨g, o + j, none⟩ = some u) ∧ ∀ i, W.frozen? ⟨g, i, none⟩ = false := by
  rcases h.2 with ⟨h0, h1, h2⟩ | ⟨g, o, cur, h0, hg, h3, h4, h5, h6⟩
  · omega
  · exact ⟨g, o, h0, fun j u hu => cell_in hg (h6 j u hu), fun i => free_in hg i⟩
/-- One cell of it is written. -/
theorem RowK.set (h : RowK W e k ao n cap xs) {g o : Nat} (ha : ao = some ⟨g, o, none⟩) (j : Nat) (v : Value) : RowK (W.setCell ⟨g, o + j, none⟩ v) e k ao n cap (xs.set j v) := by
  refine ⟨by rw [List.length_set]; exact h.1, ?_⟩
  rcases h.2 with ⟨h0, _⟩ | ⟨g', o', cur, h0, hg, h3, h4, h5, h6⟩
  · rw [h0] at ha; cases ha
  · obtain ⟨rfl, rfl⟩ : g = g' ∧ o = o' := by
      rw [h0] at ha
      injection ha with ha
      injection ha with e1 e2
      exact ⟨e1.symm, e2.symm⟩
    refine .inr ⟨g, o, _, h0, heap_setCell_same W g (o + j) _ _ _ hg, h3, h4, fun hl => ⟨(h5 hl).1, by simpa using (h5 hl).2⟩, fun i u hu => ?_⟩
    rw [List.getElem?_set] at hu
    rw [Array.getElem?_setIfInBounds]
    by_cases e : j = i
    · subst e
      rw [if_pos rfl] at hu
      split at hu
      · rename_i hl
        have hc := h6 j (xs[j]) (List.getElem?_eq_getElem hl)
        have := (Array.getElem?_eq_some_iff.1 hc).1
        rw [if_pos rfl, if_pos this]
        exact hu
      · cases hu
    · rw [if_neg e] at hu
      rw [if_neg (by omega)]
      exact h6 i u hu
end

abbrev EntN := RowN × Nat
abbrev entC (x : EntN) : List Value := [.int .u32 (x.1.1 : Int), .int .u32 (x.1.2.1 : Int), .int .u32 (x.1.2.2 : Int), .int .u8 (x.2 : Int)]
def flatE (R : List EntN) : List Value := R.flatMap entC
/-- A list of rows' numbers, and how many are not out. -/
structure LsD where
  ao : Option Addr
  cap : Nat
  xs : List Nat
  live : Int
abbrev lsC (x : LsD) : List Value := [.slice x.ao x.xs.length x.cap, .int .i64 x.live]
def flatLs (l : List LsD) : List Value := l.flatMap lsC
def intsC (xs : List Nat) : List Value := xs.map fun n : Nat => Value.int .i64 (n : Int)

/-- Elements of k cells, one behind the other. -/
theorem flat_len {α : Type} (c : α → List Value) (k : Nat) (hc : ∀ x, (c x).length = k) : ∀ l : List α, (l.flatMap c).length = l.length * k
  | [] => by simp
  | x :: l => by rw [List.flatMap_cons, List.length_append, flat_len c k hc l, hc x, List.length_cons, Nat.succ_mul, Nat.add_comm]
theorem flat_get {α : Type} (c : α → List Value) (k : Nat) (hc : ∀ x, (c x).length = k) : ∀ (l : List α) (i j : Nat) (x : α), l[i]? = some x → j < k → (l.flatMap c)[i * k + j]? = (c x)[j]?
  | [], i, j, x, h, _ => by simp at h
  | y :: l, 0, j, x, h, hj => by
    simp only [List.getElem?_cons_zero, Option.some.injEq] at h
    subst h
    rw [List.flatMap_cons, Nat.zero_mul, Nat.zero_add, List.getElem?_append_left (by rw [hc]; exact hj)]
  | y :: l, i + 1, j, x, h, hj => by
    rw [List.getElem?_cons_succ] at h
    rw [List.flatMap_cons, List.getElem?_append_right (by rw [hc, Nat.succ_mul]; omega), hc, ← flat_get c k hc l i j x h hj]
    congr 1
    rw [Nat.succ_mul]
    omega
theorem flat_set {α : Type} (c : α → List Value) (k : Nat) (hc : ∀ x, (c x).length = k) : ∀ (l : List α) (i j : Nat) (x y : α) (v : Value), l[i]? = some x → j < k → c y = (c x).set j v → (l.set i y).flatMap c = (l.flatMap c).set (i * k + j) v
  | [], i, j, x, y, v, h, _, _ => by simp at h
  | z :: l, 0, j, x, y, v, h, hj, he => by
    simp only [List.getElem?_cons_zero, Option.some.injEq] at h
    subst h
    rw [List.set_cons_zero, List.flatMap_cons, List.flatMap_cons, Nat.zero_mul, Nat.zero_add, List.set_append_left _ _ (by rw [hc]; exact hj), he]
  | z :: l, i + 1, j, x, y, v, h, hj, he => by
    rw [List.getElem?_cons_succ] at h
    rw [List.set_cons_succ, List.flatMap_cons, List.flatMap_cons, flat_set c k hc l i j x y v h hj he, List.set_append_right _ _ (by rw [hc, Nat.succ_mul]; omega), hc]
    congr 2
    rw [Nat.succ_mul]
    omega

abbrev patF (pats : List RowN) : RowN → Option Nat := fun q => if q ∈ pats then some (pats.idxOf q) else none
abbrev tabC (ra : Option Addr) (rn rc nb pb : Nat) (la : Option Addr) (ln lc : Nat) (live d0 d1 d2 : Int) : Array Value :=
  #[.slice ra rn rc, .map (some nb), .map (some pb), .slice la ln lc, .int .i64 live, .int .i64 d0, .int .i64 d1, .int .i64 d2]
/-- Cells that nobody writes. -/
abbrev GzT := Nat → Nat → Value → Prop
/-- A table, each of its blocks in S. -/
structure TabM (Gz : GzT) (W : World) (S : Nat → Prop) (tb : Nat) (R : List EntN) (num : RowN → Option Nat) (pats : List RowN) (Ls : List LsD) (live d0 d1 d2 : Int) (ra : Option Addr) (rc nb pb : Nat) (la : Option Addr) (lc : Nat) : Prop where
  blk : W.heap[tb]? = some (.cells (tabC ra R.length rc nb pb la Ls.length lc live d0 d1 d2) 61 (0, 0))
  rows : RowK W 68 4 ra R.length rc (flatE R)
  nums : MapRow W nb num
  pts : MapRow W pb (patF pats)
  lsts : RowK W 70 2 la Ls.length lc (flatLs Ls)
  each : ∀ (k : Nat) (x : LsD), Ls[k]? = some x → RowK W 3 1 x.ao x.xs.length x.cap (intsC x.xs)
  apart : ∀ (k j : Nat) (x y : LsD), Ls[k]? = some x → Ls[j]? = some y → k ≠ j → x.xs.length < x.cap → ∀ a b, x.ao = some a → y.ao = some b → a.block ≠ b.block
  ne : nb ≠ pb
  lens : pats.length = Ls.length
  okR : ∀ x ∈ R, okN x.1 ∧ x.2 < 256
  okP : ∀ q ∈ pats, okN q
  few : R.length ≤ 1000000000
  fewL : Ls.length ≤ 10000000000
  fewE : ∀ x ∈ Ls, x.xs.length ≤ 1000000000
  sT : S tb
  sN : S nb
  sP : S pb
  sR : ∀ a, ra = some a → S a.block
  sL : ∀ a, la = some a → S a.block
  sE : ∀ x ∈ Ls, ∀ a, x.ao = some a → S a.block
  lt : ∀ j, S j → j < W.heap.size
  gho : ∀ g i v, Gz g i v → (∃ cur, W.heap[g]? = some (.cells cur 3 (0, 0)) ∧ cur[i]? = some v) ∧ ∀ x ∈ Ls, ∀ o, x.ao = some ⟨g, o, none⟩ → x.xs.length < x.cap → i < o + x.xs.length
  gS : ∀ g i v, Gz g i v → S g

section
variable {W U : World} {Gz : GzT} {S : Nat → Prop} {tb : Nat} {R : List EntN} {num : RowN → Option Nat} {pats : List RowN} {Ls : List LsD} {live d0 d1 d2 : Int} {ra : Option Addr} {rc nb pb : Nat} {la : Option Addr} {lc : Nat}
theorem TabM.kept (h : TabM Gz W S tb R num pats Ls live d0 d1 d2 ra rc nb pb la lc) (hs : W.heap.size ≤ U.heap.size) (k : ∀ j, S j → U.heap[j]? = W.heap[j]?) : TabM Gz U S tb R num pats Ls live d0 d1 d2 ra rc nb pb la lc :=
  { h with
    blk := by rw [k tb h.sT]; exact h.blk
    rows := h.rows.kept fun a ha => k _ (h.sR a ha)
    nums := h.nums.kept (k _ h.sN)
    pts := h.pts.kept (k _ h.sP)
    lsts := h.lsts.kept fun a ha => k _ (h.sL a ha)
    each := fun i x hx => (h.each i x hx).kept fun a ha => k _ (h.sE x (List.mem_of_getElem? hx) a ha)
    lt := fun j hj => Nat.lt_of_lt_of_le (h.lt j hj) hs
    gho := fun g i v hg => by
      obtain ⟨⟨cur, hc, hv⟩, r⟩ := h.gho g i v hg
      exact ⟨⟨cur, by rw [k g (h.gS g i v hg)]; exact hc, hv⟩, r⟩ }
theorem TabM.below (h : TabM Gz W S tb R num pats Ls live d0 d1 d2 ra rc nb pb la lc) (k : Below W.heap.size W U) : TabM Gz U S tb R num pats Ls live d0 d1 d2 ra rc nb pb la lc := h.kept k.size fun j hj => k.block j (h.lt j hj)
theorem TabM.beside {T : Nat → Prop} (h : TabM Gz W S tb R num pats Ls live d0 d1 d2 ra rc nb pb la lc) (k : Turned T W U) (hn : ∀ j, S j → ¬ T j) : TabM Gz U S tb R num pats Ls live d0 d1 d2 ra rc nb pb la lc := h.kept k.size fun j hj => k.block j (h.lt j hj) (hn j hj)
theorem types_ne {g g' : Nat} {c c' : Array Value} {e e' : TypeId} {f f' : Nat × Nat} (h : W.heap[g]? = some (.cells c e f)) (h' : W.heap[g']? = some (.cells c' e' f')) (hne : e ≠ e') : g ≠ g' := by
  rintro rfl
  rw [h] at h'
  injection h' with h'
  injection h' with _ h2
  exact hne h2
theorem map_ne {g g' : Nat} {c : Array Value} {e : TypeId} {f : Nat × Nat} {q : RowN → Option Nat} (h : W.heap[g]? = some (.cells c e f)) (h' : MapRow W g' q) : g ≠ g' := by
  rintro rfl
  obtain ⟨es, cl, h1, _⟩ := h'
  rw [h] at h1
  injection h1 with h1
  cases h1
/-- Which blocks differ, by what lies in them. -/
theorem TabM.nes (h : TabM Gz W S tb R num pats Ls live d0 d1 d2 ra rc nb pb la lc) :
    tb ≠ nb ∧ tb ≠ pb ∧ (∀ a, ra = some a → a.block ≠ tb ∧ a.block ≠ nb ∧ a.block ≠ pb) ∧ (∀ a, la = some a → a.block ≠ tb ∧ a.block ≠ nb ∧ a.block ≠ pb) ∧ (∀ a b, ra = some a → la = some b → a.block ≠ b.block) ∧
      ∀ x ∈ Ls, ∀ a, x.ao = some a → a.block ≠ tb ∧ a.block ≠ nb ∧ a.block ≠ pb ∧ (∀ b, ra = some b → a.block ≠ b.block) ∧ ∀ b, la = some b → a.block ≠ b.block := by
  refine ⟨map_ne h.blk h.nums, map_ne h.blk h.pts, fun a ha => ?_, fun a ha => ?_, fun a b ha hb => ?_, fun x hx a ha => ?_⟩
  · obtain ⟨c, hc⟩ := h.rows.type ha
    exact ⟨types_ne hc h.blk (by decide), map_ne hc h.nums, map_ne hc h.pts⟩
  · obtain ⟨c, hc⟩ := h.lsts.type ha
    exact ⟨types_ne hc h.blk (by decide), map_ne hc h.nums, map_ne hc h.pts⟩
  · obtain ⟨c, hc⟩ := h.rows.type ha
    obtain ⟨c', hc'⟩ := h.lsts.type hb
    exact types_ne hc hc' (by decide)
  · obtain ⟨i, hi⟩ := List.getElem?_of_mem hx
    obtain ⟨c, hc⟩ := (h.each i x hi).type ha
    refine ⟨types_ne hc h.blk (by decide), map_ne hc h.nums, map_ne hc h.pts, fun b hb => ?_, fun b hb => ?_⟩
    · obtain ⟨c', hc'⟩ := h.rows.type hb
      exact types_ne hc hc' (by decide)
    · obtain ⟨c', hc'⟩ := h.lsts.type hb
      exact types_ne hc hc' (by decide)
/-- The cells that nobody writes lie beside all that is written. -/
theorem TabM.gne (h : TabM Gz W S tb R num pats Ls live d0 d1 d2 ra rc nb pb la lc) {g i : Nat} {v : Value} (hg : Gz g i v) : g ≠ tb ∧ g ≠ nb ∧ g ≠ pb ∧ (∀ a, ra = some a → g ≠ a.block) ∧ ∀ a, la = some a → g ≠ a.block := by
  obtain ⟨⟨cur, hc, hv⟩, _⟩ := h.gho g i v hg
  refine ⟨types_ne hc h.blk (by decide), map_ne hc h.nums, map_ne hc h.pts, fun a ha => ?_, fun a ha => ?_⟩
  · obtain ⟨c, hc'⟩ := h.rows.type ha
    exact types_ne hc hc' (by decide)
  · obtain ⟨c, hc'⟩ := h.lsts.type ha
    exact types_ne hc hc' (by decide)
theorem TabM.ghoK (h : TabM Gz W S tb R num pats Ls live d0 d1 d2 ra rc nb pb la lc) (hk : ∀ g i v, Gz g i v → U.heap[g]? = W.heap[g]?) : ∀ g i v, Gz g i v → (∃ cur, U.heap[g]? = some (.cells cur 3 (0, 0)) ∧ cur[i]? = some v) ∧ ∀ x ∈ Ls, ∀ o, x.ao = some ⟨g, o, none⟩ → x.xs.length < x.cap → i < o + x.xs.length := fun g i v hg => by
  obtain ⟨⟨cur, hc, hv⟩, r⟩ := h.gho g i v hg
  exact ⟨⟨cur, by rw [hk g i v hg]; exact hc, hv⟩, r⟩
/-- How many are not out is written. -/
theorem TabM.setLive (h : TabM Gz W S tb R num pats Ls live d0 d1 d2 ra rc nb pb la lc) (v : Int) : TabM Gz (W.setCell ⟨tb, 4, none⟩ (.int .i64 v)) S tb R num pats Ls v d0 d1 d2 ra rc nb pb la lc := by
  obtain ⟨n1, n2, n3, n4, n5, n6⟩ := h.nes
  have k : ∀ j, j ≠ tb → (W.setCell ⟨tb, 4, none⟩ (.int .i64 v)).heap[j]? = W.heap[j]? := fun j hj => Below.heap_setCell _ _ _ _ hj
  exact { h with
    blk := heap_setCell_same W tb 4 _ _ _ h.blk
    rows := h.rows.kept fun a ha => k _ (n3 a ha).1
    nums := h.nums.kept (k _ n1.symm)
    pts := h.pts.kept (k _ n2.symm)
    lsts := h.lsts.kept fun a ha => k _ (n4 a ha).1
    each := fun i x hx => (h.each i x hx).kept fun a ha => k _ (n6 x (List.mem_of_getElem? hx) a ha).1
    lt := fun j hj => by have := h.lt j hj; simpa [World.setCell] using this
    gho := h.ghoK fun g i v hg => k _ (h.gne hg).1 }
/-- How many numbers occur at a place is written. -/
theorem TabM.setDist (h : TabM Gz W S tb R num pats Ls live d0 d1 d2 ra rc nb pb la lc) (i : Nat) (hi : i < 3) (v : Int) :
    TabM Gz (W.setCell ⟨tb, 5 + i, none⟩ (.int .i64 v)) S tb R num pats Ls live (if i = 0 then v else d0) (if i = 1 then v else d1) (if i = 2 then v else d2) ra rc nb pb la lc := by
  obtain ⟨n1, n2, n3, n4, n5, n6⟩ := h.nes
  have k : ∀ j, j ≠ tb → (W.setCell ⟨tb, 5 + i, none⟩ (.int .i64 v)).heap[j]? = W.heap[j]? := fun j hj => Below.heap_setCell _ _ _ _ hj
  have hb := heap_setCell_same W tb (5 + i) _ _ (.int .i64 v) h.blk
  exact { h with
    blk := by
      rw [hb]
      obtain rfl | rfl | rfl : i = 0 ∨ i = 1 ∨ i = 2 := by omega
      all_goals rfl
    rows := h.rows.kept fun a ha => k _ (n3 a ha).1
    nums := h.nums.kept (k _ n1.symm)
    pts := h.pts.kept (k _ n2.symm)
    lsts := h.lsts.kept fun a ha => k _ (n4 a ha).1
    each := fun i x hx => (h.each i x hx).kept fun a ha => k _ (n6 x (List.mem_of_getElem? hx) a ha).1
    lt := fun j hj => by have := h.lt j hj; simpa [World.setCell] using this
    gho := h.ghoK fun g i v hg => k _ (h.gne hg).1 }
/-- A row's bits are written. -/
theorem TabM.setBits (h : TabM Gz W S tb R num pats Ls live d0 d1 d2 ra rc nb pb la lc) {g o : Nat} (ha : ra = some ⟨g, o, none⟩) {i : Nat} {x : EntN} (hx : R[i]? = some x) (b : Nat) (hb : b < 256) :
    TabM Gz (W.setCell ⟨g, o + (i * 4 + 3), none⟩ (.int .u8 (b : Int))) S tb (R.set i (x.1, b)) num pats Ls live d0 d1 d2 ra rc nb pb la lc := by
  obtain ⟨n1, n2, n3, n4, n5, n6⟩ := h.nes
  have k : ∀ j, j ≠ g → (W.setCell ⟨g, o + (i * 4 + 3), none⟩ (.int .u8 (b : Int))).heap[j]? = W.heap[j]? := fun j hj => Below.heap_setCell _ _ _ _ hj
  have hr := h.rows.set ha (i * 4 + 3) (.int .u8 (b : Int))
  exact { h with
    blk := by rw [k tb (n3 _ ha).1.symm, List.length_set]; exact h.blk
    rows := by
      rw [List.length_set]
      have e : flatE (R.set i (x.1, b)) = (flatE R).set (i * 4 + 3) (.int .u8 (b : Int)) := flat_set entC 4 (fun _ => rfl) R i 3 x (x.1, b) _ hx (by omega) rfl
      rw [e]
      exact hr
    nums := h.nums.kept (k _ (n3 _ ha).2.1.symm)
    pts := h.pts.kept (k _ (n3 _ ha).2.2.symm)
    lsts := h.lsts.kept fun a hl => k _ (fun e => n5 _ _ ha hl e.symm)
    each := fun j y hy => (h.each j y hy).kept fun a hl => k _ ((n6 y (List.mem_of_getElem? hy) a hl).2.2.2.1 _ ha)
    okR := fun y hy => by
      rcases List.mem_or_eq_of_mem_set hy with hy | rfl
      · exact h.okR y hy
      · exact ⟨(h.okR x (List.mem_of_getElem? hx)).1, hb⟩
    few := by rw [List.length_set]; exact h.few
    lt := fun j hj => by have := h.lt j hj; simpa [World.setCell] using this
    gho := h.ghoK fun g' i v hg => k _ ((h.gne hg).2.2.2.1 _ ha) }
/-- How many of a list are not out is written. -/
theorem TabM.setLs (h : TabM Gz W S tb R num pats Ls live d0 d1 d2 ra rc nb pb la lc) {g o : Nat} (ha : la = some ⟨g, o, none⟩) {i : Nat} {x : LsD} (hx : Ls[i]? = some x) (v : Int) :
    TabM Gz (W.setCell ⟨g, o + (i * 2 + 1), none⟩ (.int .i64 v)) S tb R num pats (Ls.set i { x with live := v }) live d0 d1 d2 ra rc nb pb la lc := by
  obtain ⟨n1, n2, n3, n4, n5, n6⟩ := h.nes
  have k : ∀ j, j ≠ g → (W.setCell ⟨g, o + (i * 2 + 1), none⟩ (.int .i64 v)).heap[j]? = W.heap[j]? := fun j hj => Below.heap_setCell _ _ _ _ hj
  have hr := h.lsts.set ha (i * 2 + 1) (.int .i64 v)
  have hget : ∀ (j : Nat) (y : LsD), (Ls.set i { x with live := v })[j]? = some y → ∃ z : LsD, Ls[j]? = some z ∧ y.ao = z.ao ∧ y.cap = z.cap ∧ y.xs = z.xs := fun j y hy => by
    rw [List.getElem?_set] at hy
    split at hy
    · rename_i e
      subst e
      split at hy
      · simp only [Option.some.injEq] at hy
        subst hy
        exact ⟨x, hx, rfl, rfl, rfl⟩
      · cases hy
    · exact ⟨y, hy, rfl, rfl, rfl⟩
  have hmem : ∀ y ∈ Ls.set i { x with live := v }, ∃ z ∈ Ls, y.ao = z.ao ∧ y.cap = z.cap ∧ y.xs = z.xs := fun y hy => by
    obtain ⟨j, hj⟩ := List.getElem?_of_mem hy
    obtain ⟨z, hz, r⟩ := hget j y hj
    exact ⟨z, List.mem_of_getElem? hz, r⟩
  exact { h with
    blk := by rw [k tb (n4 _ ha).1.symm, List.length_set]; exact h.blk
    rows := h.rows.kept fun a hl => k _ (n5 _ _ hl ha)
    nums := h.nums.kept (k _ (n4 _ ha).2.1.symm)
    pts := h.pts.kept (k _ (n4 _ ha).2.2.symm)
    lsts := by
      rw [List.length_set]
      have e : flatLs (Ls.set i { x with live := v }) = (flatLs Ls).set (i * 2 + 1) (.int .i64 v) := flat_set lsC 2 (fun _ => rfl) Ls i 1 x { x with live := v } _ hx (by omega) rfl
      rw [e]
      exact hr
    each := fun j y hy => by
      obtain ⟨z, hz, e1, e2, e3⟩ := hget j y hy
      rw [e1, e2, e3]
      exact (h.each j z hz).kept fun a hl => k _ ((n6 z (List.mem_of_getElem? hz) a hl).2.2.2.2 _ ha)
    apart := fun k' j y y' hy hy' hne hc a b h1 h2 => by
      obtain ⟨z, hz, e1, e2, e3⟩ := hget k' y hy
      obtain ⟨z', hz', e1', e2', e3'⟩ := hget j y' hy'
      exact h.apart k' j z z' hz hz' hne (by rw [← e2, ← e3]; exact hc) a b (by rw [← e1]; exact h1) (by rw [← e1']; exact h2)
    lens := by rw [List.length_set]; exact h.lens
    fewL := by rw [List.length_set]; exact h.fewL
    fewE := fun y hy => by
      obtain ⟨z, hz, e1, e2, e3⟩ := hmem y hy
      rw [e3]
      exact h.fewE z hz
    sE := fun y hy a hl => by
      obtain ⟨z, hz, e1, e2, e3⟩ := hmem y hy
      exact h.sE z hz a (by rw [← e1]; exact hl)
    lt := fun j hj => by have := h.lt j hj; simpa [World.setCell] using this
    gho := fun g' i v hg => by
      obtain ⟨hc, r⟩ := h.ghoK (fun g' i v hg => k _ ((h.gne hg).2.2.2.2 _ ha)) g' i v hg
      refine ⟨hc, fun y hy o' => ?_⟩
      obtain ⟨z, hz, e1, e2, e3⟩ := hmem y hy
      rw [e1, e2, e3]
      exact r z hz o' }
end
end Go.Proofs.Ytnmimagcmmdolaa
