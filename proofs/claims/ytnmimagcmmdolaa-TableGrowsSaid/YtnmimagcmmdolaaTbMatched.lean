/-
  CONTRACT OF table's matched.
-/
import Derived.Test.YtnmimagcmmdolaaTbSearch
namespace Go.Proofs.Ytnmimagcmmdolaa
open Go.RowKit Go.Shelf
set_option linter.unusedVariables false
set_option linter.unusedSimpArgs false

theorem filter_mid {α : Type} (l : List α) (f : α → Bool) (p q : Nat) (hpq : p ≤ q) (hql : q ≤ l.length) (h : ∀ (j : Nat) (x : α), l[j]? = some x → (f x = true ↔ p ≤ j ∧ j < q)) : l.filter f = (l.take q).drop p := by
  have e : l = l.take p ++ ((l.take q).drop p ++ l.drop q) := by
    rw [← List.append_assoc]
    have h1 : l.take p ++ (l.take q).drop p = l.take q := by
      have : l.take p = (l.take q).take p := by rw [List.take_take, Nat.min_eq_left hpq]
      rw [this, List.take_append_drop]
    rw [h1, List.take_append_drop]
  have a : (l.take p).filter f = [] := by
    rw [List.filter_eq_nil_iff]
    intro x hx hf
    obtain ⟨j, hj⟩ := List.getElem?_of_mem hx
    have hjp : j < p := by
      have := (List.getElem?_eq_some_iff.1 hj).1
      rw [List.length_take] at this
      omega
    rw [List.getElem?_take_of_lt hjp] at hj
    have := (h j x hj).1 hf
    omega
  have b : (l.drop q).filter f = [] := by
    rw [List.filter_eq_nil_iff]
    intro x hx hf
    obtain ⟨j, hj⟩ := List.getElem?_of_mem hx
    rw [List.getElem?_drop] at hj
    have := (h _ x hj).1 hf
    omega
  have c : ((l.take q).drop p).filter f = (l.take q).drop p := by
    rw [List.filter_eq_self]
    intro x hx
    obtain ⟨j, hj⟩ := List.getElem?_of_mem hx
    rw [List.getElem?_drop] at hj
    have hjq : p + j < q := by
      have := (List.getElem?_eq_some_iff.1 hj).1
      rw [List.length_take] at this
      omega
    rw [List.getElem?_take_of_lt hjq] at hj
    exact (h _ x hj).2 ⟨by omega, hjq⟩
  rw [e, List.filter_append, List.filter_append, a, b, c]
  rw [← e]
  simp
/-- The numbers of the rows that a look fits, from one place up to another one. -/
def candR (R : List EntN) (look : RowN) (lo hi : Int) : List Nat := (List.range R.length).filter fun n => (decide (lo ≤ (n : Int)) && decide ((n : Int) < hi)) && fitB look ((R.map (·.1)).getD n (0, 0, 0))
theorem candR_idx (R : List EntN) (look : RowN) (lo hi : Int) : candR R look lo hi = (idxsF look (R.map (·.1))).filter fun n : Nat => decide (lo ≤ (n : Int)) && decide ((n : Int) < hi) := by
  unfold candR idxsF
  rw [List.filter_filter, List.length_map]
theorem range_mid (len p q : Nat) (hpq : p ≤ q) (hq : q ≤ len) : ((List.range len).take q).drop p = List.range' p (q - p) := by
  apply List.ext_getElem
  · simp
    omega
  · intro i h1 h2
    simp
theorem candR_span {R : List EntN} {look : RowN} {lo hi : Int} {p q : Nat} (hpq : p ≤ q) (hq : q ≤ R.length) (h : ∀ n, n < R.length → ((lo ≤ (n : Int) ∧ (n : Int) < hi) ∧ fitB look ((R.map (·.1)).getD n (0, 0, 0)) = true ↔ p ≤ n ∧ n < q)) : candR R look lo hi = List.range' p (q - p) := by
  unfold candR
  rw [filter_mid _ _ p q hpq (by rw [List.length_range]; exact hq), range_mid _ _ _ hpq hq]
  intro j x hj
  obtain ⟨hlt, he⟩ := List.getElem?_eq_some_iff.1 hj
  rw [List.length_range] at hlt
  rw [List.getElem_range] at he
  subst he
  rw [Bool.and_eq_true, Bool.and_eq_true, decide_eq_true_eq, decide_eq_true_eq]
  exact h j hlt
theorem idxsF_sorted (q : RowN) (rows : List RowN) : SortedN (idxsF q rows) := by
  have hp : (idxsF q rows).Pairwise (· < ·) := List.Pairwise.filter _ List.pairwise_lt_range
  intro i j a b ha hb hij
  obtain ⟨h1, e1⟩ := List.getElem?_eq_some_iff.1 ha
  obtain ⟨h2, e2⟩ := List.getElem?_eq_some_iff.1 hb
  have := List.pairwise_iff_getElem.1 hp i j h1 h2 hij
  rw [e1, e2] at this
  exact this
theorem splits_le {ns : List Nat} (hs : SortedN ns) {lo hi : Int} (hlt : lo < hi) {p q : Nat} (hp : Splits ns lo p) (hq : Splits ns hi q) : p ≤ q := by
  by_cases h : p ≤ q
  · exact h
  · obtain ⟨x, hx⟩ : ∃ x, ns[q]? = some x := ⟨_, List.getElem?_eq_getElem (by have := hp.1; omega)⟩
    have h1 := hp.2.1 q x hx (by omega)
    have h2 := hq.2.2 q x hx (Nat.le_refl _)
    omega
theorem candR_list {R : List EntN} {look : RowN} {lo hi : Int} (hlt : lo < hi) {p q : Nat} (hp : Splits (idxsF look (R.map (·.1))) lo p) (hq : Splits (idxsF look (R.map (·.1))) hi q) : candR R look lo hi = ((idxsF look (R.map (·.1))).take q).drop p := by
  rw [candR_idx]
  refine filter_mid _ _ p q (splits_le (idxsF_sorted _ _) hlt hp hq) hq.1 fun j x hj => ?_
  rw [Bool.and_eq_true, decide_eq_true_eq, decide_eq_true_eq]
  constructor
  · rintro ⟨h1, h2⟩
    constructor
    · by_cases h : p ≤ j
      · exact h
      · have := hp.2.1 j x hj (by omega); omega
    · by_cases h : j < q
      · exact h
      · have := hq.2.2 j x hj (by omega); omega
  · rintro ⟨h1, h2⟩
    exact ⟨hp.2.2 j x hj h1, hq.2.1 j x hj h2⟩
theorem candR_lims (R : List EntN) (look : RowN) (lo hi : Int) : candR R look (max lo 0) (min hi (R.length : Int)) = candR R look lo hi := by
  unfold candR
  apply List.filter_congr
  intro n hn
  rw [List.mem_range] at hn
  congr 1
  rw [Bool.eq_iff_iff, Bool.and_eq_true, Bool.and_eq_true, decide_eq_true_eq, decide_eq_true_eq, decide_eq_true_eq, decide_eq_true_eq]
  omega

section
variable {w : World} {B : Nat} {Gz : GzT} {S : Nat → Prop} {tb : Nat} {R : List EntN} {num : RowN → Option Nat} {pats : List RowN} {Ls : List LsD} {live d0 d1 d2 : Int} {ra : Option Addr} {rc nb pb : Nat} {la : Option Addr} {lc : Nat}
/-- What a list has is written by nobody. -/
abbrev gzL (Gz : GzT) (x : LsD) : GzT := fun g i v => Gz g i v ∨ ∃ o j : Nat, x.ao = some ⟨g, o, none⟩ ∧ i = o + j ∧ (intsC x.xs)[j]? = some v
theorem TabM.freeze (h : TabM Gz w S tb R num pats Ls live d0 d1 d2 ra rc nb pb la lc) {k : Nat} {x : LsD} (hx : Ls[k]? = some x) : TabM (gzL Gz x) w S tb R num pats Ls live d0 d1 d2 ra rc nb pb la lc :=
  { h with
    gho := fun g i v hg => by
      rcases hg with hg | ⟨o, j, ha, rfl, hv⟩
      · exact h.gho g i v hg
      · rcases (h.each k x hx).2 with ⟨h0, _⟩ | ⟨g1, o1, cur, h0, hc, h3, h4, h5, h6⟩
        · rw [ha] at h0; cases h0
        · obtain ⟨rfl, rfl⟩ : g = g1 ∧ o = o1 := by
            rw [ha] at h0
            injection h0 with h0
            injection h0 with e1 e2
            exact ⟨e1, e2⟩
          have hj : j < x.xs.length := by
            have := (List.getElem?_eq_some_iff.1 hv).1
            unfold intsC at this
            rw [List.length_map] at this
            exact this
          refine ⟨⟨cur, hc, h6 j v hv⟩, fun y hy o' ho hcap => ?_⟩
          obtain ⟨i, hi⟩ := List.getElem?_of_mem hy
          by_cases e : i = k
          · subst e
            rw [hx] at hi
            injection hi with hi
            subst hi
            rw [ha] at ho
            injection ho with ho
            injection ho with _ ho
            omega
          · exact absurd rfl (h.apart i k y x hi hx e hcap ⟨g, o', none⟩ ⟨g, o, none⟩ ho ha)
    gS := fun g i v hg => by
      rcases hg with hg | ⟨o, j, ha, rfl, hv⟩
      · exact h.gS g i v hg
      · exact h.sE x (List.mem_of_getElem? hx) _ ha }
end
/-- An iterator that a call laid between w and w'. -/
structure Iter (B : Nat) (Gz : GzT) (tb : Nat) (w w' : World) (gf : Nat) (lb : Array Value) (Q : World → Prop) (ns : List Nat) : Prop where
  q : Q w'
  seq : ∀ n, 1 ≤ n → ∀ (S0 Loc : Nat → Prop) (u : World), SeqT Fence.wide n Try.prog gf lb encI (TIn Q) (nextIn ns) (fun ip => ip = ns) () [] S0 Loc u
  ent : ∀ args u, (callFunc gf args).run Try.prog u = .ok (.enter gf args) u
  keep : ∀ (W W' : World) (S' : Nat → Prop) (R' : List EntN), Q W → (∀ k, w.heap.size ≤ k → k < w'.heap.size → W'.heap[k]? = W.heap[k]?) → TabI B Gz W' S' tb R' → Q W'
  own : ∀ (W W' : World) (row : Option Nat), Q W → W.grownBy W' row → (∀ r, row = some r → ∃ o : Obj, W.heap[r]? = some o ∧ o.isCells = false) → Q W'
theorem span_iter {B : Nat} {Gz : GzT} {tb : Nat} {w u : World} (hB : Below w.heap.size w u) (p q : Nat) (hpq : p ≤ q) (hq : q ≤ 1000000000000) :
    Calls Try.prog 42 #[.int .i64 (p : Int), .int .i64 (q : Int)] u fun e w' => ∃ gf lb Q, e = .returned (.func (.func gf) #[] lb) ∧ Below w.heap.size w w' ∧ Below u.heap.size u w' ∧ Iter B Gz tb w w' gf lb Q (List.range' p (q - p)) := by
  refine (span_calls (p : Int) (q : Int) u).mono ?_
  rintro e w' ⟨rfl, rfl⟩
  have s1 : (u.alloc (.cells #[.int .i64 (p : Int)] 3)).heap.size = u.heap.size + 1 := World.size_alloc _ _
  have hb := hB.size
  have hc1 := heap_alloc_new u (.cells #[.int .i64 (p : Int)] 3)
  have hc2 := heap_alloc_new (u.alloc (.cells #[.int .i64 (p : Int)] 3)) (.cells #[.int .i64 (q : Int)] 3)
  rw [s1] at hc2
  have hc1' := (Below.heap_alloc (u.alloc (.cells #[.int .i64 (p : Int)] 3)) (.cells #[.int .i64 (q : Int)] 3) u.heap.size (by rw [s1]; omega)).trans hc1
  have hbu : Below u.heap.size u ((u.alloc (.cells #[.int .i64 (p : Int)] 3)).alloc (.cells #[.int .i64 (q : Int)] 3)) := ((Below.refl _ u).alloc (Nat.le_refl _) _).alloc (by rw [s1]; omega) _
  refine ⟨_, _, SpanQ u.heap.size (u.heap.size + 1) p q, rfl, hB.trans (hbu.mono hb), hbu, ⟨cell_in hc1' rfl, cell_in hc2 rfl⟩, fun n hn S0 Loc v => span_seq n hn _ _ p q hpq hq S0 Loc v, enters_of Try.func47 (by kernel_rfl) rfl, ?_, ?_⟩
  · intro W W' S' R' ⟨h1, h2⟩ hk _
    have s2 : ((u.alloc (.cells #[.int .i64 (p : Int)] 3)).alloc (.cells #[.int .i64 (q : Int)] 3)).heap.size = u.heap.size + 1 + 1 := by rw [World.size_alloc, s1]
    rw [s2] at hk
    exact ⟨(World.cell?_of_block (a := ⟨u.heap.size, 0, none⟩) (hk u.heap.size (by omega) (by omega))).trans h1, (World.cell?_of_block (a := ⟨u.heap.size + 1, 0, none⟩) (hk (u.heap.size + 1) (by omega) (by omega))).trans h2⟩
  · intro W W' row ⟨h1, h2⟩ hg hr
    exact ⟨cell_kept h1 hg hr, cell_kept h2 hg hr⟩
theorem values_iter {B : Nat} {Gz : GzT} {tb : Nat} {w u : World} (hB : Below w.heap.size w u) (ao : Option Addr) (len cap : Nat) (ns : List Nat) (hl : len = ns.length) (hn : ns.length ≤ 1000000000000) (hc : 0 < len → ∃ g o, ao = some ⟨g, o, none⟩ ∧ ∀ j k : Nat, ns[j]? = some k → u.cell? ⟨g, o + j, none⟩ = some (.int .i64 (k : Int)) ∧ Gz g (o + j) (.int .i64 (k : Int))) :
    Calls Try.prog 44 #[.slice ao len cap] u fun e w' => ∃ gf lb Q, e = .returned (.func (.func gf) #[] lb) ∧ Below w.heap.size w w' ∧ Below u.heap.size u w' ∧ Iter B Gz tb w w' gf lb Q ns := by
  refine (values_calls ao len cap u).mono ?_
  rintro e w' ⟨rfl, rfl⟩
  have hb := hB.size
  have hc1 := heap_alloc_new u (.cells #[.slice ao len cap] 41)
  have hbu : Below u.heap.size u (u.alloc (.cells #[.slice ao len cap] 41)) := (Below.refl _ u).alloc (Nat.le_refl _) _
  refine ⟨_, _, ValsQ u.heap.size ao len cap ns, rfl, hB.trans (hbu.mono hb), hbu, ⟨cell_in hc1 rfl, hl, fun h0 => ?_⟩, fun n hn1 S0 Loc v => values_seq n hn1 _ _ _ _ ns hn S0 Loc v, enters_of Try.func50 (by kernel_rfl) rfl, ?_, ?_⟩
  · obtain ⟨g, o, ha, h1⟩ := hc h0
    refine ⟨g, o, ha, fun j k hj => ?_⟩
    have := (h1 j k hj).1
    exact (hbu.cell (p := ⟨g, o + j, none⟩) (World.block_lt_of_cell? u ⟨g, o + j, none⟩ this)).trans this
  · intro W W' S' R' ⟨h1, h2, h3⟩ hk hT
    rw [World.size_alloc] at hk
    refine ⟨(World.cell?_of_block (a := ⟨u.heap.size, 0, none⟩) (hk u.heap.size (by omega) (by omega))).trans h1, h2, fun h0 => ?_⟩
    obtain ⟨g, o, ha, h4⟩ := hc h0
    exact ⟨g, o, ha, fun j k hj => hT.cell (h4 j k hj).2⟩
  · intro W W' row ⟨h1, h2, h3⟩ hg hr
    refine ⟨cell_kept h1 hg hr, h2, fun h0 => ?_⟩
    obtain ⟨g, o, ha, h4⟩ := h3 h0
    exact ⟨g, o, ha, fun j k hj => cell_kept (h4 j k hj) hg hr⟩
/-- The list of a look, as memory has it. -/
theorem TabI.list {B : Nat} {Gz : GzT} {w : World} {S : Nat → Prop} {tb : Nat} {R : List EntN} (h : TabI B Gz w S tb R) (q : RowN) (hq : okN q) (hp : partL q) : ∃ x : LsD, x.xs = idxsF q (R.map (·.1)) ∧ x.xs.length ≤ x.cap ∧
    (∀ U, Below w.heap.size w U → Calls Try.prog 31 #[tabP tb, rowV q] U fun e w' => e = .returned (.agg #[.slice x.ao x.xs.length x.cap, .int .i64 x.live]) ∧ Below w.heap.size w w') ∧
    TabI B (gzL Gz x) w S tb R ∧ (0 < x.xs.length → ∃ g o, x.ao = some ⟨g, o, none⟩ ∧ ∀ j k : Nat, x.xs[j]? = some k → gzL Gz x g (o + j) (.int .i64 (k : Int))) ∧ (x.ao = none → x.cap = 0) := by
  obtain ⟨pats, Ls, live, d0, d1, d2, ra, rc, nb, pb, la, lc, h1, hi, hB⟩ := h
  refine ⟨listO pats Ls q, ?_, ?_, fun U hU => (tbList_any (h1.below hU) q hq).mono fun e w' ⟨a, b⟩ => ⟨a, hU.trans (b.mono hU.size)⟩, ?_⟩
  · unfold listO
    by_cases hin : q ∈ pats
    · rw [if_pos hin]
      have hlt := List.idxOf_lt_length_iff.2 hin
      have hg : (viewL Ls)[pats.idxOf q]? = some (idxsF q (R.map (·.1)), ((cntQ q R : Nat) : Int)) := by
        rw [hi.view, List.getElem?_map, List.getElem?_eq_getElem hlt, List.getElem_idxOf hlt]
        rfl
      unfold viewL at hg
      rw [List.getElem?_map] at hg
      cases hx : Ls[pats.idxOf q]? with
      | none => rw [hx] at hg; cases hg
      | some x =>
        rw [hx] at hg
        rw [List.getD_eq_getElem?_getD, hx]
        injection hg with hg
        injection hg with hg _
    · rw [if_neg hin]
      refine (idxsF_nil fun r hr => ?_).symm
      obtain ⟨x, hx, rfl⟩ := List.mem_map.1 hr
      exact hi.none hp hin x hx
  · unfold listO
    by_cases hin : q ∈ pats
    · rw [if_pos hin]
      have hlt : pats.idxOf q < Ls.length := by rw [← h1.lens]; exact List.idxOf_lt_length_iff.2 hin
      have hx := List.getElem?_eq_getElem hlt
      rw [List.getD_eq_getElem?_getD, hx]
      exact (h1.each _ _ hx).le
    · rw [if_neg hin]
      exact Nat.le_refl _
  · unfold listO
    by_cases hin : q ∈ pats
    · rw [if_pos hin]
      have hlt : pats.idxOf q < Ls.length := by rw [← h1.lens]; exact List.idxOf_lt_length_iff.2 hin
      have hx := List.getElem?_eq_getElem hlt
      rw [List.getD_eq_getElem?_getD, hx]
      simp only [Option.getD_some]
      have hE := h1.each _ _ hx
      generalize Ls[pats.idxOf q] = x at *
      refine ⟨⟨_, _, _, _, _, _, _, _, _, _, _, _, h1.freeze hx, hi, hB⟩, fun h0 => ?_, fun h0 => ?_⟩
      · obtain ⟨g, o, ha, _⟩ := hE.at_ h0
        refine ⟨g, o, ha, fun j k hj => .inr ⟨o, j, ha, rfl, ?_⟩⟩
        unfold intsC
        rw [List.getElem?_map, hj]
        rfl
      · rcases hE.2 with ⟨_, _, h3⟩ | ⟨g, o, cur, h3, _⟩
        · exact h3
        · rw [h0] at h3; cases h3
    · rw [if_neg hin]
      refine ⟨?_, fun h0 => absurd h0 (by simp), fun _ => rfl⟩
      have : TabI B Gz w S tb R := ⟨_, _, _, _, _, _, _, _, _, _, _, _, h1, hi, hB⟩
      exact this.less fun g i v hg => by
        rcases hg with hg | ⟨o, j, ha, _⟩
        · exact hg
        · cases ha
end Go.Proofs.Ytnmimagcmmdolaa
