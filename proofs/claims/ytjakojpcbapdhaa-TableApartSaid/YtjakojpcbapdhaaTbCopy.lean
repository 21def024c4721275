/-
  WHAT table's Copy LEAVES: a table of its own, of the same rows.
-/
import Derived.Test.YtjakojpcbapdhaaTbCopied
namespace Go.Proofs.Ytjakojpcbapdhaa
open Go.RowKit Go.Shelf
set_option linter.unusedVariables false
set_option linter.unusedSimpArgs false

theorem mixL_all {A : Nat} {Ls : List LsD} {k : Nat} {y : LsD} (h : (mixL A Ls Ls.length)[k]? = some y) : ∃ x, Ls[k]? = some x ∧ y = newL A Ls k x := by
  have hk : k < Ls.length := by have := (List.getElem?_eq_some_iff.1 h).1; rwa [mixL_len] at this
  rw [mixL_get, if_pos hk] at h
  obtain ⟨x, hx, e⟩ := Option.map_eq_some_iff.1 h
  exact ⟨x, hx, e.symm⟩
theorem mixL_view (A : Nat) (Ls : List LsD) : viewL (mixL A Ls Ls.length) = viewL Ls := by
  apply List.ext_getElem?
  intro i
  rw [List.getElem?_map, List.getElem?_map, mixL_get]
  split
  · cases Ls[i]? <;> rfl
  · rfl
theorem CopyR.below {A : Nat} {Ls : List LsD} {la' : Option Addr} {lc' k : Nat} {W U : World} (h : CopyR A Ls la' lc' k W) (hU : Below W.heap.size W U) : CopyR A Ls la' lc' k U := by
  obtain ⟨cur, h1, h2, h3, h4⟩ := h
  exact ⟨cur, (hU.block A (Array.getElem?_eq_some_iff.1 h1).1).trans h1, h2, h3, h4.below hU⟩
theorem MapRow.below' {W U : World} {b : Nat} {f : RowN → Option Nat} (h : MapRow W b f) (hU : Below W.heap.size W U) : MapRow U b f := h.kept (hU.block b h.lt)
theorem copy_end {W0 V : World} {Gz : GzT} {S : Nat → Prop} {tb : Nat} {R : List EntN} {pats : List RowN} {Ls : List LsD} {live d0 d1 d2 : Int} {ra : Option Addr} {rc nb pb : Nat} {la : Option Addr} {lc : Nat}
    (hM : TabM Gz W0 S tb R (numF R) pats Ls live d0 d1 d2 ra rc nb pb la lc) (hi : InvT R pats (viewL Ls) live d0 d1 d2)
    {ra' : Option Addr} {rc' nb' pb' : Nat} {la' : Option Addr} {lc' A : Nat} (hs : W0.heap.size ≤ V.heap.size)
    (h1 : RowK V 68 4 ra' R.length rc' (flatE R)) (q1 : ∀ a, ra' = some a → W0.heap.size ≤ a.block) (h2 : MapRow V nb' (numF R)) (q2 : W0.heap.size ≤ nb') (h3 : MapRow V pb' (patF pats)) (q3 : W0.heap.size ≤ pb') (hne : nb' ≠ pb')
    (h4 : CopyR A Ls la' lc' Ls.length V) (q4 : ∀ a, la' = some a → W0.heap.size ≤ a.block) (q5 : W0.heap.size ≤ A) :
    TabI (V.heap.size + 1) gz0 (V.alloc (.cells (tabC ra' R.length rc' nb' pb' la' Ls.length lc' live d0 d1 d2) 61)) (fun j => W0.heap.size ≤ j ∧ j < V.heap.size + 1) V.heap.size R := by
  have hb := (Below.refl V.heap.size V).alloc (Nat.le_refl _) (.cells (tabC ra' R.length rc' nb' pb' la' Ls.length lc' live d0 d1 d2) 61)
  have hsz : (V.alloc (.cells (tabC ra' R.length rc' nb' pb' la' Ls.length lc' live d0 d1 d2) 61)).heap.size = V.heap.size + 1 := World.size_alloc _ _
  have hnew := heap_alloc_new V (.cells (tabC ra' R.length rc' nb' pb' la' Ls.length lc' live d0 d1 d2) 61)
  have n1 := h2.lt
  have n2 := h3.lt
  have m1 := h1.below hb
  have m2 := h2.below' hb
  have m3 := h3.below' hb
  have hAl : A < V.heap.size := by obtain ⟨cur, c1, _⟩ := h4; exact (Array.getElem?_eq_some_iff.1 c1).1
  have m4 := h4.below hb
  generalize V.alloc (.cells (tabC ra' R.length rc' nb' pb' la' Ls.length lc' live d0 d1 d2) 61) = U at *
  obtain ⟨cur, c1, c2, c3, c4⟩ := m4
  have hl := mixL_len A Ls Ls.length
  refine ⟨pats, mixL A Ls Ls.length, live, d0, d1, d2, ra', rc', nb', pb', la', lc', ?_, by rw [mixL_view]; exact hi, by omega, by omega⟩
  exact {
    blk := by rw [hl]; exact hnew
    rows := m1
    nums := m2
    pts := m3
    lsts := by rw [hl]; exact c4
    each := fun k y hy => by
      obtain ⟨x, hx, rfl⟩ := mixL_all hy
      have hf := hM.fewE x (List.mem_of_getElem? hx)
      refine ⟨by simp [newL, intsC], .inr ?_⟩
      by_cases he : x.xs.length = 0
      · have hxs : x.xs = [] := List.eq_nil_of_length_eq_zero he
        exact ⟨A, 0, cur, by simp [newL, he], c1, Nat.le_refl _, by show x.xs.length ≤ maxLen; unfold maxLen; omega, fun h => absurd h (Nat.lt_irrefl _), fun j u hu => by simp [newL, intsC, hxs] at hu⟩
      · exact ⟨A, sumL (Ls.take k), cur, by simp only [newL]; rw [if_neg (by omega)], c1, Nat.le_refl _, by show x.xs.length ≤ maxLen; unfold maxLen; omega, fun h => absurd h (Nat.lt_irrefl _), fun j u hu => c3 k x (List.getElem?_eq_some_iff.1 hx).1 hx j u hu⟩
    apart := fun k j x y hx _ _ hlt => by
      obtain ⟨z, _, rfl⟩ := mixL_all hx
      exact absurd hlt (Nat.lt_irrefl _)
    ne := hne
    lens := by rw [hl]; exact hM.lens
    okR := hM.okR
    okP := hM.okP
    few := hM.few
    fewL := by rw [hl]; exact hM.fewL
    fewE := fun y hy => by
      obtain ⟨k, hk⟩ := List.getElem?_of_mem hy
      obtain ⟨x, hx, rfl⟩ := mixL_all hk
      exact hM.fewE x (List.mem_of_getElem? hx)
    sT := ⟨hs, Nat.lt_succ_self _⟩
    sN := ⟨q2, by omega⟩
    sP := ⟨q3, by omega⟩
    sR := fun a ha => ⟨q1 a ha, by have := h1.lt ha; omega⟩
    sL := fun a ha => ⟨q4 a ha, by obtain ⟨_, _, _, _, hr⟩ := h4; have := hr.lt ha; omega⟩
    sE := fun y hy a ha => by
      obtain ⟨k, hk⟩ := List.getElem?_of_mem hy
      obtain ⟨x, hx, rfl⟩ := mixL_all hk
      have : a.block = A := by
        simp only [newL] at ha
        split at ha <;> (injection ha with ha; subst ha; rfl)
      show W0.heap.size ≤ a.block ∧ a.block < V.heap.size + 1
      omega
    lt := fun j hj => by rw [hsz]; exact hj.2
    gho := fun g i v h => h.elim
    gS := fun g i v h => h.elim }
/-- The lists' lengths, all in all. -/
theorem sumL_few {R : List EntN} {pats : List RowN} {Ls : List LsD} {live d0 d1 d2 : Int} (hi : InvT R pats (viewL Ls) live d0 d1 d2) (hR : R.length ≤ 1000000) : sumL Ls ≤ 10000000000000 := by
  have h1 : ∀ x ∈ Ls, x.xs.length ≤ R.length := fun x hx => by
    have hv : (x.xs, x.live) ∈ viewL Ls := List.mem_map.2 ⟨x, hx, rfl⟩
    rw [hi.view] at hv
    obtain ⟨q, _, e⟩ := List.mem_map.1 hv
    injection e with e _
    rw [← e]
    unfold idxsF
    refine Nat.le_trans (List.length_filter_le _ _) ?_
    simp
  have h2 : Ls.length = pats.length := by
    have := congrArg List.length hi.view
    simpa using this
  have h3 := hi.plen
  have h4 : ∀ l : List LsD, (∀ x ∈ l, x.xs.length ≤ R.length) → sumL l ≤ l.length * R.length := fun l => by
    induction l with
    | nil => intro _; simp [sumL]
    | cons x l ih =>
      intro h
      have a := ih (fun y hy => h y (List.mem_cons_of_mem _ hy))
      have b := h x (List.mem_cons_self ..)
      unfold sumL at a ⊢
      simp only [List.map_cons, List.sum_cons, List.length_cons, Nat.succ_mul]
      omega
  have h5 := h4 Ls h1
  have h6 : Ls.length * R.length ≤ 6000000 * 1000000 := Nat.mul_le_mul (by omega) hR
  omega
end Go.Proofs.Ytjakojpcbapdhaa
