/-
  A TABLE WITH ALL THAT IS TRUE OF IT; contracts of table's New and Add, and of what reads it.
-/
import Derived.Test.YtnmimagcmmdolaaTbInv2
import Derived.RangeFuncBox
namespace Go.Proofs.Ytnmimagcmmdolaa
open Go.RowKit
set_option linter.unusedVariables false
set_option linter.unusedSimpArgs false

def numF (R : List EntN) : RowN → Option Nat := fun r => if r ∈ R.map (·.1) then some ((R.map (·.1)).idxOf r) else none
theorem numF_some {R : List EntN} {r : RowN} {n : Nat} (h : numF R r = some n) : ∃ b, R[n]? = some (r, b) := by
  unfold numF at h
  split at h
  · rename_i hm
    injection h with h
    have hlt := List.idxOf_lt_length_iff.2 hm
    have hg := List.getElem_idxOf hlt
    rw [List.getElem_map] at hg
    rw [List.length_map] at hlt
    subst h
    refine ⟨R[(R.map (·.1)).idxOf r].2, ?_⟩
    rw [List.getElem?_eq_getElem hlt]
    congr 1
    exact Prod.ext hg rfl
  · cases h
theorem numF_none {R : List EntN} {r : RowN} (h : numF R r = none) : r ∉ R.map (·.1) := by
  unfold numF at h
  split at h
  · cases h
  · assumption
theorem numF_at {R : List EntN} (hn : (R.map (·.1)).Nodup) {n : Nat} {x : EntN} (hx : R[n]? = some x) : numF R x.1 = some n := by
  obtain ⟨hlt, hg⟩ := List.getElem?_eq_some_iff.1 hx
  unfold numF
  rw [if_pos (List.mem_map.2 ⟨x, List.mem_of_getElem? hx, rfl⟩)]
  have := hn.idxOf_getElem n (by rw [List.length_map]; exact hlt)
  rw [List.getElem_map, hg] at this
  rw [this]
theorem numF_snoc {R : List EntN} {r : RowN} (h : r ∉ R.map (·.1)) : numF (R ++ [(r, 0)]) = fun q => if r = q then some R.length else numF R q := by
  funext q
  unfold numF
  rw [List.map_append, List.map_singleton]
  by_cases e : r = q
  · subst e
    rw [if_pos (by simp), if_pos rfl, List.idxOf_append, if_neg h]
    simp
  · rw [if_neg e]
    by_cases hq : q ∈ R.map (·.1)
    · rw [if_pos (List.mem_append_left _ hq), if_pos hq, List.idxOf_append, if_pos hq]
    · rw [if_neg hq, if_neg]
      intro hm
      rcases List.mem_append.1 hm with hm | hm
      · exact hq hm
      · exact e (List.mem_singleton.1 hm).symm
theorem numF_set {R : List EntN} {n : Nat} {x : EntN} (hx : R[n]? = some x) (b : Nat) : numF (R.set n (x.1, b)) = numF R := by
  funext q
  unfold numF
  rw [map_set_row hx b]

/-- A table of the rows R: its blocks lie in S, its maps ahead of B. -/
def TabI (B : Nat) (Gz : GzT) (W : World) (S : Nat → Prop) (tb : Nat) (R : List EntN) : Prop :=
  ∃ pats Ls live d0 d1 d2 ra rc nb pb la lc, TabM Gz W S tb R (numF R) pats Ls live d0 d1 d2 ra rc nb pb la lc ∧ InvT R pats (viewL Ls) live d0 d1 d2 ∧ nb < B ∧ pb < B
section
variable {B : Nat} {Gz : GzT} {W U w : World} {S : Nat → Prop} {tb : Nat} {R : List EntN}
theorem TabI.kept (h : TabI B Gz W S tb R) (hs : W.heap.size ≤ U.heap.size) (k : ∀ j, S j → U.heap[j]? = W.heap[j]?) : TabI B Gz U S tb R := by
  obtain ⟨pats, Ls, live, d0, d1, d2, ra, rc, nb, pb, la, lc, h1, r⟩ := h
  exact ⟨pats, Ls, live, d0, d1, d2, ra, rc, nb, pb, la, lc, h1.kept hs k, r⟩
theorem TabI.below (h : TabI B Gz W S tb R) (k : Below W.heap.size W U) : TabI B Gz U S tb R := by
  obtain ⟨pats, Ls, live, d0, d1, d2, ra, rc, nb, pb, la, lc, h1, r⟩ := h
  exact ⟨pats, Ls, live, d0, d1, d2, ra, rc, nb, pb, la, lc, h1.below k, r⟩
theorem TabI.beside {T : Nat → Prop} (h : TabI B Gz W S tb R) (k : Turned T W U) (hn : ∀ j, S j → ¬ T j) : TabI B Gz U S tb R := by
  obtain ⟨pats, Ls, live, d0, d1, d2, ra, rc, nb, pb, la, lc, h1, r⟩ := h
  exact ⟨pats, Ls, live, d0, d1, d2, ra, rc, nb, pb, la, lc, h1.beside k hn, r⟩
theorem TabI.lt (h : TabI B Gz W S tb R) : ∀ j, S j → j < W.heap.size := by
  obtain ⟨pats, Ls, live, d0, d1, d2, ra, rc, nb, pb, la, lc, h1, r⟩ := h
  exact h1.lt
theorem TabI.sT (h : TabI B Gz W S tb R) : S tb := by
  obtain ⟨pats, Ls, live, d0, d1, d2, ra, rc, nb, pb, la, lc, h1, r⟩ := h
  exact h1.sT
theorem TabI.nod (h : TabI B Gz W S tb R) : (R.map (·.1)).Nodup := by
  obtain ⟨pats, Ls, live, d0, d1, d2, ra, rc, nb, pb, la, lc, h1, r, _⟩ := h
  exact r.nod
theorem TabI.nz (h : TabI B Gz W S tb R) : ∀ x ∈ R, okLook x.1 := by
  obtain ⟨pats, Ls, live, d0, d1, d2, ra, rc, nb, pb, la, lc, h1, r, _⟩ := h
  exact r.nz
theorem TabI.okR (h : TabI B Gz W S tb R) : ∀ x ∈ R, okN x.1 ∧ x.2 < 256 := by
  obtain ⟨pats, Ls, live, d0, d1, d2, ra, rc, nb, pb, la, lc, h1, r, _⟩ := h
  exact h1.okR
/-- Fewer cells that nobody writes. -/
theorem TabI.less {Gz' : GzT} (h : TabI B Gz W S tb R) (hg : ∀ g i v, Gz' g i v → Gz g i v) : TabI B Gz' W S tb R := by
  obtain ⟨pats, Ls, live, d0, d1, d2, ra, rc, nb, pb, la, lc, h1, r⟩ := h
  exact ⟨pats, Ls, live, d0, d1, d2, ra, rc, nb, pb, la, lc, { h1 with gho := fun g i v hv => h1.gho g i v (hg g i v hv), gS := fun g i v hv => h1.gS g i v (hg g i v hv) }, r⟩
theorem TabI.wide {S' : Nat → Prop} (h : TabI B Gz W S tb R) (hs : ∀ j, S j → S' j) (hl : ∀ j, S' j → j < W.heap.size) : TabI B Gz W S' tb R := by
  obtain ⟨pats, Ls, live, d0, d1, d2, ra, rc, nb, pb, la, lc, h1, r⟩ := h
  exact ⟨pats, Ls, live, d0, d1, d2, ra, rc, nb, pb, la, lc, h1.wide hs hl, r⟩
theorem TabI.cell (h : TabI B Gz W S tb R) {g i : Nat} {v : Value} (hg : Gz g i v) : W.cell? ⟨g, i, none⟩ = some v := by
  obtain ⟨pats, Ls, live, d0, d1, d2, ra, rc, nb, pb, la, lc, h1, r⟩ := h
  obtain ⟨⟨cur, hc, hv⟩, _⟩ := h1.gho g i v hg
  exact cell_in hc hv
/-- A block that is no cells and lies from B on may turn. -/
theorem TabI.own (h : TabI B Gz W S tb R) {row : Option Nat} (hg : W.grownBy U row) (hr : ∀ r, row = some r → B ≤ r ∧ ∃ o : Obj, W.heap[r]? = some o ∧ o.isCells = false) : TabI B Gz U S tb R := by
  obtain ⟨pats, Ls, live, d0, d1, d2, ra, rc, nb, pb, la, lc, h1, hi, hb, hp⟩ := h
  have key : ∀ g, g < W.heap.size → (g < B ∨ ∃ c e f, W.heap[g]? = some (.cells c e f)) → U.heap[g]? = W.heap[g]? := fun g hlt hc => hg.block g hlt fun e => by
    obtain ⟨hB, o, ho, hno⟩ := hr g e.symm
    rcases hc with hc | ⟨c, e', f, hc⟩
    · omega
    · rw [hc] at ho
      cases ho
      cases hno
  refine ⟨pats, Ls, live, d0, d1, d2, ra, rc, nb, pb, la, lc, ?_, hi, hb, hp⟩
  exact { h1 with
    blk := by rw [key tb (h1.lt tb h1.sT) (.inr ⟨_, _, _, h1.blk⟩)]; exact h1.blk
    rows := h1.rows.kept fun a ha => by obtain ⟨c, hc⟩ := h1.rows.type ha; exact key _ (h1.lt _ (h1.sR a ha)) (.inr ⟨_, _, _, hc⟩)
    nums := h1.nums.kept (key nb (h1.lt nb h1.sN) (.inl hb))
    pts := h1.pts.kept (key pb (h1.lt pb h1.sP) (.inl hp))
    lsts := h1.lsts.kept fun a ha => by obtain ⟨c, hc⟩ := h1.lsts.type ha; exact key _ (h1.lt _ (h1.sL a ha)) (.inr ⟨_, _, _, hc⟩)
    each := fun i x hx => (h1.each i x hx).kept fun a ha => by obtain ⟨c, hc⟩ := (h1.each i x hx).type ha; exact key _ (h1.lt _ (h1.sE x (List.mem_of_getElem? hx) a ha)) (.inr ⟨_, _, _, hc⟩)
    lt := fun j hj => Nat.lt_of_lt_of_le (h1.lt j hj) hg.size
    gho := h1.ghoK fun g i v hz => by obtain ⟨⟨cur, hc, _⟩, _⟩ := h1.gho g i v hz; exact key g (h1.lt g (h1.gS g i v hz)) (.inr ⟨_, _, _, hc⟩) }
theorem TabI.mono {B' : Nat} (h : TabI B Gz W S tb R) (hB : B ≤ B') : TabI B' Gz W S tb R := by
  obtain ⟨pats, Ls, live, d0, d1, d2, ra, rc, nb, pb, la, lc, h1, hi, hb, hp⟩ := h
  exact ⟨pats, Ls, live, d0, d1, d2, ra, rc, nb, pb, la, lc, h1, hi, by omega, by omega⟩

abbrev gz0 : GzT := fun _ _ _ => False
set_option maxRecDepth 100000 in
theorem tbNew_any (w : World) : Calls Try.prog 8 #[] w fun e w' => e = .returned (tabP (w.heap.size + 1 + 1)) ∧ Below w.heap.size w w' ∧ w'.heap.size = w.heap.size + 1 + 1 + 1 ∧ TabI (w.heap.size + 1 + 1) gz0 w' (fun j => w.heap.size ≤ j ∧ j < w.heap.size + 1 + 1 + 1) (w.heap.size + 1 + 1) [] := by
  have hmm := @run_makeMap_plain Try.prog
  have s1 : (w.alloc (.map #[] 0)).heap.size = w.heap.size + 1 := World.size_alloc _ _
  have s2 : ((w.alloc (.map #[] 0)).alloc (.map #[] 0)).heap.size = w.heap.size + 1 + 1 := by rw [World.size_alloc, s1]
  have HEnd : Hid (∀ U : World, U = ((w.alloc (.map #[] 0)).alloc (.map #[] 0)).alloc (.cells (tabC none 0 0 w.heap.size (w.heap.size + 1) none 0 0 0 0 0 0) 61) → Below w.heap.size w U ∧ U.heap.size = w.heap.size + 1 + 1 + 1 ∧ TabI (w.heap.size + 1 + 1) gz0 U (fun j => w.heap.size ≤ j ∧ j < w.heap.size + 1 + 1 + 1) (w.heap.size + 1 + 1) []) := Lib.hid (fun U hU => by
    have b1 := (((Below.refl w.heap.size w).alloc (Nat.le_refl _) (.map #[] 0)).alloc (by rw [s1]; omega) (.map #[] 0)).alloc (by rw [s2]; omega) (.cells (tabC none 0 0 w.heap.size (w.heap.size + 1) none 0 0 0 0 0 0) 61)
    have hs : U.heap.size = w.heap.size + 1 + 1 + 1 := by rw [hU, World.size_alloc, s2]
    have ht := heap_alloc_new ((w.alloc (.map #[] 0)).alloc (.map #[] 0)) (.cells (tabC none 0 0 w.heap.size (w.heap.size + 1) none 0 0 0 0 0 0) 61)
    rw [s2] at ht
    have m1 := MapRow.new w
    have m2 := MapRow.new (w.alloc (.map #[] 0))
    rw [s1] at m2
    have m1' : MapRow U w.heap.size (fun _ => none) := m1.kept (by
      rw [hU]
      exact (Below.heap_alloc _ _ _ (by rw [s2]; omega)).trans (Below.heap_alloc _ _ _ (by rw [s1]; omega)))
    have m2' : MapRow U (w.heap.size + 1) (fun _ => none) := m2.kept (by
      rw [hU]
      exact Below.heap_alloc _ _ _ (by rw [s2]; omega))
    refine ⟨by rw [hU]; exact b1, hs, [], [], 0, 0, 0, 0, none, 0, w.heap.size, w.heap.size + 1, none, 0, ?_, InvT.empty, by omega, by omega⟩
    exact {
      blk := by rw [hU]; exact ht
      rows := ⟨rfl, .inl ⟨rfl, rfl, rfl⟩⟩
      nums := m1'.ext fun r _ => by simp [numF]
      pts := m2'.ext fun r _ => by simp [patF]
      lsts := ⟨rfl, .inl ⟨rfl, rfl, rfl⟩⟩
      each := fun k x hx => by simp at hx
      apart := fun k j x y hx => by simp at hx
      ne := by omega
      lens := rfl
      okR := fun x hx => absurd hx (by simp)
      okP := fun x hx => absurd hx (by simp)
      few := Nat.zero_le _
      fewL := Nat.zero_le _
      fewE := fun x hx => absurd hx (by simp)
      sT := ⟨by omega, by omega⟩
      sN := ⟨by omega, by omega⟩
      sP := ⟨by omega, by omega⟩
      sR := fun a ha => by cases ha
      sL := fun a ha => by cases ha
      sE := fun x hx => absurd hx (by simp)
      lt := fun j hj => by rw [hs]; exact hj.2
      gho := fun g i v hg => hg.elim
      gS := fun g i v hg => hg.elim })
  go_enter Try.func8, Try.ntmps8
  go_wp2
  go_ret
  exact ⟨by simp, HEnd.out _ rfl⟩

/-- What Add does. -/
def addR (R : List EntN) (r : RowN) (b : Nat) : List EntN :=
  if b = 0 ∨ ¬ okLook r then R else match numF R r with
    | some n => R.set n (r, orB (R.getD n (r, 0)).2 b)
    | none => R ++ [(r, orB 0 b)]
def addV (R : List EntN) (r : RowN) (b : Nat) : Array Value :=
  if b = 0 ∨ ¬ okLook r then #[.int .i64 (-1), .bool false] else match numF R r with
    | some n => #[.int .i64 (n : Int), .bool (decide ((R.getD n (r, 0)).2 = 0))]
    | none => #[.int .i64 (R.length : Int), .bool true]
theorem known_look (r : RowN) : knownN r < 3 ↔ ¬ okLook r := by
  unfold knownN oneN okLook
  by_cases a : r.1 = 0 <;> by_cases b : r.2.1 = 0 <;> by_cases c : r.2.2 = 0 <;> simp [a, b, c]
theorem TabI.getE (h : TabI B Gz w S tb R) (n : Int) : Calls Try.prog 25 #[tabP tb, .int .i64 n] w fun e w' => e = .returned (.tuple #[rowV (getE R n).1, .int .u8 ((getE R n).2 : Int)]) ∧ Below w.heap.size w w' := by
  obtain ⟨pats, Ls, live, d0, d1, d2, ra, rc, nb, pb, la, lc, h1, r⟩ := h
  exact tbGet_any h1 n
theorem TabI.find (h : TabI B Gz w S tb R) (r : RowN) (hr : okN r) : Calls Try.prog 23 #[tabP tb, rowV r] w fun e w' => e = .returned (.tuple (findV (numF R r))) ∧ Below w.heap.size w w' := by
  obtain ⟨pats, Ls, live, d0, d1, d2, ra, rc, nb, pb, la, lc, h1, _⟩ := h
  exact tbFind_any h1 r hr
theorem TabI.len (h : TabI B Gz w S tb R) : Calls Try.prog 17 #[tabP tb] w fun e w' => e = .returned (.int .i64 (R.length : Int)) ∧ w = w' := by
  obtain ⟨pats, Ls, live, d0, d1, d2, ra, rc, nb, pb, la, lc, h1, _⟩ := h
  exact tbLen_any h1
theorem TabI.live (h : TabI B Gz w S tb R) : Calls Try.prog 28 #[tabP tb] w fun e w' => e = .returned (.int .i64 ((R.countP liveB : Nat) : Int)) ∧ w = w' := by
  obtain ⟨pats, Ls, live, d0, d1, d2, ra, rc, nb, pb, la, lc, h1, hi, _⟩ := h
  rw [← hi.live]
  exact tbLive_any h1
/-- How many numbers occur at a place. -/
def distR (R : List EntN) (i : Nat) : Nat := (List.range R.length).countP fun n => match R[n]? with
  | some x => liveB x && (List.range n).all fun k => match R[k]? with
    | some y => !liveB y || atN y.1 i != atN x.1 i
    | none => true
  | none => false
end
end Go.Proofs.Ytnmimagcmmdolaa
