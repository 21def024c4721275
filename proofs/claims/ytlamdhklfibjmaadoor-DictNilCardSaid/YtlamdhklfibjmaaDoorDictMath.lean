/-
  PLAIN MATHEMATICS: a table of numbers in which a search goes on from place to place: what is found, what comes, what goes.
-/
import Derived.Test.YtlamdhklfibjmaaDoorUtfMath
namespace Go.Proofs.YtlamdhklfibjmaaDoor.Dict
open Go
set_option linter.unusedSectionVars false
set_option linter.unusedSimpArgs false

variable {κ : Type} [DecidableEq κ] (hash : κ → Nat)

/-- Place e of the search for a key, in a table of sz places. -/
def place (sz : Nat) (key : κ) (e : Nat) : Nat := (hash key + e) % sz
theorem place_lt {sz : Nat} (h : 0 < sz) (key : κ) (e : Nat) : place hash sz key e < sz := Nat.mod_lt _ h
theorem place_next {sz : Nat} (key : κ) (e : Nat) : (place hash sz key e + 1) % sz = place hash sz key (e + 1) := by
  unfold place
  rw [Nat.mod_add_mod, Nat.add_assoc]

/-- The table has the keys, each where the search for it comes to it, behind elder ones alone. -/
structure Inv (tb : List Nat) (ps : List κ) : Prop where
  room : ps.length < tb.length
  le : ∀ (j : Nat) (v : Nat), tb[j]? = some v → v ≤ ps.length
  one : ∀ (i j v : Nat), tb[i]? = some v → tb[j]? = some v → v ≠ 0 → i = j
  path : ∀ (k : Nat) (key : κ), ps[k]? = some key → ∃ d, tb[place hash tb.length key d]? = some (k + 1) ∧ ∀ e, e < d → ∃ v, tb[place hash tb.length key e]? = some v ∧ v ≠ 0 ∧ v < k + 1
  count : tb.countP (fun v => v ≠ 0) = ps.length
  nodup : ps.Nodup

/-- The search for a key ends at place d of it. -/
structure Ends (tb : List Nat) (ps : List κ) (key : κ) (d : Nat) (v : Nat) : Prop where
  at_ : tb[place hash tb.length key d]? = some v
  stop : v = 0 ∨ ps[v - 1]? = some key
  before : ∀ e, e < d → ∃ u, tb[place hash tb.length key e]? = some u ∧ u ≠ 0 ∧ ps[u - 1]? ≠ some key

variable {hash}
variable {tb : List Nat} {ps : List κ} {key : κ}
theorem Inv.pos (h : Inv hash tb ps) : 0 < tb.length := by have := h.room; omega

theorem nodup_get {ps : List κ} (h : ps.Nodup) {i j : Nat} {key : κ} (hi : ps[i]? = some key) (hj : ps[j]? = some key) : i = j := by
  exact (List.getElem?_inj (List.getElem?_eq_some_iff.1 hi).1 h).1 (hi.trans hj.symm)

/-- Who is there is found. -/
theorem Ends.found {d v k : Nat} (h : Inv hash tb ps) (he : Ends hash tb ps key d v) (hk : ps[k]? = some key) : v = k + 1 := by
  obtain ⟨d', h1, h2⟩ := h.path k key hk
  rcases Nat.lt_trichotomy d d' with hlt | rfl | hgt
  · obtain ⟨u, hu, hu0, hul⟩ := h2 d hlt
    have : u = v := Option.some.inj (hu.symm.trans he.at_)
    subst this
    rcases he.stop with h0 | h0
    · exact absurd h0 hu0
    · have := nodup_get h.nodup h0 hk
      omega
  · exact Option.some.inj (he.at_.symm.trans h1)
  · obtain ⟨u, hu, hu0, hn⟩ := he.before d' hgt
    have : u = k + 1 := Option.some.inj (hu.symm.trans h1)
    subst this
    exact absurd hk hn
/-- Who is not there: the search ends at a free place. -/
theorem Ends.free {d v : Nat} (he : Ends hash tb ps key d v) (hk : key ∉ ps) : v = 0 := by
  rcases he.stop with h0 | h0
  · exact h0
  · exact absurd (List.mem_of_getElem? h0) hk

/-- There is a free place. -/
theorem Inv.some_free (h : Inv hash tb ps) : ∃ j : Nat, tb[j]? = some 0 := by
  have h1 : tb.countP (fun v => v ≠ 0) < tb.length := by rw [h.count]; exact h.room
  obtain ⟨x, hx, hx0⟩ : ∃ x ∈ tb, ¬ (fun v : Nat => decide (v ≠ 0)) x = true := by
    apply Classical.byContradiction
    intro hne
    have h2 : ∀ x ∈ tb, (fun v : Nat => decide (v ≠ 0)) x = true := fun x hx => Classical.byContradiction fun h3 => hne ⟨x, hx, h3⟩
    have := List.countP_eq_length.2 h2
    omega
  obtain ⟨j, hj⟩ := List.getElem?_of_mem hx
  have : x = 0 := by simpa using hx0
  exact ⟨j, by rw [hj, this]⟩
/-- .. and the search comes to it. -/
theorem Inv.comes (h : Inv hash tb ps) (key : κ) : ∃ e, e < tb.length ∧ tb[place hash tb.length key e]? = some 0 := by
  obtain ⟨j, hj⟩ := h.some_free
  have hjl : j < tb.length := (List.getElem?_eq_some_iff.1 hj).1
  have hp := h.pos
  have hm := Nat.mod_lt (hash key) hp
  refine ⟨(j + tb.length - hash key % tb.length) % tb.length, Nat.mod_lt _ hp, ?_⟩
  have e : place hash tb.length key ((j + tb.length - hash key % tb.length) % tb.length) = j := by
    unfold place
    rw [Nat.add_mod_mod, Nat.add_mod, ← Nat.add_mod]
    have h1 : hash key = tb.length * (hash key / tb.length) + hash key % tb.length := (Nat.div_add_mod _ _).symm
    have h2 : hash key + (j + tb.length - hash key % tb.length) = j + tb.length * (hash key / tb.length + 1) := by
      rw [Nat.mul_add, Nat.mul_one]
      omega
    rw [h2, Nat.add_mul_mod_self_left, Nat.mod_eq_of_lt hjl]
  rw [e, hj]

theorem countP_set_new {tb : List Nat} {j v : Nat} (h0 : tb[j]? = some 0) (hv : v ≠ 0) : (tb.set j v).countP (fun v => v ≠ 0) = tb.countP (fun v => v ≠ 0) + 1 := by
  induction tb generalizing j with
  | nil => simp at h0
  | cons a tb ih =>
    cases j with
    | zero =>
      have : a = 0 := by simpa using h0
      subst this
      simp [List.countP_cons, hv]
    | succ j =>
      rw [List.set_cons_succ, List.countP_cons, List.countP_cons, ih (by simpa using h0)]
      omega
theorem countP_set_gone {tb : List Nat} {j v : Nat} (h0 : tb[j]? = some v) (hv : v ≠ 0) : (tb.set j 0).countP (fun v => v ≠ 0) + 1 = tb.countP (fun v => v ≠ 0) := by
  induction tb generalizing j with
  | nil => simp at h0
  | cons a tb ih =>
    cases j with
    | zero =>
      have : a = v := by simpa using h0
      subst this
      simp [List.countP_cons, hv]
    | succ j =>
      have := ih (j := j) (by simpa using h0)
      rw [List.set_cons_succ, List.countP_cons, List.countP_cons]
      omega

/-- What comes new, at the free place where the search for it ends. -/
theorem Inv.enter {d : Nat} (h : Inv hash tb ps) (he : Ends hash tb ps key d 0) (hk : key ∉ ps) (hroom : ps.length + 1 < tb.length) :
    Inv hash (tb.set (place hash tb.length key d) (ps.length + 1)) (ps ++ [key]) := by
  have hj := place_lt hash h.pos key d
  have hz := he.at_
  generalize hjj : place hash tb.length key d = j at hj hz
  have hl : (tb.set j (ps.length + 1)).length = tb.length := List.length_set
  have old : ∀ i v, tb[i]? = some v → v ≠ 0 → (tb.set j (ps.length + 1))[i]? = some v := fun i v hi hv => by
    rw [List.getElem?_set_ne, hi]
    rintro rfl
    rw [hz] at hi
    exact hv (Option.some.inj hi).symm
  refine ⟨by rw [hl, List.length_append]; exact hroom, ?_, ?_, ?_, ?_, ?_⟩
  · intro i v hi
    rw [List.length_append, List.length_singleton]
    by_cases e : j = i
    · subst e
      rw [List.getElem?_set_self hj] at hi
      cases hi
      exact Nat.le_refl _
    · rw [List.getElem?_set_ne e] at hi
      have := h.le i v hi
      omega
  · intro i i' v hi hi' hv
    by_cases e : j = i
    · subst e
      rw [List.getElem?_set_self hj] at hi
      cases hi
      by_cases e' : j = i'
      · exact e'
      · rw [List.getElem?_set_ne e'] at hi'
        have := h.le i' _ hi'
        omega
    · rw [List.getElem?_set_ne e] at hi
      by_cases e' : j = i'
      · subst e'
        rw [List.getElem?_set_self hj] at hi'
        cases hi'
        have := h.le i _ hi
        omega
      · rw [List.getElem?_set_ne e'] at hi'
        exact h.one i i' v hi hi' hv
  · intro k key' hk'
    rw [hl]
    by_cases hlt : k < ps.length
    · rw [List.getElem?_append_left hlt] at hk'
      obtain ⟨d', h1, h2⟩ := h.path k key' hk'
      refine ⟨d', old _ _ h1 (by omega), fun e he' => ?_⟩
      obtain ⟨v, hv, hv0, hvl⟩ := h2 e he'
      exact ⟨v, old _ _ hv hv0, hv0, hvl⟩
    · have hk'' : k < (ps ++ [key]).length := (List.getElem?_eq_some_iff.1 hk').1
      have hkn : k = ps.length := by simp at hk''; omega
      subst hkn
      rw [List.getElem?_append_right (Nat.le_refl _), Nat.sub_self] at hk'
      have : key = key' := by simpa using hk'
      subst this
      refine ⟨d, by rw [hjj, List.getElem?_set_self hj], fun e he' => ?_⟩
      obtain ⟨u, hu, hu0, _⟩ := he.before e he'
      have := h.le _ _ hu
      exact ⟨u, old _ _ hu hu0, hu0, by omega⟩
  · rw [countP_set_new hz (by omega), h.count, List.length_append]
    rfl
  · rw [List.nodup_append]
    refine ⟨h.nodup, by simp, ?_⟩
    intro a ha b hb
    have : b = key := by simpa using hb
    subst this
    rintro rfl
    exact hk ha

/-- The last one goes. -/
theorem Inv.leave {d v : Nat} (h : Inv hash tb (ps ++ [key])) (he : Ends hash tb (ps ++ [key]) key d v) :
    Inv hash (tb.set (place hash tb.length key d) 0) ps := by
  have hv : v = ps.length + 1 := he.found h (by rw [List.getElem?_append_right (Nat.le_refl _), Nat.sub_self]; rfl)
  subst hv
  have hj := place_lt hash h.pos key d
  have hz := he.at_
  generalize hjj : place hash tb.length key d = j at hj hz
  have hl : (tb.set j 0).length = tb.length := List.length_set
  have hlen : (ps ++ [key]).length = ps.length + 1 := by simp
  have old : ∀ i v, tb[i]? = some v → v < ps.length + 1 → (tb.set j 0)[i]? = some v := fun i v hi hv => by
    rw [List.getElem?_set_ne, hi]
    rintro rfl
    rw [hz] at hi
    have := Option.some.inj hi
    omega
  refine ⟨by rw [hl]; have := h.room; omega, ?_, ?_, ?_, ?_, (List.nodup_append.1 h.nodup).1⟩
  · intro i v hi
    by_cases e : j = i
    · subst e
      rw [List.getElem?_set_self hj] at hi
      cases hi
      exact Nat.zero_le _
    · rw [List.getElem?_set_ne e] at hi
      have h1 := h.le i v hi
      have h2 : v ≠ ps.length + 1 := by
        rintro rfl
        exact e (h.one j i _ hz hi (by omega))
      omega
  · intro i i' v hi hi' hv
    by_cases e : j = i
    · subst e
      rw [List.getElem?_set_self hj] at hi
      cases hi
      exact absurd rfl hv
    · rw [List.getElem?_set_ne e] at hi
      by_cases e' : j = i'
      · subst e'
        rw [List.getElem?_set_self hj] at hi'
        cases hi'
        exact absurd rfl hv
      · rw [List.getElem?_set_ne e'] at hi'
        exact h.one i i' v hi hi' hv
  · intro k key' hk'
    have hlt : k < ps.length := (List.getElem?_eq_some_iff.1 hk').1
    rw [hl]
    obtain ⟨d', h1, h2⟩ := h.path k key' (by rw [List.getElem?_append_left hlt]; exact hk')
    refine ⟨d', old _ _ h1 (by omega), fun e he' => ?_⟩
    obtain ⟨u, hu, hu0, hul⟩ := h2 e he'
    exact ⟨u, old _ _ hu (by omega), hu0, hul⟩
  · have h1 := countP_set_gone hz (by omega)
    have h2 := h.count
    rw [hlen] at h2
    omega

/-- A new table. -/
theorem Inv.empty {sz : Nat} (h : 0 < sz) : Inv hash (List.replicate sz 0) ([] : List κ) where
  room := by simpa using h
  le j v hj := by
    have := List.mem_of_getElem? hj
    rw [List.mem_replicate] at this
    simp [this.2]
  one i j v hi _ hv := by
    have := List.mem_of_getElem? hi
    rw [List.mem_replicate] at this
    exact absurd this.2 hv
  path k key hk := by simp at hk
  count := by simp
  nodup := List.nodup_nil

/-- The number of a key: 0 if it is not there. -/
def number (ps : List κ) (key : κ) : Nat := if key ∈ ps then ps.idxOf key + 1 else 0
theorem Ends.number {d v : Nat} (h : Inv hash tb ps) (he : Ends hash tb ps key d v) : v = number ps key := by
  unfold Dict.number
  by_cases hk : key ∈ ps
  · rw [if_pos hk]
    exact he.found h (by rw [List.getElem?_eq_getElem (List.idxOf_lt_length_iff.2 hk)]; simp)
  · rw [if_neg hk]
    exact he.free hk
end Go.Proofs.YtlamdhklfibjmaaDoor.Dict
