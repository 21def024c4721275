/-
  WHAT THE PROOF STANDS ON, a part of it: RuArg.
-/
import Derived.Test.YtcikjgeanjnffaaGreatDoorC14
import Derived.Test.YtcikjgeanjnffaaGreatDoorC31
/-
  ARGUMENTS THAT ARE RULES, SLICES OF RULES, PARTS: opened.
-/

namespace Go.Proofs.YtcikjgeanjnffaaGreatDoor
open Go.ChangeShapes Go.WideShapes Go.ChangeAt Go.RowKit Go.Deep
set_option linter.unusedVariables false
set_option linter.unusedSimpArgs false
set_option linter.constructorNameAsVariable false
set_option maxRecDepth 100000

theorem cells_slot : Tryz.prog.cellsOf 26 = 4 := by kernel_rfl
theorem cells_pat : Tryz.prog.cellsOf 28 = 12 := by kernel_rfl
theorem cells_lit : Tryz.prog.cellsOf 34 = 21 := by kernel_rfl
theorem cells_kind : Tryz.prog.cellsOf 32 = 1 := by kernel_rfl
theorem cells_body : Tryz.prog.cellsOf 29 = 1 := by kernel_rfl
theorem cells_rule : Tryz.prog.cellsOf 31 = 13 := by kernel_rfl

section
variable {H : Type} {enc : TypeId × Value → H} {w : World} {base : Nat} {spare : Nat → Bool} {held : Bool}

theorem vast_of {s : ByteArray} (h : s.size ≤ maxLen) : VastS s := h
theorem trod_slot {fuel : Nat} {cs : List Value} {x : DataW H × List MemPlace} (h : DataW.trod enc Tryz.prog w base spare held fuel 26 cs = some x) :
    ∃ s : SlotD, cs = (slotC s).toList ∧ VastSl s := by
  obtain ⟨xs, n, _, hx, hl, hlen, hf⟩ := DataW.trod_struct Tryz.underlying26 h
  rw [cells_slot] at hl
  match cs, hl with
  | [v0, v1, v2, v3], _ =>
    match xs, hlen with
    | [y0, y1], _ =>
      have h0 : DataW.trod enc Tryz.prog w base spare held n 9 (([v0, v1, v2, v3].drop 0).take (Tryz.prog.cellsOf 9)) = [y0, y1][0]? := hf 0 _ rfl
      have h1 : DataW.trod enc Tryz.prog w base spare held n 24 (([v0, v1, v2, v3].drop 1).take (Tryz.prog.cellsOf 24)) = [y0, y1][1]? := hf 1 _ rfl
      rw [cells_str] at h0
      rw [cells_term] at h1
      obtain ⟨t, e0, _, w0⟩ := DataW.trod_string Tryz.underlying9 h0
      obtain ⟨a, e1, _, w1⟩ := trod_term h1
      simp at e0 e1
      obtain ⟨rfl, rfl, rfl⟩ := e1
      subst e0
      exact ⟨(t, a), rfl, vast_of w0, vast_of w1.2.1, vast_of w1.2.2⟩
theorem trod_pat {fuel : Nat} {cs : List Value} {x : DataW H × List MemPlace} (h : DataW.trod enc Tryz.prog w base spare held fuel 28 cs = some x) :
    ∃ p : PatD, cs = (patC p).toList ∧ VastP p := by
  obtain ⟨xs, m, _, hx, hl, hlen, hf⟩ := DataW.trod_array Tryz.underlying28 h
  rw [cells_pat] at hl
  rw [cells_slot] at hf
  match cs, hl with
  | [v0, v1, v2, v3, v4, v5, v6, v7, v8, v9, v10, v11], _ =>
    match xs, hlen with
    | [y0, y1, y2], _ =>
      obtain ⟨a, e0, wa⟩ := trod_slot (hf 0 (by decide))
      obtain ⟨b, e1, wb⟩ := trod_slot (hf 1 (by decide))
      obtain ⟨c, e2, wc⟩ := trod_slot (hf 2 (by decide))
      simp at e0 e1 e2
      obtain ⟨rfl, rfl, rfl, rfl⟩ := e0
      obtain ⟨rfl, rfl, rfl, rfl⟩ := e1
      obtain ⟨rfl, rfl, rfl, rfl⟩ := e2
      exact ⟨(a, b, c), rfl, wa, wb, wc⟩
theorem trod_lit {fuel : Nat} {cs : List Value} {x : DataW H × List MemPlace} (h : DataW.trod enc Tryz.prog w base spare held fuel 34 cs = some x) :
    ∃ l : LitD, cs = (litC l).toList ∧ VastL l := by
  obtain ⟨xs, n, _, hx, hl, hlen, hf⟩ := DataW.trod_struct Tryz.underlying34 h
  rw [cells_lit] at hl
  match cs, hl with
  | [v0, v1, v2, v3, v4, v5, v6, v7, v8, v9, v10, v11, v12, v13, v14, v15, v16, v17, v18, v19, v20], _ =>
    match xs, hlen with
    | [y0, y1, y2, y3], _ =>
      have h0 : DataW.trod enc Tryz.prog w base spare held n 32 (([v0, v1, v2, v3, v4, v5, v6, v7, v8, v9, v10, v11, v12, v13, v14, v15, v16, v17, v18, v19, v20].drop 0).take (Tryz.prog.cellsOf 32)) = [y0, y1, y2, y3][0]? := hf 0 _ rfl
      have h1 : DataW.trod enc Tryz.prog w base spare held n 28 (([v0, v1, v2, v3, v4, v5, v6, v7, v8, v9, v10, v11, v12, v13, v14, v15, v16, v17, v18, v19, v20].drop 1).take (Tryz.prog.cellsOf 28)) = [y0, y1, y2, y3][1]? := hf 1 _ rfl
      have h2 : DataW.trod enc Tryz.prog w base spare held n 26 (([v0, v1, v2, v3, v4, v5, v6, v7, v8, v9, v10, v11, v12, v13, v14, v15, v16, v17, v18, v19, v20].drop 13).take (Tryz.prog.cellsOf 26)) = [y0, y1, y2, y3][2]? := hf 2 _ rfl
      have h3 : DataW.trod enc Tryz.prog w base spare held n 26 (([v0, v1, v2, v3, v4, v5, v6, v7, v8, v9, v10, v11, v12, v13, v14, v15, v16, v17, v18, v19, v20].drop 17).take (Tryz.prog.cellsOf 26)) = [y0, y1, y2, y3][3]? := hf 3 _ rfl
      rw [cells_kind] at h0
      rw [cells_pat] at h1
      rw [cells_slot] at h2 h3
      obtain ⟨k, e0, _, w0⟩ := DataW.trod_int Tryz.underlying32 h0
      obtain ⟨p, e1, w1⟩ := trod_pat h1
      obtain ⟨a, e2, w2⟩ := trod_slot h2
      obtain ⟨b, e3, w3⟩ := trod_slot h3
      simp at e0 e1 e2 e3
      obtain ⟨rfl, rfl, rfl, rfl, rfl, rfl, rfl, rfl, rfl, rfl, rfl, rfl⟩ := e1
      obtain ⟨rfl, rfl, rfl, rfl⟩ := e2
      obtain ⟨rfl, rfl, rfl, rfl⟩ := e3
      subst e0
      exact ⟨(k, p, a, b), rfl, w1, w2, w3⟩
theorem open_body {fuel : Nat} {v : Value} {x : DataW H × List MemPlace} (h : DataW.trod enc Tryz.prog w base spare held fuel 29 [v] = some x) :
    ∃ ls, BodyS w v ls ∧ ∀ l ∈ ls, VastL l := by
  rcases open_slice Tryz.underlying29 h with ⟨hcs, _⟩ | ⟨a, len, cap, m, n, D, Pl, hcs, hb, hl, hm, hmm, hx, hi⟩
  · simp at hcs
    subst hcs
    exact ⟨[], .inl ⟨⟨_, _, rfl⟩, rfl⟩, fun l h => by cases h⟩
  · simp at hcs
    subst hcs
    have hlm : len ≤ m := by rw [hmm]; split <;> omega
    by_cases h0 : len = 0
    · subst h0
      exact ⟨[], .inl ⟨⟨_, _, rfl⟩, rfl⟩, fun l h => by cases h⟩
    have hspot : a.spot = none := by
      obtain ⟨cs', hc, _⟩ := hi 0 (by omega)
      rw [cells_lit] at hc
      obtain ⟨_, hcl, hat⟩ := World.cells?_some hc
      have h1 := hat 0 (by decide)
      rw [Nat.zero_mul] at h1
      obtain ⟨u, hu⟩ : ∃ u, cs'[0]? = some u := ⟨_, List.getElem?_eq_getElem (by omega)⟩
      rw [hu] at h1
      have := World.cell?_spot h1
      unfold Addr.add at this
      split at this <;> (try split at this) <;> simp_all
    obtain ⟨g, o, sp⟩ := a
    dsimp only at hspot
    subst hspot
    have one : ∀ i, i < len → ∃ l : LitD, VastL l ∧ ∀ c u, (litC l).toList[c]? = some u → w.cell? ⟨g, o + (i * 21 + c), none⟩ = some u := fun i hil => by
      obtain ⟨cs', hc, ht⟩ := hi i (by omega)
      rw [cells_lit] at hc
      obtain ⟨l, rfl, hv⟩ := trod_lit ht
      obtain ⟨_, hcl, hat⟩ := World.cells?_some hc
      refine ⟨l, hv, fun c u hu => ?_⟩
      have hc21 : c < 21 := (List.getElem?_eq_some_iff.1 hu).1
      have h1 := hat c hc21
      have e : ((⟨g, o, none⟩ : Addr).add (i * 21)).add c = ⟨g, o + (i * 21 + c), none⟩ := by
        unfold Addr.add; split <;> (split <;> simp_all [Nat.add_assoc])
      rw [e] at h1
      rw [h1]
      exact hu
    obtain ⟨ls, hdl, hdp⟩ := list_of len one
    refine ⟨ls, .inr ⟨g, o, cap, by rw [hdl], by omega, hm, fun j u hu => ?_⟩, fun l hl' => ?_⟩
    · have hj : j < ls.length * 21 := by have := (List.getElem?_eq_some_iff.1 hu).1; rwa [flatL_length] at this
      obtain ⟨p, c, rfl, hc⟩ : ∃ p c, j = p * 21 + c ∧ c < 21 := ⟨j / 21, j % 21, by omega, by omega⟩
      obtain ⟨l, hxp⟩ : ∃ l, ls[p]? = some l := ⟨_, List.getElem?_eq_getElem (by omega)⟩
      rw [flatL_get ls p c l hxp hc] at hu
      exact (hdp p l hxp).2 c u hu
    · obtain ⟨p, hp⟩ := List.getElem?_of_mem hl'
      exact (hdp p l hp).1
theorem trod_rule {fuel : Nat} {cs : List Value} {x : DataW H × List MemPlace} (h : DataW.trod enc Tryz.prog w base spare held fuel 31 cs = some x) :
    ∃ (r : RuleD) (v : Value), cs = (ruleC r.1 v).toList ∧ BodyS w v r.2 ∧ VastR r := by
  obtain ⟨xs, n, _, hx, hl, hlen, hf⟩ := DataW.trod_struct Tryz.underlying31 h
  rw [cells_rule] at hl
  match cs, hl with
  | [v0, v1, v2, v3, v4, v5, v6, v7, v8, v9, v10, v11, v12], _ =>
    match xs, hlen with
    | [y0, y1], _ =>
      have h0 : DataW.trod enc Tryz.prog w base spare held n 28 (([v0, v1, v2, v3, v4, v5, v6, v7, v8, v9, v10, v11, v12].drop 0).take (Tryz.prog.cellsOf 28)) = [y0, y1][0]? := hf 0 _ rfl
      have h1 : DataW.trod enc Tryz.prog w base spare held n 29 (([v0, v1, v2, v3, v4, v5, v6, v7, v8, v9, v10, v11, v12].drop 12).take (Tryz.prog.cellsOf 29)) = [y0, y1][1]? := hf 1 _ rfl
      rw [cells_pat] at h0
      rw [cells_body] at h1
      obtain ⟨p, e0, w0⟩ := trod_pat h0
      simp at e0 h1
      obtain ⟨rfl, rfl, rfl, rfl, rfl, rfl, rfl, rfl, rfl, rfl, rfl, rfl⟩ := e0
      obtain ⟨ls, hb, hv⟩ := open_body h1
      exact ⟨(p, ls), v12, rfl, hb, w0, hv⟩
end

/-- A slice of rules as an argument. -/
theorem open_rules {H : Type} {enc : TypeId × Value → H} {w : World} {base b0 : Nat} {spare : Nat → Bool} {held : Bool} {r : Reach} {v : Value} {d : DataW H} {ps : List MemPlace}
    (hval : Value.okWide Tryz.prog w r b0 36 v) (hd : DataW.Trod enc Tryz.prog w base spare held 36 v d ps) : ∃ rs : List RuleD, SliceRu w v rs ∧ ∀ x ∈ rs, VastR x := by
  obtain ⟨ao, len, cap, rfl⟩ := okWide_slice Tryz.underlying36 hval
  obtain ⟨fuel, hf⟩ := hd
  rcases open_slice Tryz.underlying36 hf with ⟨hcs, _⟩ | ⟨a, len', cap', m, n, D, Pl, hcs, hb, hl, hm, hmm, hx, hi⟩
  · simp [Value.cells] at hcs
    obtain ⟨rfl, rfl, rfl⟩ := hcs
    exact ⟨[], .inl ⟨rfl, rfl⟩, fun t h => by cases h⟩
  · simp [Value.cells] at hcs
    obtain ⟨rfl, rfl, rfl⟩ := hcs
    have hspot : a.spot = none := by
      simp only [Value.okWide, Tryz.underlying36, Cell.okWide, Cell.ok] at hval
      exact hval.2.2.2.1
    obtain ⟨b, off, sp⟩ := a
    dsimp only at hspot
    subst hspot
    have hlm : len ≤ m := by rw [hmm]; split <;> omega
    have one : ∀ i, i < len → ∃ x : RuleD, VastR x ∧ ∃ v, RuleAt w b (off + i * 13) x.1 v ∧ BodyS w v x.2 := fun i hil => by
      obtain ⟨cs', hc, ht⟩ := hi i (by omega)
      rw [cells_rule] at hc
      obtain ⟨x, v, rfl, hbd, hv⟩ := trod_rule ht
      obtain ⟨_, hcl, hat⟩ := World.cells?_some hc
      refine ⟨x, hv, v, ?_, hbd⟩
      have key : ∀ c u, c < 13 → (ruleC x.1 v).toList[c]? = some u → w.cell? ⟨b, off + i * 13 + c, none⟩ = some u := fun c u hc13 hu => by
        have h1 := hat c hc13
        have e : ((⟨b, off, none⟩ : Addr).add (i * 13)).add c = ⟨b, off + i * 13 + c, none⟩ := by
          unfold Addr.add; split <;> (split <;> simp_all [Nat.add_assoc])
        rw [e] at h1
        rw [h1]
        exact hu
      exact ⟨key 0 _ (by omega) rfl, key 1 _ (by omega) rfl, key 2 _ (by omega) rfl, key 3 _ (by omega) rfl, key 4 _ (by omega) rfl, key 5 _ (by omega) rfl, key 6 _ (by omega) rfl, key 7 _ (by omega) rfl, key 8 _ (by omega) rfl, key 9 _ (by omega) rfl, key 10 _ (by omega) rfl, key 11 _ (by omega) rfl, key 12 _ (by omega) rfl⟩
    obtain ⟨rs, hdl, hdp⟩ := list_of len one
    refine ⟨rs, .inr ⟨b, off, cap, by rw [hdl], by omega, hm, fun i r hr => (hdp i r hr).2⟩, fun t ht => ?_⟩
    obtain ⟨p, hp⟩ := List.getElem?_of_mem ht
    exact (hdp p t hp).1
end Go.Proofs.YtcikjgeanjnffaaGreatDoor

