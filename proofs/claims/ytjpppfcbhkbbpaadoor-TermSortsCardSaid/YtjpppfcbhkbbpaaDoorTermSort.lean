/-
  CONTRACT OF Sort.
-/
import Derived.Test.YtjpppfcbhkbbpaaDoorCompact
import Derived.Test.YtjpppfcbhkbbpaaDoorCompareG
import Derived.Test.YtjpppfcbhkbbpaaDoorSortLaid
import Derived.Deep.AppendLies
namespace Go.Proofs.YtjpppfcbhkbbpaaDoor
open Go.RowKit
open Utf Term
set_option linter.unusedVariables false
set_option linter.unusedSimpArgs false

theorem swo_triples : Go.Sort.SWO (ltOf cmpT) where
  irrefl x := by
    unfold ltOf
    rw [ord_triple.refl]
    rfl
  trans x y z h1 h2 := by
    unfold ltOf at *
    have h1 := of_decide_eq_true h1
    have h2 := of_decide_eq_true h2
    exact decide_eq_true (ord_triple.lt_le h1 (by omega))
  ntrans x y z h1 h2 := by
    unfold ltOf at *
    have h1 := of_decide_eq_false h1
    have h2 := of_decide_eq_false h2
    refine decide_eq_false fun h => ?_
    have a1 := ord_triple.anti x y
    have a2 := ord_triple.anti y z
    have h3 : cmpT z x ≤ 0 := ord_triple.trans z y x (by omega) (by omega)
    have a3 := ord_triple.anti x z
    omega

theorem flat_cells (ds : List TripD) : (Go.Sort.flatK encT 9 ds.toArray).toList = cellsT ds := by
  apply List.ext_getElem?
  intro t
  by_cases ht : t < ds.length * 9
  · have h1 := Go.Sort.get_flatK encT 9 ds.toArray t (by simpa using ht)
    rw [Array.getElem?_toList, Array.getElem?_eq_getElem (by simpa using ht), ← getElem!_pos (Go.Sort.flatK encT 9 ds.toArray) t (by simpa using ht), h1]
    have hq : t / 9 < ds.length := by omega
    have hr : t % 9 < 9 := Nat.mod_lt _ (by omega)
    have e := cellsT_get ds (t / 9) (t % 9) ds[t / 9] (List.getElem?_eq_getElem hq) hr
    rw [show t / 9 * 9 + t % 9 = t by omega] at e
    rw [e, getElem!_pos ds.toArray (t / 9) (by simpa using hq), getElem!_pos _ (t % 9) (by rw [encT_length]; exact hr)]
    exact (List.getElem?_eq_getElem (by rw [encT_length]; exact hr)).symm
  · rw [cellsT_none (by omega), Array.getElem?_toList, Array.getElem?_eq_none (by simp; omega)]

section
variable {w : World} {base g cap n : Nat} {ds es : List TripD}
theorem owns_holds (h : w.ownsRow base 26 9 (.slice (some ⟨g, 0, none⟩) ds.length cap) ds.length (cellsT ds)) : Go.Sort.HoldsK encT 9 w g 0 ds.toArray := by
  intro j hj
  have hj' : j < ds.length * 9 := by simpa using hj
  rw [Nat.zero_add]
  refine ⟨?_, h.frozenAt j⟩
  rw [h.cellAt j hj', ← flat_cells, Array.getElem?_toList, Array.getElem?_eq_getElem hj, ← getElem!_pos _ j hj]
  rfl
theorem owns_sorted (os : Array Obj) (hl : es.length = ds.length) (h : w.ownsRow base 26 9 (.slice (some ⟨g, 0, none⟩) ds.length cap) ds.length (cellsT ds)) :
    (sortWorldK encT 9 w g 0 n es.toArray os).ownsRow base 26 9 (.slice (some ⟨g, 0, none⟩) es.length cap) es.length (cellsT es) := by
  refine ⟨cellsT_length es, .inr ?_⟩
  rcases h.2 with ⟨h', _⟩ | ⟨g', cap', cur, h', hb, hg, hnc, hcm, hcs, htake⟩
  · simp at h'
  · simp only [Value.slice.injEq, Option.some.injEq, Addr.mk.injEq, and_true, true_and] at h'
    obtain ⟨rfl, rfl⟩ := h'
    have hgl : g < w.heap.size := (Array.getElem?_eq_some_iff.1 hg).1
    refine ⟨g, cap, Go.Sort.putCells id 0 (Go.Sort.flatK encT 9 es.toArray) cur, rfl, hb, ?_, by omega, hcm, by simp [Go.Sort.putCells, hcs], ?_⟩
    · unfold sortWorldK Go.Sort.putRowK
      rw [Go.Sort.heap_grow_old _ _ (by simpa using hgl)]
      simp [Go.Sort.putRow, Go.Sort.mapBlock, Go.Sort.ahead, Array.getElem?_modify, hg, Go.Sort.onCells]
    · rw [← flat_cells es]
      apply List.ext_getElem?
      intro j
      by_cases hj : j < es.length * 9
      · have hjc : j < cur.size := by omega
        rw [List.getElem?_take_of_lt hj, Array.getElem?_toList, Array.getElem?_toList]
        simp [Go.Sort.putCells, hj, hjc]
      · rw [List.getElem?_take_eq_none (by omega), List.getElem?_eq_none (by simp; omega)]
theorem below_sorted {B : Nat} {a : World} (os : Array Obj) (d : Array TripD) (h : Below B a w) (hg : B ≤ g) (hB : B ≤ w.heap.size) : Below B a (sortWorldK encT 9 w g 0 n d os) := by
  refine h.trans ⟨rfl, rfl, rfl, by unfold sortWorldK Go.Sort.putRowK; simp [Go.Sort.putRow, Go.Sort.mapBlock, Go.Sort.ahead], fun k hk => ?_⟩
  unfold sortWorldK Go.Sort.putRowK
  rw [Go.Sort.heap_grow_old _ _ (by simp [Go.Sort.putRow, Go.Sort.mapBlock, Go.Sort.ahead]; omega)]
  have : g ≠ k := by omega
  simp [Go.Sort.putRow, Go.Sort.mapBlock, Go.Sort.ahead, Array.getElem?_modify, this]
end
theorem weak_of_sorted {d : Array TripD} (h : Go.Sort.SortedIn (ltOf cmpT) 0 d.size d) : Weak cmpT d.toList := by
  unfold Weak
  rw [List.pairwise_iff_getElem]
  intro i j hi hj hij
  have hi' : i < d.size := by simpa using hi
  have hj' : j < d.size := by simpa using hj
  have h1 := h i j (Nat.zero_le _) hij hj'
  rw [getElem!_pos d j hj', getElem!_pos d i hi'] at h1
  unfold ltOf at h1
  have h2 := of_decide_eq_false h1
  have h3 := ord_triple.anti d[i] d[j]
  simp only [Array.getElem_toList]
  omega

theorem info_triple' : (Tryd.prog.info? 26).map (fun i => (i.zero, i.size, i.bytes)) = some (some (tripleV (0, ⟨#[]⟩, ⟨#[]⟩) (0, ⟨#[]⟩, ⟨#[]⟩) (0, ⟨#[]⟩, ⟨#[]⟩)), 9, 120) := by kernel_rfl
theorem info_parts' {e : TypeId} {z : Value} {s b : Nat} (h : (Tryd.prog.info? e).map (fun i => (i.zero, i.size, i.bytes)) = some (some z, s, b)) : ∃ i, Tryd.prog.info? e = some i ∧ i.zero = some z ∧ i.size = s ∧ i.bytes = b := by
  cases hq : Tryd.prog.info? e with
  | none => rw [hq] at h; cases h
  | some i =>
    rw [hq] at h
    simp at h
    exact ⟨i, rfl, h.1, h.2.1, h.2.2⟩

theorem clone_some (b off cap : Nat) (ds : List TripD) (w : World) (hs : ds.length ≤ 1000000) (hr : RowC w b off (cellsT ds)) :
    Calls Tryd.prog 34 #[.slice (some ⟨b, off, none⟩) ds.length cap] w fun e w' => ∃ g c, e = .returned (.slice (some ⟨g, 0, none⟩) ds.length c) ∧
      w'.ownsRow w.heap.size 26 9 (.slice (some ⟨g, 0, none⟩) ds.length c) ds.length (cellsT ds) ∧ Below w.heap.size w w' := by
  obtain ⟨i0, hi, hz0, hz1, hz2⟩ := info_parts' info_triple'
  have h := AnyE.slices_Clone Tryd.cloneT i0 _ 9 120 hi hz0 hz1 hz2 rfl (by decide) Tryd.sizeOf26 b off ds.length cap (cellsT ds) w (cellsT_length ds) (by unfold maxLen; omega) (by omega) hr (cellsT_one ds)
  refine h.mono ?_
  rintro e w' ⟨v', rfl, hown, hne, hB⟩
  have h0 := hown
  rcases hown.2 with ⟨rfl, _⟩ | ⟨g, c, cur, rfl, _⟩
  · exact absurd rfl hne
  · exact ⟨g, c, rfl, h0, hB⟩
theorem clone_nil (w : World) : Calls Tryd.prog 34 #[.slice none 0 0] w fun e w' => e = .returned (.slice none 0 0) ∧ w' = w :=
  AnyE.slices_Clone_nil Tryd.cloneT 0 0 w

theorem sortFunc_some (base g cap : Nat) (ds : List TripD) (w : World) (hs : ds.length ≤ 1000000) (ho : w.ownsRow base 26 9 (.slice (some ⟨g, 0, none⟩) ds.length cap) ds.length (cellsT ds)) (hB : base ≤ w.heap.size) :
    Calls Tryd.prog 35 #[.slice (some ⟨g, 0, none⟩) ds.length cap, .func (.func 15) #[] #[]] w fun e w' => e = .returned (.tuple #[]) ∧
      ∃ es : List TripD, es.length = ds.length ∧ Weak cmpT es ∧ (∀ x, x ∈ es ↔ x ∈ ds) ∧ w'.ownsRow base 26 9 (.slice (some ⟨g, 0, none⟩) es.length cap) es.length (cellsT es) ∧ Below base w w' := by
  have eg : ∀ args w, (callFunc 15 args).run Tryd.prog w = .ok (.enter 15 args) w := enters_of Tryd.func15 (by kernel_rfl) rfl
  have hcmp : CmpLays Tryd.prog 15 #[] encT 9 cmpT g 0 ds.toArray.size w := fun _ _ _ _ x y => compareTriplesG_any x.1 x.2.1 x.2.2 y.1 y.2.1 y.2.2 _
  obtain ⟨_, _, hg, hgl⟩ := owns_caps ho
  have h := AnyQ.slices_SortFunc Tryd.sortT 9 Tryd.isAgg26 Tryd.sizeOf26 encT encT_length encT_one cmpT swo_triples 15 #[] g 0 cap ds.toArray w eg hcmp (owns_holds ho) hgl (by simp; omega)
  refine h.mono ?_
  rintro e w' ⟨rfl, d', n, os, hp, hsd, rfl⟩
  obtain ⟨es, rfl⟩ : ∃ es : List TripD, d' = es.toArray := ⟨d'.toList, by simp⟩
  have hl : es.length = ds.length := by have := hp.1; simpa using this
  refine ⟨rfl, es, hl, ?_, ?_, owns_sorted os hl ho, below_sorted os _ ⟨rfl, rfl, rfl, Nat.le_refl _, fun _ _ => rfl⟩ hg hB⟩
  · have h1 := weak_of_sorted (d := es.toArray) (by simpa [hl] using hsd)
    simpa using h1
  · intro x
    have h1 := hp.2.2
    rw [show ds.toArray.size = ds.length by simp] at h1
    have h2 : (es.toArray.extract 0 ds.length).toList = es := by simp [← hl]
    have h3 : (ds.toArray.extract 0 ds.length).toList = ds := by simp
    rw [h2, h3] at h1
    exact h1.mem_iff
theorem sortFunc_nil (w : World) : Calls Tryd.prog 35 #[.slice none 0 0, .func (.func 15) #[] #[]] w fun e w' => e = .returned (.tuple #[]) ∧ w' = w :=
  AnyF.slices_SortFunc_none Tryd.sortT none 0 _ w

set_option maxRecDepth 100000 in
theorem compact_nil (w : World) : Calls Tryd.prog 36 #[.slice none 0 0] w fun e w' => e = .returned (.slice none 0 0) ∧ w = w' := by
  go_enter Tryd.func36, Tryd.ntmps36
  go_wp2
  go_ret
  exact ⟨rfl, rfl⟩

set_option maxRecDepth 100000 in
set_option maxHeartbeats 1000000 in
/-- Sort. -/
theorem termSort_any (v : Value) (ds : List TripD) (w : World) (hv : SliceT w v ds) (hs : ds.length ≤ 1000000) :
    Calls Tryd.prog 9 #[v] w fun e w' => ∃ r, e = .returned r ∧ w'.ownsRow w.heap.size 26 9 r (sortL cmpT ds).length (cellsT (sortL cmpT ds)) ∧ Below w.heap.size w w' := by
  rcases hv with ⟨rfl, rfl⟩ | ⟨b, off, cap, rfl, h1, h2, hr⟩
  · go_enter Tryd.func9, Tryd.ntmps9
    go_wp2_with (first | (go_at_call 34; refine (clone_nil _).mono ?_; rintro e w' ⟨rfl, rfl⟩) | (go_at_call 35; refine (sortFunc_nil _).mono ?_; rintro e w' ⟨rfl, rfl⟩) | (go_at_call 36; refine (compact_nil _).mono ?_; rintro e w' ⟨rfl, rfl⟩))
    go_ret
    exact ⟨_, rfl, World.ownsRow_nil _ _ _ _, Below.refl _ _⟩
  · have HC := Lib.hid (fun W h => clone_some b off cap ds W hs h)
    have HR := Lib.hid hr
    clear hr
    obtain ⟨n, hn⟩ : ∃ n, n = ds.length := ⟨_, rfl⟩
    have HN := Lib.hid hn
    rw [← hn] at HC ⊢
    clear hn h1 h2
    go_enter Tryd.func9, Tryd.ntmps9
    go_wp2_with (go_at_call 34; refine (HC.out _ HR.out).mono ?_; rintro e w1 ⟨g, c, rfl, ho1, hB1⟩)
    have HSF := Lib.hid (show Calls Tryd.prog 35 #[.slice (some ⟨g, 0, none⟩) n c, .func (.func 15) #[] #[]] w1 (fun e w' => e = .returned (.tuple #[]) ∧
      ∃ es : List TripD, es.length = n ∧ Weak cmpT es ∧ (∀ x, x ∈ es ↔ x ∈ ds) ∧ w'.ownsRow w.heap.size 26 9 (.slice (some ⟨g, 0, none⟩) es.length c) es.length (cellsT es) ∧ Below w.heap.size w1 w') by
        have := sortFunc_some w.heap.size g c ds w1 hs (by rw [← HN.out]; exact ho1) hB1.size
        rwa [← HN.out] at this)
    have HB1 := Lib.hid hB1
    clear ho1 hB1
    go_wp2_with (go_at_call 35; refine HSF.out.mono ?_; rintro e w2 ⟨rfl, es, hl, hw, hm, ho2, hB2⟩)
    have HCM := Lib.hid (show Calls Tryd.prog 36 #[.slice (some ⟨g, 0, none⟩) n c] w2 (fun e w' => e = .returned (.slice (some ⟨g, 0, none⟩) (sortL cmpT ds).length c) ∧
      w'.ownsRow w.heap.size 26 9 (.slice (some ⟨g, 0, none⟩) (sortL cmpT ds).length c) (sortL cmpT ds).length (cellsT (sortL cmpT ds)) ∧ Below w.heap.size w2 w') by
        have := compact_any w.heap.size g c es w2 ho2
        rwa [hl, compact_sort ord_triple hw hm] at this)
    have HB2 := Lib.hid (HB1.out.trans hB2)
    clear hl hw hm ho2 hB2 HSF
    go_wp2_with (go_at_call 36; refine HCM.out.mono ?_; rintro e w3 ⟨rfl, ho3, hB3⟩)
    have HF := Lib.hid (show _ ∧ _ from ⟨ho3, HB2.out.trans hB3⟩)
    clear ho3 hB3 HCM
    go_ret
    exact ⟨_, rfl, HF.out.1, HF.out.2⟩
end Go.Proofs.YtjpppfcbhkbbpaaDoor
