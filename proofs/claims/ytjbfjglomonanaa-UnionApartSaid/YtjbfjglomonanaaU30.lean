/-
  WHAT THE PROOF STANDS ON, a part of it: UnAll, UnSafe, UnAllK.
-/
import Derived.Test.YtjbfjglomonanaaU27
import Derived.Test.YtjbfjglomonanaaU24
/-
  CONTRACTS OF slices.Collect, slices.SortedFunc AT CLIQUES, AND OF All.
-/

namespace Go.Proofs.Ytjbfjglomonanaa
open Go.RowKit
set_option linter.unusedVariables false
set_option linter.unusedSimpArgs false

/-- All of a map's cliques, each once. -/
def AllOf (cl : Nat → Option ClD) (ip : List (Nat × ClD)) : Prop := (ip.map (·.1)).Nodup ∧ (∀ x ∈ ip, cl x.1 = some x.2) ∧ doneMap cl ip
theorem AllOf.few {cl : Nat → Option ClD} {ip : List (Nat × ClD)} (h : AllOf cl ip) (hcount : ∀ ks : List Nat, ks.Nodup → (∀ k ∈ ks, (cl k).isSome = true) → ks.length ≤ 1000000) : ip.length ≤ 1000000 := by
  have := hcount _ h.1 (fun k hk => by
    obtain ⟨y, hy, rfl⟩ := List.mem_map.1 hk
    rw [h.2.1 y hy]
    rfl)
  simpa using this
theorem AllOf.perm {cl : Nat → Option ClD} {ip es : List (Nat × ClD)} (h : AllOf cl ip) (hp : es.Perm ip) : AllOf cl es :=
  ⟨(hp.map _).nodup_iff.2 h.1, fun x hx => h.2.1 x (hp.mem_iff.1 hx), fun k v hk => ((hp.map _).mem_iff).2 (h.2.2 k v hk)⟩
set_option maxRecDepth 100000 in
theorem collectC_any {w : World} {bq cb : Nat} {cl : Nat → Option ClD} (hQ : MValsQ bq cb cl w) (hcount : ∀ ks : List Nat, ks.Nodup → (∀ k ∈ ks, (cl k).isSome = true) → ks.length ≤ 1000000) :
    Calls Try.prog 32 #[.func (.func 34) #[] #[.pointer (some ⟨bq, 0, none⟩)]] w fun e w' =>
      ∃ (ip : List (Nat × ClD)) (ao' : Option Addr) (cap' : Nat), e = .returned (.slice ao' ip.length cap') ∧ AllOf cl ip ∧ RowK w' 50 2 ao' ip.length cap' (clsC ip) ∧ (∀ a, ao' = some a → w.heap.size ≤ a.block) ∧ Below w.heap.size w w' := by
  have HC := Lib.hid (appC_any hQ hcount)
  go_enter Try.func32, Try.ntmps32
  go_wp2_with (go_at_call 39; refine HC.out.mono ?_; rintro e w2 ⟨ip, ao', cap', rfl, h0, h1, h2, h3⟩; replace h0 := Lib.hid h0; replace h1 := Lib.hid h1; replace h2 := Lib.hid h2; replace h3 := Lib.hid h3)
  go_ret
  exact ⟨ip, ao', cap', rfl, h0.out, h1.out, h2.out, h3.out⟩
set_option maxRecDepth 100000 in
theorem sortedC_any {w : World} {bq cb : Nat} {cl : Nat → Option ClD} (hQ : MValsQ bq cb cl w) (hcount : ∀ ks : List Nat, ks.Nodup → (∀ k ∈ ks, (cl k).isSome = true) → ks.length ≤ 1000000) :
    Calls Try.prog 25 #[.func (.func 34) #[] #[.pointer (some ⟨bq, 0, none⟩)], .func (.func 27) #[] #[]] w fun e w' =>
      ∃ (es : List (Nat × ClD)) (ao' : Option Addr) (cap' : Nat), e = .returned (.slice ao' es.length cap') ∧ AllOf cl es ∧ (es.Pairwise fun x y => x.2.least ≤ y.2.least) ∧ RowK w' 50 2 ao' es.length cap' (clsC es) ∧ (∀ a, ao' = some a → w.heap.size ≤ a.block) ∧ Below w.heap.size w w' := by
  have HC := Lib.hid (collectC_any hQ hcount)
  have HN := Lib.hid hcount
  clear hQ hcount
  go_enter Try.func25, Try.ntmps25
  go_wp2_with (first
    | (go_at_call 32; refine HC.out.mono ?_; rintro e w2 ⟨ip, ao', cap', rfl, h0, h1, h2, h3⟩; have HSo := Lib.hid (sortC_any (h0.few HN.out) h1 h2 h3.size); replace h0 := Lib.hid h0; replace h1 := Lib.hid h1; replace h2 := Lib.hid h2; replace h3 := Lib.hid h3)
    | (go_at_call 33; refine HSo.out.mono ?_; rintro e w3 ⟨rfl, es, h4, h5, h6, h7⟩; replace h4 := Lib.hid h4; replace h5 := Lib.hid h5; replace h6 := Lib.hid h6; replace h7 := Lib.hid h7))
  go_ret
  have hl : es.length = ip.length := h4.out.length_eq
  exact ⟨es, ao', cap', by rw [hl]; rfl, h0.out.perm h4.out, h5.out, by rw [hl]; exact h6.out, h2.out, h3.out.trans h7.out⟩

/-- What All's iteration goes over: the box, the cliques, their numbers. -/
def AllQ (ab : Nat) (ao : Option Addr) (cap : Nat) (xs : List (ClD × List Nat)) (W : World) : Prop :=
  W.cell? ⟨ab, 0, none⟩ = some (.slice ao xs.length cap) ∧ (∀ (k : Nat) (x : ClD × List Nat), xs[k]? = some x → ∃ g o, ao = some ⟨g, o, none⟩ ∧ W.cell? ⟨g, o + k * 2, none⟩ = some (.int .u32 (x.1.least : Int)) ∧ W.cell? ⟨g, o + k * 2 + 1, none⟩ = some (.slice x.1.ao x.1.len x.1.cap)) ∧
    ∀ x ∈ xs, x.1.len = x.2.length ∧ x.2.length ≤ 1000000 ∧ NumsR W x.1.ao x.2
theorem AllQ.keep {ab : Nat} {ao : Option Addr} {cap : Nat} {xs : List (ClD × List Nat)} {W U : World} (h : AllQ ab ao cap xs W) (k : ∀ (a : Addr) (v : Value), W.cell? a = some v → U.cell? a = some v) : AllQ ab ao cap xs U := by
  obtain ⟨h1, h2, h3⟩ := h
  refine ⟨k _ _ h1, fun i x hx => ?_, fun x hx => ?_⟩
  · obtain ⟨g, o, e, a, b⟩ := h2 i x hx
    exact ⟨g, o, e, k _ _ a, k _ _ b⟩
  · obtain ⟨a, b, c⟩ := h3 x hx
    refine ⟨a, b, fun hl => ?_⟩
    obtain ⟨g, o, e, hc⟩ := c hl
    exact ⟨g, o, e, fun j v hj => k _ _ (hc j v hj)⟩
theorem AllQ.below {ab : Nat} {ao : Option Addr} {cap : Nat} {xs : List (ClD × List Nat)} {W U : World} (h : AllQ ab ao cap xs W) (hB : Below W.heap.size W U) : AllQ ab ao cap xs U :=
  h.keep fun a v hc => (hB.cell (p := a) (World.block_lt_of_cell? W a hc)).trans hc
theorem AllQ.own {ab : Nat} {ao : Option Addr} {cap : Nat} {xs : List (ClD × List Nat)} {W U : World} {row : Option Nat} (h : AllQ ab ao cap xs W) (hg : W.grownBy U row) (hr : ∀ r, row = some r → ∃ o : Obj, W.heap[r]? = some o ∧ o.isCells = false) : AllQ ab ao cap xs U :=
  h.keep fun a v hc => cell_kept hc hg hr
abbrev sortN (ns : List Nat) : List Nat := ns.mergeSort fun x y => decide (x ≤ y)
/-- What All yields. -/
def tellL (xs : List (ClD × List Nat)) : List (Nat × List Nat) := xs.map fun x => (x.1.least, sortN x.2)
def RepJ (J : List (Nat × Nat)) (r : Nat) : Prop := leastJ J r = r ∧ ∃ y, y ≠ r ∧ Con J r y
/-- The representatives, rising, each with its clique. -/
def AllP (J : List (Nat × Nat)) (L : List (Nat × List Nat)) : Prop := ∃ R : List Nat, L = R.map (fun r => (r, cliqueJ J r)) ∧ R.Pairwise (· < ·) ∧ ∀ r, r ∈ R ↔ RepJ J r
theorem other_of {ns : List Nat} (hn : ns.Nodup) (hl : 2 ≤ ns.length) (m : Nat) : ∃ y ∈ ns, y ≠ m := by
  match ns, hn, hl with
  | a :: b :: l, hn, _ =>
    rw [List.nodup_cons] at hn
    by_cases h : a = m
    · exact ⟨b, by simp, fun e => hn.1 (by rw [h, ← e]; simp)⟩
    · exact ⟨a, by simp, h⟩
theorem look_of {J : List (Nat × Nat)} {n m x : Nat} {ns : List Nat} (h : (runA J).ab n = some (m, ns)) (hx : x ∈ ns) : lookA (runA J) x = (n, m, ns) := by
  have hn : (runA J).nm x = some n := ((runA_of J).inv.nm x n).2 ⟨m, ns, h, hx⟩
  unfold lookA
  rw [hn]
  simp only [h, Option.getD_some]
theorem con_of {J : List (Nat × Nat)} {n m x y : Nat} {ns : List Nat} (h : (runA J).ab n = some (m, ns)) (hx : x ∈ ns) (hy : y ∈ ns) : Con J x y :=
  ((runA_of J).con x y).2 (.inr ⟨n, ((runA_of J).inv.nm x n).2 ⟨m, ns, h, hx⟩, ((runA_of J).inv.nm y n).2 ⟨m, ns, h, hy⟩⟩)
theorem names_few {J : List (Nat × Nat)} {ks : List Nat} (hn : ks.Nodup) (hk : ∀ k ∈ ks, ((runA J).ab k).isSome = true) : ks.length ≤ 2 * J.length := by
  have := nodup_le hn (k := J.map (·.1) ++ J.map (·.2)) fun n hx => by
    obtain ⟨⟨m, ns⟩, hab⟩ := Option.isSome_iff_exists.1 (hk n hx)
    obtain ⟨g, h2, _⟩ := (runA_of J).inv.good n m ns hab
    obtain ⟨y, hy, hne⟩ := other_of g.nodup h2 n
    rcases con_num (con_of hab g.name hy) with e | ⟨h, _⟩
    · exact absurd e.symm hne
    · exact h
  simp only [List.length_append, List.length_map] at this
  omega
theorem all_pure {W : World} {S : Nat → Prop} {pb nb cb : Nat} {J : List (Nat × Nat)} {cl : Nat → Option ClD} (h : PartI W S pb nb cb (runA J) cl) {es : List (Nat × ClD)} (ha : AllOf cl es) (hs : es.Pairwise fun x y => x.2.least ≤ y.2.least) :
    AllP J (tellL (es.map fun y => (y.2, (((runA J).ab y.1).getD (0, [])).2))) ∧ ∀ y ∈ es, ∃ ns, (runA J).ab y.1 = some (y.2.least, ns) ∧ y.2.len = ns.length ∧ RowK W 23 1 y.2.ao ns.length y.2.cap (u32C ns) := by
  have one : ∀ y ∈ es, ∃ ns, (runA J).ab y.1 = some (y.2.least, ns) ∧ y.2.len = ns.length ∧ RowK W 23 1 y.2.ao ns.length y.2.cap (u32C ns) := fun y hy => by
    have hc := ha.2.1 y hy
    have hl := h.lists y.1
    rw [hc] at hl
    cases hab : (runA J).ab y.1 with
    | none => rw [hab] at hl; cases hl
    | some x =>
      obtain ⟨m, ns⟩ := x
      rw [hab] at hl
      obtain ⟨ao, cap, e, hr, _⟩ := hl
      injection e with e
      rw [e]
      exact ⟨ns, rfl, rfl, hr⟩
  refine ⟨⟨es.map fun y => y.2.least, ?_, ?_, fun r => ?_⟩, one⟩
  · unfold tellL
    rw [List.map_map, List.map_map]
    refine List.map_congr_left fun y hy => ?_
    obtain ⟨ns, hab, _⟩ := one y hy
    obtain ⟨g, _, h0⟩ := (runA_of J).inv.good _ _ _ hab
    have hne : y.2.least ≠ 0 := fun e => h0 (e ▸ g.least)
    simp only [Function.comp, hab, Option.getD_some]
    unfold cliqueJ cliqueL
    rw [if_neg hne, look_of hab g.least]
  · rw [List.pairwise_map]
    have hnd : es.Pairwise fun x y => x.1 ≠ y.1 := by
      have := ha.1
      rw [List.Nodup, List.pairwise_map] at this
      exact this
    refine (List.Pairwise.and_mem.1 (hs.and hnd)).imp ?_
    rintro x y ⟨hx, hy, h1, h2⟩
    obtain ⟨ns, hab, _⟩ := one x hx
    obtain ⟨ns2, hab2, _⟩ := one y hy
    have g1 := ((runA_of J).inv.good _ _ _ hab).1
    have g2 := ((runA_of J).inv.good _ _ _ hab2).1
    refine Nat.lt_of_le_of_ne h1 fun e => h2 ?_
    have e1 := look_of hab g1.least
    have e2 := look_of hab2 g2.least
    rw [e, e2] at e1
    injection e1 with e1 _
    exact e1.symm
  · constructor
    · intro hr
      obtain ⟨y, hy, rfl⟩ := List.mem_map.1 hr
      obtain ⟨ns, hab, _⟩ := one y hy
      obtain ⟨g, h2, _⟩ := (runA_of J).inv.good _ _ _ hab
      obtain ⟨z, hz, hne⟩ := other_of g.nodup h2 y.2.least
      exact ⟨by unfold leastJ; rw [look_of hab g.least], z, hne, con_of hab g.least hz⟩
    · rintro ⟨h1, y, hne, hc⟩
      rcases ((runA_of J).con r y).1 hc with e | ⟨n, hn, _⟩
      · exact absurd e.symm hne
      · obtain ⟨m, ns, hab, hx⟩ := ((runA_of J).inv.nm r n).1 hn
        unfold leastJ at h1
        rw [look_of hab hx] at h1
        have hl := h.lists n
        rw [hab] at hl
        obtain ⟨ao, cap, e, _⟩ := hl
        obtain ⟨z, hz, e2⟩ := List.mem_map.1 (ha.2.2 n _ e)
        have e3 := ha.2.1 z hz
        rw [e2, e] at e3
        injection e3 with e3
        exact List.mem_map.2 ⟨z, hz, by rw [← e3]; exact h1⟩
set_option maxRecDepth 100000 in
/-- All: an iterator over what is there now. -/
theorem UnI.all {w : World} {S : Nat → Prop} {pb : Nat} {J : List (Nat × Nat)} (h : UnI w S pb J) (hJ : J.length ≤ 1000) : Calls Try.prog 17 #[unP pb] w fun e w' =>
    ∃ ab ao cap xs, e = .returned (.func (.func 28) #[] #[.pointer (some ⟨ab, 0, none⟩)]) ∧ AllQ ab ao cap xs w' ∧ AllP J (tellL xs) ∧ w.heap.size ≤ ab ∧ Below w.heap.size w w' := by
  obtain ⟨nb, cb, cl, h⟩ := h
  have hb1 := (Below.refl w.heap.size w).alloc (Nat.le_refl _) (.cells #[.slice none 0 0] 58)
  have d1 := heap_alloc_new w (.cells #[.slice none 0 0] 58)
  have hs1 : (w.alloc (.cells #[.slice none 0 0] 58)).heap.size = w.heap.size + 1 := World.size_alloc _ _
  obtain ⟨w1, hw1⟩ : ∃ w1, w1 = w.alloc (.cells #[.slice none 0 0] 58) := ⟨_, rfl⟩
  rw [← hw1] at hb1 d1 hs1
  obtain ⟨n0, hn0⟩ : ∃ n0, n0 = w.heap.size := ⟨_, rfl⟩
  rw [← hn0] at d1
  have h1 := h.below hb1
  have c1 : w1.cell? ⟨pb, 1, none⟩ = some (.map (some cb)) := cell_in h1.mem.blk rfl
  have HI := Lib.hid (isNone_some c1)
  have HV := Lib.hid (mvalues_calls cb w1)
  have hb2 := (Below.refl w1.heap.size w1).alloc (Nat.le_refl _) (.cells #[.map (some cb)] 46)
  have d2 := heap_alloc_new w1 (.cells #[.map (some cb)] 46)
  have h2 := h1.below hb2
  have hcount : ∀ ks : List Nat, ks.Nodup → (∀ k ∈ ks, (cl k).isSome = true) → ks.length ≤ 1000000 := fun ks hn hk => by
    have := names_few (J := J) hn (fun k hx => by
      have hl := h.lists k
      obtain ⟨c, hc⟩ := Option.isSome_iff_exists.1 (hk k hx)
      rw [hc] at hl
      cases hab : (runA J).ab k with
      | none => rw [hab] at hl; cases hl
      | some _ => rfl)
    omega
  have HS := Lib.hid (sortedC_any (w := w1.alloc (.cells #[.map (some cb)] 46)) (bq := w1.heap.size) (cb := cb) (cl := cl) ⟨cell_in d2 rfl, h2.mem.cliques⟩ hcount)
  have HEnd : Hid (∀ (es : List (Nat × ClD)) (ao : Option Addr) (cap : Nat) (w3 : World), AllOf cl es → (es.Pairwise fun x y => x.2.least ≤ y.2.least) → RowK w3 50 2 ao es.length cap (clsC es) → (∀ a, ao = some a → w1.heap.size + 1 ≤ a.block) → Below (w1.heap.size + 1) (w1.alloc (.cells #[.map (some cb)] 46)) w3 →
      ((∃ z, w3.cell? ⟨n0, 0, none⟩ = some z) ∧ w3.frozen? ⟨n0, 0, none⟩ = false) ∧ ∃ xs, AllQ n0 ao cap xs (w3.setCell ⟨n0, 0, none⟩ (.slice ao es.length cap)) ∧ AllP J (tellL xs) ∧ Below w.heap.size w (w3.setCell ⟨n0, 0, none⟩ (.slice ao es.length cap))) := Lib.hid (by
    intro es ao cap w3 ha hs hr hlow hb3
    have hs2 : (w1.alloc (.cells #[.map (some cb)] 46)).heap.size = w1.heap.size + 1 := World.size_alloc _ _
    rw [← hs2] at hb3
    have d3 := ((hb3.block n0 (by omega)).trans (hb2.block n0 (by omega))).trans d1
    have h3 := h2.below hb3
    obtain ⟨hp, hone⟩ := all_pure h3 ha hs
    refine ⟨⟨⟨_, cell_in (j := 0) d3 rfl⟩, free_in d3 0⟩, es.map fun y => (y.2, (((runA J).ab y.1).getD (0, [])).2), ?_, hp, ?_⟩
    · have hother : ∀ a : Addr, a.block ≠ n0 → (w3.setCell ⟨n0, 0, none⟩ (.slice ao es.length cap)).cell? a = w3.cell? a := fun a hne => World.cell?_of_block (Below.heap_setCell _ _ _ _ (fun e => hne (by first | exact e | exact e.symm)))
      refine ⟨?_, fun k x hx => ?_, fun x hx => ?_⟩
      · rw [List.length_map]
        exact cell_in (heap_setCell_same w3 n0 0 _ _ _ d3) rfl
      · rw [List.getElem?_map] at hx
        obtain ⟨y, hy, rfl⟩ := Option.map_eq_some_iff.1 hx
        have hk : k < es.length := (List.getElem?_eq_some_iff.1 hy).1
        obtain ⟨g, o, e, hc, _⟩ := hr.at_ (by omega)
        have hg := hlow _ e
        have hne : g ≠ n0 := by have : w1.heap.size + 1 ≤ g := hg; omega
        have f0 := flat_get encN 2 encN_len es k 0 y hy (by omega)
        have f1 := flat_get encN 2 encN_len es k 1 y hy (by omega)
        exact ⟨g, o, e, (hother ⟨g, _, none⟩ hne).trans (hc _ _ f0), (hother ⟨g, _, none⟩ hne).trans (by rw [Nat.add_assoc]; exact hc _ _ f1)⟩
      · obtain ⟨y, hy, rfl⟩ := List.mem_map.1 hx
        obtain ⟨ns, hab, hl, hrow⟩ := hone y hy
        simp only [hab, Option.getD_some]
        refine ⟨hl, ?_, fun h0 => ?_⟩
        · have g := ((runA_of J).inv.good _ _ _ hab).1
          have := runA_few J y.2.least
          rw [look_of hab g.least] at this
          dsimp only at this
          omega
        · obtain ⟨g, o, e, hc⟩ := nums_of_row hrow h0
          have hlt := hrow.lt e
          have hin := h.lists y.1
          rw [ha.2.1 y hy] at hin
          have hS := h.lt _ (hin.at_ e)
          have hne : g ≠ n0 := by have : g < w.heap.size := hS; omega
          exact ⟨g, o, e, fun j v hj => (hother ⟨g, _, none⟩ hne).trans (hc j v hj)⟩
    · refine (hb1.trans ((hb2.trans (hb3.mono (by omega))).mono (by omega))).trans ((Turned.set (S := fun k => k = n0) (w := w3) (a := ⟨n0, 0, none⟩) rfl _).below (by have := hb3.size; omega) (fun k hk => by omega)))
  have HW := Lib.hid hw1
  have HN0 := Lib.hid hn0
  have HD := Lib.hid (World.size_alloc w1 (.cells #[.map (some cb)] 46))
  have HNl : Hid (w.heap.size ≤ n0) := Lib.hid (by omega)
  clear h hb1 d1 hs1 hw1 hn0 h1 hb2 d2 h2 hcount hJ
  go_enter Try.func17, Try.ntmps17
  go_upto_region 2 with fail
  rw [← HW.out, ← HN0.out]
  go_wp2_with (first
    | (go_at_call 18; refine HI.out.mono ?_; rintro e w' ⟨rfl, rfl⟩)
    | (go_at_call 26; refine HV.out.mono ?_; rintro e w2 ⟨rfl, rfl⟩)
    | (go_at_call 25; refine HS.out.mono ?_; rintro e w3 ⟨es, ao, cap, rfl, h0, h1, h2, h3, h4⟩; rw [HD.out] at h3 h4; obtain ⟨⟨⟨z, hz⟩, hf⟩, hE⟩ := HEnd.out es ao cap w3 h0 h1 h2 h3 h4; replace hE := Lib.hid hE; clear h0 h1 h2 h3 h4))
  go_ret
  obtain ⟨xs, h5, h6, h7⟩ := hE.out
  exact ⟨n0, ao, cap, xs, rfl, h5, h6, HNl.out, h7⟩
end Go.Proofs.Ytjbfjglomonanaa

/-
  CELLS THAT A PARTITION WILL NOT WRITE, kept by its joins; those of All's iterator.
-/

namespace Go.Proofs.Ytjbfjglomonanaa
open Go.RowKit
set_option linter.unusedVariables false
set_option linter.unusedSimpArgs false

theorem Safe.below {W U : World} {cl : Nat → Option ClD} {p : Addr} {v : Value} (h : Safe W cl p v) (k : Below W.heap.size W U) : Safe U cl p v := ⟨(k.cell (p := p) (World.block_lt_of_cell? W p h.1)).trans h.1, h.2⟩
/-- A partition of joins that leaves the cells of P as they are. -/
def UnIS (P : Addr → Value → Prop) (W : World) (S : Nat → Prop) (pb : Nat) (J : List (Nat × Nat)) : Prop := ∃ nb cb cl, PartI W S pb nb cb (runA J) cl ∧ ∀ p v, P p v → Safe W cl p v
section
variable {P : Addr → Value → Prop} {w W U : World} {S T : Nat → Prop} {pb : Nat} {J : List (Nat × Nat)}
theorem UnIS.un (h : UnIS P W S pb J) : UnI W S pb J := by
  obtain ⟨nb, cb, cl, h, _⟩ := h
  exact ⟨nb, cb, cl, h⟩
theorem UnIS.cell (h : UnIS P W S pb J) {p : Addr} {v : Value} (hp : P p v) : W.cell? p = some v := by
  obtain ⟨nb, cb, cl, _, h⟩ := h
  exact (h p v hp).1
theorem UnIS.below (h : UnIS P W S pb J) (k : Below W.heap.size W U) : UnIS P U S pb J := by
  obtain ⟨nb, cb, cl, h, hp⟩ := h
  exact ⟨nb, cb, cl, h.below k, fun p v h1 => (hp p v h1).below k⟩
theorem UnIS.beside (h : UnIS P W S pb J) (k : Turned T W U) (hn : ∀ j, S j → ¬ T j) (hP : ∀ p v, P p v → ¬ T p.block) : UnIS P U S pb J := by
  obtain ⟨nb, cb, cl, h, hp⟩ := h
  exact ⟨nb, cb, cl, h.beside k hn, fun p v h1 => ⟨k.cell (a := p) (hP p v h1) (hp p v h1).1, (hp p v h1).2⟩⟩
theorem UnIS.join (h : UnIS P w S pb J) (hJ : J.length ≤ 1000) (a b : Nat) : Calls Try.prog 8 #[unP pb, .int .u32 (a : Int), .int .u32 (b : Int)] w fun e w' =>
    e = .returned (.tuple #[.int .u32 ((joinA (runA J) a b).2.1 : Int), .bool (joinA (runA J) a b).2.2]) ∧ Turned S w w' ∧ UnIS P w' (growS S w w') pb (J ++ [(a, b)]) := by
  obtain ⟨nb, cb, cl, h, hp⟩ := h
  refine (join_any h (runA_of J).inv (fun x => by have := runA_few J x; omega) a b).mono ?_
  rintro e w' ⟨rfl, h1, cl', h2, h3⟩
  exact ⟨rfl, h1, nb, cb, cl', by rw [runA_snoc]; exact h2, fun p v h4 => h3 p v (hp p v h4)⟩
end
/-- The cells of All's iterator. -/
def AllC (ab : Nat) (ao : Option Addr) (xs : List (ClD × List Nat)) (W : World) (p : Addr) (v : Value) : Prop :=
  W.cell? p = some v ∧ (p.block = ab ∨ (∃ a, ao = some a ∧ p.block = a.block) ∨ ∃ x ∈ xs, ∃ (a : Addr) (j : Nat), x.1.ao = some a ∧ j < x.1.len ∧ p = a.add j)
theorem AllQ.keepC {ab : Nat} {ao : Option Addr} {cap : Nat} {xs : List (ClD × List Nat)} {W U : World} (h : AllQ ab ao cap xs W) (k : ∀ (p : Addr) (v : Value), AllC ab ao xs W p v → U.cell? p = some v) : AllQ ab ao cap xs U := by
  obtain ⟨h1, h2, h3⟩ := h
  refine ⟨k _ _ ⟨h1, .inl rfl⟩, fun i x hx => ?_, fun x hx => ?_⟩
  · obtain ⟨g, o, e, a, b⟩ := h2 i x hx
    exact ⟨g, o, e, k _ _ ⟨a, .inr (.inl ⟨_, e, rfl⟩)⟩, k _ _ ⟨b, .inr (.inl ⟨_, e, rfl⟩)⟩⟩
  · obtain ⟨a, b, c⟩ := h3 x hx
    refine ⟨a, b, fun hl => ?_⟩
    obtain ⟨g, o, e, hc⟩ := c hl
    exact ⟨g, o, e, fun j v hj => k _ _ ⟨hc j v hj, .inr (.inr ⟨x, hx, ⟨g, o, none⟩, j, e, by rw [a]; exact (List.getElem?_eq_some_iff.1 hj).1, by rw [Addr.add_mid]⟩)⟩⟩
end Go.Proofs.Ytjbfjglomonanaa

/-
  All AGAIN: the partition's joins leave what All goes over.
-/

namespace Go.Proofs.Ytjbfjglomonanaa
open Go.RowKit
set_option linter.unusedVariables false
set_option linter.unusedSimpArgs false

theorem add_block (a : Addr) (i : Nat) : (a.add i).block = a.block := by
  unfold Addr.add
  split <;> rfl
set_option maxRecDepth 100000 in
/-- All, and the partition behind it: its joins leave what All goes over. -/
theorem UnI.allK {w : World} {S : Nat → Prop} {pb : Nat} {J : List (Nat × Nat)} (h : UnI w S pb J) (hJ : J.length ≤ 1000) : Calls Try.prog 17 #[unP pb] w fun e w' =>
    ∃ ab ao cap xs, e = .returned (.func (.func 28) #[] #[.pointer (some ⟨ab, 0, none⟩)]) ∧ AllQ ab ao cap xs w' ∧ AllP J (tellL xs) ∧ w.heap.size ≤ ab ∧ Below w.heap.size w w' ∧ UnIS (AllC ab ao xs w') w' S pb J ∧ (∀ a, ao = some a → w.heap.size ≤ a.block) ∧ (∀ x ∈ xs, ∀ a, x.1.ao = some a → S a.block) := by
  obtain ⟨nb, cb, cl, h⟩ := h
  have hb1 := (Below.refl w.heap.size w).alloc (Nat.le_refl _) (.cells #[.slice none 0 0] 58)
  have d1 := heap_alloc_new w (.cells #[.slice none 0 0] 58)
  have hs1 : (w.alloc (.cells #[.slice none 0 0] 58)).heap.size = w.heap.size + 1 := World.size_alloc _ _
  obtain ⟨w1, hw1⟩ : ∃ w1, w1 = w.alloc (.cells #[.slice none 0 0] 58) := ⟨_, rfl⟩
  rw [← hw1] at hb1 d1 hs1
  obtain ⟨n0, hn0⟩ : ∃ n0, n0 = w.heap.size := ⟨_, rfl⟩
  rw [← hn0] at d1
  have h1 := h.below hb1
  have c1 : w1.cell? ⟨pb, 1, none⟩ = some (.map (some cb)) := cell_in h1.mem.blk rfl
  have HI := Lib.hid (isNone_some c1)
  have HV := Lib.hid (mvalues_calls cb w1)
  have hb2 := (Below.refl w1.heap.size w1).alloc (Nat.le_refl _) (.cells #[.map (some cb)] 46)
  have d2 := heap_alloc_new w1 (.cells #[.map (some cb)] 46)
  have h2 := h1.below hb2
  have hcount : ∀ ks : List Nat, ks.Nodup → (∀ k ∈ ks, (cl k).isSome = true) → ks.length ≤ 1000000 := fun ks hn hk => by
    have := names_few (J := J) hn (fun k hx => by
      have hl := h.lists k
      obtain ⟨c, hc⟩ := Option.isSome_iff_exists.1 (hk k hx)
      rw [hc] at hl
      cases hab : (runA J).ab k with
      | none => rw [hab] at hl; cases hl
      | some _ => rfl)
    omega
  have HS := Lib.hid (sortedC_any (w := w1.alloc (.cells #[.map (some cb)] 46)) (bq := w1.heap.size) (cb := cb) (cl := cl) ⟨cell_in d2 rfl, h2.mem.cliques⟩ hcount)
  have HEnd : Hid (∀ (es : List (Nat × ClD)) (ao : Option Addr) (cap : Nat) (w3 : World), AllOf cl es → (es.Pairwise fun x y => x.2.least ≤ y.2.least) → RowK w3 50 2 ao es.length cap (clsC es) → (∀ a, ao = some a → w1.heap.size + 1 ≤ a.block) → Below (w1.heap.size + 1) (w1.alloc (.cells #[.map (some cb)] 46)) w3 →
      ((∃ z, w3.cell? ⟨n0, 0, none⟩ = some z) ∧ w3.frozen? ⟨n0, 0, none⟩ = false) ∧ ∃ xs, AllQ n0 ao cap xs (w3.setCell ⟨n0, 0, none⟩ (.slice ao es.length cap)) ∧ AllP J (tellL xs) ∧ Below w.heap.size w (w3.setCell ⟨n0, 0, none⟩ (.slice ao es.length cap)) ∧ UnIS (AllC n0 ao xs (w3.setCell ⟨n0, 0, none⟩ (.slice ao es.length cap))) (w3.setCell ⟨n0, 0, none⟩ (.slice ao es.length cap)) S pb J ∧ (∀ a, ao = some a → w.heap.size ≤ a.block) ∧ (∀ x ∈ xs, ∀ a, x.1.ao = some a → S a.block)) := Lib.hid (by
    intro es ao cap w3 ha hs hr hlow hb3
    have hs2 : (w1.alloc (.cells #[.map (some cb)] 46)).heap.size = w1.heap.size + 1 := World.size_alloc _ _
    rw [← hs2] at hb3
    have d3 := ((hb3.block n0 (by omega)).trans (hb2.block n0 (by omega))).trans d1
    have h3 := h2.below hb3
    obtain ⟨hp, hone⟩ := all_pure h3 ha hs
    refine ⟨⟨⟨_, cell_in (j := 0) d3 rfl⟩, free_in d3 0⟩, es.map fun y => (y.2, (((runA J).ab y.1).getD (0, [])).2), ?_, hp, ?_, ?_, fun a ha => (by have h9 : w1.heap.size + 1 ≤ a.block := hlow a ha; omega), fun x hx a ha2 => ?_⟩
    · have hother : ∀ a : Addr, a.block ≠ n0 → (w3.setCell ⟨n0, 0, none⟩ (.slice ao es.length cap)).cell? a = w3.cell? a := fun a hne => World.cell?_of_block (Below.heap_setCell _ _ _ _ (fun e => hne (by first | exact e | exact e.symm)))
      refine ⟨?_, fun k x hx => ?_, fun x hx => ?_⟩
      · rw [List.length_map]
        exact cell_in (heap_setCell_same w3 n0 0 _ _ _ d3) rfl
      · rw [List.getElem?_map] at hx
        obtain ⟨y, hy, rfl⟩ := Option.map_eq_some_iff.1 hx
        have hk : k < es.length := (List.getElem?_eq_some_iff.1 hy).1
        obtain ⟨g, o, e, hc, _⟩ := hr.at_ (by omega)
        have hg := hlow _ e
        have hne : g ≠ n0 := by have : w1.heap.size + 1 ≤ g := hg; omega
        have f0 := flat_get encN 2 encN_len es k 0 y hy (by omega)
        have f1 := flat_get encN 2 encN_len es k 1 y hy (by omega)
        exact ⟨g, o, e, (hother ⟨g, _, none⟩ hne).trans (hc _ _ f0), (hother ⟨g, _, none⟩ hne).trans (by rw [Nat.add_assoc]; exact hc _ _ f1)⟩
      · obtain ⟨y, hy, rfl⟩ := List.mem_map.1 hx
        obtain ⟨ns, hab, hl, hrow⟩ := hone y hy
        simp only [hab, Option.getD_some]
        refine ⟨hl, ?_, fun h0 => ?_⟩
        · have g := ((runA_of J).inv.good _ _ _ hab).1
          have := runA_few J y.2.least
          rw [look_of hab g.least] at this
          dsimp only at this
          omega
        · obtain ⟨g, o, e, hc⟩ := nums_of_row hrow h0
          have hlt := hrow.lt e
          have hin := h.lists y.1
          rw [ha.2.1 y hy] at hin
          have hS := h.lt _ (hin.at_ e)
          have hne : g ≠ n0 := by have : g < w.heap.size := hS; omega
          exact ⟨g, o, e, fun j v hj => (hother ⟨g, _, none⟩ hne).trans (hc j v hj)⟩
    · refine (hb1.trans ((hb2.trans (hb3.mono (by omega))).mono (by omega))).trans ((Turned.set (S := fun k => k = n0) (w := w3) (a := ⟨n0, 0, none⟩) rfl _).below (by have := hb3.size; omega) (fun k hk => by omega))
    · have hS0 : ∀ k, S k → k < w.heap.size := h.lt
      refine ⟨nb, cb, cl, h3.beside (T := fun k => k = n0) (Turned.set (S := fun k => k = n0) (w := w3) (a := ⟨n0, 0, none⟩) rfl _) (fun k hk e => by have := hS0 k hk; omega), ?_⟩
      rintro p v ⟨hc, hp⟩
      refine ⟨hc, fun q c a hq hca hb => ?_⟩
      have hin := h.lists q
      rw [hq] at hin
      have hS := hS0 _ (hin.at_ hca)
      rcases hp with e | ⟨a', e, e2⟩ | ⟨x, hx, a', i, e, hi, rfl⟩
      · omega
      · have h9 : w1.heap.size + 1 ≤ a'.block := hlow a' e
        omega
      · obtain ⟨y, hy, rfl⟩ := List.mem_map.1 hx
        have hcl := ha.2.1 y hy
        by_cases hqy : q = y.1
        · subst hqy
          rw [hcl] at hq
          cases hq
          rw [e] at hca
          cases hca
          exact ⟨i, hi, rfl⟩
        · exact absurd (hb.trans (add_block a' i)) (h.apart q y.1 c y.2 hqy hq hcl a a' hca e)
    · obtain ⟨y, hy, rfl⟩ := List.mem_map.1 hx
      have hin := h.lists y.1
      rw [ha.2.1 y hy] at hin
      exact hin.at_ ha2)
  have HW := Lib.hid hw1
  have HN0 := Lib.hid hn0
  have HD := Lib.hid (World.size_alloc w1 (.cells #[.map (some cb)] 46))
  have HNl : Hid (w.heap.size ≤ n0) := Lib.hid (by omega)
  clear h hb1 d1 hs1 hw1 hn0 h1 hb2 d2 h2 hcount hJ
  go_enter Try.func17, Try.ntmps17
  go_upto_region 2 with fail
  rw [← HW.out, ← HN0.out]
  go_wp2_with (first
    | (go_at_call 18; refine HI.out.mono ?_; rintro e w' ⟨rfl, rfl⟩)
    | (go_at_call 26; refine HV.out.mono ?_; rintro e w2 ⟨rfl, rfl⟩)
    | (go_at_call 25; refine HS.out.mono ?_; rintro e w3 ⟨es, ao, cap, rfl, h0, h1, h2, h3, h4⟩; rw [HD.out] at h3 h4; obtain ⟨⟨⟨z, hz⟩, hf⟩, hE⟩ := HEnd.out es ao cap w3 h0 h1 h2 h3 h4; replace hE := Lib.hid hE; clear h0 h1 h2 h3 h4))
  go_ret
  obtain ⟨xs, h5, h6, h7, h8, h9, h10⟩ := hE.out
  exact ⟨n0, ao, cap, xs, rfl, h5, h6, HNl.out, h7, h8, h9, h10⟩
end Go.Proofs.Ytjbfjglomonanaa

