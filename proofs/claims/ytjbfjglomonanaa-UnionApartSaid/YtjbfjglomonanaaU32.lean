/-
  WHAT THE PROOF STANDS ON, a part of it: UnCopy.
-/
import Derived.Test.YtjbfjglomonanaaU28
import Derived.Test.YtjbfjglomonanaaU24
import Derived.Test.YtjbfjglomonanaaU9
import Derived.Test.YtjbfjglomonanaaU30
/-
  CONTRACT OF Copy.
-/

namespace Go.Proofs.Ytjbfjglomonanaa
open Go.RowKit
set_option linter.unusedVariables false
set_option linter.unusedSimpArgs false

/-- A copy under way: the names are there, and the cliques of the names ks. -/
structure CopI (w W : World) (n0 : Nat) (A : PartA) (ks : List Nat) (cl : Nat → Option ClD) : Prop where
  bel : Below w.heap.size w W
  hn : n0 = w.heap.size
  sz : n0 + 3 ≤ W.heap.size
  blk : W.heap[n0 + 2]? = some (.cells #[.map (some n0), .map (some (n0 + 1))] 48 (0, 0))
  names : MapU keyU W n0 A.nm
  cls : MapU clV W (n0 + 1) cl
  done : ∀ k, k ∈ ks → ListR W (fun j => n0 + 3 ≤ j ∧ j < W.heap.size) (A.ab k) (cl k)
  rest : ∀ k, k ∉ ks → cl k = none
  apart : ∀ n n' c c', n ≠ n' → cl n = some c → cl n' = some c' → ∀ a a', c.ao = some a → c'.ao = some a' → a.block ≠ a'.block
theorem CopI.below {w W U : World} {n0 : Nat} {A : PartA} {ks : List Nat} {cl : Nat → Option ClD} (h : CopI w W n0 A ks cl) (k : Below W.heap.size W U) : CopI w U n0 A ks cl :=
  { h with
    bel := h.bel.trans (k.mono h.bel.size)
    sz := Nat.le_trans h.sz k.size
    blk := (k.block _ (Array.getElem?_eq_some_iff.1 h.blk).1).trans h.blk
    names := h.names.kept (k.block _ h.names.lt)
    cls := h.cls.kept (k.block _ h.cls.lt)
    done := fun q hq => (h.done q hq).kept (fun d a hd ha => k.block _ (by
      have := ListR.at_ (hd ▸ h.done q hq) ha
      exact this.2)) (fun j hj => ⟨hj.1, Nat.lt_of_lt_of_le hj.2 k.size⟩) }
/-- All but one block, that holds no cells, stays. -/
theorem CopI.move {w W U : World} {n0 r : Nat} {A : PartA} {ks : List Nat} {cl : Nat → Option ClD} (h : CopI w W n0 A ks cl) (k : Turned (fun j => j = r) W U) (hr : n0 + 3 ≤ r) (hc : ∀ (g : Nat) (cs : Array Value) (t : TypeId) (fr : Nat × Nat), W.heap[g]? = some (.cells cs t fr) → g ≠ r) : CopI w U n0 A ks cl :=
  { h with
    bel := h.bel.trans (k.below h.bel.size (fun j hj => by have := h.hn; omega))
    sz := Nat.le_trans h.sz k.size
    blk := (k.block _ (Array.getElem?_eq_some_iff.1 h.blk).1 (by omega)).trans h.blk
    names := h.names.kept (k.block _ h.names.lt (by omega))
    cls := h.cls.kept (k.block _ h.cls.lt (by omega))
    done := fun q hq => by
      have hd := h.done q hq
      cases hab : A.ab q with
      | none =>
        rw [hab] at hd
        exact hd
      | some x =>
        obtain ⟨m, ns⟩ := x
        rw [hab] at hd
        obtain ⟨ao, cap, e, hrow, hs⟩ := hd
        refine ⟨ao, cap, e, hrow.kept fun a ha => ?_, fun a ha => ⟨(hs a ha).1, Nat.lt_of_lt_of_le (hs a ha).2 k.size⟩⟩
        obtain ⟨cur, hcur⟩ := hrow.type ha
        exact k.block _ (hs a ha).2 (hc _ _ _ _ hcur) }
/-- One clique more. -/
theorem CopI.next {w W U W8 : World} {n0 k m : Nat} {A : PartA} {ks ns : List Nat} {cl : Nat → Option ClD} {ao2 : Option Addr} {cap2 : Nat} (h : CopI w W n0 A ks cl) (hk : k ∉ ks) (hab : A.ab k = some (m, ns)) (hB : Below W.heap.size W U)
    (hrow : RowK U 23 1 ao2 ns.length cap2 (u32C ns)) (hlow : ∀ a, ao2 = some a → W.heap.size ≤ a.block) (hm : MapU clV W8 (n0 + 1) (fun q => if k = q then some ⟨m, ao2, ns.length, cap2⟩ else cl q)) (ht : Turned (fun j => j = n0 + 1) U W8) :
    CopI w W8 n0 A (ks ++ [k]) (fun q => if k = q then some ⟨m, ao2, ns.length, cap2⟩ else cl q) := by
  have hsz := h.sz
  have hn := h.hn
  have hs1 := hB.size
  have hs2 := ht.size
  have old : ∀ q c, cl q = some c → q ∈ ks := fun q c hc => by
    by_cases hq : q ∈ ks
    · exact hq
    · rw [h.rest q hq] at hc
      cases hc
  have oldlt : ∀ q c a, cl q = some c → c.ao = some a → n0 + 3 ≤ a.block ∧ a.block < W.heap.size := fun q c a hc ha => ListR.at_ (hc ▸ h.done q (old q c hc)) ha
  have hbU : Below w.heap.size w U := h.bel.trans (hB.mono h.bel.size)
  exact {
    bel := hbU.trans (ht.below hbU.size (fun j hj => by omega))
    hn := hn
    sz := by omega
    blk := (ht.block _ (by omega) (by omega)).trans ((hB.block _ (by omega)).trans h.blk)
    names := h.names.kept ((ht.block n0 (by omega) (by omega)).trans (hB.block n0 (by omega)))
    cls := hm
    done := fun q hq => by
      by_cases e : k = q
      · subst e
        rw [if_pos rfl, hab]
        refine ⟨ao2, cap2, rfl, hrow.kept fun a ha => ht.block _ (hrow.lt ha) (by have := hlow a ha; omega), fun a ha => ⟨by have := hlow a ha; omega, Nat.lt_of_lt_of_le (hrow.lt ha) hs2⟩⟩
      · rw [if_neg e]
        have hq2 : q ∈ ks := by
          rcases List.mem_append.1 hq with h1 | h1
          · exact h1
          · rw [List.mem_singleton] at h1
            exact absurd h1.symm e
        exact (h.done q hq2).kept (fun d a hd ha => by
          have h9 := oldlt q d a hd ha
          exact (ht.block _ (by omega) (by omega)).trans (hB.block _ h9.2)) (fun j hj => ⟨hj.1, by omega⟩)
    rest := fun q hq => by
      have e : ¬ k = q := fun e => hq (by rw [e]; simp)
      rw [if_neg e]
      exact h.rest q (fun h1 => hq (List.mem_append_left _ h1))
    apart := fun n n' c c' hne h1 h2 a a' ha ha' => by
      by_cases e : k = n
      · rw [if_pos e] at h1
        rw [if_neg (fun e2 => hne (e.symm.trans e2))] at h2
        cases h1
        have h9 := oldlt n' c' a' h2 ha'
        have := hlow a ha
        omega
      · rw [if_neg e] at h1
        by_cases e2 : k = n'
        · rw [if_pos e2] at h2
          cases h2
          have h9 := oldlt n c a h1 ha
          have := hlow a' ha'
          omega
        · rw [if_neg e2] at h2
          exact h.apart n n' c c' hne h1 h2 a a' ha ha' }
set_option maxRecDepth 100000 in
set_option maxHeartbeats 8000000 in
theorem UnI.copy {w : World} {S : Nat → Prop} {pb : Nat} {J : List (Nat × Nat)} (h : UnI w S pb J) (hJ : J.length ≤ 1000) : Calls Try.prog 16 #[unP pb] w fun e w' =>
    ∃ qb, e = .returned (unP qb) ∧ UnI w' (fun j => w.heap.size ≤ j ∧ j < w'.heap.size) qb J ∧ Below w.heap.size w w' := by
  obtain ⟨nb, cb, cl, h⟩ := h
  have c0 : w.cell? ⟨pb, 0, none⟩ = some (.map (some nb)) := cell_in h.mem.blk rfl
  have c1 : w.cell? ⟨pb, 1, none⟩ = some (.map (some cb)) := cell_in h.mem.blk rfl
  have HI := Lib.hid (isNone_some c1)
  have HCl := Lib.hid (cloneMapU_any h.mem.names)
  have H := Lib.hid h
  have hmm := @run_makeMap_plain Try.prog
  clear h
  go_enter Try.func16, Try.ntmps16
  go_upto_region 4 with (first
    | (go_at_call 18; refine HI.out.mono ?_; rintro e w' ⟨rfl, rfl⟩)
    | (go_at_call 23; refine HCl.out.mono ?_; rintro e w1 ⟨rfl, h1, h2, h3⟩; replace h1 := Lib.hid h1; replace h3 := Lib.hid h3))
  obtain ⟨n0, hn0⟩ : ∃ n0, n0 = w'.heap.size := ⟨_, rfl⟩
  have HBw := h1
  have HNm := h3
  rw [← hn0] at h2
  have s2 : (w1.alloc (.map #[] 0)).heap.size = n0 + 2 := by rw [World.size_alloc, h2]
  have d2 := heap_alloc_new w1 (.map #[] 0)
  have d3 := heap_alloc_new (w1.alloc (.map #[] 0)) (.cells #[.map (some n0), .map (some (n0 + 1))] 48)
  have hb2 := (Below.refl w1.heap.size w1).alloc (Nat.le_refl _) (.map #[] 0)
  have hb3 := (Below.refl (w1.alloc (.map #[] 0)).heap.size (w1.alloc (.map #[] 0))).alloc (Nat.le_refl _) (.cells #[.map (some n0), .map (some (n0 + 1))] 48)
  have s3 : ((w1.alloc (.map #[] 0)).alloc (.cells #[.map (some n0), .map (some (n0 + 1))] 48)).heap.size = n0 + 3 := by rw [World.size_alloc, s2]
  rw [h2] at d2
  rw [s2] at d3
  rw [← hn0]
  obtain ⟨w3, hw3⟩ : ∃ w3, w3 = (w1.alloc (.map #[] 0)).alloc (.cells #[.map (some n0), .map (some (n0 + 1))] 48) := ⟨_, rfl⟩
  rw [← hw3] at d3 hb3 s3 ⊢
  have hbel : Below w'.heap.size w' w3 := HBw.out.trans ((hb2.trans (hb3.mono (by omega))).mono (by omega))
  have HC0 : Hid (CopI w' w3 n0 (runA J) [] (fun _ => none)) := Lib.hid {
    bel := hbel
    hn := hn0
    sz := by omega
    blk := d3
    names := by
      have h8 := HNm.out
      rw [← hn0] at h8
      exact h8.kept ((hb3.block n0 (by omega)).trans (hb2.block n0 (by omega)))
    cls := MapU.new ((hb3.block (n0 + 1) (by omega)).trans d2)
    done := fun k hk => by cases hk
    rest := fun _ _ => rfl
    apart := fun n n' c c' _ h => by cases h }
  have HOr : Hid (∀ U, Below w'.heap.size w' U → PartI U S pb nb cb (runA J) cl) := Lib.hid (fun U hU => H.out.below hU)
  have p1 : w3.cell? ⟨pb, 1, none⟩ = some (.map (some cb)) := cell_in (HOr.out w3 hbel).mem.blk rfl
  have HM := Lib.hid (HOr.out w3 hbel).mem.cliques
  have HS3 := Lib.hid s3
  clear hn0 h2 s2 d2 d3 hb2 hb3 s3 hw3 hbel h1 h3 c0 c1 hmm
  go_wp2_with (refine wpList_range_mapU rfl _ 46 rfl Try.underlying46 rfl HM.out ?_; intro w4 cnt ob hw4 hob hit)
  obtain ⟨r, hr⟩ : ∃ r, r = w3.heap.size := ⟨_, rfl⟩
  rw [← hr] at hit ⊢
  have hr3 : r = n0 + 3 := by rw [hr, HS3.out]
  have HC4 : Hid (CopI w' w4 n0 (runA J) [] (fun _ => none)) := Lib.hid (by rw [hw4]; exact HC0.out.below ((Below.refl _ _).alloc (Nat.le_refl _) ob))
  have HIt := Lib.hid hit
  have HR3 := Lib.hid hr3
  have HNe : Hid (cb < n0) := Lib.hid (by
    have := H.out.lt cb H.out.sC
    have := HC0.out.hn
    omega)
  clear hit hw4 hr hr3 hob p1
  go_frame
  go_loopw [] (fun wr => ∃ (ks : List Nat) (cnt : Nat) (cl' : Nat → Option ClD), CopI w' wr n0 (runA J) ks cl' ∧ IterU clV wr cb r cl ks cnt) (fun wr => wr.rangeLeft cb r)
  case atStart => exact ⟨[], cnt, _, HC4.out, HIt.out⟩
  case round =>
    obtain ⟨ks, cnt2, cl', hc, hit⟩ := hrel
    have HC := Lib.hid hc
    have HIs := Lib.hid hit
    clear hc hit
    go_wp2_with (at_next; refine wpList_next_mapU rfl _ rfl rfl HIs.out ?_ ?_; rotate_left; intro k v w2 cnt' hf hk hi hlt ht hs hen; rotate_left; intro hdone)
    · go_ret
      refine ⟨n0 + 2, rfl, ⟨n0, n0 + 1, cl', ?_⟩, HC.out.bel⟩
      have hc := HC.out
      have hn := hc.hn
      have hsz := hc.sz
      exact {
        mem := ⟨hc.blk, hc.names, hc.cls⟩
        ne := by omega
        sP := ⟨by omega, by omega⟩
        sN := ⟨by omega, by omega⟩
        sC := ⟨by omega, by omega⟩
        lt := fun j hj => hj.2
        lists := fun n => by
          by_cases hnk : n ∈ ks
          · exact (hc.done n hnk).kept (fun _ _ _ _ => rfl) (fun j hj => ⟨by omega, hj.2⟩)
          · have hcl : cl n = none := by
              cases hx : cl n with
              | none => rfl
              | some v => exact absurd (hdone n v hx) hnk
            have hl := H.out.lists n
            rw [hcl] at hl
            cases hab : (runA J).ab n with
            | none => exact hc.rest n hnk
            | some x =>
              rw [hab] at hl
              obtain ⟨_, _, e, _⟩ := hl
              cases e
        apart := hc.apart
        named := H.out.named }
    · obtain ⟨⟨m, ns⟩, hab⟩ : ∃ x, (runA J).ab k = some x := by
        have hl := H.out.lists k
        rw [hf] at hl
        cases hab : (runA J).ab k with
        | none => rw [hab] at hl; cases hl
        | some x => exact ⟨x, rfl⟩
      have hmv := HC.out.move ht (by have := HR3.out; omega) (fun g cs t fr hg => (HIs.out.noCells hg).2)
      have ho2 := (HOr.out w2 hmv.bel).lists k
      rw [hf, hab] at ho2
      obtain ⟨ao1, cap1, ev, hrow, _⟩ := ho2
      injection ev with ev
      subst ev
      have hfew := runA_few J m
      rw [look_of hab ((runA_of J).inv.good _ _ _ hab).1.least] at hfew
      dsimp only at hfew
      obtain ⟨nl, hnl⟩ : ∃ nl, nl = ns.length := ⟨_, rfl⟩
      rw [← hnl] at hrow hfew
      obtain ⟨n1, hn1⟩ : ∃ n1, n1 = wr.heap.size := ⟨_, rfl⟩
      have hn2 : w2.heap.size = n1 := by rw [hs, hn1]
      have hb5 := (Below.refl w2.heap.size w2).alloc (Nat.le_refl _) (.cells #[.int .u32 (m : Int), .slice ao1 nl cap1] 50)
      have d5 := heap_alloc_new w2 (.cells #[.int .u32 (m : Int), .slice ao1 nl cap1] 50)
      have s5 : (w2.alloc (.cells #[.int .u32 (m : Int), .slice ao1 nl cap1] 50)).heap.size = n1 + 1 := by rw [World.size_alloc, hn2]
      obtain ⟨w5, hw5⟩ : ∃ w5, w5 = w2.alloc (.cells #[.int .u32 (m : Int), .slice ao1 nl cap1] 50) := ⟨_, rfl⟩
      rw [← hw5] at hb5 d5 s5
      rw [hn2] at d5
      have HMv := Lib.hid hmv
      have HAb := Lib.hid hab
      have HB5 := Lib.hid hb5
      have HS5 := Lib.hid s5
      have HN2 := Lib.hid hn2
      have HNl := Lib.hid hnl
      have HK := Lib.hid hk
      have HLt := Lib.hid hlt
      have HI2 := Lib.hid hi
      have HCn := Lib.hid (cloneNums_any (hrow.below hb5) (by omega) (by unfold maxLen; omega))
      have HBox : Hid (∀ U, Below w5.heap.size w5 U → U.heap[n1]? = some (.cells #[.int .u32 (m : Int), .slice ao1 nl cap1] 50 (0, 0))) := Lib.hid (fun U hU => (hU.block n1 (by omega)).trans d5)
      have HW5 := Lib.hid hw5
      have HN1 := Lib.hid hn1
      clear hab hmv hrow hfew hnl hn2 hb5 d5 s5 hw5 hk hlt hi hf ht hs hen
      dsimp only
      rw [← hn1, ← HNl.out, ← HW5.out]
      clear hn1
      go_upto_region 8 with (go_at_call 24; refine HCn.out.mono ?_; rintro e w6 ⟨ao2, cap2, rfl, g1, g2, g3⟩; have x0 := cell_in (j := 0) (HBox.out w6 g2) rfl; have x1 := cell_in (j := 1) (HBox.out w6 g2) rfl; have xf := fun i => free_in (HBox.out w6 g2) i; replace g1 := Lib.hid g1; replace g2 := Lib.hid g2; replace g3 := Lib.hid g3)
      have d7 : (w6.setCell ⟨n1, 1, none⟩ (.slice ao2 nl cap2)).heap[n1]? = some (.cells #[.int .u32 (m : Int), .slice ao2 nl cap2] 50 (0, 0)) := heap_setCell_same w6 n1 1 _ _ _ (HBox.out w6 g2.out)
      have hb67 : Below w2.heap.size w2 (w6.setCell ⟨n1, 1, none⟩ (.slice ao2 nl cap2)).drew := (HB5.out.trans ((g2.out.mono HB5.out.size).trans ((Turned.set (S := fun j => j = n1) (w := w6) (a := ⟨n1, 1, none⟩) rfl _).below (Nat.le_trans HB5.out.size g2.out.size) (fun j hj => by have := HN2.out; omega)))).drew
      have hr7 : RowK (w6.setCell ⟨n1, 1, none⟩ (.slice ao2 nl cap2)).drew 23 1 ao2 nl cap2 (u32C ns) := g1.out.kept fun a ha => by
        have h9 := g3.out a ha
        have := HS5.out
        exact Below.heap_setCell _ _ _ _ (by show a.block ≠ n1; omega)
      obtain ⟨wz, hwz⟩ : ∃ wz, wz = (w6.setCell ⟨n1, 1, none⟩ (.slice ao2 nl cap2)).drew := ⟨_, rfl⟩
      have d8 : wz.heap[n1]? = some (.cells #[.int .u32 (m : Int), .slice ao2 nl cap2] 50 (0, 0)) := by rw [hwz]; exact d7
      rw [← hwz] at hb67 hr7
      have hmz := HMv.out.below hb67
      have hsz2 := HMv.out.sz
      obtain ⟨W8, hup, hm8, ht8⟩ := hmz.cls.put1 (P := Try.prog) Try.underlying46 Try.underlying23 k ⟨m, ao2, nl, cap2⟩
      change (Instr.mapUpdate 46 (.map (some (n0 + 1))) (.int .u32 (k : Int)) (.agg #[.int .u32 (m : Int), .slice ao2 nl cap2])).run _ _ = _ at hup
      have b8 : W8.heap[n0 + 2]? = some (.cells #[.map (some n0), .map (some (n0 + 1))] 48 (0, 0)) := (ht8.block _ (Array.getElem?_eq_some_iff.1 hmz.blk).1 (by omega)).trans hmz.blk
      have b9 : W8.heap[n1]? = some (.cells #[.int .u32 (m : Int), .slice ao2 nl cap2] 50 (0, 0)) := (ht8.block _ (Array.getElem?_eq_some_iff.1 d8).1 (by have := HN2.out; omega)).trans d8
      have hSz : wz.cell? ⟨n0 + 1 + 1, 1, none⟩ = some (.map (some (n0 + 1))) ∧ wz.cell? ⟨n1, 0, none⟩ = some (.int .u32 (m : Int)) ∧ wz.cell? ⟨n1, 1, none⟩ = some (.slice ao2 nl cap2) := ⟨cell_in (g := n0 + 2) hmz.blk rfl, cell_in d8 rfl, cell_in d8 rfl⟩
      have hS8 : W8.cell? ⟨n0 + 1 + 1, 1, none⟩ = some (.map (some (n0 + 1))) ∧ W8.cell? ⟨n1, 0, none⟩ = some (.int .u32 (m : Int)) ∧ W8.cell? ⟨n1, 1, none⟩ = some (.slice ao2 nl cap2) := ⟨cell_in (g := n0 + 2) b8 rfl, cell_in b9 rfl, cell_in b9 rfl⟩
      have HNext : Hid (CopI w' W8 n0 (runA J) (ks ++ [k]) (fun q => if k = q then some ⟨m, ao2, nl, cap2⟩ else cl' q)) := Lib.hid (by
        have e := HNl.out
        subst e
        exact HMv.out.next HK.out HAb.out hb67 hr7 (fun a ha => by have h9 := g3.out a ha; have := HS5.out; have := HN2.out; omega) hm8 ht8)
      have HI8 : Hid (IterU clV W8 cb r cl (ks ++ [k]) cnt') := Lib.hid (HI2.out.kept ((ht8.block cb (by have := HI2.out.ltB; have := hb67.size; omega) (by have := HNe.out; omega)).trans (hb67.block cb HI2.out.ltB)) ((ht8.block r (by have := HI2.out.ltR; have := hb67.size; omega) (by have := HR3.out; omega)).trans (hb67.block r HI2.out.ltR)))
      have HWz := Lib.hid hwz
      have HS8 := Lib.hid hS8
      rw [hwz] at hSz
      clear d7 d8 hr7 hmz b8 b9 hm8 ht8 hwz hS8 x0 x1 xf hb67 hsz2
      refine wp_region_held_drew (S := fun W' : World => W'.cell? ⟨n0 + 1 + 1, 1, none⟩ = some (.map (some (n0 + 1))) ∧ W'.cell? ⟨n1, 0, none⟩ = some (.int .u32 (m : Int)) ∧ W'.cell? ⟨n1, 1, none⟩ = some (.slice ao2 nl cap2)) (by kernel_rfl) hSz (fun hHeld => ?_)
      rw [← HWz.out] at hHeld ⊢
      refine wpAnyH_take (i := 0) (v := .pointer (some ⟨n0 + 1 + 1, 0, none⟩)) rfl (by kernel_rfl) (by kernel_rfl) (by kernel_rfl) (fun _ _ _ h => h) (Or.inl ⟨by rfl, fun w hSw => by (try dsimp only at hSw); obtain ⟨hSw1, hSw2, hSw3⟩ := hSw; go_simp⟩) hHeld ?_
      simp only [Act.put, List.setIfInBounds_toArray, List.set_cons_zero, List.set_cons_succ, List.getElem_toArray, List.getElem_cons_succ, List.getElem_cons_zero]
      refine wpAnyH_take (i := 1) (v := .pointer (some ⟨n0 + 1 + 1, 0, none⟩)) rfl (by kernel_rfl) (by kernel_rfl) (by kernel_rfl) (fun _ _ _ h => h) (Or.inl ⟨by rfl, fun w hSw => by (try dsimp only at hSw); obtain ⟨hSw1, hSw2, hSw3⟩ := hSw; go_simp⟩) hHeld ?_
      simp only [Act.put, List.setIfInBounds_toArray, List.set_cons_zero, List.set_cons_succ, List.getElem_toArray, List.getElem_cons_succ, List.getElem_cons_zero]
      refine wpAnyH_take (i := 2) (v := .pointer (some ⟨n0 + 1 + 1, 1, none⟩)) rfl (by kernel_rfl) (by kernel_rfl) (by kernel_rfl) (fun _ _ _ h => h) (Or.inl ⟨by rfl, fun w hSw => by (try dsimp only at hSw); obtain ⟨hSw1, hSw2, hSw3⟩ := hSw; go_simp⟩) hHeld ?_
      simp only [Act.put, List.setIfInBounds_toArray, List.set_cons_zero, List.set_cons_succ, List.getElem_toArray, List.getElem_cons_succ, List.getElem_cons_zero]
      refine wpAnyH_take (i := 3) (v := .map (some (n0 + 1))) rfl (by kernel_rfl) (by kernel_rfl) (by kernel_rfl) (fun _ _ _ h => h) (Or.inl ⟨by rfl, fun w hSw => by (try dsimp only at hSw); obtain ⟨hSw1, hSw2, hSw3⟩ := hSw; go_simp⟩) hHeld ?_
      simp only [Act.put, List.setIfInBounds_toArray, List.set_cons_zero, List.set_cons_succ, List.getElem_toArray, List.getElem_cons_succ, List.getElem_cons_zero]
      refine wpAnyH_take (i := 4) (v := .int .u32 (k : Int)) rfl (by kernel_rfl) (by kernel_rfl) (by kernel_rfl) (fun _ _ _ h => h) (Or.inl ⟨by rfl, fun w hSw => by (try dsimp only at hSw); obtain ⟨hSw1, hSw2, hSw3⟩ := hSw; go_simp⟩) hHeld ?_
      simp only [Act.put, List.setIfInBounds_toArray, List.set_cons_zero, List.set_cons_succ, List.getElem_toArray, List.getElem_cons_succ, List.getElem_cons_zero]
      refine wpAnyH_take (i := 5) (v := .agg #[.int .u32 (m : Int), .slice ao2 nl cap2]) rfl (by kernel_rfl) (by kernel_rfl) (by kernel_rfl) (fun _ _ _ h => h) (Or.inl ⟨by rfl, fun w hSw => by (try dsimp only at hSw); obtain ⟨hSw1, hSw2, hSw3⟩ := hSw; go_simp⟩) hHeld ?_
      simp only [Act.put, List.setIfInBounds_toArray, List.set_cons_zero, List.set_cons_succ, List.getElem_toArray, List.getElem_cons_succ, List.getElem_cons_zero]
      refine wpAnyH_ready (rs := [6]) (by kernel_rfl) (by simp) ?_
      refine AllReadyH.cons rfl (fun K hK => ?_) AllReadyH.nil
      go_simp
      refine hK.out _ _ HS8.out (fun hHeld => ?_)
      clear hK K hup
      refine wpAnyH_done (by kernel_rfl) ?_ _
      clear hHeld hSz
      go_wp2
      go_roundw
      case rel => exact ⟨ks ++ [k], cnt', _, HNext.out, HI8.out⟩
      case measure =>
        rw [HI8.out.left_eq, HIs.out.left_eq]
        exact HLt.out
end Go.Proofs.Ytjbfjglomonanaa

