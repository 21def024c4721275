/-
  WHAT THE PROOF STANDS ON, a part of it: CkApp.
-/
import Derived.Test.YtlkiigoblkfkpaaGreatDoorC30
import Derived.Test.YtlkiigoblkfkpaaGreatDoorC13
/-
  CONTRACTS OF slices.AppendSeq, slices.Collect AT RULES, behind slices.Values.
-/

namespace Go.Proofs.YtlkiigoblkfkpaaGreatDoor
open Go.RowKit Go.Shelf
set_option linter.unusedVariables false
set_option linter.unusedSimpArgs false
attribute [local go_sem] Oper.semAt_some

def rvC (L : List RvD) : List Value := L.flatMap fun x => (ruleC x.1 (slV x.2)).toList
abbrev rvZ : Value := .agg (ruleC zPa (.slice none 0 0))
theorem info_rv : ∃ (i : TypeInfo) (z : Value), Tryz.prog.info? 46 = some i ∧ i.zero = some z ∧ i.size = 13 ∧ i.bytes = 192 ∧ z.cells.size = 13 := by
  obtain ⟨i, hi⟩ : ∃ i, Tryz.prog.info? 46 = some i := Option.isSome_iff_exists.1 (by kernel_rfl)
  refine ⟨i, rvZ, hi, ?_⟩
  have h : (Tryz.prog.info? 46).map (fun i => (i.zero, i.size, i.bytes)) = some (some rvZ, 13, 192) := by kernel_rfl
  rw [hi] at h
  simp only [Option.map_some, Option.some.injEq, Prod.mk.injEq] at h
  exact ⟨h.1, h.2.1, h.2.2, rfl⟩
theorem ValsRv.own {b : Nat} {ao : Option Addr} {len cap : Nat} {L : List RvD} {W U : World} {row : Option Nat} (h : ValsRv b ao len cap L W) (hg : W.grownBy U row) (hr : ∀ r, row = some r → ∃ o : Obj, W.heap[r]? = some o ∧ o.isCells = false) : ValsRv b ao len cap L U := by
  obtain ⟨h1, h2, h3⟩ := h
  refine ⟨cell_kept h1 hg hr, h2, fun h0 => ?_⟩
  obtain ⟨g, o, e, hc⟩ := h3 h0
  refine ⟨g, o, e, fun j x hx => ?_⟩
  obtain ⟨x0, x1, x2, x3, x4, x5, x6, x7, x8, x9, x10, x11, x12⟩ := hc j x hx
  exact ⟨cell_kept x0 hg hr, cell_kept x1 hg hr, cell_kept x2 hg hr, cell_kept x3 hg hr, cell_kept x4 hg hr, cell_kept x5 hg hr, cell_kept x6 hg hr, cell_kept x7 hg hr, cell_kept x8 hg hr, cell_kept x9 hg hr, cell_kept x10 hg hr, cell_kept x11 hg hr, cell_kept x12 hg hr⟩
theorem news_rv (W : World) (cs : Array Value) (e : TypeId) : ∀ j x, cs.toList[j]? = some x → (W.alloc (.cells cs e)).cell? ((⟨W.heap.size, 0, none⟩ : Addr).add j) = some x := fun j x hx => by
  rw [Addr.add_mid, Nat.zero_add]
  exact cell_in (heap_alloc_new W _) (by simpa using hx)
theorem rv_one (x : RvD) : ∀ u ∈ (ruleC x.1 (slV x.2)).toList, u.oneCell' = true := by
  intro u hu
  simp only [List.mem_cons, List.not_mem_nil, or_false] at hu
  rcases hu with rfl | rfl | rfl | rfl | rfl | rfl | rfl | rfl | rfl | rfl | rfl | rfl | rfl <;> rfl
set_option maxRecDepth 100000 in
set_option maxHeartbeats 4000000 in
theorem ckApp_any {w : World} {bq : Nat} {aoL : Option Addr} {lenL capL : Nat} {L : List RvD} (hQ : ValsRv bq aoL lenL capL L w) (hl : L.length ≤ 1000000) :
    Calls Tryz.prog 49 #[.slice none 0 0, .func (.func 40) #[] #[.pointer (some ⟨bq, 0, none⟩)]] w fun e w' =>
      ∃ (ao' : Option Addr) (cap' : Nat), e = .returned (.slice ao' L.length cap') ∧ RowK w' 46 13 ao' L.length cap' (rvC L) ∧ (∀ a, ao' = some a → w.heap.size ≤ a.block) ∧ Below w.heap.size w w' := by
  obtain ⟨b2, hb2⟩ : ∃ b2, b2 = w.heap.size := ⟨_, rfl⟩
  have HQ := Lib.hid hQ
  have s1 : (w.alloc (.cells #[.slice none 0 0] 22)).heap.size = w.heap.size + 1 := World.size_alloc _ _
  have d1 := heap_alloc_new w (.cells #[.slice none 0 0] 22)
  have hba := (Below.refl w.heap.size w).alloc (Nat.le_refl _) (.cells #[.slice none 0 0] 22)
  obtain ⟨wx, hwx⟩ : ∃ wx, wx = w.alloc (.cells #[.slice none 0 0] 22) := ⟨_, rfl⟩
  rw [← hwx] at s1 d1 hba
  rw [← hb2] at d1
  have HWx := Lib.hid hwx
  have HB2 := Lib.hid hb2
  have HS1 := Lib.hid s1
  have HBa := Lib.hid hba
  have HD1 := Lib.hid d1
  clear hwx hb2 s1 hba d1 hQ
  obtain ⟨i0, z0, hi, hz0, hz1, hz2, hz3⟩ := info_rv
  refine (callsIn_wide (n := 9)).1 (callsIn_of_wp_marks Tryz.func49 rfl trivial (wpIn_wide.2 ?_) rfl)
  simp only [Tryz.ntmps49, List.size_toArray, List.length_cons, List.length_nil, Nat.reduceAdd, Nat.reduceSub, Array.replicate_succ, Array.replicate_zero, List.push_toArray, List.append_toArray, List.nil_append, List.cons_append]
  go_upto_region 1 with fail
  rw [← HWx.out, ← HB2.out]
  go_wp2
  refine (wpIn_wide (n := 9)).1 ?_
  have hsq := ckValues_seq (9 - 1) (by omega) bq aoL lenL capL L (by omega) (fun _ => False) (fun j => j = b2) wx
  refine wpIn_rangeT (F := Fence.wide) (n := 9) rfl (by omega) (gf := 40) (lb := #[.pointer (some ⟨bq, 0, none⟩)]) rfl trivial (enters_of Tryz.func40 (by kernel_rfl) rfl) hsq (Below.refl _ _) (fun _ => rfl) ?ownT
    (fun ip S' Wx => (∃ (ao1 : Option Addr) (cap1 : Nat), Wx.heap[b2]? = some (.cells #[.slice ao1 ip.length cap1] 22 (0, 0)) ∧ RowK Wx 46 13 ao1 ip.length cap1 (rvC ip) ∧ (∀ a, ao1 = some a → S' a.block ∧ a.block ≠ b2)) ∧ Below w.heap.size w Wx ∧ (∀ j, S' j → b2 ≤ j) ∧ ip <+: L) ?ownI (fun _ _ => False) ?ownX (fun j hj => by subst hj; rw [HS1.out, HB2.out]; omega) (fun j hj => hj.elim)
    ⟨⟨none, 0, HD1.out, ⟨rfl, .inl ⟨rfl, rfl, rfl⟩⟩, fun a h => by cases h⟩, HBa.out, fun j hj => hj.elim, List.nil_prefix⟩ (HQ.out.below HBa.out)
    (fun x a' Wx => ∃ nb, Wx.heap[nb]? = some (.cells (ruleC x.1 (slV x.2)) 46 (0, 0)) ∧ a' = { tmps := #[.slice none 0 0, .func (.func 40) #[] #[.pointer (some ⟨bq, 0, none⟩)], .pointer (some ⟨b2, 0, none⟩), undef, .slice none 0 0, .pointer (some ⟨nb, 0, none⟩), .func (.func 40) #[] #[.pointer (some ⟨bq, 0, none⟩)], .agg (ruleC x.1 (slV x.2)), undef, undef, undef, undef, undef], defers := [] }) ?ownA ?assign ?body ?done ?stop
  case ownT => exact fun g st S' A C row hq hg hr => hq.own hg (fun r e => (hr r e).2)
  case ownI =>
    rintro ip S' A C row ⟨⟨ao1, cap1, h1, h2, h3⟩, h4, h5, h6⟩ hg hr
    have hbs := h4.size
    have hb2s := HB2.out
    have hne : ∀ j cur e, A.heap[j]? = some (.cells cur e (0, 0)) → row ≠ some j := fun j cur e hj he => by
      obtain ⟨_, o, ho, hc⟩ := hr j he
      rw [hj] at ho
      cases ho
      cases hc
    refine ⟨⟨ao1, cap1, (hg.block _ (Array.getElem?_eq_some_iff.1 h1).1 (fun e => hne _ _ _ h1 e.symm)).trans h1, h2.kept (fun a ha => by
      obtain ⟨cur, hc⟩ := h2.type ha
      exact hg.block _ (h2.lt ha) (fun e => hne _ _ _ hc e.symm)), h3⟩, ⟨hg.os.trans h4.os, hg.tape.trans h4.tape, hg.output.trans h4.output, Nat.le_trans h4.size hg.size, fun j hj => (hg.block j (by omega) (fun e => by have := (hr _ e.symm).1; have := HS1.out; omega)).trans (h4.block j hj)⟩, h5, h6⟩
  case ownX => exact fun c st S' A C row h hg hr => h.elim
  case ownA =>
    rintro x a' st S' A C row ⟨nb, h1, h2⟩ hg hr
    refine ⟨nb, (hg.block _ (Array.getElem?_eq_some_iff.1 h1).1 (fun e => ?_)).trans h1, h2⟩
    obtain ⟨_, o, ho, hc⟩ := hr nb e.symm
    rw [h1] at ho
    cases ho
    cases hc
  case assign =>
    intro l x Wx Kx hle hKx
    dsimp only
    gi_wp2
    exact hKx _ _ ((Below.refl _ _).alloc (Nat.le_refl _) _) ⟨_, heap_alloc_new _ _, rfl⟩
  case body =>
    rintro l g ip x ip' S' a' Wx hl2 ⟨rr, hrr⟩ hSl ⟨⟨ao1, cap1, h1, h2, h3⟩, h4, h5, h6⟩ hTx ⟨rfl, hxn⟩ ⟨nb, hnb, rfl⟩
    have hc := cell_in (j := 0) h1 rfl
    have hf := free_in h1 0
    have hlen : ip.length + 1 ≤ 1000000 := by
      have := hxn.length_le
      simp at this
      omega
    have HP := Lib.hid hxn
    have n0 := cell_in (j := 0) hnb rfl
    have n1 := cell_in (j := 1) hnb rfl
    have n2 := cell_in (j := 2) hnb rfl
    have n3 := cell_in (j := 3) hnb rfl
    have n4 := cell_in (j := 4) hnb rfl
    have n5 := cell_in (j := 5) hnb rfl
    have n6 := cell_in (j := 6) hnb rfl
    have n7 := cell_in (j := 7) hnb rfl
    have n8 := cell_in (j := 8) hnb rfl
    have n9 := cell_in (j := 9) hnb rfl
    have n10 := cell_in (j := 10) hnb rfl
    have n11 := cell_in (j := 11) hnb rfl
    have n12 := cell_in (j := 12) hnb rfl
    have hbl : b2 < Wx.heap.size := (Array.getElem?_eq_some_iff.1 h1).1
    have hra := h2.below ((Below.refl _ Wx).alloc (Nat.le_refl _) (.cells (ruleC x.1 (slV x.2)) 46))
    have H1 := Lib.hid h1
    have H2 := Lib.hid h2
    have H3 := Lib.hid h3
    have H4 := Lib.hid h4
    have H5 := Lib.hid h5
    have HRa := Lib.hid hra
    clear h1 h2 h3 h4 h5 h6 hra hxn hnb
    gi_wp2_with (first
      | (gi_at_builtin; refine wpListIn_append_rowk rfl _ _ 22 rfl 46 i0 z0 13 192 Tryz.underlying22 hi hz0 hz1 hz2 hz3 (by decide) ao1 ip.length cap1 (rvC ip) rfl HRa.out ⟨Wx.heap.size, 0, none⟩ 1 (ruleC x.1 (slV x.2)).toList rfl rfl (news_rv _ _ _) (rv_one x) (by unfold maxLen; omega) (by omega) ?_; intro g' o' cap' w3 hrow3 hg3 hpl3
         have hgb : g' ≠ b2 := fun e => by
           rcases hpl3 with ⟨h, _⟩ | h
           · exact (H3.out _ h).2 e
           · rw [World.size_alloc] at h; omega
         have hv3 : w3.heap[b2]? = some (.cells #[.slice ao1 ip.length cap1] 22 (0, 0)) := (hg3.block b2 (by rw [World.size_alloc]; omega) (fun e => hgb (by injection e with e; exact e.symm))).trans ((Below.heap_alloc _ _ _ hbl).trans H1.out)
         have hc3 := cell_in (j := 0) hv3 rfl
         have hf3 := free_in hv3 0
         skip)
      | gi_in)
    have hg4 : S' g' ∨ Wx.heap.size ≤ g' := by
      rcases hpl3 with ⟨h, _⟩ | h
      · exact .inl (H3.out _ h).1
      · rw [World.size_alloc] at h
        exact .inr (by omega)
    have hg5 : b2 ≤ g' := by
      rcases hg4 with h | h
      · exact H5.out _ h
      · omega
    have hb2s := HB2.out
    have hTu : Turned (bothS S' (fun j => j = b2)) Wx (w3.setCell ⟨b2, 0, none⟩ (.slice (some ⟨g', o', none⟩) (ip.length + 1) cap')) :=
      ((Turned.of_below ((Below.refl Wx.heap.size Wx).alloc (Nat.le_refl _) (.cells (ruleC x.1 (slV x.2)) 46))).trans (Turned.grown hg3 (by
        rcases hpl3 with ⟨h, _⟩ | h
        · exact .inl (.inl (H3.out _ h).1)
        · exact .inr h))).trans (Turned.set (a := ⟨b2, 0, none⟩) (.inr rfl) _)
    have hBe : Below w.heap.size Wx (w3.setCell ⟨b2, 0, none⟩ (.slice (some ⟨g', o', none⟩) (ip.length + 1) cap')) := hTu.below H4.out.size (fun j hj => by
      rcases hj with hj | hj
      · have := H5.out j hj; omega
      · omega)
    have hBf := H4.out.trans hBe
    refine ⟨hTu, fun j => S' j ∨ j = g', ⟨⟨some ⟨g', o', none⟩, cap', ?_, ?_, ?_⟩, hBf, ?_, HP.out⟩, HQ.out.below hBf, ?_⟩
    · rw [List.length_append]
      exact heap_setCell_same w3 b2 0 _ _ _ hv3
    · rw [List.length_append, show rvC (ip ++ [x]) = rvC ip ++ (ruleC x.1 (slV x.2)).toList by simp [rvC]]
      exact hrow3.kept (fun a ha => by cases ha; exact Below.heap_setCell _ _ _ _ hgb)
    · intro a ha
      cases ha
      exact ⟨.inr rfl, hgb⟩
    · intro j hj
      rcases hj with hj | hj
      · exact H5.out j hj
      · omega
    · intro j hj
      rcases hj with hj | hj
      · exact .inl hj
      · rw [hj]; exact hg4
  case done =>
    rintro D ip S' Wx hD hip ⟨⟨ao1, cap1, h1, h2, h3⟩, h4, h5, h6⟩ hTx hSD hK2
    have hc := cell_in (j := 0) h1 rfl
    have hf := free_in h1 0
    have hs1 := HS1.out
    have hb2s := HB2.out
    have hrow : RowK (Wx.putObj D (.deferred none)) 46 13 ao1 ip.length cap1 (rvC ip) := by
      exact h2.kept (fun a ha => World.putObj_heap_other (fun e => by
        obtain ⟨cur, hc⟩ := h2.type ha
        rw [e] at hc
        rw [hK2] at hc
        cases hc))
    have hbel : Below w.heap.size w (Wx.putObj D (.deferred none)) := h4.trans (grown_belowU (grownBy_putObj' _ D (.deferred none)) h4.size (by omega))
    have hlow : ∀ a, ao1 = some a → w.heap.size ≤ a.block := fun a ha => by have := h5 _ (h3 a ha).1; omega
    subst hip
    have HR := Lib.hid hrow
    have HBf := Lib.hid hbel
    have HLo := Lib.hid hlow
    clear h1 h2 h3 h4 h5 h6 hrow hbel hlow hTx hSD hs1 hb2s
    go_wp2
    refine ⟨by simp, .inl ⟨_, _, rfl, run_takeDeferred hK2, ?_⟩⟩
    refine ⟨.slice ao1 ip.length cap1, by simp [results, Tryz.f49, go_sem], ao1, cap1, rfl, HR.out, HLo.out, HBf.out⟩
  case stop =>
    rintro D c Wx hD h hK2
    exact h.elim
end Go.Proofs.YtlkiigoblkfkpaaGreatDoor

