/-
  WHAT THE PROOF STANDS ON, a part of it: CkSafe, CkEach.
-/
import Derived.Test.YtlkiigoblkfkpaaGreatDoorC31
import Derived.Test.YtlkiigoblkfkpaaGreatDoorC25
import Derived.Test.YtlkiigoblkfkpaaGreatDoorC26
import Derived.Test.YtlkiigoblkfkpaaGreatDoorC13
import Derived.Deep.RegionHeldLaw
/-
  CONTRACT OF check.Rule. (Written by tools/gencksafe.py.)
-/

namespace Go.Proofs.YtlkiigoblkfkpaaGreatDoor
open Go.RowKit Go.Shelf
open Utf Term
set_option linter.unusedVariables false
set_option linter.unusedSimpArgs false
attribute [local go_sem] Oper.semAt_some

theorem heldN_snoc (ip : List PxD) (x : PxD) : heldN (ip ++ [x]) = if x.1.2.1 = 1 then heldN ip ++ [x.2.1] else heldN ip := by
  unfold heldN
  rw [List.filter_append, List.map_append]
  by_cases h : x.1.2.1 = 1
  · rw [if_pos h]
    simp [h]
  · rw [if_neg h]
    simp [h]
theorem CkHas.own {W U : World} {b : Nat} {L : List ByteArray} {row : Option Nat} (h : CkHas W b L) (hg : W.grownBy U row) (hn : row ≠ some b) : CkHas U b L := h.keep (hg.block b h.lt (fun e => hn e.symm))
/-- A post that no panic meets. -/
def ckCalm (Q : Exit → Act → World → Prop) : Exit → Act → World → Prop
  | .panic _, _, _ => False
  | .normal, a, w => Q .normal a w
  | .ret, a, w => Q .ret a w
  | .exit i, a, w => Q (.exit i) a w
  | .goto i, a, w => Q (.goto i) a w
  | .outgrown, a, w => Q .outgrown a w
theorem ckCalm_le {Q : Exit → Act → World → Prop} {e : Exit} {a : Act} {w : World} (h : ckCalm Q e a w) : Q e a w := by
  cases e <;> first | exact h | exact h.elim
/-- A name that a rule needs not ask for. -/
def okS (L : List PxD) (x : PxD) : Bool := decide (x.2.1.size = 0) || memB x.2.1 (heldN L)
set_option maxRecDepth 100000 in
set_option maxHeartbeats 16000000 in
theorem ckSafe_any (p : PatD) (s : SlD) (ls : List LitD) (hp : VastP p) (hl : ∀ l ∈ ls, VastL l) (m : Int) (w : World) (hm : HasMax w m) (hv : BodyS w (slV s) ls) :
    Calls Tryz.prog 13 #[.agg (ruleC p (slV s))] w fun e w' => e = .returned (.int .i64 (ruleE (p, ls))) ∧ Below w.heap.size w w' := by
  obtain ⟨⟨a0, a1, a2, a3⟩, ⟨b0, b1, b2, b3⟩, ⟨c0, c1, c2, c3⟩⟩ := p
  obtain ⟨ptr, nl, cap⟩ := s
  have hMay := fun U (h : HasMax U m) (k : BodyS U (slV (ptr, nl, cap)) ls) => ruMay_any ((a0, a1, a2, a3), (b0, b1, b2, b3), (c0, c1, c2, c3)) (slV (ptr, nl, cap)) ls hp hl m U h k
  have d1 := heap_alloc_new w (.cells (#[.string a0, .int .i64 a1, .string a2, .string a3, .string b0, .int .i64 b1, .string b2, .string b3, .string c0, .int .i64 c1, .string c2, .string c3, .slice ptr nl cap]) 46)
  have s1 : (w.alloc (.cells (#[.string a0, .int .i64 a1, .string a2, .string a3, .string b0, .int .i64 b1, .string b2, .string b3, .string c0, .int .i64 c1, .string c2, .string c3, .slice ptr nl cap]) 46)).heap.size = w.heap.size + 1 := World.size_alloc _ _
  have d2 := heap_alloc_new (w.alloc (.cells (#[.string a0, .int .i64 a1, .string a2, .string a3, .string b0, .int .i64 b1, .string b2, .string b3, .string c0, .int .i64 c1, .string c2, .string c3, .slice ptr nl cap]) 46)) (.cells #[.int .i64 0] 27)
  have d1b := (Below.heap_alloc (w.alloc (.cells (#[.string a0, .int .i64 a1, .string a2, .string a3, .string b0, .int .i64 b1, .string b2, .string b3, .string c0, .int .i64 c1, .string c2, .string c3, .slice ptr nl cap]) 46)) (.cells #[.int .i64 0] 27) w.heap.size (by omega)).trans d1
  have hb := ((Below.refl w.heap.size w).alloc (Nat.le_refl _) (.cells (#[.string a0, .int .i64 a1, .string a2, .string a3, .string b0, .int .i64 b1, .string b2, .string b3, .string c0, .int .i64 c1, .string c2, .string c3, .slice ptr nl cap]) 46)).alloc (by omega) (.cells #[.int .i64 0] 27)
  rw [s1] at d2
  obtain ⟨n0, hn0⟩ : ∃ n0, n0 = w.heap.size := ⟨_, rfl⟩
  rw [← hn0] at d1b d2
  obtain ⟨w0, hw0⟩ : ∃ w0, w0 = (w.alloc (.cells (#[.string a0, .int .i64 a1, .string a2, .string a3, .string b0, .int .i64 b1, .string b2, .string b3, .string c0, .int .i64 c1, .string c2, .string c3, .slice ptr nl cap]) 46)).alloc (.cells #[.int .i64 0] 27) := ⟨_, rfl⟩
  have s0 : w0.heap.size = n0 + 2 := by rw [hw0, World.size_alloc, s1, hn0]
  rw [← hw0] at d1b d2 hb
  have HW0 := Lib.hid hw0
  have HN0 := Lib.hid hn0
  have HB0 := Lib.hid hb
  have HD1 := Lib.hid d1b
  have HD2 := Lib.hid d2
  have HS0 := Lib.hid s0
  have HM := Lib.hid (hMay w0 (cell_below hb hm) (hv.below hb))
  have HBody := Lib.hid (hv.below hb)
  clear hMay d1 s1 d2 d1b hb hw0 hn0 s0 hm hv hp hl
  have HX : Hid (∀ U, Below w0.heap.size w0 U → U.cell? ⟨n0, 0, none⟩ = some (.string a0) ∧ U.cell? ⟨n0, 1, none⟩ = some (.int .i64 a1) ∧ U.cell? ⟨n0, 2, none⟩ = some (.string a2) ∧ U.cell? ⟨n0, 3, none⟩ = some (.string a3) ∧ U.cell? ⟨n0, 4, none⟩ = some (.string b0) ∧ U.cell? ⟨n0, 5, none⟩ = some (.int .i64 b1) ∧ U.cell? ⟨n0, 6, none⟩ = some (.string b2) ∧ U.cell? ⟨n0, 7, none⟩ = some (.string b3) ∧ U.cell? ⟨n0, 8, none⟩ = some (.string c0) ∧ U.cell? ⟨n0, 9, none⟩ = some (.int .i64 c1) ∧ U.cell? ⟨n0, 10, none⟩ = some (.string c2) ∧ U.cell? ⟨n0, 11, none⟩ = some (.string c3) ∧ U.cell? ⟨n0, 12, none⟩ = some (.slice ptr nl cap) ∧ U.cell? ⟨n0 + 1, 0, none⟩ = some (.int .i64 0) ∧ U.frozen? ⟨n0 + 1, 0, none⟩ = false) := Lib.hid (fun U hU => by
    have g1 := (hU.block n0 (Array.getElem?_eq_some_iff.1 HD1.out).1).trans HD1.out
    have g2 := (hU.block (n0 + 1) (Array.getElem?_eq_some_iff.1 HD2.out).1).trans HD2.out
    exact ⟨cell_in g1 rfl, cell_in g1 rfl, cell_in g1 rfl, cell_in g1 rfl, cell_in g1 rfl, cell_in g1 rfl, cell_in g1 rfl, cell_in g1 rfl, cell_in g1 rfl, cell_in g1 rfl, cell_in g1 rfl, cell_in g1 rfl, cell_in g1 rfl, cell_in g2 rfl, free_in g2 0⟩)
  obtain ⟨x0, x1, x2, x3, x4, x5, x6, x7, x8, x9, x10, x11, x12, xr, xf⟩ := HX.out w0 (Below.refl _ _)
  cases hB : ruleB (((a0, a1, a2, a3), (b0, b1, b2, b3), (c0, c1, c2, c3)), ls) with
  | false =>
    rw [hB] at HM
    have HR : Hid (ruleE (((a0, a1, a2, a3), (b0, b1, b2, b3), (c0, c1, c2, c3)), ls) = 2) := Lib.hid (by unfold ruleE; rw [hB]; rfl)
    rw [HR.out]
    clear hB
    go_enter Tryz.func13, Tryz.ntmps13
    go_upto_region 1 with fail
    rw [← HW0.out, ← HN0.out]
    go_wp2_with (go_at_call 23; refine HM.out.mono ?_; rintro e w1 ⟨rfl, hb1⟩; obtain ⟨_, _, _, _, _, _, _, _, _, _, _, _, _, zr, zf⟩ := HX.out w1 hb1; replace hb1 := Lib.hid hb1)
    have c1' := World.cell?_setCell_same' w1 ⟨n0 + 1, 0, none⟩ (.int .i64 2) (by rw [zr]; rfl)
    refine bodyPost_ret (v := .int .i64 2) (by simp [results, Tryz.f13, go_sem, c1']) rfl ?_
    exact ⟨rfl, (HB0.out.trans (hb1.out.mono HB0.out.size)).setCell (p := ⟨n0 + 1, 0, none⟩) (show w.heap.size ≤ n0 + 1 by rw [HN0.out]; omega) _⟩
  | true =>
    rw [hB] at HM
    obtain ⟨R, hR⟩ : ∃ R, R = ruleE (((a0, a1, a2, a3), (b0, b1, b2, b3), (c0, c1, c2, c3)), ls) := ⟨_, rfl⟩
    rw [← hR]
    have HR : Hid (R = if isSafe (((a0, a1, a2, a3), (b0, b1, b2, b3), (c0, c1, c2, c3)), ls) = true then 0 else 5) := Lib.hid (by rw [hR]; unfold ruleE; rw [hB]; rfl)
    have HLs : Hid (ls.length ≤ 64) := Lib.hid (by
      unfold ruleB at hB
      rw [Bool.and_eq_true] at hB
      exact of_decide_eq_true hB.1)
    have hmm := @run_makeMap_plain Tryz.prog
    clear hB hR
    refine (callsIn_wide (n := 9)).1 (callsIn_of_wp_marks Tryz.func13 rfl trivial (wpIn_mono (wpIn_wide.2 ?_) (fun e a w h => ckCalm_le (Q := _) h)) rfl)
    simp only [Tryz.ntmps13, List.size_toArray, List.length_cons, List.length_nil, Nat.reduceAdd, Nat.reduceSub, Array.replicate_succ, Array.replicate_zero, List.push_toArray, List.append_toArray, List.nil_append, List.cons_append]
    go_upto_region 1 with fail
    rw [← HW0.out, ← HN0.out]
    go_upto_region 3 with (go_at_call 23; refine HM.out.mono ?_; rintro e w1 ⟨rfl, hb1⟩)
    have dm := heap_alloc_new w1 (.map #[] 0)
    have d3 := heap_alloc_new (w1.alloc (.map #[] 0)) (.cells #[.map (some w1.heap.size)] 57)
    have hb2 := ((Below.refl w1.heap.size w1).alloc (Nat.le_refl _) (.map #[] 0)).alloc (by simp) (.cells #[.map (some w1.heap.size)] 57)
    have hs2 : (w1.alloc (.map #[] 0)).heap.size = w1.heap.size + 1 := World.size_alloc _ _
    have hHas : CkHas ((w1.alloc (.map #[] 0)).alloc (.cells #[.map (some w1.heap.size)] 57)) w1.heap.size [] := (CkHas.new w1 0).keep (Below.heap_alloc _ _ _ (by omega))
    obtain ⟨w2, hw2⟩ : ∃ w2, w2 = (w1.alloc (.map #[] 0)).alloc (.cells #[.map (some w1.heap.size)] 57) := ⟨_, rfl⟩
    obtain ⟨bm, hbm⟩ : ∃ bm, bm = w1.heap.size := ⟨_, rfl⟩
    have hs3 : w2.heap.size = bm + 2 := by rw [hw2, World.size_alloc, hs2, hbm]
    rw [hs2] at d3
    rw [← hw2, ← hbm] at hb2 d3 hHas
    have HW2 := Lib.hid hw2
    have HBM := Lib.hid hbm
    have HS3 := Lib.hid hs3
    have HB1 := Lib.hid hb1
    have HB12 : Hid (Below w0.heap.size w0 w2) := Lib.hid (hb1.trans (hb2.mono (by rw [hbm]; exact hb1.size)))
    have HHas := Lib.hid hHas
    have HD3 := Lib.hid d3
    have HPc := Lib.hid (ckPositions_calls ((a0, a1, a2, a3), (b0, b1, b2, b3), (c0, c1, c2, c3)) (ptr, nl, cap))
    obtain ⟨y0, y1, y2, y3, y4, y5, y6, y7, y8, y9, y10, y11, y12, yr, yf⟩ := HX.out w2 HB12.out
    clear dm d3 hb2 hs2 hHas hw2 hbm hs3 hb1 x0 x1 x2 x3 x4 x5 x6 x7 x8 x9 x10 x11 x12 xr xf
    go_upto_region 4 with fail
    rw [← HW2.out, ← HBM.out]
    go_wp2_with (go_at_call 24; refine (HPc.out _).mono ?_; rintro e w3 ⟨rfl, rfl⟩)
    have hnlb : nl = ls.length ∧ (0 < ls.length → ∃ g o, ptr = some ⟨g, o, none⟩ ∧ RowL w0 g o ls) := by
      obtain ⟨p', c', e, _, hr⟩ := HBody.out.form
      cases e
      exact ⟨rfl, hr⟩
    obtain ⟨b5, hb5⟩ : ∃ b5, b5 = w2.heap.size := ⟨_, rfl⟩
    have d5 := heap_alloc_new w2 (.cells (ruleC ((a0, a1, a2, a3), (b0, b1, b2, b3), (c0, c1, c2, c3)) (slV (ptr, nl, cap))) 46)
    have hb3 := (Below.refl w2.heap.size w2).alloc (Nat.le_refl _) (.cells (ruleC ((a0, a1, a2, a3), (b0, b1, b2, b3), (c0, c1, c2, c3)) (slV (ptr, nl, cap))) 46)
    have hs5 : (w2.alloc (.cells (ruleC ((a0, a1, a2, a3), (b0, b1, b2, b3), (c0, c1, c2, c3)) (slV (ptr, nl, cap))) 46)).heap.size = b5 + 1 := by rw [World.size_alloc, hb5]
    obtain ⟨w3, hw3⟩ : ∃ w3, w3 = w2.alloc (.cells (ruleC ((a0, a1, a2, a3), (b0, b1, b2, b3), (c0, c1, c2, c3)) (slV (ptr, nl, cap))) 46) := ⟨_, rfl⟩
    rw [← hw3] at d5 hb3 hs5 ⊢
    rw [← hb5] at d5 hb3 ⊢
    have HB03 : Hid (Below w0.heap.size w0 w3) := Lib.hid (HB12.out.trans (hb3.mono (by have := HB12.out.size; omega)))
    have HSz : Hid (w0.heap.size ≤ bm ∧ bm + 2 = b5 ∧ b5 + 1 = w3.heap.size ∧ n0 + 2 = w0.heap.size) := Lib.hid (by have := HS3.out; have := HB1.out.size; have := HBM.out; have := HS0.out; omega)
    have HQT : Hid (∀ U, Turned (fun j => j = bm) w3 U → PosQ b5 ((a0, a1, a2, a3), (b0, b1, b2, b3), (c0, c1, c2, c3)) (ptr, nl, cap) ls U) := Lib.hid (fun U hU => by
      refine ⟨(hU.block b5 (by have := HSz.out; omega) (fun e => by have := HSz.out; omega)).trans d5, hnlb.1, fun h0 => ?_⟩
      obtain ⟨g, o, e, r⟩ := hnlb.2 h0
      refine ⟨g, o, e, fun j u hu => ?_⟩
      have hg := World.block_lt_of_cell? _ _ (r j u hu)
      exact hU.cell (a := ⟨g, o + j, none⟩) (fun e => by have := HSz.out; have e : g = bm := e; have hg : g < w0.heap.size := hg; omega) ((HB03.out.cell (p := ⟨g, o + j, none⟩) hg).trans (r j u hu)))
    have HXT : Hid (∀ U, Turned (fun j => j = bm) w3 U → Below w0.heap.size w0 U ∧ U.cell? ⟨bm + 1, 0, none⟩ = some (.map (some bm))) := Lib.hid (fun U hU => by
      refine ⟨HB03.out.trans (hU.below HB03.out.size (fun j hj => by rw [hj]; exact HSz.out.1)), ?_⟩
      refine hU.cell (a := ⟨bm + 1, 0, none⟩) (fun e => by have e : bm + 1 = bm := e; omega) ?_
      exact (hb3.cell (p := ⟨bm + 1, 0, none⟩) (by have := HSz.out; show bm + 1 < b5; omega)).trans (cell_in HD3.out rfl))
    have HHas3 : Hid (CkHas w3 bm (heldN [])) := Lib.hid (HHas.out.keep (hb3.block bm (by have := HSz.out; omega)))
    have hsq := ckPositions_seq (9 - 1) (by omega) b5 ((a0, a1, a2, a3), (b0, b1, b2, b3), (c0, c1, c2, c3)) (ptr, nl, cap) ls (by have := HLs.out; omega) (fun _ => False) (fun j => j = bm) w3 (fun j hj => by have := HSz.out; omega)
    have HSq := Lib.hid hsq
    clear d5 hb3 hs5 hw3 hb5 hnlb hsq y0 y1 y2 y3 y4 y5 y6 y7 y8 y9 y10 y11 y12 yr yf
    refine (wpIn_wide (n := 9)).1 ?_
    refine wpIn_rangeT (F := Fence.wide) (n := 9) rfl (by omega) (gf := 36) (lb := #[.pointer (some ⟨b5, 0, none⟩)]) rfl trivial (enters_of Tryz.func36 (by kernel_rfl) rfl) HSq.out (Below.refl _ _) (fun _ => rfl) ?ownT
      (fun ip S' Wx => Turned (fun j => j = bm) w3 Wx ∧ CkHas Wx bm (heldN ip)) ?ownI (fun _ _ => False) ?ownX (fun j hj => by have := HSz.out; omega) (fun j hj => hj.elim) ⟨Turned.refl, HHas3.out⟩ ⟨fun j h => h, HQT.out _ Turned.refl⟩
      (fun x a' Wx => ∃ nb1 nb2, Wx.heap[nb1]? = some (.cells #[.bool x.1.1, .int .i64 x.1.2.1, .int .i64 (x.1.2.2 : Int)] 62 (0, 0)) ∧ Wx.heap[nb2]? = some (.cells (slotC x.2) 37 (0, 0)) ∧ a' = { tmps := #[.agg (ruleC ((a0, a1, a2, a3), (b0, b1, b2, b3), (c0, c1, c2, c3)) (slV (ptr, nl, cap))), .pointer (some ⟨n0, 0, none⟩), .pointer (some ⟨n0 + 1, 0, none⟩), .pointer (some ⟨bm + 1, 0, none⟩), .pointer (some ⟨nb1, 0, none⟩), .pointer (some ⟨nb2, 0, none⟩), undef, undef, undef, undef, .agg #[.string a0, .int .i64 a1, .string a2, .string a3, .string b0, .int .i64 b1, .string b2, .string b3, .string c0, .int .i64 c1, .string c2, .string c3, .slice ptr nl cap], .bool true, .bool false, .map (some bm), .agg #[.string a0, .int .i64 a1, .string a2, .string a3, .string b0, .int .i64 b1, .string b2, .string b3, .string c0, .int .i64 c1, .string c2, .string c3, .slice ptr nl cap], .func (.func 36) #[] #[.pointer (some ⟨b5, 0, none⟩)], posV x.1, .agg (slotC x.2), undef, undef, undef, undef, undef, undef, undef, undef, undef, undef, undef, undef, undef, undef, undef, undef, undef, undef, undef, undef, undef, undef, undef, undef, undef], defers := [] }) ?ownA ?assign ?body ?done ?stop
    case ownT => exact fun g st S' A C row hq hg hr => ⟨hq.1, hq.2.own hg (fun r e => (hr r e).2)⟩
    case ownI =>
      rintro ip S' A C row ⟨h1, h2⟩ hg hr
      have hsz := HSz.out
      exact ⟨⟨hg.os.trans h1.os, hg.tape.trans h1.tape, hg.output.trans h1.output, Nat.le_trans h1.size hg.size, fun j hj hn => (hg.block j (by have := h1.size; omega) (fun e => by have := (hr _ e.symm).1; omega)).trans (h1.block j hj hn)⟩, h2.own hg (fun e => by have := (hr _ e).1; omega)⟩
    case ownX => exact fun c st S' A C row h hg hr => h.elim
    case ownA =>
      rintro x a' st S' A C row ⟨nb1, nb2, h1, h2, h3⟩ hg hr
      have hne : ∀ (b : Nat) (cs : Array Value) (t : TypeId), A.heap[b]? = some (.cells cs t (0, 0)) → C.heap[b]? = some (.cells cs t (0, 0)) := fun b cs t h => (hg.block b (Array.getElem?_eq_some_iff.1 h).1 (fun e => by
        obtain ⟨_, o, ho, hc⟩ := hr b e.symm
        rw [h] at ho
        cases ho
        cases hc)).trans h
      exact ⟨nb1, nb2, hne _ _ _ h1, hne _ _ _ h2, h3⟩
    case assign =>
      intro l x Wx Kx hle hKx
      dsimp only
      gi_wp2
      refine hKx _ _ (((Below.refl _ _).alloc (Nat.le_refl _) _).alloc (by simp) _) ⟨Wx.heap.size, Wx.heap.size + 1, ?_, ?_, ?_⟩
      · exact (Below.heap_alloc _ _ _ (by simp)).trans (heap_alloc_new _ _)
      · have h8 := heap_alloc_new (Wx.alloc (.cells #[.bool x.1.1, .int .i64 x.1.2.1, .int .i64 (x.1.2.2 : Int)] 62)) (.cells (slotC x.2) 37)
        rw [World.size_alloc] at h8
        exact h8
      · simp
    case body =>
      rintro l g ip x ip' S' a' Wx hl2 ⟨rr, hrr⟩ hSl ⟨h1, h2⟩ ⟨hS0, hPq⟩ ⟨rfl, hpre⟩ ⟨nb1, nb2, hn1, hn2, rfl⟩
      have z1 := cell_in (j := 1) hn1 rfl
      have z0 := cell_in (j := 0) hn2 rfl
      have zm := (HXT.out Wx h1).2
      have H1 := Lib.hid h1
      have HS0' := Lib.hid hS0
      by_cases hk : x.1.2.1 = 1
      · have e1 : (x.1.2.1 == 1) = true := by simp [hk]
        obtain ⟨ob, hup, hhas⟩ := h2.put x.2.1
        have HHn : Hid (CkHas { Wx with heap := Wx.heap.setIfInBounds bm ob } bm (heldN (ip ++ [x]))) := Lib.hid (by rw [heldN_snoc, if_pos hk]; exact hhas)
        have hTu : Turned (fun j => j = bm) Wx { Wx with heap := Wx.heap.setIfInBounds bm ob } := ⟨rfl, rfl, rfl, by simp, fun k hk hn => by
          show (Wx.heap.setIfInBounds bm ob)[k]? = _
          rw [Array.getElem?_setIfInBounds, if_neg (fun e => hn e.symm)]⟩
        have HTu := Lib.hid hTu
        clear h1 h2 hS0 hPq hpre hn1 hn2 hhas hTu hk hrr hSl
        gi_wp2
        exact ⟨HTu.out.mono (fun j hj => .inr hj), S', ⟨H1.out.trans HTu.out, HHn.out⟩, ⟨HS0'.out, HQT.out _ (H1.out.trans HTu.out)⟩, fun j hj => .inl hj⟩
      · have e1 : (x.1.2.1 == 1) = false := by simp [hk]
        have HHn : Hid (CkHas Wx bm (heldN (ip ++ [x]))) := Lib.hid (by rw [heldN_snoc, if_neg hk]; exact h2)
        clear h1 h2 hS0 hPq hpre hn1 hn2 hk hrr hSl
        gi_wp2
        exact ⟨Turned.refl, S', ⟨H1.out, HHn.out⟩, ⟨HS0'.out, HQT.out _ H1.out⟩, fun j hj => .inl hj⟩
    case done =>
      rintro D ip S' Wx hD hip ⟨h1, h2⟩ hTx hSD hK2
      subst hip
      obtain ⟨PL, hPL⟩ : ∃ PL, PL = posL (((a0, a1, a2, a3), (b0, b1, b2, b3), (c0, c1, c2, c3)), ls) := ⟨_, rfl⟩
      have HIs : Hid (isSafe (((a0, a1, a2, a3), (b0, b1, b2, b3), (c0, c1, c2, c3)), ls) = PL.all (okS PL)) := Lib.hid (by rw [hPL]; rfl)
      rw [← hPL] at h2
      obtain ⟨hbx, zm⟩ := HXT.out Wx h1
      obtain ⟨y0, y1, y2, y3, y4, y5, y6, y7, y8, y9, y10, y11, y12, yr, yf⟩ := HX.out Wx hbx
      have HHs := Lib.hid h2
      have HBx := Lib.hid hbx
      have HPq := Lib.hid hTx.2
      have HK2 := Lib.hid hK2
      have HZm := Lib.hid zm
      have HWx3 : Hid (w3.heap.size ≤ Wx.heap.size) := Lib.hid h1.size
      have HD := Lib.hid hD
      have HPLe := Lib.hid hPL
      clear h1 h2 hTx hSD hK2 hbx hPL hD
      go_wp2_with (go_at_call 24; refine (HPc.out _).mono ?_; rintro e w6 ⟨rfl, rfl⟩)
      have d7 := heap_alloc_new Wx (.cells (ruleC ((a0, a1, a2, a3), (b0, b1, b2, b3), (c0, c1, c2, c3)) (slV (ptr, nl, cap))) 46)
      have hb7 := (Below.refl Wx.heap.size Wx).alloc (Nat.le_refl _) (.cells (ruleC ((a0, a1, a2, a3), (b0, b1, b2, b3), (c0, c1, c2, c3)) (slV (ptr, nl, cap))) 46)
      obtain ⟨b7, hb7e⟩ : ∃ b7, b7 = Wx.heap.size := ⟨_, rfl⟩
      have hs7 : (Wx.alloc (.cells (ruleC ((a0, a1, a2, a3), (b0, b1, b2, b3), (c0, c1, c2, c3)) (slV (ptr, nl, cap))) 46)).heap.size = b7 + 1 := by rw [World.size_alloc, hb7e]
      obtain ⟨w7, hw7⟩ : ∃ w7, w7 = Wx.alloc (.cells (ruleC ((a0, a1, a2, a3), (b0, b1, b2, b3), (c0, c1, c2, c3)) (slV (ptr, nl, cap))) 46) := ⟨_, rfl⟩
      rw [← hw7] at d7 hb7 hs7 ⊢
      rw [← hb7e] at d7 hb7 ⊢
      have HB7 : Hid (Below w0.heap.size w0 w7) := Lib.hid (HBx.out.trans (hb7.mono (by have := HBx.out.size; omega)))
      have HSz7 : Hid (b7 + 1 = w7.heap.size ∧ w3.heap.size ≤ b7) := Lib.hid ⟨hs7.symm, by have := HWx3.out; omega⟩
      have HQ7 : Hid (PosQ b7 ((a0, a1, a2, a3), (b0, b1, b2, b3), (c0, c1, c2, c3)) (ptr, nl, cap) ls w7) := Lib.hid ⟨d7, HPq.out.2.1, fun h0 => by
        obtain ⟨g, o, e, r⟩ := HPq.out.2.2 h0
        exact ⟨g, o, e, r.below (by rw [hb7e] at hb7; exact hb7)⟩⟩
      have HHs7 : Hid (CkHas w7 bm (heldN PL)) := Lib.hid (HHs.out.keep (hb7.block bm (by have := HSz.out; have := HWx3.out; omega)))
      have HZm7 : Hid (w7.cell? ⟨bm + 1, 0, none⟩ = some (.map (some bm))) := Lib.hid ((hb7.cell (p := ⟨bm + 1, 0, none⟩) (by have := HSz.out; have := HWx3.out; show bm + 1 < b7; omega)).trans HZm.out)
      have HDl : Hid (D < b7 ∧ w3.heap.size ≤ D) := Lib.hid ⟨by rw [hb7e]; exact (Array.getElem?_eq_some_iff.1 HK2.out).1, HD.out⟩
      have HDk : Hid (w7.heap[D]? = some (.deferred (some []))) := Lib.hid ((hb7.block D HDl.out.1).trans HK2.out)
      have hsq2 := ckPositions_seq (9 - 1) (by omega) b7 ((a0, a1, a2, a3), (b0, b1, b2, b3), (c0, c1, c2, c3)) (ptr, nl, cap) ls (by have := HLs.out; omega) (fun _ => False) (fun j => j = n0 + 1) w7 (fun j hj => by have := HSz.out; have := HSz7.out; omega)
      rw [← HPLe.out] at hsq2
      have HSq2 := Lib.hid hsq2
      clear d7 hb7 hs7 hw7 hb7e hsq2 y0 y1 y2 y3 y4 y5 y6 y7 y8 y9 y10 y11 y12 yr yf zm
      refine (wpIn_wide (n := 9)).1 ?_
      refine wpIn_rangeT (F := Fence.wide) (n := 9) rfl (by omega) (gf := 36) (lb := #[.pointer (some ⟨b7, 0, none⟩)]) rfl trivial (enters_of Tryz.func36 (by kernel_rfl) rfl) HSq2.out (Below.refl _ _) (fun _ => rfl) ?ownT
        (fun ip S' Wx => Below w7.heap.size w7 Wx ∧ ∀ x ∈ ip, okS PL x = true) ?ownI (fun c Wx => c = .ret ∧ PL.all (okS PL) = false ∧ Below w.heap.size w Wx ∧ Wx.heap[n0 + 1]? = some (.cells #[.int .i64 5] 27 (0, 0)) ∧ Wx.heap[D]? = some (.deferred (some []))) ?ownX (fun j hj => by have := HSz.out; have := HSz7.out; omega) (fun j hj => hj.elim) ⟨Below.refl _ _, fun x hx => by cases hx⟩ ⟨fun j h => h, HQ7.out⟩
        (fun x a' Wx => ∃ nb2, Wx.heap[nb2]? = some (.cells (slotC x.2) 37 (0, 0)) ∧ a' = { tmps := #[.agg (ruleC ((a0, a1, a2, a3), (b0, b1, b2, b3), (c0, c1, c2, c3)) (slV (ptr, nl, cap))), .pointer (some ⟨n0, 0, none⟩), .pointer (some ⟨n0 + 1, 0, none⟩), .pointer (some ⟨bm + 1, 0, none⟩), undef, undef, undef, .pointer (some ⟨nb2, 0, none⟩), undef, undef, .agg #[.string a0, .int .i64 a1, .string a2, .string a3, .string b0, .int .i64 b1, .string b2, .string b3, .string c0, .int .i64 c1, .string c2, .string c3, .slice ptr nl cap], .bool true, .bool false, .map (some bm), .agg #[.string a0, .int .i64 a1, .string a2, .string a3, .string b0, .int .i64 b1, .string b2, .string b3, .string c0, .int .i64 c1, .string c2, .string c3, .slice ptr nl cap], .func (.func 36) #[] #[.pointer (some ⟨b5, 0, none⟩)], undef, undef, undef, undef, undef, undef, undef, undef, undef, .agg #[.string a0, .int .i64 a1, .string a2, .string a3, .string b0, .int .i64 b1, .string b2, .string b3, .string c0, .int .i64 c1, .string c2, .string c3, .slice ptr nl cap], .func (.func 36) #[] #[.pointer (some ⟨b7, 0, none⟩)], posV x.1, .agg (slotC x.2), undef, undef, undef, undef, undef, undef, undef, undef, undef, undef, undef, undef, undef, undef], defers := [] }) ?ownA2 ?assign2 ?body2 ?done2 ?stop2
      case ownT => exact fun g st S' A C row hq hg hr => ⟨hq.1, hq.2.own hg (fun r e => (hr r e).2)⟩
      case ownI =>
        rintro ip S' A C row ⟨h1, h2⟩ hg hr
        exact ⟨⟨hg.os.trans h1.os, hg.tape.trans h1.tape, hg.output.trans h1.output, Nat.le_trans h1.size hg.size, fun j hj => (hg.block j (by have := h1.size; omega) (fun e => by have := (hr _ e.symm).1; omega)).trans (h1.block j hj)⟩, h2⟩
      case ownX =>
        rintro c st S' A C row ⟨rfl, h2, h3, h4, h5⟩ hg hr
        have hz := HSz7.out
        have hz2 := HDl.out
        have hz3 := HB7.out.size
        have hz4 := HB0.out.size
        refine ⟨rfl, h2, ⟨hg.os.trans h3.os, hg.tape.trans h3.tape, hg.output.trans h3.output, Nat.le_trans h3.size hg.size, fun j hj => (hg.block j (by have := h3.size; omega) (fun e => by have := (hr _ e.symm).1; omega)).trans (h3.block j hj)⟩, (hg.block _ (Array.getElem?_eq_some_iff.1 h4).1 (fun e => by have := (hr _ e.symm).1; have := HSz.out; omega)).trans h4, (hg.block _ (Array.getElem?_eq_some_iff.1 h5).1 (fun e => by have := (hr _ e.symm).1; omega)).trans h5⟩
      case ownA2 =>
        rintro x a' st S' A C row ⟨nb2, h1, h3⟩ hg hr
        refine ⟨nb2, (hg.block nb2 (Array.getElem?_eq_some_iff.1 h1).1 (fun e => ?_)).trans h1, h3⟩
        obtain ⟨_, o, ho, hc⟩ := hr nb2 e.symm
        rw [h1] at ho
        cases ho
        cases hc
      case assign2 =>
        intro l x Wx Kx hle hKx
        dsimp only
        gi_wp2
        exact hKx _ _ ((Below.refl _ _).alloc (Nat.le_refl _) _) ⟨Wx.heap.size, heap_alloc_new _ _, by simp⟩
      case body2 =>
        rintro l g ip x ip' S' a' Wx hl2 ⟨rr, hrr⟩ hSl ⟨h1, h2⟩ ⟨hS0, hPq⟩ ⟨rfl, hpre⟩ ⟨nb2, hn2, rfl⟩
        have hmem : x ∈ PL := hpre.subset (by simp)
        obtain ⟨⟨xh, xk, xp⟩, ⟨v0, v1, v2, v3⟩⟩ := x
        have z0 := cell_in (j := 0) hn2 rfl
        have zm : Wx.cell? ⟨bm + 1, 0, none⟩ = some (.map (some bm)) := (h1.cell (p := ⟨bm + 1, 0, none⟩) (by have := HSz.out; have := HSz7.out; show bm + 1 < w7.heap.size; omega)).trans HZm7.out
        have hlk := (HHs7.out.keep (h1.block bm (by have := HSz.out; have := HSz7.out; omega))).look v0
        have hbw : Below w0.heap.size w0 Wx := HB7.out.trans (h1.mono HB7.out.size)
        obtain ⟨_, _, _, _, _, _, _, _, _, _, _, _, _, zr, zf⟩ := HX.out Wx hbw
        have hrb := (hbw.block (n0 + 1) (by have := HSz.out; omega)).trans HD2.out
        have H1 := Lib.hid h1
        have HS0' := Lib.hid hS0
        have HAll := Lib.hid h2
        have HMem := Lib.hid hmem
        have HBw := Lib.hid hbw
        have HRb := Lib.hid hrb
        have HPq2 := Lib.hid hPq
        have HLw := Lib.hid hl2
        have z0a : ∀ o, (Wx.alloc o).cell? ⟨nb2, 0, none⟩ = some (.string v0) := fun o => cell_in ((Below.heap_alloc Wx o nb2 (Array.getElem?_eq_some_iff.1 hn2).1).trans hn2) rfl
        have zra : ∀ o, (Wx.alloc o).cell? ⟨n0 + 1, 0, none⟩ = some (.int .i64 0) := fun o => cell_in ((Below.heap_alloc Wx o (n0 + 1) (Array.getElem?_eq_some_iff.1 hrb).1).trans hrb) rfl
        have zfa : ∀ o, (Wx.alloc o).frozen? ⟨n0 + 1, 0, none⟩ = false := fun o => free_in ((Below.heap_alloc Wx o (n0 + 1) (Array.getElem?_eq_some_iff.1 hrb).1).trans hrb) 0
        dsimp only at z0
        clear h1 h2 hS0 hPq hpre hn2 hrr hSl hmem hbw hrb hl2
        cases hmb : memB v0 (heldN PL) with
        | true =>
          rw [hmb] at hlk
          have HOk : Hid (okS PL ((xh, xk, xp), (v0, v1, v2, v3)) = true) := Lib.hid (by unfold okS; rw [hmb, Bool.or_true])
          clear hmb
          gi_wp2
          refine ⟨Turned.of_below ((Below.refl Wx.heap.size Wx).alloc (Nat.le_refl _) _), S', ⟨H1.out.trans (((Below.refl Wx.heap.size Wx).alloc (Nat.le_refl _) _).mono H1.out.size), fun x hx => ?_⟩, ⟨HS0'.out, HPq2.out.below ((Below.refl Wx.heap.size Wx).alloc (Nat.le_refl _) _)⟩, fun j hj => .inl hj⟩
          rcases List.mem_append.1 hx with h | h
          · exact HAll.out x h
          · rw [List.mem_singleton] at h
            rw [h]
            exact HOk.out
        | false =>
          rw [hmb] at hlk
          by_cases h0 : v0.size = 0
          · have HOk : Hid (okS PL ((xh, xk, xp), (v0, v1, v2, v3)) = true) := Lib.hid (by unfold okS; rw [decide_eq_true h0, Bool.true_or])
            obtain rfl := empty_size h0
            clear hmb h0
            gi_wp2
            refine ⟨Turned.of_below ((Below.refl Wx.heap.size Wx).alloc (Nat.le_refl _) _), S', ⟨H1.out.trans (((Below.refl Wx.heap.size Wx).alloc (Nat.le_refl _) _).mono H1.out.size), fun x hx => ?_⟩, ⟨HS0'.out, HPq2.out.below ((Below.refl Wx.heap.size Wx).alloc (Nat.le_refl _) _)⟩, fun j hj => .inl hj⟩
            rcases List.mem_append.1 hx with h | h
            · exact HAll.out x h
            · rw [List.mem_singleton] at h
              rw [h]
              exact HOk.out
          · have hne := string_neq_empty h0
            have HBad : Hid (PL.all (okS PL) = false) := Lib.hid (List.all_eq_false.2 ⟨_, HMem.out, by unfold okS; rw [hmb, decide_eq_false h0]; simp⟩)
            clear hmb h0
            gi_wp2
            have hba := (Below.refl Wx.heap.size Wx).alloc (Nat.le_refl _) (.cells #[] 63)
            have hz := HSz.out
            have hz7 := HSz7.out
            have hzd := HDl.out
            have hn := HN0.out
            refine ⟨((Turned.of_below hba).trans (Turned.set (a := ⟨n0 + 1, 0, none⟩) (.inr rfl) _)).x, rfl, HBad.out, ?_, ?_, ?_⟩
            · have h8 := HB0.out.trans (HBw.out.mono HB0.out.size)
              exact (h8.trans (hba.mono h8.size)).setCell (p := ⟨n0 + 1, 0, none⟩) (show w.heap.size ≤ n0 + 1 by omega) _
            · exact heap_setCell_same _ (n0 + 1) 0 _ _ _ ((hba.block (n0 + 1) (Array.getElem?_eq_some_iff.1 HRb.out).1).trans HRb.out)
            · have h9 := (H1.out.block D (by omega)).trans HDk.out
              exact (Below.heap_setCell _ _ _ _ (show D ≠ n0 + 1 by omega)).trans ((hba.block D (Array.getElem?_eq_some_iff.1 h9).1).trans h9)
      case done2 =>
        rintro D2 ip S' Wx hD2 hip ⟨h1, h2⟩ hTx hSD hK3
        subst hip
        have HSf : Hid (isSafe (((a0, a1, a2, a3), (b0, b1, b2, b3), (c0, c1, c2, c3)), ls) = true) := Lib.hid (by
          rw [HIs.out, List.all_eq_true]
          exact h2)
        have hbw : Below w0.heap.size w0 Wx := HB7.out.trans (h1.mono HB7.out.size)
        obtain ⟨_, _, _, _, _, _, _, _, _, _, _, _, _, zr, zf⟩ := HX.out Wx hbw
        have hz := HSz.out
        have hz7 := HSz7.out
        have hzd := HDl.out
        have hn := HN0.out
        have kD := (h1.block D (by omega)).trans HDk.out
        have kD2 : (Wx.setCell ⟨n0 + 1, 0, none⟩ (.int .i64 0)).heap[D2]? = some (.deferred (some [])) := (Below.heap_setCell _ _ _ _ (show D2 ≠ n0 + 1 by omega)).trans hK3
        have kD1 : ((Wx.setCell ⟨n0 + 1, 0, none⟩ (.int .i64 0)).putObj D2 (.deferred none)).heap[D]? = some (.deferred (some [])) := (World.putObj_heap_other (show D ≠ D2 by omega)).trans ((Below.heap_setCell _ _ _ _ (show D ≠ n0 + 1 by omega)).trans kD)
        have q0 := World.cell?_setCell_same' Wx ⟨n0 + 1, 0, none⟩ (.int .i64 0) (by rw [zr]; rfl)
        have q1 := cell_kept q0 (grownBy_putObj' _ D2 (.deferred none)) (fun r e => by cases e; exact ⟨_, kD2, rfl⟩)
        have q2 := cell_kept q1 (grownBy_putObj' _ D (.deferred none)) (fun r e => by cases e; exact ⟨_, kD1, rfl⟩)
        have hbe : Below w.heap.size w (((Wx.setCell ⟨n0 + 1, 0, none⟩ (.int .i64 0)).putObj D2 (.deferred none)).putObj D (.deferred none)) := by
          have h8 := HB0.out.trans (hbw.mono HB0.out.size)
          have h9 := h8.setCell (p := ⟨n0 + 1, 0, none⟩) (show w.heap.size ≤ n0 + 1 by omega) (.int .i64 0)
          have hs := h9.size
          have h0s := HB0.out.size
          exact (h9.trans (grown_belowU (grownBy_putObj' _ D2 (.deferred none)) hs (by omega))).trans (grown_belowU (grownBy_putObj' _ D (.deferred none)) (by simpa using hs) (by omega))
        have HEe := Lib.hid (And.intro kD2 (And.intro kD1 (And.intro q2 hbe)))
        clear h1 h2 hTx hSD hK3 hbw hz hz7 hzd hn kD kD2 kD1 q0 q1 q2 hbe hD2
        go_wp2
        refine ⟨by simp, .inl ⟨_, _, rfl, run_takeDeferred HEe.out.1, ?_⟩⟩
        refine ⟨by simp, .inl ⟨_, _, rfl, run_takeDeferred HEe.out.2.1, ?_⟩⟩
        refine ⟨.int .i64 0, ?_, by rw [HR.out, HSf.out] <;> rfl, HEe.out.2.2.2⟩
        have hc5 := HEe.out.2.2.1
        simp [results, Tryz.f13, go_sem, hc5]
      case stop2 =>
        rintro D2 c Wx hD2 ⟨rfl, h2, h3, h4, h5⟩ hK3
        have HSf : Hid (isSafe (((a0, a1, a2, a3), (b0, b1, b2, b3), (c0, c1, c2, c3)), ls) = false) := Lib.hid (by rw [HIs.out, h2])
        have hz := HSz.out
        have hz7 := HSz7.out
        have hzd := HDl.out
        have hn := HN0.out
        have zr := cell_in (j := 0) h4 rfl
        have kD1 : (Wx.putObj D2 (.deferred none)).heap[D]? = some (.deferred (some [])) := (World.putObj_heap_other (show D ≠ D2 by omega)).trans h5
        have q1 := cell_kept zr (grownBy_putObj' _ D2 (.deferred none)) (fun r e => by cases e; exact ⟨_, hK3, rfl⟩)
        have q2 := cell_kept q1 (grownBy_putObj' _ D (.deferred none)) (fun r e => by cases e; exact ⟨_, kD1, rfl⟩)
        have hbe : Below w.heap.size w ((Wx.putObj D2 (.deferred none)).putObj D (.deferred none)) := by
          have hs := h3.size
          have h0s := HB0.out.size
          exact (h3.trans (grown_belowU (grownBy_putObj' _ D2 (.deferred none)) hs (by omega))).trans (grown_belowU (grownBy_putObj' _ D (.deferred none)) (by simpa using hs) (by omega))
        have HEe := Lib.hid (And.intro hK3 (And.intro kD1 (And.intro q2 hbe)))
        clear h2 h3 h4 h5 hK3 hz hz7 hzd hn kD1 q1 q2 hbe hD2 zr
        refine wpIn_ret ?_
        go_wp2
        refine ⟨by simp, .inl ⟨_, _, rfl, run_takeDeferred HEe.out.1, ?_⟩⟩
        refine ⟨by simp, .inl ⟨_, _, rfl, run_takeDeferred HEe.out.2.1, ?_⟩⟩
        refine ⟨.int .i64 5, ?_, by rw [HR.out, HSf.out] <;> rfl, HEe.out.2.2.2⟩
        have hc5 := HEe.out.2.2.1
        simp [results, Tryz.f13, go_sem, hc5]
    case stop =>
      rintro D c Wx hD h hK2
      exact h.elim
end Go.Proofs.YtlkiigoblkfkpaaGreatDoor

/-
  CONTRACTS OF eachSafe, Negates.
-/

namespace Go.Proofs.YtlkiigoblkfkpaaGreatDoor
open Go.RowKit
open Utf Term
set_option linter.unusedVariables false
set_option linter.unusedSimpArgs false

set_option maxRecDepth 100000 in
set_option maxHeartbeats 8000000 in
theorem ckEach_any {w : World} {v : Value} {rs : List RuleD} (hv : SliceRu w v rs) (hf : ∀ r ∈ rs, VastR r) (m : Int) (hm : HasMax w m) (hl : rs.length ≤ 1000000000) :
    Calls Tryz.prog 14 #[v] w fun e w' => e = .returned (.int .i64 (firstE rs)) ∧ Below w.heap.size w w' := by
  obtain ⟨ptr, cap, rfl, _, hp⟩ := hv.form
  have HP : Hid (∀ U, Below w.heap.size w U → 0 < rs.length → ∃ g o, ptr = some ⟨g, o, none⟩ ∧ RowRu U g o rs) := Lib.hid (fun U hU h => by
    obtain ⟨g, o, e, r⟩ := hp h
    exact ⟨g, o, e, r.below hU⟩)
  have HCall : Hid (∀ (r : RuleD) (k : Nat) (s : SlD) (U : World), rs[k]? = some r → Below w.heap.size w U → BodyS U (slV s) r.2 → Calls Tryz.prog 13 #[.agg (ruleC r.1 (slV s))] U fun e w' => e = .returned (.int .i64 (ruleE r)) ∧ Below U.heap.size U w') := Lib.hid (fun r k s U hk hU hB => ckSafe_any r.1 s r.2 (hf r (List.mem_of_getElem? hk)).1 (hf r (List.mem_of_getElem? hk)).2 m U (cell_below hU hm) hB)
  have HEx : Hid (∀ k, k < rs.length → ∃ r, rs[k]? = some r) := Lib.hid (fun k h => ⟨_, List.getElem?_eq_getElem h⟩)
  have HT : Hid (∀ k r, rs[k]? = some r → firstE (rs.take k) = 0 → firstE (rs.take (k + 1)) = ruleE r) := Lib.hid (fun k r h h0 => firstE_take h h0)
  have HOf : Hid (∀ k, firstE (rs.take k) ≠ 0 → firstE rs = firstE (rs.take k)) := Lib.hid (fun k h => firstE_of h)
  have HAll : Hid (firstE (rs.take rs.length) = firstE rs) := Lib.hid (by rw [List.take_length])
  obtain ⟨n, hn⟩ : ∃ n, n = rs.length := ⟨_, rfl⟩
  obtain ⟨R, hR⟩ : ∃ R, R = firstE rs := ⟨_, rfl⟩
  rw [← hR] at HOf HAll ⊢
  rw [← hn] at HP HEx HAll hl ⊢
  have HN := Lib.hid hn
  clear hv hf hm hp hn hR
  go_enter Tryz.func14, Tryz.ntmps14
  go_wp2
  go_loopg [8] n (fun gg i wr => ∃ k : Nat, k ≤ n ∧ n - k ≤ gg ∧ i = .int .i64 (k : Int) ∧ firstE (rs.take k) = 0 ∧ Below w.heap.size w wr)
  case atStart => exact ⟨0, Nat.zero_le _, by omega, rfl, rfl, Below.refl _ _⟩
  case round =>
    obtain ⟨k, hk, hg, rfl, h0, hbe⟩ := hrel
    have HBe := Lib.hid hbe
    have H0 := Lib.hid h0
    clear h0 hbe
    by_cases hlt : k < n
    · obtain ⟨r, hr⟩ := HEx.out k hlt
      obtain ⟨g, o, rfl, hrow⟩ := HP.out wr HBe.out (by omega)
      obtain ⟨vv, hat, hbody⟩ := hrow k r hr
      obtain ⟨pb, cb, rfl, _, _⟩ := hbody.form
      have HTk := Lib.hid (HT.out k r hr H0.out)
      have HOk := Lib.hid (HOf.out (k + 1))
      have HC := Lib.hid (fun U (hU : Below wr.heap.size wr U) => HCall.out r k (pb, r.2.length, cb) U hr (HBe.out.trans (hU.mono HBe.out.size)) (hbody.below hU))
      obtain ⟨E, hE⟩ : ∃ E, E = ruleE r := ⟨_, rfl⟩
      rw [← hE] at HTk HC
      obtain ⟨⟨⟨a0, a1, a2, a3⟩, ⟨b0, b1, b2, b3⟩, ⟨c0, c1, c2, c3⟩⟩, ls⟩ := r
      obtain ⟨x0, x1, x2, x3, x4, x5, x6, x7, x8, x9, x10, x11, x12⟩ := hat
      dsimp only at x0 x1 x2 x3 x4 x5 x6 x7 x8 x9 x10 x11 x12 HC
      have i0 : (0 : Int) ≤ (k : Int) := by omega
      have i1 : (k : Int) < (n : Int) := by omega
      have i3 : k + 1 ≤ 1000000001 := by omega
      generalize ls.length = nb at *
      have hbu := (Below.refl wr.heap.size wr).alloc (Nat.le_refl _) (.cells #[.string a0, .int .i64 a1, .string a2, .string a3, .string b0, .int .i64 b1, .string b2, .string b3, .string c0, .int .i64 c1, .string c2, .string c3, .slice pb nb cb] 46)
      have HCu := Lib.hid (HC.out _ hbu)
      have HBu := Lib.hid (HBe.out.trans (hbu.mono HBe.out.size))
      clear hr hrow hbody hE HC hbu
      by_cases hz : E = 0
      · have e1 : (E != 0) = false := by simp [hz]
        have HTz : Hid (firstE (rs.take (k + 1)) = 0) := Lib.hid (by rw [HTk.out, hz])
        clear hz HOk
        go_wp2_with (go_at_call 13; refine HCu.out.mono ?_; rintro e w4 ⟨rfl, hB4⟩; replace hB4 := Lib.hid hB4)
        go_roundg (n - (k + 1))
        case measure => omega
        case rel => exact ⟨k + 1, by omega, Nat.le_refl _, by go_num, HTz.out, HBu.out.trans (hB4.out.mono HBu.out.size)⟩
      · have e1 : (E != 0) = true := by simp [hz]
        have HRe : Hid (R = E) := Lib.hid (by rw [HOk.out (by rw [HTk.out]; exact hz), HTk.out])
        clear hz HOk
        go_wp2_with (go_at_call 13; refine HCu.out.mono ?_; rintro e w4 ⟨rfl, hB4⟩; replace hB4 := Lib.hid hB4)
        go_ret
        exact ⟨by rw [HRe.out] <;> rfl, HBu.out.trans (hB4.out.mono HBu.out.size)⟩
    · obtain rfl : k = n := by omega
      have HRz : Hid (R = 0) := Lib.hid (by rw [← HAll.out, H0.out])
      go_wp2
      go_ret
      exact ⟨by rw [HRz.out] <;> rfl, HBe.out⟩
end Go.Proofs.YtlkiigoblkfkpaaGreatDoor

