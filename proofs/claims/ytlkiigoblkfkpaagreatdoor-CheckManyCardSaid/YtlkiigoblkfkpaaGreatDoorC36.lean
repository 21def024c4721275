/-
  WHAT THE PROOF STANDS ON, a part of it: CkProg, CkKn0, CkManyM.
-/
import Derived.Test.YtlkiigoblkfkpaaGreatDoorC34
import Derived.Test.YtlkiigoblkfkpaaGreatDoorC35
import Derived.Test.YtlkiigoblkfkpaaGreatDoorC33
/-
  CONTRACT OF check.Program. (Written by tools/genckprog.py.)
-/

namespace Go.Proofs.YtlkiigoblkfkpaaGreatDoor
open Go.RowKit
open Utf Term
set_option linter.unusedVariables false
set_option linter.unusedSimpArgs false

theorem results_cell_tmp {fn : Func} {p u : Tmp} {ty : TypeId} (h : fn.results = #[.cell p ty, .tmp u]) (tmps : Array Value) (P : Program) (w : World) (g : Nat) (t : TypeId) (cs : Array Value) (fr : Nat × Nat) (fs : Array Field)
    (hp : tmps.getD p undef = .pointer (some ⟨g, 0, none⟩)) (hg : w.heap[g]? = some (.cells cs t fr))
    (hu : P.underlying ty = some (.struct fs)) (hi : (P.info? ty).map (·.size) = some cs.size) :
    (results fn tmps).run P w = .ok (.tuple #[.agg cs, tmps.getD u undef]) w := by
  have hp' : tmps[p]?.getD undef = .pointer (some ⟨g, 0, none⟩) := by simpa using hp
  simp [results, h, hp', asAddr, run_loadVar_row w g t ty cs fr (.struct fs) hg hu rfl hi, Result.andThen]
def progM (rs : List RuleD) : Value := .tuple #[.agg #[.bool (decide (progE rs = 0) && !negP rs)], .int .i64 (progE rs)]
set_option maxRecDepth 100000 in
set_option maxHeartbeats 8000000 in
theorem ckProgram_any {w : World} {v : Value} {rs : List RuleD} (hv : SliceRu w v rs) (hf : ∀ r ∈ rs, VastR r) (m : Int) (hm : HasMax w m) (hl : rs.length ≤ 1000000) (hb : ∀ r ∈ rs, r.2.length ≤ 1000000000)
    (hfix : firstE rs = 0 → negP rs = true → ∀ U, Below w.heap.size w U → Calls Tryz.prog 15 #[v] U fun e w' => e = .returned (.int .i64 (if rs.any openR = true then 5 else 0)) ∧ Below U.heap.size U w') :
    Calls Tryz.prog 8 #[v] w fun e w' => e = .returned (progM rs) ∧ Below w.heap.size w w' := by
  obtain ⟨ptr, cap, rfl, _, _⟩ := hv.form
  have d1 := heap_alloc_new w (.cells #[.bool false] 26)
  have hbw := (Below.refl w.heap.size w).alloc (Nat.le_refl _) (.cells #[.bool false] 26)
  obtain ⟨n0, hn0⟩ : ∃ n0, n0 = w.heap.size := ⟨_, rfl⟩
  rw [← hn0] at d1
  obtain ⟨W, hW⟩ : ∃ W, W = w.alloc (.cells #[.bool false] 26) := ⟨_, rfl⟩
  rw [← hW] at d1 hbw
  have HXb : Hid (∀ U, Below W.heap.size W U → U.heap[n0]? = some (.cells #[.bool false] 26 (0, 0))) := Lib.hid (fun U hU => (hU.block n0 (Array.getElem?_eq_some_iff.1 d1).1).trans d1)
  have HX : Hid (∀ U, Below W.heap.size W U → U.cell? ⟨n0, 0, none⟩ = some (.bool false) ∧ U.frozen? ⟨n0, 0, none⟩ = false) := Lib.hid (fun U hU => ⟨cell_in (HXb.out U hU) rfl, free_in (HXb.out U hU) 0⟩)
  have lift : ∀ U, Below W.heap.size W U → Below w.heap.size w U := fun U hU => hbw.trans (hU.mono hbw.size)
  have HEa := Lib.hid (ckEach_any (hv.below hbw) hf m (cell_below hbw hm) (by omega))
  have HNe : Hid (∀ U, Below W.heap.size W U → Calls Tryz.prog 11 #[.slice ptr rs.length cap] U fun e w' => e = .returned (.bool (negP rs)) ∧ Below W.heap.size W w') := Lib.hid (fun U hU => (ckNegates_any (hv.below (lift U hU)) (by omega) hb).mono fun e w' ⟨h1, h2⟩ => ⟨h1, hU.trans (h2.mono hU.size)⟩)
  have HTw : Hid (∀ U, Below W.heap.size W U → Calls Tryz.prog 16 #[.slice ptr rs.length cap] U fun e w' => e = .returned (.bool (!decide rs.Nodup)) ∧ Below W.heap.size W w') := Lib.hid (fun U hU => (ckTwice_any (hv.below (lift U hU)) hl hb).mono fun e w' ⟨h1, h2⟩ => ⟨h1, hU.trans (h2.mono hU.size)⟩)
  have HFi0 : Hid (firstE rs = 0 → negP rs = true → ∀ U, Below W.heap.size W U → Calls Tryz.prog 15 #[.slice ptr rs.length cap] U fun e w' => e = .returned (.int .i64 (if rs.any openR = true then 5 else 0)) ∧ Below W.heap.size W w') := Lib.hid (fun h1 h2 U hU => (hfix h1 h2 U (lift U hU)).mono fun e w' ⟨h1, h2⟩ => ⟨h1, hU.trans (h2.mono hU.size)⟩)
  have HR0 : Hid (progE rs = if firstE rs = 0 then (if negP rs = true ∧ rs.any openR = true then 5 else if ¬ rs.Nodup then 8 else if 1000 < rs.length then 9 else 0) else firstE rs) := Lib.hid rfl
  have HM0 : Hid (progM rs = .tuple #[.agg #[.bool (decide (progE rs = 0) && !negP rs)], .int .i64 (progE rs)]) := Lib.hid rfl
  have HW := Lib.hid hW
  have HN := Lib.hid hn0
  have HB := Lib.hid hbw
  obtain ⟨M, hM⟩ : ∃ M, M = progM rs := ⟨_, rfl⟩
  rw [← hM] at HM0 ⊢
  obtain ⟨dn, hdn⟩ : ∃ dn, dn = decide rs.Nodup := ⟨_, rfl⟩
  rw [← hdn] at HTw
  have HDn : Hid (dn = decide rs.Nodup) := Lib.hid hdn
  have HTr : Hid ((dn = true → rs.Nodup) ∧ (dn = false → ¬ rs.Nodup)) := Lib.hid ⟨fun h => of_decide_eq_true (hdn.symm.trans h), fun h => of_decide_eq_false (hdn.symm.trans h)⟩
  obtain ⟨nl, hnl⟩ : ∃ nl, nl = rs.length := ⟨_, rfl⟩
  rw [← hnl] at HEa HNe HTw HFi0 HR0 hl ⊢
  clear hv hf hm hfix d1 hbw hn0 hW lift hM hdn hnl hb
  by_cases hE : firstE rs = 0
  · rw [hE] at HEa
    rw [if_pos hE] at HR0
    have HFi1 := Lib.hid (HFi0.out hE)
    clear hE HFi0
    cases hN : negP rs with
    | true =>
      rw [hN] at HNe HR0 HM0
      have HFi := Lib.hid (HFi1.out hN)
      clear hN HFi1
      by_cases hO : rs.any openR = true
      · rw [if_pos hO] at HFi
        have HR : Hid (M = .tuple #[.agg #[.bool false], .int .i64 5]) := Lib.hid (by rw [HM0.out, HR0.out, if_pos ⟨rfl, hO⟩]; rfl)
        clear hO
        go_enter Tryz.func8, Tryz.ntmps8
        go_upto_region 1 with fail
        rw [← HW.out, ← HN.out]
        go_wp2_with (first
        | (go_at_call 14; refine HEa.out.mono ?_; rintro e w1 ⟨rfl, hb1⟩; replace hb1 := Lib.hid hb1)
        | (go_at_call 11; (with_reducible refine (HNe.out _ hb1.out).mono ?_); rintro e w2 ⟨rfl, hb2⟩; replace hb2 := Lib.hid hb2)
        | (go_at_call 15; (with_reducible refine (HFi.out _ hb2.out).mono ?_); rintro e w3 ⟨rfl, hb3⟩; obtain ⟨zr, zf⟩ := HX.out _ hb3; replace hb3 := Lib.hid hb3))
        have hcell : (w3.setCell ⟨n0, 0, none⟩ (.bool false)).heap[n0]? = some (.cells #[.bool false] 26 (0, 0)) := heap_setCell_same w3 n0 0 _ _ _ (HXb.out _ hb3.out)
        refine bodyPost_ret (results_cell_tmp rfl _ _ _ n0 26 #[.bool false] (0, 0) _ rfl hcell Tryz.underlying26 (by kernel_rfl)) rfl ?_
        exact ⟨by rw [HR.out] <;> rfl, (HB.out.trans (hb3.out.mono HB.out.size)).setCell (p := ⟨n0, 0, none⟩) (show w.heap.size ≤ n0 by rw [HN.out]; exact Nat.le_refl _) _⟩
      · rw [if_neg hO] at HFi
        have HR1 := Lib.hid (HR0.out.trans (if_neg (fun h => hO h.2)))
        clear hO
        cases hD : dn with
        | false =>
          rw [hD] at HTw
          have HR : Hid (M = .tuple #[.agg #[.bool false], .int .i64 8]) := Lib.hid (by rw [HM0.out, HR1.out, if_pos (HTr.out.2 hD)]; rfl)
          clear hD
          go_enter Tryz.func8, Tryz.ntmps8
          go_upto_region 1 with fail
          rw [← HW.out, ← HN.out]
          go_wp2_with (first
          | (go_at_call 14; refine HEa.out.mono ?_; rintro e w1 ⟨rfl, hb1⟩; replace hb1 := Lib.hid hb1)
          | (go_at_call 11; (with_reducible refine (HNe.out _ hb1.out).mono ?_); rintro e w2 ⟨rfl, hb2⟩; replace hb2 := Lib.hid hb2)
          | (go_at_call 15; (with_reducible refine (HFi.out _ hb2.out).mono ?_); rintro e w3 ⟨rfl, hb3⟩; replace hb3 := Lib.hid hb3)
          | (go_at_call 16; (with_reducible refine (HTw.out _ hb3.out).mono ?_); rintro e w4 ⟨rfl, hb4⟩; obtain ⟨zr, zf⟩ := HX.out _ hb4; replace hb4 := Lib.hid hb4))
          have hcell : (w4.setCell ⟨n0, 0, none⟩ (.bool false)).heap[n0]? = some (.cells #[.bool false] 26 (0, 0)) := heap_setCell_same w4 n0 0 _ _ _ (HXb.out _ hb4.out)
          refine bodyPost_ret (results_cell_tmp rfl _ _ _ n0 26 #[.bool false] (0, 0) _ rfl hcell Tryz.underlying26 (by kernel_rfl)) rfl ?_
          exact ⟨by rw [HR.out] <;> rfl, (HB.out.trans (hb4.out.mono HB.out.size)).setCell (p := ⟨n0, 0, none⟩) (show w.heap.size ≤ n0 by rw [HN.out]; exact Nat.le_refl _) _⟩
        | true =>
          rw [hD] at HTw
          have HR2 := Lib.hid (HR1.out.trans (if_neg (fun h => h (HTr.out.1 hD))))
          clear hD
          by_cases hk : 1000 < nl
          · have HR : Hid (M = .tuple #[.agg #[.bool false], .int .i64 9]) := Lib.hid (by rw [HM0.out, HR2.out, if_pos hk]; rfl)
            have c1 : decide ((nl : Int) > 1000) = true := decide_eq_true (by omega)
            have c2 : decide ((1000 : Int) < (nl : Int)) = true := decide_eq_true (by omega)
            have c3 : decide (1000 < nl) = true := decide_eq_true hk
            go_enter Tryz.func8, Tryz.ntmps8
            go_upto_region 1 with fail
            rw [← HW.out, ← HN.out]
            go_wp2_with (first
            | (go_at_call 14; refine HEa.out.mono ?_; rintro e w1 ⟨rfl, hb1⟩; replace hb1 := Lib.hid hb1)
            | (go_at_call 11; (with_reducible refine (HNe.out _ hb1.out).mono ?_); rintro e w2 ⟨rfl, hb2⟩; replace hb2 := Lib.hid hb2)
            | (go_at_call 15; (with_reducible refine (HFi.out _ hb2.out).mono ?_); rintro e w3 ⟨rfl, hb3⟩; replace hb3 := Lib.hid hb3)
            | (go_at_call 16; (with_reducible refine (HTw.out _ hb3.out).mono ?_); rintro e w4 ⟨rfl, hb4⟩; obtain ⟨zr, zf⟩ := HX.out _ hb4; replace hb4 := Lib.hid hb4))
            have hcell : (w4.setCell ⟨n0, 0, none⟩ (.bool false)).heap[n0]? = some (.cells #[.bool false] 26 (0, 0)) := heap_setCell_same w4 n0 0 _ _ _ (HXb.out _ hb4.out)
            refine bodyPost_ret (results_cell_tmp rfl _ _ _ n0 26 #[.bool false] (0, 0) _ rfl hcell Tryz.underlying26 (by kernel_rfl)) rfl ?_
            exact ⟨by rw [HR.out] <;> rfl, (HB.out.trans (hb4.out.mono HB.out.size)).setCell (p := ⟨n0, 0, none⟩) (show w.heap.size ≤ n0 by rw [HN.out]; exact Nat.le_refl _) _⟩
          · have HR : Hid (M = .tuple #[.agg #[.bool false], .int .i64 0]) := Lib.hid (by rw [HM0.out, HR2.out, if_neg hk]; rfl)
            have c1 : decide ((nl : Int) > 1000) = false := decide_eq_false (by omega)
            have c2 : decide ((1000 : Int) < (nl : Int)) = false := decide_eq_false (by omega)
            have c3 : decide (1000 < nl) = false := decide_eq_false hk
            go_enter Tryz.func8, Tryz.ntmps8
            go_upto_region 1 with fail
            rw [← HW.out, ← HN.out]
            go_wp2_with (first
            | (go_at_call 14; refine HEa.out.mono ?_; rintro e w1 ⟨rfl, hb1⟩; replace hb1 := Lib.hid hb1)
            | (go_at_call 11; (with_reducible refine (HNe.out _ hb1.out).mono ?_); rintro e w2 ⟨rfl, hb2⟩; replace hb2 := Lib.hid hb2)
            | (go_at_call 15; (with_reducible refine (HFi.out _ hb2.out).mono ?_); rintro e w3 ⟨rfl, hb3⟩; replace hb3 := Lib.hid hb3)
            | (go_at_call 16; (with_reducible refine (HTw.out _ hb3.out).mono ?_); rintro e w4 ⟨rfl, hb4⟩; obtain ⟨zr, zf⟩ := HX.out _ hb4; replace hb4 := Lib.hid hb4))
            have hcell : (w4.setCell ⟨n0, 0, none⟩ (.bool false)).heap[n0]? = some (.cells #[.bool false] 26 (0, 0)) := heap_setCell_same w4 n0 0 _ _ _ (HXb.out _ hb4.out)
            refine bodyPost_ret (results_cell_tmp rfl _ _ _ n0 26 #[.bool false] (0, 0) _ rfl hcell Tryz.underlying26 (by kernel_rfl)) rfl ?_
            exact ⟨by rw [HR.out] <;> rfl, (HB.out.trans (hb4.out.mono HB.out.size)).setCell (p := ⟨n0, 0, none⟩) (show w.heap.size ≤ n0 by rw [HN.out]; exact Nat.le_refl _) _⟩
    | false =>
      rw [hN] at HNe HR0 HM0
      have HR1 := Lib.hid (HR0.out.trans (if_neg (fun h => by cases h.1)))
      clear hN HFi1
      cases hD : dn with
      | false =>
        rw [hD] at HTw
        have HR : Hid (M = .tuple #[.agg #[.bool false], .int .i64 8]) := Lib.hid (by rw [HM0.out, HR1.out, if_pos (HTr.out.2 hD)]; rfl)
        clear hD
        go_enter Tryz.func8, Tryz.ntmps8
        go_upto_region 1 with fail
        rw [← HW.out, ← HN.out]
        go_wp2_with (first
        | (go_at_call 14; refine HEa.out.mono ?_; rintro e w1 ⟨rfl, hb1⟩; replace hb1 := Lib.hid hb1)
        | (go_at_call 11; (with_reducible refine (HNe.out _ hb1.out).mono ?_); rintro e w2 ⟨rfl, hb2⟩; replace hb2 := Lib.hid hb2)
        | (go_at_call 16; (with_reducible refine (HTw.out _ hb2.out).mono ?_); rintro e w4 ⟨rfl, hb4⟩; obtain ⟨zr, zf⟩ := HX.out _ hb4; replace hb4 := Lib.hid hb4))
        have hcell : (w4.setCell ⟨n0, 0, none⟩ (.bool false)).heap[n0]? = some (.cells #[.bool false] 26 (0, 0)) := heap_setCell_same w4 n0 0 _ _ _ (HXb.out _ hb4.out)
        refine bodyPost_ret (results_cell_tmp rfl _ _ _ n0 26 #[.bool false] (0, 0) _ rfl hcell Tryz.underlying26 (by kernel_rfl)) rfl ?_
        exact ⟨by rw [HR.out] <;> rfl, (HB.out.trans (hb4.out.mono HB.out.size)).setCell (p := ⟨n0, 0, none⟩) (show w.heap.size ≤ n0 by rw [HN.out]; exact Nat.le_refl _) _⟩
      | true =>
        rw [hD] at HTw
        have HR2 := Lib.hid (HR1.out.trans (if_neg (fun h => h (HTr.out.1 hD))))
        clear hD
        by_cases hk : 1000 < nl
        · have HR : Hid (M = .tuple #[.agg #[.bool false], .int .i64 9]) := Lib.hid (by rw [HM0.out, HR2.out, if_pos hk]; rfl)
          have c1 : decide ((nl : Int) > 1000) = true := decide_eq_true (by omega)
          have c2 : decide ((1000 : Int) < (nl : Int)) = true := decide_eq_true (by omega)
          have c3 : decide (1000 < nl) = true := decide_eq_true hk
          go_enter Tryz.func8, Tryz.ntmps8
          go_upto_region 1 with fail
          rw [← HW.out, ← HN.out]
          go_wp2_with (first
          | (go_at_call 14; refine HEa.out.mono ?_; rintro e w1 ⟨rfl, hb1⟩; replace hb1 := Lib.hid hb1)
          | (go_at_call 11; (with_reducible refine (HNe.out _ hb1.out).mono ?_); rintro e w2 ⟨rfl, hb2⟩; replace hb2 := Lib.hid hb2)
          | (go_at_call 16; (with_reducible refine (HTw.out _ hb2.out).mono ?_); rintro e w4 ⟨rfl, hb4⟩; obtain ⟨zr, zf⟩ := HX.out _ hb4; replace hb4 := Lib.hid hb4))
          have hcell : (w4.setCell ⟨n0, 0, none⟩ (.bool false)).heap[n0]? = some (.cells #[.bool false] 26 (0, 0)) := heap_setCell_same w4 n0 0 _ _ _ (HXb.out _ hb4.out)
          refine bodyPost_ret (results_cell_tmp rfl _ _ _ n0 26 #[.bool false] (0, 0) _ rfl hcell Tryz.underlying26 (by kernel_rfl)) rfl ?_
          exact ⟨by rw [HR.out] <;> rfl, (HB.out.trans (hb4.out.mono HB.out.size)).setCell (p := ⟨n0, 0, none⟩) (show w.heap.size ≤ n0 by rw [HN.out]; exact Nat.le_refl _) _⟩
        · have HR : Hid (M = .tuple #[.agg #[.bool true], .int .i64 0]) := Lib.hid (by rw [HM0.out, HR2.out, if_neg hk]; rfl)
          have c1 : decide ((nl : Int) > 1000) = false := decide_eq_false (by omega)
          have c2 : decide ((1000 : Int) < (nl : Int)) = false := decide_eq_false (by omega)
          have c3 : decide (1000 < nl) = false := decide_eq_false hk
          go_enter Tryz.func8, Tryz.ntmps8
          go_upto_region 1 with fail
          rw [← HW.out, ← HN.out]
          go_wp2_with (first
          | (go_at_call 14; refine HEa.out.mono ?_; rintro e w1 ⟨rfl, hb1⟩; replace hb1 := Lib.hid hb1)
          | (go_at_call 11; (with_reducible refine (HNe.out _ hb1.out).mono ?_); rintro e w2 ⟨rfl, hb2⟩; replace hb2 := Lib.hid hb2)
          | (go_at_call 16; (with_reducible refine (HTw.out _ hb2.out).mono ?_); rintro e w4 ⟨rfl, hb4⟩; obtain ⟨zr, zf⟩ := HX.out _ hb4; replace hb4 := Lib.hid hb4))
          have hcell : (w4.setCell ⟨n0, 0, none⟩ (.bool true)).heap[n0]? = some (.cells #[.bool true] 26 (0, 0)) := heap_setCell_same w4 n0 0 _ _ _ (HXb.out _ hb4.out)
          refine bodyPost_ret (results_cell_tmp rfl _ _ _ n0 26 #[.bool true] (0, 0) _ rfl hcell Tryz.underlying26 (by kernel_rfl)) rfl ?_
          exact ⟨by rw [HR.out] <;> rfl, (HB.out.trans (hb4.out.mono HB.out.size)).setCell (p := ⟨n0, 0, none⟩) (show w.heap.size ≤ n0 by rw [HN.out]; exact Nat.le_refl _) _⟩
  · rw [if_neg hE] at HR0
    obtain ⟨E, hEe⟩ : ∃ E, E = firstE rs := ⟨_, rfl⟩
    rw [← hEe] at HEa HR0 hE
    have e1 : (E == 0) = false := by rw [beq_eq_false_iff_ne]; exact hE
    have e2 : (E != 0) = true := by rw [bne_iff_ne]; exact hE
    have HR : Hid (M = .tuple #[.agg #[.bool false], .int .i64 E]) := Lib.hid (by rw [HM0.out, HR0.out, decide_eq_false hE]; rfl)
    clear hE hEe
    cases hN : negP rs with
    | true =>
      rw [hN] at HNe
      clear hN
      go_enter Tryz.func8, Tryz.ntmps8
      go_upto_region 1 with fail
      rw [← HW.out, ← HN.out]
      go_wp2_with (first
      | (go_at_call 14; refine HEa.out.mono ?_; rintro e w1 ⟨rfl, hb1⟩; replace hb1 := Lib.hid hb1)
      | (go_at_call 11; (with_reducible refine (HNe.out _ hb1.out).mono ?_); rintro e w2 ⟨rfl, hb2⟩; obtain ⟨zr, zf⟩ := HX.out _ hb2; replace hb2 := Lib.hid hb2))
      have hcell : (w2.setCell ⟨n0, 0, none⟩ (.bool false)).heap[n0]? = some (.cells #[.bool false] 26 (0, 0)) := heap_setCell_same w2 n0 0 _ _ _ (HXb.out _ hb2.out)
      refine bodyPost_ret (results_cell_tmp rfl _ _ _ n0 26 #[.bool false] (0, 0) _ rfl hcell Tryz.underlying26 (by kernel_rfl)) rfl ?_
      exact ⟨by rw [HR.out] <;> rfl, (HB.out.trans (hb2.out.mono HB.out.size)).setCell (p := ⟨n0, 0, none⟩) (show w.heap.size ≤ n0 by rw [HN.out]; exact Nat.le_refl _) _⟩
    | false =>
      rw [hN] at HNe
      clear hN
      go_enter Tryz.func8, Tryz.ntmps8
      go_upto_region 1 with fail
      rw [← HW.out, ← HN.out]
      go_wp2_with (first
      | (go_at_call 14; refine HEa.out.mono ?_; rintro e w1 ⟨rfl, hb1⟩; replace hb1 := Lib.hid hb1)
      | (go_at_call 11; (with_reducible refine (HNe.out _ hb1.out).mono ?_); rintro e w2 ⟨rfl, hb2⟩; obtain ⟨zr, zf⟩ := HX.out _ hb2; replace hb2 := Lib.hid hb2))
      have hcell : (w2.setCell ⟨n0, 0, none⟩ (.bool false)).heap[n0]? = some (.cells #[.bool false] 26 (0, 0)) := heap_setCell_same w2 n0 0 _ _ _ (HXb.out _ hb2.out)
      refine bodyPost_ret (results_cell_tmp rfl _ _ _ n0 26 #[.bool false] (0, 0) _ rfl hcell Tryz.underlying26 (by kernel_rfl)) rfl ?_
      exact ⟨by rw [HR.out] <;> rfl, (HB.out.trans (hb2.out.mono HB.out.size)).setCell (p := ⟨n0, 0, none⟩) (show w.heap.size ≤ n0 by rw [HN.out]; exact Nat.le_refl _) _⟩
end Go.Proofs.YtlkiigoblkfkpaaGreatDoor

/-
  THE LAW'S known: its data, its closure.
-/

namespace Go.Proofs.YtlkiigoblkfkpaaGreatDoor
open Go.RowKit
open Utf Term
set_option linter.unusedVariables false
set_option linter.unusedSimpArgs false

abbrev hp : ByteArray := ⟨#[104, 116, 116, 112, 58, 47, 47, 112]⟩
abbrev kS (b : UInt8) : SlotD := (⟨#[b]⟩, zTe)
abbrev kP : SlotD := (⟨#[]⟩, (1, hp, ⟨#[]⟩))
abbrev kB : LitD := (1, (kS 120, kP, kS 122), zSl, zSl)
abbrev kR : RuleD := ((kS 120, kP, kS 121), [kB])
abbrev kO : RuleD := ((kS 120, kP, kS 122), [kB])
theorem kR_safe : ruleE kR = 5 := by kernel_rfl
theorem kO_safe : ruleE kO = 0 := by kernel_rfl
theorem kO_prog : progM [kO] = .tuple #[.agg #[.bool true], .int .i64 0] := by kernel_rfl
theorem kO_neg : negP [kO] = false := by kernel_rfl
theorem kS_vast (b : UInt8) : VastSl (kS b) := ⟨show (1 : Nat) ≤ _ by decide, Nat.zero_le _, Nat.zero_le _⟩
theorem kP_vast : VastSl kP := ⟨Nat.zero_le _, show (8 : Nat) ≤ _ by decide, Nat.zero_le _⟩
theorem k0_vast : VastSl zSl := ⟨Nat.zero_le _, Nat.zero_le _, Nat.zero_le _⟩
theorem kB_vast : VastL kB := ⟨⟨kS_vast _, kP_vast, kS_vast _⟩, k0_vast, k0_vast⟩
theorem kR_vast : VastP kR.1 := ⟨kS_vast _, kP_vast, kS_vast _⟩
theorem kO_vast : VastP kO.1 := ⟨kS_vast _, kP_vast, kS_vast _⟩
set_option maxRecDepth 100000 in
set_option maxHeartbeats 4000000 in
theorem knv_any (b : UInt8) (w : World) : Calls Tryz.prog 12 #[.string ⟨#[b]⟩] w fun e w' => e = .returned (.agg #[.string ⟨#[b]⟩, .int .i64 0, .string ⟨#[]⟩, .string ⟨#[]⟩]) ∧ Below w.heap.size w w' := by
  have hb := Below.refl w.heap.size w
  go_enter Tryz.func12, Tryz.ntmps12
  go_wp2
  refine bodyPost_ret (results_cell_row rfl _ _ w.heap.size 37 #[.string ⟨#[b]⟩, .int .i64 0, .string ⟨#[]⟩, .string ⟨#[]⟩] (0, 0) _ rfl ?_ Tryz.underlying37 rfl (by kernel_rfl)) rfl ?_
  · exact heap_alloc_new w _
  exact ⟨rfl, hb.alloc (Nat.le_refl _) _⟩
end Go.Proofs.YtlkiigoblkfkpaaGreatDoor

/-
  THE RULES THAT CheckMany MAKES.
-/

namespace Go.Proofs.YtlkiigoblkfkpaaGreatDoor
open Go.RowKit
open Utf Term
set_option linter.unusedVariables false
set_option linter.unusedSimpArgs false

def qT (k : Nat) : ByteArray := ⟨#[104, 116, 116, 112, 58, 47, 47, 113, 47, UInt8.ofNat (97 + k / 676), UInt8.ofNat (97 + k / 26 % 26), UInt8.ofNat (97 + k % 26)]⟩
abbrev mQ (k : Nat) : SlotD := (⟨#[]⟩, (1, qT k, ⟨#[]⟩))
abbrev mB : LitD := (1, (kS 120, kP, kS 120), zSl, zSl)
def mR (k : Nat) : RuleD := ((kS 120, kP, mQ k), [mB])
theorem mR_all : (List.range 1010).all (fun k => decide (ruleE (mR k) = 0)) = true := by kernel_rfl
theorem mR_safe {k : Nat} (h : k < 1010) : ruleE (mR k) = 0 := of_decide_eq_true (List.all_eq_true.1 mR_all k (List.mem_range.2 h))
theorem qT_inj {j k : Nat} (hj : j < 1010) (hk : k < 1010) (h : qT j = qT k) : j = k := by
  have h1 := congrArg (fun b : ByteArray => (b.data.toList)) h
  simp only [qT, List.cons.injEq, and_true, true_and] at h1
  obtain ⟨a, b, c⟩ := h1
  have a' := congrArg UInt8.toNat a
  have b' := congrArg UInt8.toNat b
  have c' := congrArg UInt8.toNat c
  simp only [UInt8.toNat_ofNat'] at a' b' c'
  omega
def mRs (n : Nat) : List RuleD := (List.range n).map mR
theorem mRs_nodup {n : Nat} (h : n ≤ 1010) : (mRs n).Nodup := by
  unfold mRs
  rw [List.nodup_iff_pairwise_ne, List.pairwise_map]
  refine List.Pairwise.imp_of_mem ?_ List.pairwise_lt_range
  intro a b ha hb hlt e
  have := qT_inj (by have := List.mem_range.1 ha; omega) (by have := List.mem_range.1 hb; omega) (show qT a = qT b from congrArg (fun r : RuleD => r.1.2.2.2.2.1) e)
  omega
theorem mRs_neg (n : Nat) : negP (mRs n) = false := by
  unfold negP mRs
  rw [List.any_eq_false]
  intro r hr
  obtain ⟨k, _, rfl⟩ := List.mem_map.1 hr
  show ¬ ([mB].any fun x => decide (x.1 = 2)) = true
  decide
theorem mRs_first {n : Nat} (h : n ≤ 1010) : firstE (mRs n) = 0 := by
  rw [firstE_zero]
  intro r hr
  obtain ⟨k, hk, rfl⟩ := List.mem_map.1 hr
  exact mR_safe (by have := List.mem_range.1 hk; omega)
theorem mRs_length (n : Nat) : (mRs n).length = n := by simp [mRs]
theorem mRs_prog {n : Nat} (h : n ≤ 1010) : progE (mRs n) = if 1000 < n then 9 else 0 := by
  unfold progE
  rw [if_pos (mRs_first h), if_neg (by rw [mRs_neg]; simp), if_neg (fun k => k (mRs_nodup h)), mRs_length]
theorem mQ_vast (k : Nat) : VastSl (mQ k) := ⟨Nat.zero_le _, show (12 : Nat) ≤ _ by decide, Nat.zero_le _⟩
theorem mB_vast : VastL mB := ⟨⟨kS_vast _, kP_vast, kS_vast _⟩, k0_vast, k0_vast⟩
theorem mR_vast (k : Nat) : VastR (mR k) := ⟨⟨kS_vast _, kP_vast, mQ_vast k⟩, by intro l hl; obtain rfl := List.mem_singleton.1 hl; exact mB_vast⟩
end Go.Proofs.YtlkiigoblkfkpaaGreatDoor

