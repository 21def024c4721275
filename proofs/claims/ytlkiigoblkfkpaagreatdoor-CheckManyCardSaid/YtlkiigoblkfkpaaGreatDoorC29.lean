/-
  WHAT THE PROOF STANDS ON, a part of it: CkRule, CkSame.
-/
import Derived.Test.YtlkiigoblkfkpaaGreatDoorC28
import Derived.Test.YtlkiigoblkfkpaaGreatDoorC26
/-
  CONTRACT OF compare (rules), and of rules.Same.
-/

namespace Go.Proofs.YtlkiigoblkfkpaaGreatDoor
open Go.RowKit
open Utf Term
set_option linter.unusedVariables false
set_option linter.unusedSimpArgs false

abbrev encRv (p : PatD) (v : Value) : List Value := (ruleC p v).toList
theorem cmpRu_or (r s : RuleD) : cmpRu r s = if cmpPa r.1 s.1 = 0 then cmpLs cmpLi r.2 s.2 else cmpPa r.1 s.1 := rfl
theorem ruleX_of {W : World} {g : Nat} {p : PatD} {v : Value} {t : TypeId} {fr : Nat × Nat} (h : W.heap[g]? = some (.cells (encRv p v).toArray t fr)) : W.rangeAt g 0 (encPa p) ∧ W.cell? ⟨g, 12, none⟩ = some v := by
  refine ⟨fun j u hj => ?_, cell_in h rfl⟩
  refine cell_in h ?_
  rw [List.getElem?_toArray, Nat.zero_add]
  have hlt : j < 12 := (List.getElem?_eq_some_iff.1 hj).1
  have e : (encRv p v)[j]? = (encPa p)[j]? := by
    match j, hlt with
    | 0, _ | 1, _ | 2, _ | 3, _ | 4, _ | 5, _ | 6, _ | 7, _ | 8, _ | 9, _ | 10, _ | 11, _ => rfl
  rw [e]
  exact hj
set_option maxRecDepth 100000 in
set_option maxHeartbeats 8000000 in
theorem ckRule_any (p q : PatD) (va vb : Value) (xs ys : List LitD) (hx : xs.length ≤ 1000000000) (hy : ys.length ≤ 1000000000) (w : World) (ha : BodyS w va xs) (hb : BodyS w vb ys) :
    Calls Tryz.prog 27 #[.agg (encRv p va).toArray, .agg (encRv q vb).toArray] w fun e w' => e = .returned (.int .i64 (cmpRu (p, xs) (q, ys))) ∧ Grown w w' := by
  have HR := Lib.hid (cmpRu_or (p, xs) (q, ys))
  have HPt := Lib.hid (fun W => ckPats_any p q W)
  obtain ⟨pa, ca, rfl, _, hra⟩ := ha.form
  obtain ⟨pb, cb, rfl, _, hrb⟩ := hb.form
  have HF : Hid (∀ U, Below w.heap.size w U → Calls Tryz.prog 42 #[.slice pa xs.length ca, .slice pb ys.length cb, .func (.func 43) #[] #[]] U fun e w' => e = .returned (.int .i64 (cmpLs cmpLi xs ys)) ∧ Grown U w') := Lib.hid (fun U hU => ckCmpFL_any pa pb ca cb xs ys hx hy U (fun h => by
      obtain ⟨g, o, e, r⟩ := hra h
      exact ⟨g, o, e, r.below hU⟩) (fun h => by
      obtain ⟨g, o, e, r⟩ := hrb h
      exact ⟨g, o, e, r.below hU⟩))
  obtain ⟨R, hR⟩ : ∃ R, R = cmpRu (p, xs) (q, ys) := ⟨_, rfl⟩
  obtain ⟨k1, hk1⟩ : ∃ c, c = cmpPa p q := ⟨_, rfl⟩
  obtain ⟨k2, hk2⟩ : ∃ c, c = cmpLs cmpLi xs ys := ⟨_, rfl⟩
  dsimp only at HR
  rw [← hR, ← hk1, ← hk2] at HR
  rw [← hk1] at HPt
  rw [← hk2] at HF
  rw [← hR]
  generalize xs.length = nx at *
  generalize ys.length = ny at *
  have d1 := heap_alloc_new w (.cells (encRv p (.slice pa nx ca)).toArray 46)
  have s1 : (w.alloc (.cells (encRv p (.slice pa nx ca)).toArray 46)).heap.size = w.heap.size + 1 := World.size_alloc _ _
  have d2 := heap_alloc_new (w.alloc (.cells (encRv p (.slice pa nx ca)).toArray 46)) (.cells (encRv q (.slice pb ny cb)).toArray 46)
  have d3 := (Below.heap_alloc (w.alloc (.cells (encRv p (.slice pa nx ca)).toArray 46)) (.cells (encRv q (.slice pb ny cb)).toArray 46) w.heap.size (by rw [s1]; omega)).trans d1
  have hG := (Grown.new w (.cells (encRv p (.slice pa nx ca)).toArray 46)).step (Grown.new _ (.cells (encRv q (.slice pb ny cb)).toArray 46))
  rw [s1] at d2
  obtain ⟨n0, hn0⟩ : ∃ n0, n0 = w.heap.size := ⟨_, rfl⟩
  obtain ⟨C, hC⟩ : ∃ C, C = (encRv p (.slice pa nx ca)).toArray := ⟨_, rfl⟩
  obtain ⟨D, hD⟩ : ∃ D, D = (encRv q (.slice pb ny cb)).toArray := ⟨_, rfl⟩
  rw [← hC, ← hD] at d2 d3 hG
  rw [← hn0] at d2 d3
  have HX : Hid (∀ U, Grown ((w.alloc (.cells C 46)).alloc (.cells D 46)) U → (U.rangeAt n0 0 (encPa p) ∧ U.cell? ⟨n0, 12, none⟩ = some (.slice pa nx ca)) ∧ (U.rangeAt (n0 + 1) 0 (encPa q) ∧ U.cell? ⟨n0 + 1, 12, none⟩ = some (.slice pb ny cb))) := Lib.hid (fun U hU => by
    have a1 := (hU.below.block n0 (Array.getElem?_eq_some_iff.1 d3).1).trans d3
    have a2 := (hU.below.block (n0 + 1) (Array.getElem?_eq_some_iff.1 d2).1).trans d2
    rw [hC] at a1
    rw [hD] at a2
    exact ⟨ruleX_of a1, ruleX_of a2⟩)
  obtain ⟨W, hW⟩ : ∃ W, W = (w.alloc (.cells C 46)).alloc (.cells D 46) := ⟨_, rfl⟩
  rw [← hW] at hG HX
  rw [← hC, ← hD]
  have HG0 := Lib.hid hG
  have HW := Lib.hid hW
  have HN := Lib.hid hn0
  obtain ⟨⟨hp1, _⟩, ⟨hp2, _⟩⟩ := HX.out W (Grown.refl W)
  have HP1 := Lib.hid hp1
  have HP2 := Lib.hid hp2
  have HI : Hid ((Tryz.prog.info? 40).map (·.size) = some (encPa p).length) := Lib.hid (by show _ = some 12; kernel_rfl)
  have HI2 : Hid ((Tryz.prog.info? 40).map (·.size) = some (encPa q).length) := Lib.hid (by show _ = some 12; kernel_rfl)
  have HXc : Hid (∀ U, Grown W U → U.cell? ⟨n0, 12, none⟩ = some (.slice pa nx ca) ∧ U.cell? ⟨n0 + 1, 12, none⟩ = some (.slice pb ny cb)) := Lib.hid (fun U hU => ⟨(HX.out U hU).1.2, (HX.out U hU).2.2⟩)
  generalize hEa : encPa p = Ea at *
  generalize hEb : encPa q = Eb at *
  clear hW hn0 d1 d2 d3 s1 hG hR hk1 hk2 hC hD hp1 hp2 hEa hEb ha hb hra hrb HX
  by_cases h1 : k1 = 0
  · have e1 : (k1 != 0) = false := by simp [h1]
    rw [if_pos h1] at HR
    subst h1
    go_enter Tryz.func27, Tryz.ntmps27
    go_upto_region 1 with fail
    rw [← HW.out, ← HN.out]
    go_wp2_with (first
      | (refine wpList_load_mid rfl 40 (.tmp 6) rfl n0 0 rfl Ea _ HP1.out Tryz.underlying40 rfl HI.out ?_)
      | (refine wpList_load_mid rfl 40 (.tmp 8) rfl (n0 + 1) 0 rfl Eb _ HP2.out Tryz.underlying40 rfl HI2.out ?_)
      | (go_at_call 41; (with_reducible refine (HPt.out _).mono ?_); rintro e wp ⟨rfl, hGp⟩; obtain ⟨z1, z2⟩ := HXc.out wp hGp; replace hGp := Lib.hid hGp)
      | (go_at_call 42; (with_reducible refine (HF.out _ (HG0.out.step hGp.out).below).mono ?_); rintro e wq ⟨rfl, hGq⟩; replace hGq := Lib.hid hGq))
    go_ret
    exact ⟨by rw [HR.out] <;> rfl, (HG0.out.step hGp.out).step hGq.out⟩
  · have e1 : (k1 != 0) = true := by simp [h1]
    rw [if_neg h1] at HR
    clear h1
    go_enter Tryz.func27, Tryz.ntmps27
    go_upto_region 1 with fail
    rw [← HW.out, ← HN.out]
    go_wp2_with (first
      | (refine wpList_load_mid rfl 40 (.tmp 6) rfl n0 0 rfl Ea _ HP1.out Tryz.underlying40 rfl HI.out ?_)
      | (refine wpList_load_mid rfl 40 (.tmp 8) rfl (n0 + 1) 0 rfl Eb _ HP2.out Tryz.underlying40 rfl HI2.out ?_)
      | (go_at_call 41; (with_reducible refine (HPt.out _).mono ?_); rintro e wp ⟨rfl, hGp⟩; replace hGp := Lib.hid hGp))
    go_ret
    exact ⟨by rw [HR.out] <;> rfl, HG0.out.step hGp.out⟩
end Go.Proofs.YtlkiigoblkfkpaaGreatDoor

/-
  CONTRACTS OF slices.Equal AT PARTS, rules.Same. (Written by tools/gencksame.py.)
-/

namespace Go.Proofs.YtlkiigoblkfkpaaGreatDoor
open Go.RowKit
open Utf Term
set_option linter.unusedVariables false
set_option linter.unusedSimpArgs false

set_option maxRecDepth 100000 in
set_option maxHeartbeats 8000000 in
theorem ckEqual_any (pa pb : Option Addr) (ca cb : Nat) (xs ys : List LitD) (hx : xs.length ≤ 1000000000) (w : World) (hra : 0 < xs.length → ∃ g o, pa = some ⟨g, o, none⟩ ∧ RowL w g o xs) (hrb : 0 < ys.length → ∃ g o, pb = some ⟨g, o, none⟩ ∧ RowL w g o ys) :
    Calls Tryz.prog 44 #[.slice pa xs.length ca, .slice pb ys.length cb] w fun e w' => e = .returned (.bool (decide (xs = ys))) ∧ Below w.heap.size w w' := by
  obtain ⟨R, hR⟩ : ∃ R, R = decide (xs = ys) := ⟨_, rfl⟩
  rw [← hR]
  have HR := Lib.hid hR
  clear hR
  by_cases hl : xs.length = ys.length
  · obtain ⟨n, hn⟩ : ∃ n, n = xs.length := ⟨_, rfl⟩
    rw [← hn] at hra hx ⊢
    rw [← hl, ← hn] at hrb ⊢
    have HN := Lib.hid hn
    have HNy := Lib.hid (show n = ys.length by omega)
    have HA : Hid (∀ U, Below w.heap.size w U → 0 < n → ∃ g o, pa = some ⟨g, o, none⟩ ∧ RowL U g o xs) := Lib.hid (fun U hU h => by obtain ⟨g, o, e, r⟩ := hra h; exact ⟨g, o, e, r.below hU⟩)
    have HY : Hid (∀ U, Below w.heap.size w U → 0 < n → ∃ g o, pb = some ⟨g, o, none⟩ ∧ RowL U g o ys) := Lib.hid (fun U hU h => by obtain ⟨g, o, e, r⟩ := hrb h; exact ⟨g, o, e, r.below hU⟩)
    clear hl hn hra hrb
    go_enter Tryz.func44, Tryz.ntmps44
    go_wp2
    go_loopg [13] n (fun gg i wr => ∃ k : Nat, k ≤ n ∧ n - k ≤ gg ∧ i = .int .i64 (k : Int) ∧ (∀ j, j < k → xs[j]? = ys[j]?) ∧ Below w.heap.size w wr)
    case atStart => exact ⟨0, Nat.zero_le _, by omega, rfl, (by intro j hj; omega), Below.refl _ _⟩
    case round =>
      obtain ⟨k, hk, hg, rfl, heq, hB⟩ := hrel
      have HEq := Lib.hid heq
      have HB := Lib.hid hB
      clear heq hB
      by_cases hlt : k < n
      · have d1 : decide ((k : Int) < (n : Int)) = true := by simpa using hlt
        have d1n : decide (k < n) = true := by simpa using hlt
        obtain ⟨x, hxk⟩ : ∃ x, xs[k]? = some x := ⟨_, List.getElem?_eq_getElem (by have := HN.out; omega)⟩
        obtain ⟨y, hyk⟩ : ∃ y, ys[k]? = some y := ⟨_, List.getElem?_eq_getElem (by have := HNy.out; omega)⟩
        obtain ⟨ga, oa, rfl, ra⟩ := HA.out wr HB.out (by omega)
        obtain ⟨gb, ob, rfl, rb⟩ := HY.out wr HB.out (by omega)
        have hln := lit_neq x y
        have i0 : (0 : Int) ≤ (k : Int) := by omega
        have i1 : (k : Int) < (n : Int) := by omega
        have i2 : (k : Int) + 1 ≤ 9223372036854775807 := by omega
        have i3 : k + 1 ≤ 1000000001 := by omega
        have HXy := Lib.hid (show xs[k]? = some x ∧ ys[k]? = some y from ⟨hxk, hyk⟩)
        have RX := Lib.hid (ra.range hxk)
        have RY := Lib.hid (rb.range hyk)
        have HIX := Lib.hid (show (Tryz.prog.info? 43).map (·.size) = some (litC x).toList.length by kernel_rfl)
        have HIY := Lib.hid (show (Tryz.prog.info? 43).map (·.size) = some (litC y).toList.length by kernel_rfl)
        have harx : litC x = (litC x).toList.toArray := rfl
        have hary : litC y = (litC y).toList.toArray := rfl
        rw [harx, hary] at hln
        clear hxk hyk ra rb harx hary HA HY
        generalize (litC x).toList = CX at *
        generalize (litC y).toList = CY at *
        obtain ⟨b, hd⟩ : ∃ b, b = decide (x = y) := ⟨_, rfl⟩
        rw [← hd] at hln
        have HD := Lib.hid hd
        clear hd
        cases b with
        | true =>
          go_wp2_with fail
          refine wp_region_quiet_lit (by kernel_rfl) (by kernel_rfl) ?_
          go_big_quiet_step (fail)
          go_big_quiet_step (fail)
          go_big_quiet_step (fail)
          go_big_quiet_want
          refine quiet_load_mid 43 _ rfl ga (oa + k * 21) rfl CX _ (fun w hw => by obtain ⟨m, rfl⟩ := hw; exact range_drew RX.out m) Tryz.underlying43 rfl HIX.out ?_
          simp only [Act.put, List.setIfInBounds_toArray, List.set_cons_zero, List.set_cons_succ]
          go_big_quiet_on
          go_big_quiet_step (fail)
          go_big_quiet_step (fail)
          go_big_quiet_step (fail)
          go_big_quiet_want
          refine quiet_load_mid 43 _ rfl gb (ob + k * 21) rfl CY _ (fun w hw => by obtain ⟨m, rfl⟩ := hw; exact range_drew RY.out m) Tryz.underlying43 rfl HIY.out ?_
          simp only [Act.put, List.setIfInBounds_toArray, List.set_cons_zero, List.set_cons_succ]
          go_big_quiet_on
          go_big_quiet_step (fail)
          refine wpQuiet_nil ?_
          intro _ hw'
          obtain ⟨nq, hw''⟩ := hw'
          subst hw''
          go_wp2_with fail
          go_roundg (n - (k + 1))
          case rel =>
            refine ⟨k + 1, by omega, Nat.le_refl _, by go_num, ?_, HB.out.trans ((lex_drewR w.heap.size _ _).mono (Nat.le_refl _))⟩
            intro j hj
            by_cases h : j < k
            · exact HEq.out j h
            · obtain rfl : j = k := by omega
              rw [HXy.out.1, HXy.out.2, of_decide_eq_true HD.out.symm]
          case measure => omega
        | false =>
          have HRf : Hid (R = false) := Lib.hid (by
            rw [HR.out]
            refine decide_eq_false fun e => of_decide_eq_false HD.out.symm ?_
            have h1 := HXy.out.1
            rw [e, HXy.out.2] at h1
            exact (Option.some.inj h1).symm)
          go_wp2_with fail
          refine wp_region_quiet_lit (by kernel_rfl) (by kernel_rfl) ?_
          go_big_quiet_step (fail)
          go_big_quiet_step (fail)
          go_big_quiet_step (fail)
          go_big_quiet_want
          refine quiet_load_mid 43 _ rfl ga (oa + k * 21) rfl CX _ (fun w hw => by obtain ⟨m, rfl⟩ := hw; exact range_drew RX.out m) Tryz.underlying43 rfl HIX.out ?_
          simp only [Act.put, List.setIfInBounds_toArray, List.set_cons_zero, List.set_cons_succ]
          go_big_quiet_on
          go_big_quiet_step (fail)
          go_big_quiet_step (fail)
          go_big_quiet_step (fail)
          go_big_quiet_want
          refine quiet_load_mid 43 _ rfl gb (ob + k * 21) rfl CY _ (fun w hw => by obtain ⟨m, rfl⟩ := hw; exact range_drew RY.out m) Tryz.underlying43 rfl HIY.out ?_
          simp only [Act.put, List.setIfInBounds_toArray, List.set_cons_zero, List.set_cons_succ]
          go_big_quiet_on
          go_big_quiet_step (fail)
          refine wpQuiet_nil ?_
          intro _ hw'
          obtain ⟨nq, hw''⟩ := hw'
          subst hw''
          go_wp2_with fail
          go_ret
          exact ⟨by rw [HRf.out] <;> rfl, HB.out.trans ((lex_drewR w.heap.size _ _).mono (Nat.le_refl _))⟩
      · obtain rfl : k = n := by omega
        have HRt : Hid (R = true) := Lib.hid (by
          rw [HR.out]
          exact decide_eq_true (list_same xs ys (by have := HN.out; have := HNy.out; omega) (fun i hi => HEq.out i (by have := HN.out; omega))))
        go_wp2
        go_ret
        exact ⟨by rw [HRt.out] <;> rfl, HB.out⟩
  · have HRf : Hid (R = false) := Lib.hid (by
      rw [HR.out]
      exact decide_eq_false fun e => hl (by rw [e]))
    have e1 : (((xs.length : Nat) : Int) != ((ys.length : Nat) : Int)) = true := by rw [bne_iff_ne]; omega
    have e2 : (xs.length == ys.length) = false := by rw [beq_eq_false_iff_ne]; exact hl
    generalize xs.length = nx at *
    generalize ys.length = ny at *
    clear hra hrb
    go_enter Tryz.func44, Tryz.ntmps44
    go_wp2
    go_ret
    exact ⟨by rw [HRf.out] <;> rfl, Below.refl _ _⟩
set_option maxRecDepth 100000 in
set_option maxHeartbeats 8000000 in
theorem ckSame_any (p q : PatD) (va vb : Value) (xs ys : List LitD) (hx : xs.length ≤ 1000000000) (w : World) (ha : BodyS w va xs) (hb : BodyS w vb ys) :
    Calls Tryz.prog 28 #[.agg (encRv p va).toArray, .agg (encRv q vb).toArray] w fun e w' => e = .returned (.bool (decide ((p, xs) = (q, ys)))) ∧ Below w.heap.size w w' := by
  obtain ⟨pa, ca, rfl, _, hra⟩ := ha.form
  obtain ⟨pb, cb, rfl, _, hrb⟩ := hb.form
  have HF : Hid (∀ U, Below w.heap.size w U → Calls Tryz.prog 44 #[.slice pa xs.length ca, .slice pb ys.length cb] U fun e w' => e = .returned (.bool (decide (xs = ys))) ∧ Below U.heap.size U w') := Lib.hid (fun U hU => ckEqual_any pa pb ca cb xs ys hx U (fun h => by
      obtain ⟨g, o, e, r⟩ := hra h
      exact ⟨g, o, e, r.below hU⟩) (fun h => by
      obtain ⟨g, o, e, r⟩ := hrb h
      exact ⟨g, o, e, r.below hU⟩))
  obtain ⟨R, hR⟩ : ∃ R, R = decide ((p, xs) = (q, ys)) := ⟨_, rfl⟩
  obtain ⟨D, hD⟩ : ∃ D, D = decide (xs = ys) := ⟨_, rfl⟩
  obtain ⟨E, hE⟩ : ∃ E, E = decide (p = q) := ⟨_, rfl⟩
  have HR : Hid (R = (E && D)) := Lib.hid (by
    rw [hR, hD, hE]
    by_cases h1 : p = q
    · by_cases h2 : xs = ys
      · simp [h1, h2]
      · simp [h1, h2]
    · simp [h1])
  have hpe := pat_eql p q
  rw [← hE] at hpe
  rw [← hD] at HF
  rw [← hR]
  generalize xs.length = nx at *
  generalize ys.length = ny at *
  have d1 := heap_alloc_new w (.cells (encRv p (.slice pa nx ca)).toArray 46)
  have s1 : (w.alloc (.cells (encRv p (.slice pa nx ca)).toArray 46)).heap.size = w.heap.size + 1 := World.size_alloc _ _
  have d2 := heap_alloc_new (w.alloc (.cells (encRv p (.slice pa nx ca)).toArray 46)) (.cells (encRv q (.slice pb ny cb)).toArray 46)
  have d3 := (Below.heap_alloc (w.alloc (.cells (encRv p (.slice pa nx ca)).toArray 46)) (.cells (encRv q (.slice pb ny cb)).toArray 46) w.heap.size (by rw [s1]; omega)).trans d1
  have hG := (Grown.new w (.cells (encRv p (.slice pa nx ca)).toArray 46)).step (Grown.new _ (.cells (encRv q (.slice pb ny cb)).toArray 46))
  rw [s1] at d2
  obtain ⟨n0, hn0⟩ : ∃ n0, n0 = w.heap.size := ⟨_, rfl⟩
  obtain ⟨C, hC⟩ : ∃ C, C = (encRv p (.slice pa nx ca)).toArray := ⟨_, rfl⟩
  obtain ⟨D2, hD2⟩ : ∃ D, D = (encRv q (.slice pb ny cb)).toArray := ⟨_, rfl⟩
  rw [← hC, ← hD2] at d2 d3 hG
  rw [← hn0] at d2 d3
  obtain ⟨W, hW⟩ : ∃ W, W = (w.alloc (.cells C 46)).alloc (.cells D2 46) := ⟨_, rfl⟩
  rw [← hW] at hG d2 d3
  rw [hC] at d3
  rw [hD2] at d2
  rw [← hC, ← hD2]
  obtain ⟨hp1, z1⟩ := ruleX_of d3
  obtain ⟨hp2, z2⟩ := ruleX_of d2
  have HP1 := Lib.hid hp1
  have HP2 := Lib.hid hp2
  have HG0 := Lib.hid hG
  have HW := Lib.hid hW
  have HN := Lib.hid hn0
  have HI : Hid ((Tryz.prog.info? 40).map (·.size) = some (encPa p).length) := Lib.hid (by show _ = some 12; kernel_rfl)
  have HI2 : Hid ((Tryz.prog.info? 40).map (·.size) = some (encPa q).length) := Lib.hid (by show _ = some 12; kernel_rfl)
  have hax : patC p = (encPa p).toArray := rfl
  have hay : patC q = (encPa q).toArray := rfl
  rw [hax, hay] at hpe
  generalize hEa : encPa p = Ea at *
  generalize hEb : encPa q = Eb at *
  clear hW hn0 d1 d2 d3 s1 hG hR hD hE hC hD2 hp1 hp2 hEa hEb ha hb hra hrb hax hay
  cases E with
  | false =>
    rw [Bool.false_and] at HR
    go_enter Tryz.func28, Tryz.ntmps28
    go_upto_region 1 with fail
    rw [← HW.out, ← HN.out]
    go_wp2_with (first
      | (refine wpList_load_mid rfl 40 (.tmp 5) rfl n0 0 rfl Ea _ HP1.out Tryz.underlying40 rfl HI.out ?_)
      | (refine wpList_load_mid rfl 40 (.tmp 7) rfl (n0 + 1) 0 rfl Eb _ HP2.out Tryz.underlying40 rfl HI2.out ?_))
    go_ret
    exact ⟨by rw [HR.out] <;> rfl, HG0.out.below⟩
  | true =>
    rw [Bool.true_and] at HR
    go_enter Tryz.func28, Tryz.ntmps28
    go_upto_region 1 with fail
    rw [← HW.out, ← HN.out]
    go_wp2_with (first
      | (refine wpList_load_mid rfl 40 (.tmp 5) rfl n0 0 rfl Ea _ HP1.out Tryz.underlying40 rfl HI.out ?_)
      | (refine wpList_load_mid rfl 40 (.tmp 7) rfl (n0 + 1) 0 rfl Eb _ HP2.out Tryz.underlying40 rfl HI2.out ?_)
      | (go_at_call 44; (with_reducible refine (HF.out _ HG0.out.below).mono ?_); rintro e wq ⟨rfl, hGq⟩; replace hGq := Lib.hid hGq))
    go_ret
    exact ⟨by rw [HR.out] <;> rfl, HG0.out.below.trans (hGq.out.mono HG0.out.below.size)⟩
end Go.Proofs.YtlkiigoblkfkpaaGreatDoor

