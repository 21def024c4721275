/-
  CONTRACTS OF known, equal.
-/
import Derived.Test.YtloonndeojfepaaUnTwo
import Derived.Deep.RegionHeld3
namespace Go.Proofs.Ytloonndeojfepaa
open Go.RowKit
set_option linter.unusedVariables false
set_option linter.unusedSimpArgs false

theorem known_cl : cliqueJ [(5, 3), (3, 9)] 5 = [3, 5, 9] := by
  refine rise_eq (sort_rise ?_) (by decide) fun x => ?_
  · decide +kernel
  · unfold cliqueJ cliqueL
    rw [if_neg (by decide), (List.mergeSort_perm _ _).mem_iff]
    have : (lookA (runA [(5, 3), (3, 9)]) 5).2.2 = [5, 3, 9] := by decide +kernel
    rw [this]
    simp only [List.mem_cons, List.not_mem_nil, or_false]
    omega
set_option maxRecDepth 100000 in
theorem known_any (w : World) : Calls Try.prog 6 #[] w fun e w' => e = .returned (.bool true) ∧ Below w.heap.size w w' := by
  have HN := Lib.hid (unNew w)
  have v1 : joinA (runA []) 5 3 = ((joinA (runA []) 5 3).1, 3, true) := by
    refine Prod.ext rfl (Prod.ext ?_ ?_) <;> decide +kernel
  have v2 : (joinA (runA [(5, 3)]) 3 9).2.1 = 3 ∧ (joinA (runA [(5, 3)]) 3 9).2.2 = true := by decide +kernel
  have v3 : leastJ [(5, 3), (3, 9)] 9 = 3 := by decide +kernel
  have V1 := Lib.hid v1
  have V2 := Lib.hid v2
  have V3 := Lib.hid v3
  clear v1 v2 v3
  go_enter Try.func6, Try.ntmps6
  go_upto_region 2 with (go_at_call 7; refine HN.out.mono ?_; rintro e w1 ⟨pb, rfl, h1, h2⟩; replace h1 := Lib.hid h1; replace h2 := Lib.hid h2)
  have HJ1 : Hid (Calls Try.prog 8 #[unP pb, .int .u32 5, .int .u32 3] w1 fun e w' => e = .returned (.tuple #[.int .u32 3, .bool true]) ∧ Below w.heap.size w w' ∧ ∃ S, UnI w' S pb [(5, 3)] ∧ ∀ j, S j → w.heap.size ≤ j) := Lib.hid ((h2.out.join (by simp) 5 3).mono (by
    rintro e w' ⟨rfl, ht, hu⟩
    refine ⟨by rw [V1.out]; rfl, h1.out.trans (ht.below h1.out.size (fun j hj => hj.1)), _, hu, fun j hj => ?_⟩
    rcases hj with hj | hj
    · exact hj.1
    · have := h1.out.size
      omega))
  go_upto_region 3 with (go_at_call 8; refine HJ1.out.mono ?_; rintro e w2 ⟨rfl, h3, S, h4, h5⟩; replace h3 := Lib.hid h3; replace h4 := Lib.hid h4; replace h5 := Lib.hid h5)
  have HJ2 : Hid (Calls Try.prog 8 #[unP pb, .int .u32 3, .int .u32 9] w2 fun e w' => e = .returned (.tuple #[.int .u32 3, .bool true]) ∧ Below w.heap.size w w' ∧ ∃ S, UnI w' S pb [(5, 3), (3, 9)]) := Lib.hid ((h4.out.join (by simp) 3 9).mono (by
    rintro e w' ⟨rfl, ht, hu⟩
    exact ⟨by rw [V2.out.1, V2.out.2]; rfl, h3.out.trans (ht.below h3.out.size h5.out), _, hu⟩))
  go_upto_region 4 with (go_at_call 8; refine HJ2.out.mono ?_; rintro e w3 ⟨rfl, h6, S2, h7⟩; replace h6 := Lib.hid h6; replace h7 := Lib.hid h7)
  have HCl : Hid (Calls Try.prog 13 #[unP pb, .int .u32 5] w3 fun e w' => (∃ g o cap, e = .returned (.slice (some ⟨g, o, none⟩) 3 cap) ∧ w'.cell? ⟨g, o, none⟩ = some (.int .u32 3) ∧ w'.cell? ⟨g, o + 1, none⟩ = some (.int .u32 5) ∧ w'.cell? ⟨g, o + 2, none⟩ = some (.int .u32 9)) ∧ Below w.heap.size w w' ∧ UnI w' S2 pb [(5, 3), (3, 9)]) := Lib.hid ((h7.out.clique (by simp) 5).mono (by
    rintro e w' ⟨ao, cap, rfl, hn, hb⟩
    rw [known_cl] at hn ⊢
    obtain ⟨g, o, rfl, hc⟩ := hn (by simp)
    exact ⟨⟨g, o, cap, rfl, hc 0 3 rfl, hc 1 5 rfl, hc 2 9 rfl⟩, h6.out.trans (hb.mono h6.out.size), h7.out.below hb⟩))
  go_upto_region 5 with (go_at_call 13; refine HCl.out.mono ?_; rintro e w4 ⟨⟨g, o, cap, rfl, k0, k1, k2⟩, h8, h9⟩; replace h8 := Lib.hid h8; replace h9 := Lib.hid h9)
  have HFi : Hid (Calls Try.prog 14 #[unP pb, .int .u32 9] w4 fun e w' => e = .returned (.int .u32 3) ∧ w4 = w') := Lib.hid ((h9.out.find 9).mono (by
    rintro e w' ⟨rfl, rfl⟩
    exact ⟨by rw [V3.out]; rfl, rfl⟩))
  go_wp2_with (go_at_call 14; refine HFi.out.mono ?_; rintro e w5 ⟨rfl, rfl⟩)
  go_ret
  exact ⟨rfl, h8.out⟩
theorem below_drewU {B : Nat} {u w : World} (h : Below B u w) (n : Nat) : Below B u (w.drewN n) := ⟨h.os, h.tape, h.output, h.size, h.block⟩
set_option maxRecDepth 100000 in
theorem equal_any {w : World} {ao bo : Option Addr} {ca cb : Nat} {l k : List Nat} (ha : NumsR w ao l) (hb : NumsR w bo k) (hle : l.length ≤ 1000000000) : Calls Try.prog 12 #[.slice ao l.length ca, .slice bo k.length cb] w fun e w' => e = .returned (.bool (decide (l = k))) ∧ Below w.heap.size w w' := by
  have HA := Lib.hid ha
  have HB := Lib.hid hb
  clear ha hb
  by_cases hl : l.length = k.length
  · have e1 : ((l.length : Int) != (k.length : Int)) = false := by rw [bne_eq_false_iff_eq]; omega
    have HL := Lib.hid hl
    obtain ⟨n, hn⟩ : ∃ n, n = l.length := ⟨_, rfl⟩
    obtain ⟨m, hm⟩ : ∃ m, m = k.length := ⟨_, rfl⟩
    rw [← hn, ← hm] at e1
    rw [← hn, ← hm]
    have HN := Lib.hid hn
    have HM := Lib.hid hm
    have hnle : n ≤ 1000000000 := by omega
    clear hn hm hl hle
    go_enter Try.func12, Try.ntmps12
    go_wp2
    go_loopg [5] n (fun gg i wr => ∃ q : Nat, q ≤ n ∧ n - q ≤ gg ∧ i = .int .i64 (q : Int) ∧ (∀ j, j < q → l[j]? = k[j]?) ∧ Below w.heap.size w wr)
    case atStart => exact ⟨0, by omega, by omega, rfl, fun j hj => absurd hj (by omega), Below.refl _ _⟩
    case round =>
      obtain ⟨q, hq, hg, rfl, hs, hbe⟩ := hrel
      obtain rfl | hqn : q = n ∨ q < n := by omega
      · have HE : Hid (decide (l = k) = true) := Lib.hid (decide_eq_true (by
          apply List.ext_getElem?
          intro j
          by_cases hj : j < q
          · exact hs j hj
          · rw [List.getElem?_eq_none (by have := HN.out; omega), List.getElem?_eq_none (by have := HM.out; have := HL.out; have := HN.out; omega)]))
        have HBe := Lib.hid hbe
        clear hs hbe
        go_wp2
        go_ret
        exact ⟨by rw [HE.out]; rfl, HBe.out⟩
      · have hql : q < l.length := by have := HN.out; omega
        have hqk : q < k.length := by have := HL.out; omega
        obtain ⟨g, o, rfl, hc⟩ := HA.out (by omega)
        obtain ⟨g2, o2, rfl, hc2⟩ := HB.out (by omega)
        have c1 := hc q _ (List.getElem?_eq_getElem hql)
        have c2 := hc2 q _ (List.getElem?_eq_getElem hqk)
        have c1 := (hbe.cell (p := ⟨g, o + q, none⟩) (World.block_lt_of_cell? _ _ c1)).trans c1
        have c2 := (hbe.cell (p := ⟨g2, o2 + q, none⟩) (World.block_lt_of_cell? _ _ c2)).trans c2
        have hqm : (q : Int) < (m : Int) := by have := HM.out; omega
        obtain ⟨x, hx⟩ : ∃ x, x = l[q] := ⟨_, rfl⟩
        obtain ⟨y, hy⟩ : ∃ y, y = k[q] := ⟨_, rfl⟩
        rw [← hx] at c1
        rw [← hy] at c2
        have e4 : decide ((q : Int) < (n : Int)) = true := decide_eq_true (by omega)
        by_cases hxy : x = y
        · have e2 : ((x : Int) != (y : Int)) = false := by rw [bne_eq_false_iff_eq, hxy]
          have HS : Hid (∀ j, j < q + 1 → l[j]? = k[j]?) := Lib.hid (fun j hj => by
            by_cases e : j = q
            · subst e
              rw [List.getElem?_eq_getElem hql, List.getElem?_eq_getElem hqk, ← hx, ← hy, hxy]
            · exact hs j (by omega))
          have HBe := Lib.hid hbe
          clear hs hbe hc hc2 hx hy hxy
          go_upto_region 6 with fail
          go_quiet (fail)
          go_wp2
          go_roundg (n - (q + 1))
          case measure => omega
          case rel => exact ⟨q + 1, by omega, by omega, by go_num, HS.out, below_drewU HBe.out _⟩
        · have e2 : ((x : Int) != (y : Int)) = true := by rw [bne_iff_ne]; omega
          have HE : Hid (decide (l = k) = false) := Lib.hid (decide_eq_false (fun e => hxy (by rw [hx, hy]; subst e; rfl)))
          have HBe := Lib.hid hbe
          clear hs hbe hc hc2 hx hy hxy
          go_upto_region 6 with fail
          go_quiet (fail)
          go_wp2
          go_ret
          exact ⟨by rw [HE.out]; rfl, below_drewU HBe.out _⟩
  · have e1 : ((l.length : Int) != (k.length : Int)) = true := by rw [bne_iff_ne]; omega
    have HE : Hid (decide (l = k) = false) := Lib.hid (decide_eq_false (fun e => hl (by rw [e])))
    clear hl
    go_enter Try.func12, Try.ntmps12
    go_wp2
    go_ret
    exact ⟨by rw [HE.out]; rfl, Below.refl _ _⟩
end Go.Proofs.Ytloonndeojfepaa
