/-
  WHAT THE PROOF STANDS ON, a part of it: UnRefC.
-/
import Derived.Test.YtjbfjglomonanaaU25
/-
  THE REFERENCE'S Clique: contract. (Written by tools/genunrefc.py.)
-/

namespace Go.Proofs.Ytjbfjglomonanaa
open Go.RowKit
set_option linter.unusedVariables false
set_option linter.unusedSimpArgs false

/-- What the closing has so far: rising, with a, all joined to it. -/
def GoodR (K : List (Nat × Nat)) (a : Nat) (L : List Nat) : Prop := L.Pairwise (· < ·) ∧ a ∈ L ∧ ∀ x ∈ L, Con K a x
theorem GoodR.len {K : List (Nat × Nat)} {a : Nat} {L : List Nat} (h : GoodR K a L) : L.length ≤ 1 + 2 * K.length := by
  have := nodup_le (k := a :: (K.map (·.1) ++ K.map (·.2))) (h.1.imp (fun {a b} h => Nat.ne_of_lt h)) fun y hy => by
    rcases con_num (h.2.2 y hy) with rfl | ⟨_, h⟩
    · exact List.mem_cons_self ..
    · exact List.mem_cons_of_mem _ h
  simp only [List.length_cons, List.length_append, List.length_map] at this
  omega
theorem cliqueJ_mem {K : List (Nat × Nat)} {a : Nat} (ha : a ≠ 0) (x : Nat) : x ∈ cliqueJ K a ↔ Con K a x := by
  unfold cliqueJ cliqueL
  rw [if_neg ha, (List.mergeSort_perm _ _).mem_iff, ((runA_of K).inv.look a).2.1, ← (runA_of K).con]
theorem cliqueJ_rise (K : List (Nat × Nat)) (a : Nat) : (cliqueJ K a).Pairwise (· < ·) := by
  unfold cliqueJ cliqueL
  split
  · exact List.Pairwise.nil
  · exact sort_rise ((runA_of K).inv.look a).1.nodup
theorem GoodR.closed {K : List (Nat × Nat)} {a : Nat} {L : List Nat} (ha : a ≠ 0) (h : GoodR K a L) (hc : ∀ z ∈ K, (z.1 ∈ L ↔ z.2 ∈ L)) : L = cliqueJ K a := by
  refine rise_eq h.1 (cliqueJ_rise K a) fun x => ?_
  rw [cliqueJ_mem ha]
  refine ⟨h.2.2 x, fun hx => ?_⟩
  have key : ∀ {p q : Nat}, Con K p q → (p ∈ L ↔ q ∈ L) := fun {p q} hpq => by
    induction hpq with
    | refl a => exact Iff.rfl
    | base h _ _ => exact hc _ h
    | symm _ ih => exact ih.symm
    | trans _ _ i1 i2 => exact i1.trans i2
  exact (key hx).1 h.2.1
theorem pair_low {W u : World} {p q : Addr} {x y : Value} (h : u.cell? p = some x ∧ u.cell? q = some y ∧ Below W.heap.size W u) : Below W.heap.size W u := h.2.2
theorem pair_step {W u v : World} {p q : Addr} {x y : Value} (h : u.cell? p = some x ∧ u.cell? q = some y ∧ Below W.heap.size W u) (k : Below u.heap.size u v) : Below W.heap.size W v := h.2.2.trans (k.mono h.2.2.size)
set_option maxRecDepth 100000 in
set_option maxHeartbeats 8000000 in
theorem refClique_any {ao : Option Addr} {cap : Nat} {K : List (Nat × Nat)} (a : Nat) {w : World} (hK : PairR w ao K) (hle : K.length ≤ 1000) (hnz : ∀ z ∈ K, z.1 ≠ 0 ∧ z.2 ≠ 0) : Calls Try.prog 10 #[.slice ao K.length cap, .int .u32 (a : Int)] w fun e w' =>
    ∃ ao' cap', e = .returned (.slice ao' (cliqueJ K a).length cap') ∧ ElR keyU w' ao' (cliqueJ K a) ∧ Below w.heap.size w w' := by
  by_cases h0 : a = 0
  · subst h0
    have he : cliqueJ K 0 = [] := rfl
    rw [he]
    have e1 : (((0 : Nat) : Int) == 0) = true := by decide
    clear hK hnz hle he
    go_enter Try.func10, Try.ntmps10
    go_wp2
    go_ret
    exact ⟨none, 0, rfl, (fun h => (by simp at h)), Below.refl _ _⟩
  have e1 : ((a : Int) == 0) = false := by rw [beq_eq_false_iff_ne]; omega
  have HK := Lib.hid hK
  have HNz := Lib.hid hnz
  have HA0 := Lib.hid h0
  obtain ⟨n, hn⟩ : ∃ n, n = K.length := ⟨_, rfl⟩
  rw [← hn] at hle ⊢
  have HN := Lib.hid hn
  have HSt0 : Hid (ElR keyU (w.alloc (.cells #[.int .u32 (a : Int)] 23)) (some ⟨w.heap.size, 0, none⟩) [a]) := Lib.hid (fun _ => ⟨_, _, rfl, fun j x hx => by
    match j, hx with
    | 0, hx => cases hx; exact cell_in (heap_alloc_new w _) rfl
    | j + 1, hx => simp at hx⟩)
  have HB0 := Lib.hid ((Below.refl w.heap.size w).alloc (Nat.le_refl _) (.cells #[.int .u32 (a : Int)] 23))
  have HG0 : Hid (GoodR K a [a]) := Lib.hid ⟨by simp, by simp, fun x hx => by rw [List.mem_singleton] at hx; rw [hx]; exact .refl _⟩
  clear hK hnz h0 hn
  go_enter Try.func10, Try.ntmps10
  go_wp2
  go_loopg [5, 6] (4 * n + 10) (fun gg s b wr => ∃ (L : List Nat) (ao2 : Option Addr) (cap2 : Nat) (gr : Bool), s = .slice ao2 L.length cap2 ∧ b = .bool gr ∧ ElR keyU wr ao2 L ∧ GoodR K a L ∧ (gr = false → ∀ z ∈ K, (z.1 ∈ L ↔ z.2 ∈ L)) ∧ 2 * (2 * n + 2 - L.length) + (if gr then 1 else 0) ≤ gg ∧ Below w.heap.size w wr)
  case atStart => exact ⟨[a], _, 1, true, rfl, rfl, HSt0.out, HG0.out, (fun h => (by cases h)), (by simp; omega), HB0.out⟩
  case round =>
    obtain ⟨L0, ao1, cap1, gr0, rfl, rfl, hel, hgood, hcl, hgg, hbe⟩ := hrel
    have HE0 := Lib.hid hel
    have HGd0 := Lib.hid hgood
    have HCl0 := Lib.hid hcl
    have HBe0 := Lib.hid hbe
    have hL0 := hgood.len
    clear hel hgood hcl hbe
    cases gr0 with
    | false =>
      have HEq : Hid (L0 = cliqueJ K a) := Lib.hid (HGd0.out.closed HA0.out (HCl0.out rfl))
      go_wp2
      go_ret
      exact ⟨ao1, ⟨cap1, by rw [← HEq.out]; rfl⟩, by rw [← HEq.out]; exact HE0.out, HBe0.out⟩
    | true =>
      have HGg := Lib.hid hgg
      clear hgg
      obtain ⟨wx, hwx⟩ : ∃ wx, wx = wr := ⟨_, rfl⟩
      subst hwx
      go_wp2
      go_loopg [5, 6, 7] n (fun gk s b i wy => ∃ (k : Nat) (L : List Nat) (ao2 : Option Addr) (cap2 : Nat) (gr : Bool), k ≤ n ∧ n - k ≤ gk ∧ i = .int .i64 (k : Int) ∧ s = .slice ao2 L.length cap2 ∧ b = .bool gr ∧ ElR keyU wy ao2 L ∧ GoodR K a L ∧ ((gr = false → L = L0 ∧ ∀ j z, j < k → K[j]? = some z → (z.1 ∈ L0 ↔ z.2 ∈ L0)) ∧ (gr = true → L0.length < L.length)) ∧ Below w.heap.size w wy)
      case atStart => exact ⟨0, L0, ao1, cap1, false, by omega, by omega, rfl, rfl, rfl, HE0.out, HGd0.out, ⟨(fun _ => ⟨rfl, fun j z hj => absurd hj (by omega)⟩), (fun h => (by cases h))⟩, HBe0.out⟩
      case round =>
        obtain ⟨k, L, ao2, cap2, gr, hk, hgk, rfl, rfl, rfl, hel, hgood, hgr, hbe⟩ := hrel
        obtain ⟨wo, hwo⟩ : ∃ wo, wo = wr := ⟨_, rfl⟩
        subst hwo
        have HE := Lib.hid hel
        have HGood := Lib.hid hgood
        have HGr := Lib.hid hgr
        have HB := Lib.hid hbe
        have hLl := hgood.len
        have hKl := HN.out
        rw [← hKl] at hLl hL0
        clear hel hgood hgr hbe hKl
        obtain rfl | hkn : k = n ∨ k < n := by omega
        · have hgg2 : ∃ gg2, 2 * (2 * k + 2 - L.length) + (if gr then 1 else 0) ≤ gg2 ∧ gg2 < 2 * (2 * k + 2 - L0.length) + 1 := ⟨_, Nat.le_refl _, by
            cases hgr : gr with
            | true => have := HGr.out.2 hgr; simp; omega
            | false => rw [(HGr.out.1 hgr).1]; simp⟩
          obtain ⟨gg2, hg1, hg2⟩ := hgg2
          have HG1 := Lib.hid hg1
          have HG2 : Hid (gg2 < 2 * (2 * k + 2 - L0.length) + 1) := Lib.hid hg2
          have HCl : Hid (gr = false → ∀ z ∈ K, (z.1 ∈ L ↔ z.2 ∈ L)) := Lib.hid (fun hgr z hz => by
            obtain ⟨h8, h9⟩ := HGr.out.1 hgr
            obtain ⟨j, hj⟩ := List.getElem?_of_mem hz
            rw [h8]
            exact h9 j z (by have := (List.getElem?_eq_some_iff.1 hj).1; have := HN.out; omega) hj)
          clear hg1 hg2
          go_wp2
          go_roundg gg2
          case measure =>
            have h8 := HGg.out
            have h9 := HG2.out
            simp at h8
            omega
          case rel => exact ⟨L, ao2, cap2, gr, rfl, rfl, HE.out, HGood.out, HCl.out, HG1.out, HB.out⟩
        · have hkl : k < K.length := by have := HN.out; omega
          obtain ⟨x, hx⟩ : ∃ x, K[k]? = some x := ⟨_, List.getElem?_eq_getElem hkl⟩
          obtain ⟨g, o, rfl, hcell⟩ := HK.out (by omega)
          have e4 : decide ((k : Int) < (n : Int)) = true := decide_eq_true (by omega)
          have HX := Lib.hid hx
          have cc : ∀ U, Below w.heap.size w U → U.cell? ⟨g, o + k * 2, none⟩ = some (.int .u32 (x.1 : Int)) ∧ U.cell? ⟨g, o + k * 2 + 1, none⟩ = some (.int .u32 (x.2 : Int)) := fun U hU => ⟨(hU.cell (p := ⟨g, o + k * 2, none⟩) (World.block_lt_of_cell? _ _ (hcell k x hx).1)).trans (hcell k x hx).1, (hU.cell (p := ⟨g, o + k * 2 + 1, none⟩) (World.block_lt_of_cell? _ _ (hcell k x hx).2)).trans (hcell k x hx).2⟩
          have HCx : Hid (∀ U, Below wo.heap.size wo U → U.cell? ⟨g, o + k * 2, none⟩ = some (.int .u32 (x.1 : Int)) ∧ U.cell? ⟨g, o + k * 2 + 1, none⟩ = some (.int .u32 (x.2 : Int)) ∧ Below wo.heap.size wo U) := Lib.hid (fun U hU => by
            have := cc U (HB.out.trans (hU.mono HB.out.size))
            exact ⟨this.1, this.2, hU⟩)
          have HSt := Lib.hid (HCx.out wo.drew (Below.refl _ _).drew)
          clear hcell hx cc
          cases hb1 : decide (x.1 ∈ L) with
          | true =>
            have HB1 := Lib.hid hb1
            cases hb2 : decide (x.2 ∈ L) with
            | true =>
              have HB2 := Lib.hid hb2
              have hbx : decide (x.1 ∈ L) = true := hb1
              have hby : decide (x.2 ∈ L) = true := hb2
              have HIn1 : Hid (∀ U, Below wo.heap.size wo U → Calls Try.prog 20 #[.slice ao2 L.length cap2, .int .u32 (x.1 : Int)] U fun e w' => e = .returned (.bool true) ∧ w' = U) := Lib.hid (fun U hU => by
                have h8 := refIn_any (cap := cap2) x.1 (HE.out.below hU) (by omega)
                rw [hbx] at h8
                exact h8)
              have HIn2 : Hid (∀ U, Below wo.heap.size wo U → Calls Try.prog 20 #[.slice ao2 L.length cap2, .int .u32 (x.2 : Int)] U fun e w' => e = .returned (.bool true) ∧ w' = U) := Lib.hid (fun U hU => by
                have h8 := refIn_any (cap := cap2) x.2 (HE.out.below hU) (by omega)
                rw [hby] at h8
                exact h8)
              clear hbx hby
              obtain ⟨m, hm⟩ : ∃ m, m = L.length := ⟨_, rfl⟩
              rw [← hm] at HIn1 HIn2 hLl ⊢
              have HM := Lib.hid hm
              clear hm
              go_upto_region 10 with fail
              go_region_held3 (fun W' => W'.cell? ⟨g, o + k * 2, none⟩ = some (.int .u32 (x.1 : Int)) ∧ W'.cell? ⟨g, o + k * 2 + 1, none⟩ = some (.int .u32 (x.2 : Int)) ∧ Below wo.heap.size wo W') ((first | assumption | exact HSt.out | exact HCx.out _ (pair_step (by assumption) (by assumption)))) (first
                | (go_at_call 20; (with_reducible refine (HIn1.out _ (pair_low (by assumption))).mono ?_); rintro e y1 ⟨rfl, rfl⟩)
                | (go_at_call 20; (with_reducible refine (HIn2.out _ (pair_low (by assumption))).mono ?_); rintro e y2 ⟨rfl, rfl⟩))
              rename_i hHeld
              rename World => wq
              have hbq := pair_low hHeld
              have hcq := hHeld
              have HBq := Lib.hid hbq
              have c0 := hHeld.1
              have c1 := hHeld.2.1
              clear hHeld hcq
              have HEq := Lib.hid (HE.out.below hbq)
              have HBn := Lib.hid (HB.out.trans (hbq.mono HB.out.size))
              have HCl : Hid (gr = false → L = L0 ∧ ∀ j z, j < k + 1 → K[j]? = some z → (z.1 ∈ L0 ↔ z.2 ∈ L0)) := Lib.hid (fun hgr => by
                obtain ⟨h8, h9⟩ := HGr.out.1 hgr
                refine ⟨h8, fun j z hj hz => ?_⟩
                by_cases e : j = k
                · subst e
                  rw [HX.out] at hz
                  cases hz
                  rw [← h8]
                  exact ⟨fun _ => of_decide_eq_true HB2.out, fun _ => of_decide_eq_true HB1.out⟩
                · exact h9 j z (by omega) hz)
              clear hbq c0 c1
              go_wp2
              go_roundg (n - (k + 1))
              case measure => omega
              case rel => exact ⟨k + 1, L, ao2, cap2, gr, by omega, by omega, by go_num, by rw [HM.out], rfl, HEq.out, HGood.out, ⟨HCl.out, HGr.out.2⟩, HBn.out⟩
            | false =>
              have HB2 := Lib.hid hb2
              have hbx : decide (x.1 ∈ L) = true := hb1
              have hby : decide (x.2 ∈ L) = false := hb2
              have HIn1 : Hid (∀ U, Below wo.heap.size wo U → Calls Try.prog 20 #[.slice ao2 L.length cap2, .int .u32 (x.1 : Int)] U fun e w' => e = .returned (.bool true) ∧ w' = U) := Lib.hid (fun U hU => by
                have h8 := refIn_any (cap := cap2) x.1 (HE.out.below hU) (by omega)
                rw [hbx] at h8
                exact h8)
              have HIn2 : Hid (∀ U, Below wo.heap.size wo U → Calls Try.prog 20 #[.slice ao2 L.length cap2, .int .u32 (x.2 : Int)] U fun e w' => e = .returned (.bool false) ∧ w' = U) := Lib.hid (fun U hU => by
                have h8 := refIn_any (cap := cap2) x.2 (HE.out.below hU) (by omega)
                rw [hby] at h8
                exact h8)
              clear hbx hby
              obtain ⟨m, hm⟩ : ∃ m, m = L.length := ⟨_, rfl⟩
              rw [← hm] at HIn1 HIn2 hLl ⊢
              have HM := Lib.hid hm
              clear hm
              go_upto_region 10 with fail
              go_region_held3 (fun W' => W'.cell? ⟨g, o + k * 2, none⟩ = some (.int .u32 (x.1 : Int)) ∧ W'.cell? ⟨g, o + k * 2 + 1, none⟩ = some (.int .u32 (x.2 : Int)) ∧ Below wo.heap.size wo W') ((first | assumption | exact HSt.out | exact HCx.out _ (pair_step (by assumption) (by assumption)))) (first
                | (go_at_call 20; (with_reducible refine (HIn1.out _ (pair_low (by assumption))).mono ?_); rintro e y1 ⟨rfl, rfl⟩)
                | (go_at_call 20; (with_reducible refine (HIn2.out _ (pair_low (by assumption))).mono ?_); rintro e y2 ⟨rfl, rfl⟩))
              rename_i hHeld
              rename World => wq
              have hbq := pair_low hHeld
              have hcq := hHeld
              have HBq := Lib.hid hbq
              have c0 := hHeld.1
              have c1 := hHeld.2.1
              clear hHeld hcq
              have HPut := Lib.hid (put_any (cap := cap2) x.2 (HE.out.below hbq) (by have := HM.out; omega))
              rw [← HM.out] at HPut
              have HBn := Lib.hid (HB.out.trans (hbq.mono HB.out.size))
              have HG2 : Hid (GoodR K a (putL L x.2) ∧ L0.length < (putL L x.2).length) := Lib.hid (by
                have hnot : x.2 ∉ L := of_decide_eq_false HB2.out
                have hin : x.1 ∈ L := of_decide_eq_true HB1.out
                obtain ⟨p1, p2, p3⟩ := putL_is HGood.out.1 hnot
                have hnz := HNz.out x (List.mem_of_getElem? HX.out)
                have hcon : Con K x.1 x.2 := .base (List.mem_of_getElem? HX.out) hnz.1 hnz.2
                refine ⟨⟨p1, (p2 a).2 (.inl HGood.out.2.1), fun z hz => ?_⟩, ?_⟩
                · rcases (p2 z).1 hz with h8 | h8
                  · exact HGood.out.2.2 z h8
                  · rw [h8]
                    exact (HGood.out.2.2 _ hin).trans hcon
                · rw [p3]
                  have := HGr.out
                  cases hgr : gr with
                  | true => have := this.2 hgr; omega
                  | false => rw [(this.1 hgr).1]; omega)
              clear hbq
              go_wp2_with (go_at_call 21; refine HPut.out.mono ?_; rintro e w8 ⟨ao8, cap8, rfl, h8, h9⟩; replace h8 := Lib.hid h8; replace h9 := Lib.hid h9)
              go_roundg (n - (k + 1))
              case measure => omega
              case rel => exact ⟨k + 1, _, ao8, cap8, true, by omega, by omega, by go_num, rfl, rfl, h8.out, HG2.out.1, ⟨(fun h => (by cases h)), (fun _ => HG2.out.2)⟩, HBn.out.trans (h9.out.mono HBn.out.size)⟩
          | false =>
            have HB1 := Lib.hid hb1
            cases hb2 : decide (x.2 ∈ L) with
            | true =>
              have HB2 := Lib.hid hb2
              have hbx : decide (x.1 ∈ L) = false := hb1
              have hby : decide (x.2 ∈ L) = true := hb2
              have HIn1 : Hid (∀ U, Below wo.heap.size wo U → Calls Try.prog 20 #[.slice ao2 L.length cap2, .int .u32 (x.1 : Int)] U fun e w' => e = .returned (.bool false) ∧ w' = U) := Lib.hid (fun U hU => by
                have h8 := refIn_any (cap := cap2) x.1 (HE.out.below hU) (by omega)
                rw [hbx] at h8
                exact h8)
              have HIn2 : Hid (∀ U, Below wo.heap.size wo U → Calls Try.prog 20 #[.slice ao2 L.length cap2, .int .u32 (x.2 : Int)] U fun e w' => e = .returned (.bool true) ∧ w' = U) := Lib.hid (fun U hU => by
                have h8 := refIn_any (cap := cap2) x.2 (HE.out.below hU) (by omega)
                rw [hby] at h8
                exact h8)
              clear hbx hby
              obtain ⟨m, hm⟩ : ∃ m, m = L.length := ⟨_, rfl⟩
              rw [← hm] at HIn1 HIn2 hLl ⊢
              have HM := Lib.hid hm
              clear hm
              go_upto_region 10 with fail
              go_region_held3 (fun W' => W'.cell? ⟨g, o + k * 2, none⟩ = some (.int .u32 (x.1 : Int)) ∧ W'.cell? ⟨g, o + k * 2 + 1, none⟩ = some (.int .u32 (x.2 : Int)) ∧ Below wo.heap.size wo W') ((first | assumption | exact HSt.out | exact HCx.out _ (pair_step (by assumption) (by assumption)))) (first
                | (go_at_call 20; (with_reducible refine (HIn1.out _ (pair_low (by assumption))).mono ?_); rintro e y1 ⟨rfl, rfl⟩)
                | (go_at_call 20; (with_reducible refine (HIn2.out _ (pair_low (by assumption))).mono ?_); rintro e y2 ⟨rfl, rfl⟩))
              rename_i hHeld
              rename World => wq
              have hbq := pair_low hHeld
              have hcq := hHeld
              have HBq := Lib.hid hbq
              have c0 := hHeld.1
              have c1 := hHeld.2.1
              clear hHeld hcq
              have HPut := Lib.hid (put_any (cap := cap2) x.1 (HE.out.below hbq) (by have := HM.out; omega))
              rw [← HM.out] at HPut
              have HBn := Lib.hid (HB.out.trans (hbq.mono HB.out.size))
              have HG2 : Hid (GoodR K a (putL L x.1) ∧ L0.length < (putL L x.1).length) := Lib.hid (by
                have hnot : x.1 ∉ L := of_decide_eq_false HB1.out
                have hin : x.2 ∈ L := of_decide_eq_true HB2.out
                obtain ⟨p1, p2, p3⟩ := putL_is HGood.out.1 hnot
                have hnz := HNz.out x (List.mem_of_getElem? HX.out)
                have hcon : Con K x.1 x.2 := .base (List.mem_of_getElem? HX.out) hnz.1 hnz.2
                refine ⟨⟨p1, (p2 a).2 (.inl HGood.out.2.1), fun z hz => ?_⟩, ?_⟩
                · rcases (p2 z).1 hz with h8 | h8
                  · exact HGood.out.2.2 z h8
                  · rw [h8]
                    exact (HGood.out.2.2 _ hin).trans hcon.symm
                · rw [p3]
                  have := HGr.out
                  cases hgr : gr with
                  | true => have := this.2 hgr; omega
                  | false => rw [(this.1 hgr).1]; omega)
              clear hbq
              go_wp2_with (go_at_call 21; refine HPut.out.mono ?_; rintro e w8 ⟨ao8, cap8, rfl, h8, h9⟩; replace h8 := Lib.hid h8; replace h9 := Lib.hid h9)
              go_roundg (n - (k + 1))
              case measure => omega
              case rel => exact ⟨k + 1, _, ao8, cap8, true, by omega, by omega, by go_num, rfl, rfl, h8.out, HG2.out.1, ⟨(fun h => (by cases h)), (fun _ => HG2.out.2)⟩, HBn.out.trans (h9.out.mono HBn.out.size)⟩
            | false =>
              have HB2 := Lib.hid hb2
              have hbx : decide (x.1 ∈ L) = false := hb1
              have hby : decide (x.2 ∈ L) = false := hb2
              have HIn1 : Hid (∀ U, Below wo.heap.size wo U → Calls Try.prog 20 #[.slice ao2 L.length cap2, .int .u32 (x.1 : Int)] U fun e w' => e = .returned (.bool false) ∧ w' = U) := Lib.hid (fun U hU => by
                have h8 := refIn_any (cap := cap2) x.1 (HE.out.below hU) (by omega)
                rw [hbx] at h8
                exact h8)
              have HIn2 : Hid (∀ U, Below wo.heap.size wo U → Calls Try.prog 20 #[.slice ao2 L.length cap2, .int .u32 (x.2 : Int)] U fun e w' => e = .returned (.bool false) ∧ w' = U) := Lib.hid (fun U hU => by
                have h8 := refIn_any (cap := cap2) x.2 (HE.out.below hU) (by omega)
                rw [hby] at h8
                exact h8)
              clear hbx hby
              obtain ⟨m, hm⟩ : ∃ m, m = L.length := ⟨_, rfl⟩
              rw [← hm] at HIn1 HIn2 hLl ⊢
              have HM := Lib.hid hm
              clear hm
              go_upto_region 10 with fail
              go_region_held3 (fun W' => W'.cell? ⟨g, o + k * 2, none⟩ = some (.int .u32 (x.1 : Int)) ∧ W'.cell? ⟨g, o + k * 2 + 1, none⟩ = some (.int .u32 (x.2 : Int)) ∧ Below wo.heap.size wo W') ((first | assumption | exact HSt.out | exact HCx.out _ (pair_step (by assumption) (by assumption)))) (first
                | (go_at_call 20; (with_reducible refine (HIn1.out _ (pair_low (by assumption))).mono ?_); rintro e y1 ⟨rfl, rfl⟩)
                | (go_at_call 20; (with_reducible refine (HIn2.out _ (pair_low (by assumption))).mono ?_); rintro e y2 ⟨rfl, rfl⟩))
              rename_i hHeld
              rename World => wq
              have hbq := pair_low hHeld
              have hcq := hHeld
              have HBq := Lib.hid hbq
              have c0 := hHeld.1
              have c1 := hHeld.2.1
              clear hHeld hcq
              have HEq := Lib.hid (HE.out.below hbq)
              have HBn := Lib.hid (HB.out.trans (hbq.mono HB.out.size))
              have HCl : Hid (gr = false → L = L0 ∧ ∀ j z, j < k + 1 → K[j]? = some z → (z.1 ∈ L0 ↔ z.2 ∈ L0)) := Lib.hid (fun hgr => by
                obtain ⟨h8, h9⟩ := HGr.out.1 hgr
                refine ⟨h8, fun j z hj hz => ?_⟩
                by_cases e : j = k
                · subst e
                  rw [HX.out] at hz
                  cases hz
                  rw [← h8]
                  exact ⟨fun h => absurd h (of_decide_eq_false HB1.out), fun h => absurd h (of_decide_eq_false HB2.out)⟩
                · exact h9 j z (by omega) hz)
              clear hbq c0 c1
              go_wp2
              go_roundg (n - (k + 1))
              case measure => omega
              case rel => exact ⟨k + 1, L, ao2, cap2, gr, by omega, by omega, by go_num, by rw [HM.out], rfl, HEq.out, HGood.out, ⟨HCl.out, HGr.out.2⟩, HBn.out⟩
end Go.Proofs.Ytjbfjglomonanaa

