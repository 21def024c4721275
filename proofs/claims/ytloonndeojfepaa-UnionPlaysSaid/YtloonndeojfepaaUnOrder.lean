/-
  THE WALK OF UnionOrder.
-/
import Derived.Test.YtloonndeojfepaaUnKnown
namespace Go.Proofs.Ytloonndeojfepaa
open Go.RowKit
set_option linter.unusedVariables false
set_option linter.unusedSimpArgs false

/-- The same joins, from another place on, turned round. -/
def rotL (l : List (Nat × Nat)) (c k : Nat) : List (Nat × Nat) := (List.range k).map fun j => ((l.getD ((j + c) % l.length) (0, 0)).2, (l.getD ((j + c) % l.length) (0, 0)).1)
theorem rotL_succ (l : List (Nat × Nat)) (c k : Nat) : rotL l c (k + 1) = rotL l c k ++ [((l.getD ((k + c) % l.length) (0, 0)).2, (l.getD ((k + c) % l.length) (0, 0)).1)] := by
  unfold rotL
  rw [List.range_succ, List.map_append]
  rfl
theorem rotL_len (l : List (Nat × Nat)) (c k : Nat) : (rotL l c k).length = k := by unfold rotL; simp
theorem rot_con (l : List (Nat × Nat)) (c : Nat) (x y : Nat) : Con l x y ↔ Con (rotL l c l.length) x y := by
  constructor
  · refine Con.mono fun a b h => .inr ?_
    obtain ⟨j0, hj0⟩ := List.getElem?_of_mem h
    have hlt := (List.getElem?_eq_some_iff.1 hj0).1
    unfold rotL
    refine List.mem_map.2 ⟨(j0 + (l.length - c % l.length)) % l.length, by rw [List.mem_range]; exact Nat.mod_lt _ (by omega), ?_⟩
    have e : ((j0 + (l.length - c % l.length)) % l.length + c) % l.length = j0 := by
      have hc := Nat.mod_lt c (show 0 < l.length by omega)
      have h2 : (j0 + (l.length - c % l.length)) + c % l.length = j0 + l.length := by omega
      calc ((j0 + (l.length - c % l.length)) % l.length + c) % l.length = ((j0 + (l.length - c % l.length)) + c) % l.length := Nat.mod_add_mod _ _ _
        _ = ((j0 + (l.length - c % l.length)) + c % l.length) % l.length := (Nat.add_mod_mod _ _ _).symm
        _ = j0 := by rw [h2, Nat.add_mod_right, Nat.mod_eq_of_lt hlt]
    rw [e, List.getD_eq_getElem?_getD, hj0]
    rfl
  · refine Con.mono fun a b h => .inr ?_
    unfold rotL at h
    obtain ⟨j, hj, e⟩ := List.mem_map.1 h
    rw [List.mem_range] at hj
    have hlt : (j + c) % l.length < l.length := Nat.mod_lt _ (by omega)
    rw [List.getD_eq_getElem?_getD, List.getElem?_eq_getElem hlt] at e
    simp only [Option.getD_some, Prod.mk.injEq] at e
    rw [← e.1, ← e.2]
    exact List.getElem_mem hlt
/-- Pairs of numbers in memory. -/
def PairR (W : World) (ao : Option Addr) (l : List (Nat × Nat)) : Prop := 0 < l.length → ∃ g o, ao = some ⟨g, o, none⟩ ∧ ∀ j x, l[j]? = some x → W.cell? ⟨g, o + j * 2, none⟩ = some (.int .u32 (x.1 : Int)) ∧ W.cell? ⟨g, o + j * 2 + 1, none⟩ = some (.int .u32 (x.2 : Int))
theorem PairR.below {W U : World} {ao : Option Addr} {l : List (Nat × Nat)} (h : PairR W ao l) (hB : Below W.heap.size W U) : PairR U ao l := fun hl => by
  obtain ⟨g, o, e, hc⟩ := h hl
  exact ⟨g, o, e, fun j k hj => ⟨(hB.cell (p := ⟨g, o + j * 2, none⟩) (World.block_lt_of_cell? W _ (hc j k hj).1)).trans (hc j k hj).1, (hB.cell (p := ⟨g, o + j * 2 + 1, none⟩) (World.block_lt_of_cell? W _ (hc j k hj).2)).trans (hc j k hj).2⟩⟩
theorem two_new {w w1 w2 : World} {pb qb : Nat} (h1 : Below w.heap.size w w1) (h2 : UnI w1 (fun j => w.heap.size ≤ j ∧ j < w1.heap.size) pb []) (h3 : Below w1.heap.size w1 w2) (h4 : UnI w2 (fun j => w1.heap.size ≤ j ∧ j < w2.heap.size) qb []) : TwoI w.heap.size w w2 pb qb [] [] :=
  ⟨h1.trans (h3.mono h1.size), _, _, h2.below h3, h4, fun j hj hk => by omega, fun j hj => hj.1, fun j hj => by have := h1.size; omega⟩
theorem one_low {W u : World} {a : Addr} {v : Value} (h : u.cell? a = some v ∧ Below W.heap.size W u) : Below W.heap.size W u := h.2
theorem one_step {W u x : World} {a : Addr} {v : Value} (h : u.cell? a = some v ∧ Below W.heap.size W u) (k : Below u.heap.size u x) : Below W.heap.size W x := h.2.trans (k.mono h.2.size)
theorem cliqueJ_few (J : List (Nat × Nat)) (x : Nat) (h : J.length ≤ 1000) : (cliqueJ J x).length ≤ 1000000000 := by
  unfold cliqueJ cliqueL
  have := runA_few J x
  split
  · simp
  · rw [List.length_mergeSort]
    omega
set_option maxRecDepth 100000 in
set_option maxHeartbeats 16000000 in
theorem order_walk (ao : Option Addr) (cap : Nat) (l : List (Nat × Nat)) (by_ : Int) (w : World) (hl : PairR w ao l) : Calls Try.prog 4 #[.slice ao l.length cap, .int .i64 by_] w fun e w' => e = .returned (.bool true) ∧ Below w.heap.size w w' := by
  have HK := Lib.hid known_any
  have HP := Lib.hid hl
  clear hl
  by_cases hlen : 60 < l.length
  · have e0 : decide ((l.length : Int) > 60) = true := decide_eq_true (by omega)
    have e0' : decide (60 < (l.length : Int)) = true := decide_eq_true (by omega)
    have e0'' : decide (60 < l.length) = true := decide_eq_true (by omega)
    go_enter Try.func4, Try.ntmps4
    go_wp2_with (go_at_call 6; refine (HK.out _).mono ?_; rintro e w' ⟨rfl, hY⟩; replace hY := Lib.hid hY)
    go_ret
    exact ⟨rfl, hY.out⟩
  have e0 : decide ((l.length : Int) > 60) = false := decide_eq_false (by omega)
  have e0' : decide (60 < (l.length : Int)) = false := decide_eq_false (by omega)
  have e0'' : decide (60 < l.length) = false := decide_eq_false (by omega)
  have HNw := Lib.hid unNew
  obtain ⟨n, hn⟩ : ∃ n, n = l.length := ⟨_, rfl⟩
  rw [← hn] at e0 e0' e0'' hlen
  rw [← hn]
  have HN := Lib.hid hn
  clear hn
  go_enter Try.func4, Try.ntmps4
  go_upto_region 4 with (first
    | (go_at_call 7; refine (HNw.out w).mono ?_; rintro e w1 ⟨pb, rfl, h1, h2⟩; replace h1 := Lib.hid h1; replace h2 := Lib.hid h2)
    | (go_at_call 7; refine (HNw.out w1).mono ?_; rintro e w2 ⟨qb, rfl, h3, h4⟩; replace h3 := Lib.hid h3; replace h4 := Lib.hid h4))
  have HT0 := Lib.hid (two_new h1.out h2.out h3.out h4.out)
  clear h1 h2 h3 h4
  obtain ⟨r, hr⟩ : ∃ r, r = by_.tmod ((n : Int) + 1) := ⟨_, rfl⟩
  have hr1 : -(n : Int) ≤ r := by
    have := Int.lt_tmod_of_pos by_ (show (0 : Int) < (n : Int) + 1 by omega)
    omega
  have hr2 : r ≤ (n : Int) := by
    have := Int.tmod_lt_of_pos by_ (show (0 : Int) < (n : Int) + 1 by omega)
    omega
  obtain ⟨c, hc⟩ : ∃ c : Nat, (c : Int) = r + n + 1 := ⟨(r + n + 1).toNat, by omega⟩
  replace hr := hr.symm
  go_wp2
  go_loopg [7] n (fun gg i wr => ∃ k : Nat, k ≤ n ∧ n - k ≤ gg ∧ i = .int .i64 (k : Int) ∧ TwoI w.heap.size w wr pb qb (l.take k) (rotL l c k))
  case atStart => exact ⟨0, by omega, by omega, rfl, by simpa [rotL] using HT0.out⟩
  case round =>
    obtain ⟨k, hk, hg, rfl, ht⟩ := hrel
    have HT := Lib.hid ht
    clear ht
    obtain rfl | hkn : k = n ∨ k < n := by omega
    · have HTk := HT
      have htk : l.take k = l := List.take_of_length_le (by have := HN.out; omega)
      have hcon : ∀ x y, Con l x y ↔ Con (rotL l c k) x y := by rw [HN.out]; exact rot_con l c
      rw [htk] at HT
      have HCon := Lib.hid hcon
      have HRl := Lib.hid (rotL_len l c k)
      generalize hK : rotL l c k = K at *
      clear hK htk HTk hcon
      have HIn : Hid (∀ U, Below w.heap.size w U → PairR U ao l) := Lib.hid (fun U hU => HP.out.below hU)
      have e4 : decide ((k : Int) < (k : Int)) = false := decide_eq_false (by omega)
      clear hr hr1 hr2 hc HT0
      go_wp2
      go_loopg [9] k (fun gg i wx => ∃ p : Nat, p ≤ k ∧ k - p ≤ gg ∧ i = .int .i64 (p : Int) ∧ TwoI w.heap.size w wx pb qb l K)
      case atStart => exact ⟨0, by omega, by omega, rfl, HT.out⟩
      case round =>
        obtain ⟨p, hp, hgp, rfl, ht⟩ := hrel
        have HT2 := Lib.hid ht
        clear ht
        obtain rfl | hpk : p = k ∨ p < k := by omega
        · obtain ⟨N, hN1, hN2⟩ := count_both l K HCon.out
          have HLp : Hid (Calls Try.prog 15 #[unP pb] wr fun e w' => e = .returned (.int .i64 (N : Int)) ∧ wr = w') := Lib.hid (by
            obtain ⟨_, S, T, h1, _⟩ := HT2.out
            refine (h1.len hN1).mono ?_
            rintro e w' ⟨rfl, rfl⟩
            exact ⟨rfl, rfl⟩)
          have HLq : Hid (Calls Try.prog 15 #[unP qb] wr fun e w' => e = .returned (.int .i64 (N : Int)) ∧ wr = w') := Lib.hid (by
            obtain ⟨_, S, T, _, h1, _⟩ := HT2.out
            refine (h1.len hN2).mono ?_
            rintro e w' ⟨rfl, rfl⟩
            exact ⟨rfl, rfl⟩)
          clear hN1 hN2
          go_wp2_with (first
            | (go_at_call 15; (with_reducible refine HLp.out.mono ?_); rintro e y1 ⟨rfl, rfl⟩)
            | (go_at_call 15; (with_reducible refine HLq.out.mono ?_); rintro e y2 ⟨rfl, rfl⟩)
            | (go_at_call 6; (with_reducible refine (HK.out _).mono ?_); rintro e y3 ⟨rfl, hY⟩; replace hY := Lib.hid hY))
          go_ret
          exact ⟨rfl, HT2.out.1.trans (hY.out.mono HT2.out.1.size)⟩
        · have hpl : p < l.length := by have := HN.out; omega
          obtain ⟨x, hx⟩ : ∃ x, l[p]? = some x := ⟨_, List.getElem?_eq_getElem hpl⟩
          have e5 : decide ((p : Int) < (k : Int)) = true := decide_eq_true (by omega)
          obtain ⟨g, o, rfl, hcell⟩ := HP.out (by omega)
          have HCell : Hid (∀ U, Below w.heap.size w U → U.cell? ⟨g, o + p * 2, none⟩ = some (.int .u32 (x.1 : Int)) ∧ U.cell? ⟨g, o + p * 2 + 1, none⟩ = some (.int .u32 (x.2 : Int))) := Lib.hid (fun U hU => ⟨(hU.cell (p := ⟨g, o + p * 2, none⟩) (World.block_lt_of_cell? _ _ (hcell p x hx).1)).trans (hcell p x hx).1, (hU.cell (p := ⟨g, o + p * 2 + 1, none⟩) (World.block_lt_of_cell? _ _ (hcell p x hx).2)).trans (hcell p x hx).2⟩)
          clear hcell hx
          obtain ⟨wo, hwo⟩ : ∃ wo, wo = wr := ⟨_, rfl⟩
          subst hwo
          go_wp2
          go_loopg [10] 2 (fun gg i wy => ∃ q : Nat, q ≤ 2 ∧ 2 - q ≤ gg ∧ i = .int .i64 (q : Int) ∧ TwoI w.heap.size w wy pb qb l K)
          case atStart => exact ⟨0, by omega, by omega, rfl, HT2.out⟩
          case round =>
            obtain ⟨q, hq, hgq, rfl, ht⟩ := hrel
            obtain ⟨wy, hwy⟩ : ∃ wy, wy = wr := ⟨_, rfl⟩
            subst hwy
            have HT3 := Lib.hid ht
            clear ht
            obtain rfl | rfl | rfl : q = 2 ∨ q = 0 ∨ q = 1 := by omega
            · go_wp2
              go_roundg (k - (p + 1))
              case measure => omega
              case rel => exact ⟨p + 1, by omega, by omega, by go_num, HT3.out⟩
            · have hcx := HCell.out wy HT3.out.1
              have cq := (hcx).1
              obtain ⟨v, hv⟩ : ∃ v, v = x.1 := ⟨_, rfl⟩
              rw [← hv] at cq
              obtain ⟨m, hm⟩ : ∃ m, m = leastJ l v := ⟨_, rfl⟩
              obtain ⟨L, hL⟩ : ∃ L, L = cliqueJ l v := ⟨_, rfl⟩
              have hLl : L.length ≤ 1000000000 := by rw [hL]; exact cliqueJ_few l v (by have := HN.out; omega)
              have HB2 := Lib.hid HT3.out.1.size
              have HFp : Hid (∀ U, Below wy.heap.size wy U → Calls Try.prog 14 #[unP pb, .int .u32 (v : Int)] U fun e w' => e = .returned (.int .u32 (m : Int)) ∧ w' = U) := Lib.hid (fun U hU => by
                obtain ⟨_, S, T, h1, _⟩ := HT3.out.below HB2.out hU
                rw [hm]
                exact h1.find v)
              have HFq : Hid (∀ U, Below wy.heap.size wy U → Calls Try.prog 14 #[unP qb, .int .u32 (v : Int)] U fun e w' => e = .returned (.int .u32 (m : Int)) ∧ w' = U) := Lib.hid (fun U hU => by
                obtain ⟨_, S, T, _, h1, _⟩ := HT3.out.below HB2.out hU
                rw [hm, leastJ_same HCon.out v]
                exact h1.find v)
              have HCp : Hid (∀ U, Below wy.heap.size wy U → Calls Try.prog 13 #[unP pb, .int .u32 (v : Int)] U fun e w' => ∃ ao cap, e = .returned (.slice ao L.length cap) ∧ NumsR w' ao L ∧ Below U.heap.size U w') := Lib.hid (fun U hU => by
                obtain ⟨_, S, T, h1, _⟩ := HT3.out.below HB2.out hU
                rw [hL]
                exact h1.clique (by have := HN.out; omega) v)
              have HCq : Hid (∀ U, Below wy.heap.size wy U → Calls Try.prog 13 #[unP qb, .int .u32 (v : Int)] U fun e w' => ∃ ao cap, e = .returned (.slice ao L.length cap) ∧ NumsR w' ao L ∧ Below U.heap.size U w') := Lib.hid (fun U hU => by
                obtain ⟨_, S, T, _, h1, _⟩ := HT3.out.below HB2.out hU
                rw [hL, cliqueJ_same HCon.out v]
                exact h1.clique (by have := HRl.out; omega) v)
              have HEq : Hid (∀ (ao bo : Option Addr) (ca cb : Nat) (U : World), NumsR U ao L → NumsR U bo L → Calls Try.prog 12 #[.slice ao L.length ca, .slice bo L.length cb] U fun e w' => e = .returned (.bool true) ∧ Below U.heap.size U w') := Lib.hid (fun ao bo ca cb U h1 h2 => (equal_any h1 h2 hLl).mono (by
                rintro e w' ⟨rfl, h⟩
                exact ⟨by simp, h⟩))
              have HCx : Hid (∀ U, Below wy.heap.size wy U → U.cell? ⟨g, o + p * 2, none⟩ = some (.int .u32 (v : Int)) ∧ Below wy.heap.size wy U) := Lib.hid (fun U hU => ⟨(hU.cell (p := ⟨g, o + p * 2, none⟩) (World.block_lt_of_cell? _ _ cq)).trans cq, hU⟩)
              have hst := HCx.out wy.drew (Below.refl _ _).drew
              have HSt := Lib.hid hst
              have hmm : ((m : Int) != (m : Int)) = false := by simp
              clear hv hm hL hLl cq hcx hst
              go_wp2
              go_upto_region 16 with fail
              go_region_held3 (fun W' => W'.cell? ⟨g, o + p * 2, none⟩ = some (.int .u32 (v : Int)) ∧ Below wy.heap.size wy W') ((first | assumption | exact HSt.out | exact HCx.out _ (one_step (by assumption) (by assumption)))) (first
                | (go_at_call 14; (with_reducible refine (HFp.out _ (one_low (by assumption))).mono ?_); rintro e y1 ⟨rfl, rfl⟩)
                | (go_at_call 14; (with_reducible refine (HFq.out _ (one_low (by assumption))).mono ?_); rintro e y2 ⟨rfl, rfl⟩)
                | (go_at_call 13; (with_reducible refine (HCp.out _ (one_low (by assumption))).mono ?_); rintro e y3 ⟨aoP, capP, rfl, hNp, hY3⟩; have HNp1 := Lib.hid hNp; clear hNp; try (have HNq2 := Lib.hid (HNq1.out.below hY3)))
                | (go_at_call 13; (with_reducible refine (HCq.out _ (one_low (by assumption))).mono ?_); rintro e y4 ⟨aoQ, capQ, rfl, hNq, hY4⟩; have HNq1 := Lib.hid hNq; clear hNq; try (have HNp2 := Lib.hid (HNp1.out.below hY4)))
                | (go_at_call 12; (first | (with_reducible refine (HEq.out _ _ _ _ _ HNp2.out HNq1.out).mono ?_) | (with_reducible refine (HEq.out _ _ _ _ _ HNp1.out HNq2.out).mono ?_)); rintro e y5 ⟨rfl, hY5⟩))
              rename_i hHeld
              rename World => wq
              have hbq := one_low hHeld
              have HT4 := Lib.hid (HT3.out.below HB2.out hbq)
              clear hHeld hbq
              go_wp2
              go_roundg 1
              case measure => omega
              case rel => exact ⟨1, by omega, by omega, by go_num, HT4.out⟩
            · have hcx := HCell.out wy HT3.out.1
              have cq := (hcx).2
              obtain ⟨v, hv⟩ : ∃ v, v = x.2 := ⟨_, rfl⟩
              rw [← hv] at cq
              obtain ⟨m, hm⟩ : ∃ m, m = leastJ l v := ⟨_, rfl⟩
              obtain ⟨L, hL⟩ : ∃ L, L = cliqueJ l v := ⟨_, rfl⟩
              have hLl : L.length ≤ 1000000000 := by rw [hL]; exact cliqueJ_few l v (by have := HN.out; omega)
              have HB2 := Lib.hid HT3.out.1.size
              have HFp : Hid (∀ U, Below wy.heap.size wy U → Calls Try.prog 14 #[unP pb, .int .u32 (v : Int)] U fun e w' => e = .returned (.int .u32 (m : Int)) ∧ w' = U) := Lib.hid (fun U hU => by
                obtain ⟨_, S, T, h1, _⟩ := HT3.out.below HB2.out hU
                rw [hm]
                exact h1.find v)
              have HFq : Hid (∀ U, Below wy.heap.size wy U → Calls Try.prog 14 #[unP qb, .int .u32 (v : Int)] U fun e w' => e = .returned (.int .u32 (m : Int)) ∧ w' = U) := Lib.hid (fun U hU => by
                obtain ⟨_, S, T, _, h1, _⟩ := HT3.out.below HB2.out hU
                rw [hm, leastJ_same HCon.out v]
                exact h1.find v)
              have HCp : Hid (∀ U, Below wy.heap.size wy U → Calls Try.prog 13 #[unP pb, .int .u32 (v : Int)] U fun e w' => ∃ ao cap, e = .returned (.slice ao L.length cap) ∧ NumsR w' ao L ∧ Below U.heap.size U w') := Lib.hid (fun U hU => by
                obtain ⟨_, S, T, h1, _⟩ := HT3.out.below HB2.out hU
                rw [hL]
                exact h1.clique (by have := HN.out; omega) v)
              have HCq : Hid (∀ U, Below wy.heap.size wy U → Calls Try.prog 13 #[unP qb, .int .u32 (v : Int)] U fun e w' => ∃ ao cap, e = .returned (.slice ao L.length cap) ∧ NumsR w' ao L ∧ Below U.heap.size U w') := Lib.hid (fun U hU => by
                obtain ⟨_, S, T, _, h1, _⟩ := HT3.out.below HB2.out hU
                rw [hL, cliqueJ_same HCon.out v]
                exact h1.clique (by have := HRl.out; omega) v)
              have HEq : Hid (∀ (ao bo : Option Addr) (ca cb : Nat) (U : World), NumsR U ao L → NumsR U bo L → Calls Try.prog 12 #[.slice ao L.length ca, .slice bo L.length cb] U fun e w' => e = .returned (.bool true) ∧ Below U.heap.size U w') := Lib.hid (fun ao bo ca cb U h1 h2 => (equal_any h1 h2 hLl).mono (by
                rintro e w' ⟨rfl, h⟩
                exact ⟨by simp, h⟩))
              have HCx : Hid (∀ U, Below wy.heap.size wy U → U.cell? ⟨g, o + p * 2 + 1, none⟩ = some (.int .u32 (v : Int)) ∧ Below wy.heap.size wy U) := Lib.hid (fun U hU => ⟨(hU.cell (p := ⟨g, o + p * 2 + 1, none⟩) (World.block_lt_of_cell? _ _ cq)).trans cq, hU⟩)
              have hst := HCx.out wy.drew (Below.refl _ _).drew
              have HSt := Lib.hid hst
              have hmm : ((m : Int) != (m : Int)) = false := by simp
              clear hv hm hL hLl cq hcx hst
              go_wp2
              go_upto_region 16 with fail
              go_region_held3 (fun W' => W'.cell? ⟨g, o + p * 2 + 1, none⟩ = some (.int .u32 (v : Int)) ∧ Below wy.heap.size wy W') ((first | assumption | exact HSt.out | exact HCx.out _ (one_step (by assumption) (by assumption)))) (first
                | (go_at_call 14; (with_reducible refine (HFp.out _ (one_low (by assumption))).mono ?_); rintro e y1 ⟨rfl, rfl⟩)
                | (go_at_call 14; (with_reducible refine (HFq.out _ (one_low (by assumption))).mono ?_); rintro e y2 ⟨rfl, rfl⟩)
                | (go_at_call 13; (with_reducible refine (HCp.out _ (one_low (by assumption))).mono ?_); rintro e y3 ⟨aoP, capP, rfl, hNp, hY3⟩; have HNp1 := Lib.hid hNp; clear hNp; try (have HNq2 := Lib.hid (HNq1.out.below hY3)))
                | (go_at_call 13; (with_reducible refine (HCq.out _ (one_low (by assumption))).mono ?_); rintro e y4 ⟨aoQ, capQ, rfl, hNq, hY4⟩; have HNq1 := Lib.hid hNq; clear hNq; try (have HNp2 := Lib.hid (HNp1.out.below hY4)))
                | (go_at_call 12; (first | (with_reducible refine (HEq.out _ _ _ _ _ HNp2.out HNq1.out).mono ?_) | (with_reducible refine (HEq.out _ _ _ _ _ HNp1.out HNq2.out).mono ?_)); rintro e y5 ⟨rfl, hY5⟩))
              rename_i hHeld
              rename World => wq
              have hbq := one_low hHeld
              have HT4 := Lib.hid (HT3.out.below HB2.out hbq)
              clear hHeld hbq
              go_wp2
              go_roundg 0
              case measure => omega
              case rel => exact ⟨2, by omega, by omega, by go_num, HT4.out⟩
    · have hkl : k < l.length := by have := HN.out; omega
      obtain ⟨g, o, rfl, hcell⟩ := HP.out (by omega)
      have e4 : decide ((k : Int) < (n : Int)) = true := decide_eq_true (by omega)
      obtain ⟨x, hx⟩ : ∃ x, l[k]? = some x := ⟨_, List.getElem?_eq_getElem hkl⟩
      have HCell : Hid (∀ U, Below w.heap.size w U → ∀ j x, l[j]? = some x → U.cell? ⟨g, o + j * 2, none⟩ = some (.int .u32 (x.1 : Int)) ∧ U.cell? ⟨g, o + j * 2 + 1, none⟩ = some (.int .u32 (x.2 : Int))) := Lib.hid (fun U hU j x hj => ⟨(hU.cell (p := ⟨g, o + j * 2, none⟩) (World.block_lt_of_cell? _ _ (hcell j x hj).1)).trans (hcell j x hj).1, (hU.cell (p := ⟨g, o + j * 2 + 1, none⟩) (World.block_lt_of_cell? _ _ (hcell j x hj).2)).trans (hcell j x hj).2⟩)
      have hTd : TwoI w.heap.size w wr.drew pb qb (l.take k) (rotL l c k) := HT.out.below HT.out.1.size (Below.refl _ _).drew
      have c1 := (HCell.out _ hTd.1 k x hx).1
      have c2 := (HCell.out _ hTd.1 k x hx).2
      have htk : l.take (k + 1) = l.take k ++ [(x.1, x.2)] := by rw [List.take_add_one, hx]; rfl
      have HJn : Hid (Calls Try.prog 8 #[unP pb, .int .u32 (x.1 : Int), .int .u32 (x.2 : Int)] wr.drew fun e w' => (∃ v, e = .returned v) ∧ TwoI w.heap.size w w' pb qb (l.take (k + 1)) (rotL l c k)) := Lib.hid ((hTd.join hTd.1.size (by rw [List.length_take]; omega) x.1 x.2).mono (by
        rintro e w' ⟨rfl, h2⟩
        exact ⟨⟨_, rfl⟩, by rw [htk]; exact h2⟩))
      clear hTd hcell htk
      go_upto_region 7 with fail
      go_region_with (go_at_call 8; refine HJn.out.mono ?_; rintro e w3 ⟨⟨v, rfl⟩, h5⟩; replace h5 := Lib.hid h5)
      all_goals (
        obtain ⟨kk, hkk⟩ : ∃ kk, kk = (k + c) % n := ⟨_, rfl⟩
        have hkn2 : kk < n := by rw [hkk]; exact Nat.mod_lt _ (by omega)
        have hkl2 : kk < l.length := by have := HN.out; omega
        have hmod : ((k : Int) + r + (n : Int) + 1).tmod (n : Int) = (kk : Int) := by
          have e1 : (k : Int) + r + (n : Int) + 1 = ((k + c : Nat) : Int) := by omega
          rw [e1, hkk]
          rfl
        have hz1 : (n : Int) + 1 ≠ 0 := by omega
        have hz2 : (n : Int) ≠ 0 := by omega
        obtain ⟨y, hy⟩ : ∃ y, l[kk]? = some y := ⟨_, List.getElem?_eq_getElem hkl2⟩
        have hTd : TwoI w.heap.size w w3.drew pb qb (l.take (k + 1)) (rotL l c k) := h5.out.below h5.out.1.size (Below.refl _ _).drew
        have d1 := (HCell.out _ hTd.1 kk y hy).1
        have d2 := (HCell.out _ hTd.1 kk y hy).2
        have hro : rotL l c (k + 1) = rotL l c k ++ [(y.2, y.1)] := by
          rw [rotL_succ, ← HN.out, ← hkk, List.getD_eq_getElem?_getD, hy]
          rfl
        have HJq : Hid (Calls Try.prog 8 #[unP qb, .int .u32 (y.2 : Int), .int .u32 (y.1 : Int)] w3.drew fun e w' => (∃ v, e = .returned v) ∧ TwoI w.heap.size w w' pb qb (l.take (k + 1)) (rotL l c (k + 1))) := Lib.hid ((hTd.swap.join hTd.1.size (by rw [rotL_len]; omega) y.2 y.1).mono (by
          rintro e w' ⟨rfl, h2⟩
          exact ⟨⟨_, rfl⟩, by rw [hro]; exact h2.swap⟩))
        clear hTd hro hkk hx hy c1 c2
        go_upto_region 9 with fail
        go_region_with (go_at_call 8; refine HJq.out.mono ?_; rintro e w4 ⟨⟨v2, rfl⟩, h6⟩; replace h6 := Lib.hid h6)
        all_goals (
          go_wp2
          go_roundg (n - (k + 1))
          case measure => omega
          case rel => exact ⟨k + 1, by omega, by omega, by go_num, h6.out⟩))
end Go.Proofs.Ytloonndeojfepaa
