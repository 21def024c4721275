/-
  CONTRACT OF slices.Compact AT TRIPLES, over a row that the call itself made.
-/
import Derived.Test.YtjpppfcbhkbbpaaDoorSortOwn
namespace Go.Proofs.YtjpppfcbhkbbpaaDoor
open Go.RowKit
open Utf Term
set_option linter.unusedVariables false
set_option linter.unusedSimpArgs false

theorem zero_triple (w : World) : (zeroValue 26).run Tryd.prog w = .ok (tripleV (0, ⟨#[]⟩, ⟨#[]⟩) (0, ⟨#[]⟩, ⟨#[]⟩) (0, ⟨#[]⟩, ⟨#[]⟩)) w := by kernel_rfl
theorem run_clear_triples (w : World) (b o n c : Nat) (hn : 0 < n) (hc : ∀ j, j < n * 9 → (w.cell? ⟨b, o + j, none⟩).isSome = true) (hf : ∀ j, j < n * 9 → w.frozen? ⟨b, o + j, none⟩ = false) :
    ∃ zs : List Value, zs.length = n * 9 ∧ ∀ ty, (Builtin.clear_ #[27] ty #[.slice (some ⟨b, o, none⟩) n c]).run Tryd.prog w = .ok (.tuple #[]) (w.setCells b o zs) := by
  have hl : (Builtin.zeroCells (tripleV (0, ⟨#[]⟩, ⟨#[]⟩) (0, ⟨#[]⟩, ⟨#[]⟩) (0, ⟨#[]⟩, ⟨#[]⟩)).cells n).toList.length = n * 9 := by
    simp [Builtin.zeroCells, Value.cells]
  have h1 : ∀ u ∈ (Builtin.zeroCells (tripleV (0, ⟨#[]⟩, ⟨#[]⟩) (0, ⟨#[]⟩, ⟨#[]⟩) (0, ⟨#[]⟩, ⟨#[]⟩)).cells n).toList, u.oneCell' = true := by
    intro u hu
    simp only [Builtin.zeroCells, Value.cells] at hu
    simp at hu
    obtain ⟨i, hi, rfl⟩ := hu
    have : i % 9 < 9 := Nat.mod_lt _ (by omega)
    generalize i % 9 = r at this
    match r, this with
    | 0, _ | 1, _ | 2, _ | 3, _ | 4, _ | 5, _ | 6, _ | 7, _ | 8, _ => rfl
  refine ⟨_, hl, fun ty => ?_⟩
  have hst := run_storeCells_cells (P := Tryd.prog) b o _ 0 w (by rw [hl]; simpa using hc) (by rw [hl]; simpa using hf) h1
  simp only [Nat.add_zero] at hst
  obtain ⟨m, rfl⟩ : ∃ m, n = m + 1 := ⟨n - 1, by omega⟩
  simp [Builtin.clear_, run_underlying Tryd.underlying27, zero_triple, hst]

open Go.Lib in
theorem compF_snoc (x : TripD) : ∀ (a : TripD) (l : List TripD), compF a (l ++ [x]) = compF a l ++ if (a :: l).getLast (by simp) = x then [] else [x]
  | a, [] => by
    simp only [List.nil_append, compF, List.getLast_singleton]
    by_cases h : a = x <;> simp [h]
  | a, b :: l => by
    rw [List.cons_append, compF, compF, List.getLast_cons (by simp)]
    by_cases e : a = b
    · rw [if_pos e, if_pos e]
      subst e
      exact compF_snoc x a l
    · rw [if_neg e, if_neg e, compF_snoc x b l, List.cons_append]
theorem compactL_snoc (x : TripD) (l : List TripD) (h : l ≠ []) : compactL (l ++ [x]) = compactL l ++ if l.getLast h = x then [] else [x] := by
  cases l with
  | nil => exact absurd rfl h
  | cons a l => rw [List.cons_append, compactL, compactL, compF_snoc, List.cons_append]
open Go.Lib in
theorem compactUpTo_take (ds : List TripD) : ∀ m, m ≤ ds.length → compactUpTo ds.toArray m = compactL (ds.take m)
  | 0, _ => rfl
  | m + 1, h => by
    rw [compactUpTo_succ, compactUpTo_take ds m (by omega)]
    have hm : ds.toArray[m]! = ds[m] := by rw [getElem!_pos ds.toArray m (by simp; omega)]; rfl
    rw [List.take_succ_eq_append_getElem (by omega)]
    cases m with
    | zero =>
      rw [if_pos (keeps_lt_one _ 0 (by omega)), hm]
      rfl
    | succ m =>
      have hne : ds.take (m + 1) ≠ [] := by
        intro e
        have := congrArg List.length e
        rw [List.length_take, List.length_nil] at this
        omega
      have hm' : ds.toArray[m + 1 - 1]! = ds[m] := by rw [getElem!_pos ds.toArray (m + 1 - 1) (by simp; omega)]; rfl
      have hlast : (ds.take (m + 1)).getLast hne = ds[m] := by
        have h1 : (ds.take (m + 1)).getLast? = some ds[m] := by
          rw [List.getLast?_eq_getElem?, List.length_take, show min (m + 1) ds.length - 1 = m by omega, List.getElem?_take_of_lt (by omega), List.getElem?_eq_getElem (by omega)]
        rw [List.getLast?_eq_some_getLast hne] at h1
        exact Option.some.inj h1
      rw [compactL_snoc _ _ hne, hlast]
      congr 1
      by_cases e : ds[m] = ds[m + 1]
      · rw [if_pos e, keeps_neg (by omega) (by rw [hm, hm', e])]
        rfl
      · rw [if_neg e, keeps_pos (by rw [hm, hm']; exact fun h => e h.symm), if_pos rfl, hm]

open Go.Lib in
set_option maxRecDepth 100000 in
set_option maxHeartbeats 4000000 in
theorem compact_any (base g cap : Nat) (ds : List TripD) (w : World) (ho : w.ownsRow base 26 9 (.slice (some ⟨g, 0, none⟩) ds.length cap) ds.length (cellsT ds)) :
    Calls Tryd.prog 36 #[.slice (some ⟨g, 0, none⟩) ds.length cap] w fun e w' => e = .returned (.slice (some ⟨g, 0, none⟩) (compactL ds).length cap) ∧
      w'.ownsRow base 26 9 (.slice (some ⟨g, 0, none⟩) (compactL ds).length cap) (compactL ds).length (cellsT (compactL ds)) ∧ Below base w w' := by
  obtain ⟨hc1, hc2, hc3, hc4⟩ := owns_caps ho
  have hmx : ds.length ≤ 9223372036854775807 := by simp only [maxLen] at hc2; omega
  have SAME : Hid ((∀ j, j < ds.length → keeps ds.toArray j = true) → compactL ds = ds) := Lib.hid (fun hall => by
    have e := compactUpTo_take ds ds.length (Nat.le_refl _)
    rw [List.take_length, compactUpTo_all _ _ hall] at e
    rw [← e]
    have := range_map_get ds.toArray
    rwa [List.size_toArray] at this)
  have HO := Lib.hid ho
  have HG := Lib.hid hc3
  clear ho hc2 hc3 hc4
  obtain ⟨n, hn⟩ : ∃ n, n = ds.length := ⟨_, rfl⟩
  have HN := Lib.hid hn
  rw [← hn] at hmx SAME HO hc1 ⊢
  clear hn
  by_cases h2 : n < 2
  · have h2' : decide ((n : Int) < 2) = true := by simp; omega
    go_enter Tryd.func36, Tryd.ntmps36
    go_wp2
    go_ret
    have e := SAME.out (fun j hj => keeps_lt_one _ j (by omega))
    rw [e, ← HN.out]
    exact ⟨rfl, HO.out, ⟨rfl, rfl, rfl, Nat.le_refl _, fun _ _ => rfl⟩⟩
  · have h2' : decide ((n : Int) < 2) = false := by simp; omega
    go_enter Tryd.func36, Tryd.ntmps36
    go_wp2
    clear h2'
    go_loopg [3] n (fun gk s3 wr => ∃ k q : Nat, 1 ≤ k ∧ k ≤ n ∧ n - k ≤ gk ∧ s3 = .int .i64 k ∧ wr = w.drewN q ∧ ∀ j, j < k → keeps ds.toArray j = true)
    case atStart => exact ⟨1, 0, Nat.le_refl _, by omega, by omega, rfl, rfl, keeps_lt_one _⟩
    case round =>
      obtain ⟨k, q, hk1, hk, hg, rfl, rfl, hall⟩ := hrel
      have A := Lib.hid hall
      clear hall
      by_cases hlt : k < n
      · obtain ⟨x, hx⟩ : ∃ x, ds[k]? = some x := ⟨_, List.getElem?_eq_getElem (by have := HN.out; omega)⟩
        obtain ⟨y, hy⟩ : ∃ y, ds[k - 1]? = some y := ⟨_, List.getElem?_eq_getElem (by have := HN.out; omega)⟩
        have hnx := (owns_row HO.out).nine hx
        have hny := (owns_row HO.out).nine hy
        rw [Nat.zero_add] at hnx hny
        obtain ⟨a0, a1, a2, a3, a4, a5, a6, a7, a8⟩ := hnx
        obtain ⟨b0, b1, b2, b3, b4, b5, b6, b7, b8⟩ := hny
        have ee := trip_eql x y
        have HX := Lib.hid (show ds.toArray[k]! = x ∧ ds.toArray[k - 1]! = y from ⟨by rw [getElem!_pos ds.toArray k (by have := HN.out; simp; omega)]; exact Option.some.inj ((List.getElem?_eq_getElem _).symm.trans hx), by rw [getElem!_pos ds.toArray (k - 1) (by have := HN.out; simp; omega)]; exact Option.some.inj ((List.getElem?_eq_getElem _).symm.trans hy)⟩)
        clear hx hy
        by_cases hdup : x = y
        · rw [decide_eq_true hdup] at ee
          have HD := Lib.hid hdup
          clear hdup
          go_wp2_with fail
          go_quiet (fail)
          clear a0 a1 a2 a3 a4 a5 a6 a7 a8 b0 b1 b2 b3 b4 b5 b6 b7 b8 ee
          go_wp2_with fail
          have START : Hid (CompInv ds.toArray (k + 1) k ds.toArray) := Lib.hid (CompInv.start A.out (keeps_neg (by omega) (by rw [HX.out.1, HX.out.2]; exact HD.out)))
          have BD : ∀ q, Below w.heap.size w (w.drewN q) := fun q => ⟨rfl, rfl, rfl, Nat.le_refl _, fun _ _ => rfl⟩
          have BB : ∀ q, Below base w (w.drewN q) := fun q => ⟨rfl, rfl, rfl, Nat.le_refl _, fun _ _ => rfl⟩
          have BD' := Lib.hid BD
          have BB' := Lib.hid BB
          clear BD BB
          go_loopg [3, 5] n (fun g2 s3 s5 wr => ∃ (kk k2 : Nat) (dk : List TripD), s3 = .int .i64 kk ∧ s5 = .int .i64 k2 ∧ 1 ≤ k2 ∧ k + k2 ≤ n ∧ n - (k + k2) ≤ g2 ∧ wr.ownsRow base 26 9 (.slice (some ⟨g, 0, none⟩) n cap) n (cellsT dk) ∧ Below base w wr ∧ CompInv ds.toArray (k + k2) kk dk.toArray)
          case atStart => exact ⟨k, 1, ds, rfl, rfl, Nat.le_refl _, by omega, by omega, own_slice_below HO.out (BD'.out _), BB'.out _, START.out⟩
          case round =>
            obtain ⟨kk, k2, dk, rfl, rfl, h1, hle, hg2, ho2, hB2, hI⟩ := hrel
            have hkk := hI.lt
            have hds : dk.length = n := by have := hI.size; rw [List.size_toArray, List.size_toArray] at this; rw [this]; exact HN.out.symm
            have O2 := Lib.hid ho2
            have B2 := Lib.hid hB2
            have I2 := Lib.hid hI
            clear ho2 hB2
            by_cases hlt2 : k + k2 < n
            · obtain ⟨u, hu⟩ : ∃ u, dk[k + k2]? = some u := ⟨_, List.getElem?_eq_getElem (by omega)⟩
              obtain ⟨v, hv⟩ : ∃ v, dk[k + k2 - 1]? = some v := ⟨_, List.getElem?_eq_getElem (by omega)⟩
              obtain ⟨z, hz⟩ : ∃ z, dk[kk]? = some z := ⟨_, List.getElem?_eq_getElem (by omega)⟩
              have hnu := (owns_row O2.out).nine hu
              have hnv := (owns_row O2.out).nine hv
              have hnz := (owns_row O2.out).nine hz
              have hfz : ∀ j, wr.frozen? ⟨g, j, none⟩ = false := fun j => O2.out.frozenAt j
              rw [Nat.zero_add, show (k + k2) * 9 = k * 9 + k2 * 9 by omega] at hnu
              rw [Nat.zero_add, show (k + k2 - 1) * 9 = k * 9 + (k2 - 1) * 9 by omega] at hnv
              rw [Nat.zero_add] at hnz
              have HU := Lib.hid (show ds.toArray[k + k2]! = u ∧ ds.toArray[k + k2 - 1]! = v from ⟨by rw [← hI.high (k + k2) (by omega), getElem!_pos dk.toArray (k + k2) (by simp; omega)]; exact Option.some.inj ((List.getElem?_eq_getElem _).symm.trans hu), by rw [← hI.high (k + k2 - 1) (by omega), getElem!_pos dk.toArray (k + k2 - 1) (by simp; omega)]; exact Option.some.inj ((List.getElem?_eq_getElem _).symm.trans hv)⟩)
              clear hI hu hv hz
              obtain ⟨a0, a1, a2, a3, a4, a5, a6, a7, a8⟩ := hnu
              obtain ⟨b0, b1, b2, b3, b4, b5, b6, b7, b8⟩ := hnv
              have nn := trip_neq u v
              by_cases huv : u = v
              · rw [decide_eq_true huv] at nn
                have HUV := Lib.hid huv
                clear huv hnz
                go_wp2_with fail
                go_quiet (fail)
                go_wp2_with fail
                go_roundg (n - (k + (k2 + 1)))
                case measure => omega
                case rel =>
                  exact ⟨kk, k2 + 1, dk, rfl, by go_num, by omega, by omega, Nat.le_refl _, own_slice_below O2.out ⟨rfl, rfl, rfl, Nat.le_refl _, fun _ _ => rfl⟩, B2.out.trans ⟨rfl, rfl, rfl, Nat.le_refl _, fun _ _ => rfl⟩, I2.out.skip (keeps_neg (by omega) (by rw [HU.out.1, HU.out.2]; exact HUV.out))⟩
              · rw [decide_eq_false huv] at nn
                have HUV := Lib.hid huv
                clear huv
                go_wp2_with fail
                go_quiet (fail)
                obtain ⟨c0, c1, c2, c3, c4, c5, c6, c7, c8⟩ := hnz
                clear b0 b1 b2 b3 b4 b5 b6 b7 b8
                go_wp2_with fail
                go_roundg (n - (k + (k2 + 1)))
                case measure => omega
                case rel =>
                  have hW : ∀ q, ((wr.drewN q).setCells g (kk * 9) (encT u)).ownsRow base 26 9 (.slice (some ⟨g, 0, none⟩) n cap) n (cellsT (dk.set kk u)) := fun q => by
                    rw [← cellsT_set (by omega)]
                    exact owns_setCells (encT u) (kk * 9) _ _ (own_slice_below O2.out ⟨rfl, rfl, rfl, Nat.le_refl _, fun _ _ => rfl⟩)
                  have hBw : ∀ q, Below base w ((wr.drewN q).setCells g (kk * 9) (encT u)) := fun q => Go.below_setCells HG.out _ _ _ (B2.out.trans ⟨rfl, rfl, rfl, Nat.le_refl _, fun _ _ => rfl⟩)
                  have hk := I2.out.keep (by rw [List.size_toArray, ← HN.out]; exact hlt2) (keeps_pos (by rw [HU.out.1, HU.out.2]; exact HUV.out))
                  rw [HU.out.1, List.setIfInBounds_toArray] at hk
                  exact ⟨kk + 1, k2 + 1, dk.set kk u, by go_num, by go_num, by omega, by omega, Nat.le_refl _, hW _, hBw _, hk⟩
            · have hend : k + k2 = n := by omega
              have hk2 : k2 = n - k := by omega
              have d1 : decide ((k2 : Int) < ((n - k : Nat) : Int)) = false := by simp; omega
              have hkn : kk < n := by omega
              have hkc : kk ≤ cap := by omega
              have hcs : ∀ j, j < n * 9 → (wr.cell? ⟨g, j, none⟩).isSome = true := fun j hj => by
                rw [O2.out.cellAt j hj, List.getElem?_eq_getElem (by rw [cellsT_length]; omega)]
                rfl
              obtain ⟨zs, hzl, hcl⟩ := run_clear_triples wr g (kk * 9) (n - kk) (cap - kk) (by omega) (fun j hj => hcs _ (by omega)) (fun j hj => O2.out.frozenAt _)
              have HZ := Lib.hid hzl
              have i0 : (0 : Int) ≤ (kk : Int) := by omega
              have i1 : (kk : Int) ≤ (n : Int) := by omega
              have i2 : (kk : Int) ≤ (cap : Int) := by omega
              have HK : Hid (dk.take kk = compactL ds ∧ (compactL ds).length = kk) := Lib.hid (by
                have hlen := hI.len
                have hlow := hI.low
                rw [hend, HN.out, compactUpTo_take ds _ (Nat.le_refl _), List.take_length] at hlen hlow
                refine ⟨List.ext_getElem? fun j => ?_, hlen⟩
                by_cases hj : j < kk
                · rw [hlow j hj, List.getElem?_take_of_lt hj, getElem!_pos dk.toArray j (by simp; omega), List.getElem?_eq_getElem (by omega)]
                  rfl
                · rw [List.getElem?_eq_none (by rw [List.length_take]; omega), List.getElem?_eq_none (by omega)])
              clear hI hcs hzl
              go_wp2_with fail
              go_ret
              have hO3 := owns_setCells zs (kk * 9) wr _ O2.out
              have hO4 := owns_cut hO3 (m := kk) (by omega)
              have hT : (setL (cellsT dk) (kk * 9) zs).take (kk * 9) = cellsT (compactL ds) := by
                rw [← HK.out.1, ← cellsT_take]
                apply List.ext_getElem?
                intro j
                by_cases hj : j < kk * 9
                · rw [List.getElem?_take_of_lt hj, List.getElem?_take_of_lt hj, setL_get _ _ _ _ (by rw [cellsT_length, HZ.out]; omega), if_neg (by omega)]
                · rw [List.getElem?_take_eq_none (by omega), List.getElem?_take_eq_none (by omega)]
              rw [hT] at hO4
              rw [HK.out.2]
              exact ⟨rfl, hO4, Go.below_setCells HG.out _ _ _ B2.out⟩
        · rw [decide_eq_false hdup] at ee
          have HD := Lib.hid hdup
          clear hdup
          go_wp2_with fail
          go_quiet (fail)
          go_wp2_with fail
          go_roundg (n - (k + 1))
          case measure => omega
          case rel =>
            refine ⟨k + 1, _, by omega, by omega, Nat.le_refl _, by go_num, rfl, fun j hj => ?_⟩
            by_cases e : j = k
            · subst e
              exact keeps_pos (by rw [HX.out.1, HX.out.2]; exact HD.out)
            · exact A.out j (by omega)
      · have hkn : k = n := by omega
        subst hkn
        have d1 : decide ((k : Int) < (k : Int)) = false := by simp
        go_wp2_with fail
        go_ret
        have e := SAME.out A.out
        rw [e, ← HN.out]
        exact ⟨rfl, own_slice_below HO.out ⟨rfl, rfl, rfl, Nat.le_refl _, fun _ _ => rfl⟩, ⟨rfl, rfl, rfl, Nat.le_refl _, fun _ _ => rfl⟩⟩
end Go.Proofs.YtjpppfcbhkbbpaaDoor
